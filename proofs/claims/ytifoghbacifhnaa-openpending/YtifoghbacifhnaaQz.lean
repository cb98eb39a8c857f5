/-
  OpenPending: what the statement's function returns.
-/
import Derived.Test.YtifoghbacifhnaaQy
namespace Go.Proofs.Ytifoghbacifhnaa
open Go.RowKit

theorem pX_app (n a k : Nat) (p : Int) (xs X : List Int) (hx : Wi.rcX 20 a n (Wi.fr n a 50) = xs) (hX : Wr.blk (Wi.pr n a k) = X) (hp : p = ((a + k : Nat) : Int)) : Wd.app xs [⟨1, p, X⟩] = Wi.pX n a k := by
  subst hx hX hp
  rfl
theorem step_at (q : Nat) (p : Int) (X : List Int) (hp : p = (q : Int)) (hq : q < 20) (hX : X.length = 64) : Wd.stepsE 1280 [⟨1, p, X⟩] = 0 := by
  subst hp
  exact one_step (by decide) (by omega) hX

set_option maxRecDepth 100000 in
set_option maxHeartbeats 6400000 in
theorem openPending_a (p z v : Int) (A n k : Nat) (w : World) (eA : wrap64 (2 + wrap64 ((IntKind.u64.wrap p).tmod 5)) = (A : Int)) (eN : wrap64 (1 + wrap64 ((IntKind.u64.wrap z).tmod 8)) = (n : Int)) (eV : wrap64 ((IntKind.u64.wrap v).tmod (n : Int)) = (k : Int)) (hA : 2 ≤ A ∧ A < 7) (hn : 1 ≤ n ∧ n < 9) (hk : k < n) (h0 : 0 < k) (hl : k + 1 < n) :
    Calls Try.prog 8 #[.int .i64 p, .int .i64 z, .int .i64 v] w fun e w' => e = .returned (.bool true) ∧ Below w.heap.size w w' := by
  have EA := Wc.hid eA
  have EN := Wc.hid eN
  have EV := Wc.hid eV
  have hnu : IntKind.u64.wrap (n : Int) = (n : Int) := by rw [IntKind.wrap_u64]; omega
  have hr : Wi.pr n A k = ⟨(A : Int) + k + 1, 50 + k, 0, 0, 0, 1, 3, 9⟩ := by unfold Wi.pr; rw [if_pos hl]; rfl
  have hrec := Wi.pr_ok (n := n) (a := A) (k := k) (by omega) (by omega) (by omega)
  rw [hr] at hrec
  have HR := Wc.hid hr
  have HREC := Wc.hid hrec
  clear eA eN eV hr hrec
  go_enter Try.func8, Try.ntmps8
  go_upto_region 2 with fail
  rw [EA.out, EN.out]
  go_wp2_with fail
  rw [EV.out]
  clear EA EN EV
  refine (lrecs_bs 20 A n 1280 20 50 _ rfl (by omega) (by omega) (by omega) (by omega) (by omega) (by decide) (by decide) rfl).mono ?_
  rintro e w1 ⟨g, rfl, hO1, hb1⟩
  obtain ⟨xs, hx⟩ : ∃ xs, Wi.rcX 20 A n (Wi.fr n A 50) = xs := ⟨_, rfl⟩
  rw [hx] at hO1
  have HX := Wc.hid hx
  have bR := (Below.refl w1.heap.size w1).alloc (Nat.le_refl _) (.cells #[.int .i64 ((A : Int) + k + 1), .int .i64 (50 + k), .int .i64 0, .int .i64 0, .int .i64 0, .int .i64 1, .int .i64 3, .int .i64 9] 41)
  have R1 := Wc.hid (Rh.new w1 ⟨(A : Int) + k + 1, 50 + k, 0, 0, 0, 1, 3, 9⟩)
  have ⟨c0, c1, c2, c3, c4, c5, c6, c7⟩ := R1.out.rc
  simp only at c0 c1 c2 c3 c4 c5 c6 c7
  have O1 := Wc.hid (hO1.keep bR)
  have B1 := Wc.hid (Wc.step hb1 (Nat.le_refl _) bR)
  clear hO1 hb1 hx bR
  go_wp2_with fail
  refine (bytes8_ok ⟨(A : Int) + k + 1, 50 + k, 0, 0, 0, 1, 3, 9⟩ _ HREC.out).mono ?_
  rintro e w2 ⟨g2, rfl, hg2, hr2, hb2⟩
  obtain ⟨X, hXe⟩ : ∃ X, Wr.blk ⟨(A : Int) + k + 1, 50 + k, 0, 0, 0, 1, 3, 9⟩ = X := ⟨_, rfl⟩
  have hXl : X.length = 64 := by rw [← hXe]; exact Wr.blk_length _
  have hX := hr2.bs (Wr.blk_length _) (Wr.blk_bd _)
  rw [hXe] at hX
  have HXV := Wc.hid hX
  have HXL := Wc.hid hXl
  have HXE := Wc.hid hXe
  have O2 := Wc.hid (O1.out.keep hb2)
  have B2 := Wc.hid (Wc.step B1.out (Nat.le_refl _) hb2)
  have R2 := Wc.hid (R1.out.keep hb2)
  clear hr2 hb2 O1 B1 R1 hg2 hXl hX hXe c0 c1 c2 c3 c4 c5 c6 c7
  go_wp2_with fail
  refine (apply_ob _ _ _ _ _ _ xs [⟨1, (A : Int) + k, X⟩] _ (O2.out.bs.alloc _) (one_is w2 _ 64 64 _ _ HXV.out (.inr ⟨_, _, _, rfl⟩) _ rfl) (step_at (A + k) _ _ (by omega) (by omega) HXL.out)).mono ?_
  rintro e w3 ⟨g3, rfl, hg3, hO3, hb3⟩
  rw [pX_app n A k _ xs X HX.out (by rw [HR.out]; exact HXE.out) (by omega)] at hO3
  obtain ⟨ys, hy⟩ : ∃ ys, Wi.pX n A k = ys := ⟨_, rfl⟩
  rw [hy] at hO3
  have HY := Wc.hid hy
  have O3 := Wc.hid hO3
  have b3 := Wc.step ((Below.refl w2.heap.size w2).alloc (Nat.le_refl _) (.cells #[.int .i64 1, .int .i64 ((A : Int) + k), .slice (some ⟨g2, 0, none⟩) 64 64] 64)) (Nat.le_refl _) hb3
  have B3 := Wc.hid (Wc.step B2.out (Nat.le_refl _) b3)
  have R3 := Wc.hid (R2.out.keep b3)
  clear hO3 hb3 hg3 O2 B2 HXV HXL HXE hy b3 R2
  go_wp2_with fail
  refine (oopen_any _ ys _ O3.out.bs).mono ?_
  rintro e w4 ⟨a4, n4, c4', rfl, hR4, hb4⟩
  have h7 : opnE ys = 7 := by rw [← HY.out]; exact pend_no (by omega) (by omega) (by omega) (by omega)
  rw [h7]
  obtain ⟨s4, hs4⟩ : ∃ s4, opnS ys = s4 := ⟨_, rfl⟩
  obtain ⟨t4, ht4⟩ : ∃ t4, opnT ys = t4 := ⟨_, rfl⟩
  rw [hs4, ht4]
  have bA := (Below.refl w4.heap.size w4).alloc (Nat.le_refl _) (.cells #[.int .i64 s4.gen, .int .i64 s4.blocks, .int .i64 s4.root, .int .i64 s4.size, .int .i64 s4.first, .int .i64 t4, .slice a4 n4 c4'] 27)
  have B4 := Wc.hid (Wc.step (Wc.step B3.out (Nat.le_refl _) hb4) (Nat.le_refl _) bA)
  unfold stv
  clear hb4 bA h7 hs4 ht4 hR4 R3
  go_wp2_with fail
  refine (wakes_any _).mono ?_
  rintro e w8 ⟨rfl, hb8⟩
  have B8 := Wc.hid (Wc.step B4.out (Nat.le_refl _) hb8)
  clear hb8
  go_wp2_with fail
  go_ret
  exact ⟨rfl, B8.out⟩

set_option maxRecDepth 100000 in
set_option maxHeartbeats 6400000 in
theorem openPending_b (p z v : Int) (A n k : Nat) (w : World) (eA : wrap64 (2 + wrap64 ((IntKind.u64.wrap p).tmod 5)) = (A : Int)) (eN : wrap64 (1 + wrap64 ((IntKind.u64.wrap z).tmod 8)) = (n : Int)) (eV : wrap64 ((IntKind.u64.wrap v).tmod (n : Int)) = (k : Int)) (hA : 2 ≤ A ∧ A < 7) (hn : 1 ≤ n ∧ n < 9) (hk : k < n) (h0 : 0 < k) (hl : ¬ k + 1 < n) :
    Calls Try.prog 8 #[.int .i64 p, .int .i64 z, .int .i64 v] w fun e w' => e = .returned (.bool true) ∧ Below w.heap.size w w' := by
  have EA := Wc.hid eA
  have EN := Wc.hid eN
  have EV := Wc.hid eV
  have hnu : IntKind.u64.wrap (n : Int) = (n : Int) := by rw [IntKind.wrap_u64]; omega
  have hr : Wi.pr n A k = ⟨0, 50 + k, 0, 0, 0, 1, 3, 9⟩ := by unfold Wi.pr; rw [if_neg hl]
  have hrec := Wi.pr_ok (n := n) (a := A) (k := k) (by omega) (by omega) (by omega)
  rw [hr] at hrec
  have HR := Wc.hid hr
  have HREC := Wc.hid hrec
  clear eA eN eV hr hrec
  go_enter Try.func8, Try.ntmps8
  go_upto_region 2 with fail
  rw [EA.out, EN.out]
  go_wp2_with fail
  rw [EV.out]
  clear EA EN EV
  refine (lrecs_bs 20 A n 1280 20 50 _ rfl (by omega) (by omega) (by omega) (by omega) (by omega) (by decide) (by decide) rfl).mono ?_
  rintro e w1 ⟨g, rfl, hO1, hb1⟩
  obtain ⟨xs, hx⟩ : ∃ xs, Wi.rcX 20 A n (Wi.fr n A 50) = xs := ⟨_, rfl⟩
  rw [hx] at hO1
  have HX := Wc.hid hx
  have bR := (Below.refl w1.heap.size w1).alloc (Nat.le_refl _) (.cells #[.int .i64 (0), .int .i64 (50 + k), .int .i64 0, .int .i64 0, .int .i64 0, .int .i64 1, .int .i64 3, .int .i64 9] 41)
  have R1 := Wc.hid (Rh.new w1 ⟨0, 50 + k, 0, 0, 0, 1, 3, 9⟩)
  have ⟨c0, c1, c2, c3, c4, c5, c6, c7⟩ := R1.out.rc
  simp only at c0 c1 c2 c3 c4 c5 c6 c7
  have O1 := Wc.hid (hO1.keep bR)
  have B1 := Wc.hid (Wc.step hb1 (Nat.le_refl _) bR)
  clear hO1 hb1 hx bR
  go_wp2_with fail
  refine (bytes8_ok ⟨0, 50 + k, 0, 0, 0, 1, 3, 9⟩ _ HREC.out).mono ?_
  rintro e w2 ⟨g2, rfl, hg2, hr2, hb2⟩
  obtain ⟨X, hXe⟩ : ∃ X, Wr.blk ⟨0, 50 + k, 0, 0, 0, 1, 3, 9⟩ = X := ⟨_, rfl⟩
  have hXl : X.length = 64 := by rw [← hXe]; exact Wr.blk_length _
  have hX := hr2.bs (Wr.blk_length _) (Wr.blk_bd _)
  rw [hXe] at hX
  have HXV := Wc.hid hX
  have HXL := Wc.hid hXl
  have HXE := Wc.hid hXe
  have O2 := Wc.hid (O1.out.keep hb2)
  have B2 := Wc.hid (Wc.step B1.out (Nat.le_refl _) hb2)
  have R2 := Wc.hid (R1.out.keep hb2)
  clear hr2 hb2 O1 B1 R1 hg2 hXl hX hXe c0 c1 c2 c3 c4 c5 c6 c7
  go_wp2_with fail
  refine (apply_ob _ _ _ _ _ _ xs [⟨1, (A : Int) + k, X⟩] _ (O2.out.bs.alloc _) (one_is w2 _ 64 64 _ _ HXV.out (.inr ⟨_, _, _, rfl⟩) _ rfl) (step_at (A + k) _ _ (by omega) (by omega) HXL.out)).mono ?_
  rintro e w3 ⟨g3, rfl, hg3, hO3, hb3⟩
  rw [pX_app n A k _ xs X HX.out (by rw [HR.out]; exact HXE.out) (by omega)] at hO3
  obtain ⟨ys, hy⟩ : ∃ ys, Wi.pX n A k = ys := ⟨_, rfl⟩
  rw [hy] at hO3
  have HY := Wc.hid hy
  have O3 := Wc.hid hO3
  have b3 := Wc.step ((Below.refl w2.heap.size w2).alloc (Nat.le_refl _) (.cells #[.int .i64 1, .int .i64 ((A : Int) + k), .slice (some ⟨g2, 0, none⟩) 64 64] 64)) (Nat.le_refl _) hb3
  have B3 := Wc.hid (Wc.step B2.out (Nat.le_refl _) b3)
  have R3 := Wc.hid (R2.out.keep b3)
  clear hO3 hb3 hg3 O2 B2 HXV HXL HXE hy b3 R2
  go_wp2_with fail
  refine (oopen_any _ ys _ O3.out.bs).mono ?_
  rintro e w4 ⟨a4, n4, c4', rfl, hR4, hb4⟩
  have h7 : opnE ys = 7 := by rw [← HY.out]; exact pend_no (by omega) (by omega) (by omega) (by omega)
  rw [h7]
  obtain ⟨s4, hs4⟩ : ∃ s4, opnS ys = s4 := ⟨_, rfl⟩
  obtain ⟨t4, ht4⟩ : ∃ t4, opnT ys = t4 := ⟨_, rfl⟩
  rw [hs4, ht4]
  have bA := (Below.refl w4.heap.size w4).alloc (Nat.le_refl _) (.cells #[.int .i64 s4.gen, .int .i64 s4.blocks, .int .i64 s4.root, .int .i64 s4.size, .int .i64 s4.first, .int .i64 t4, .slice a4 n4 c4'] 27)
  have B4 := Wc.hid (Wc.step (Wc.step B3.out (Nat.le_refl _) hb4) (Nat.le_refl _) bA)
  unfold stv
  clear hb4 bA h7 hs4 ht4 hR4 R3
  go_wp2_with fail
  refine (wakes_any _).mono ?_
  rintro e w8 ⟨rfl, hb8⟩
  have B8 := Wc.hid (Wc.step B4.out (Nat.le_refl _) hb8)
  clear hb8
  go_wp2_with fail
  go_ret
  exact ⟨rfl, B8.out⟩

end Go.Proofs.Ytifoghbacifhnaa
