/-
  OpenPending: what the statement's function returns.
-/
import Derived.Test.YtifoghbacifhnaaQz
namespace Go.Proofs.Ytifoghbacifhnaa
open Go.RowKit

set_option maxRecDepth 100000 in
set_option maxHeartbeats 6400000 in
theorem openPending_d (p z v : Int) (A n : Nat) (w : World) (eA : wrap64 (2 + wrap64 ((IntKind.u64.wrap p).tmod 5)) = (A : Int)) (eN : wrap64 (1 + wrap64 ((IntKind.u64.wrap z).tmod 8)) = (n : Int)) (eV : wrap64 ((IntKind.u64.wrap v).tmod (n : Int)) = 0) (hA : 2 ≤ A ∧ A < 7) (hn : 1 ≤ n ∧ n < 9) (hl : ¬ 0 + 1 < n) :
    Calls Try.prog 8 #[.int .i64 p, .int .i64 z, .int .i64 v] w fun e w' => e = .returned (.bool true) ∧ Below w.heap.size w w' := by
  have EA := Wc.hid eA
  have EN := Wc.hid eN
  have EV := Wc.hid eV
  have hnu : IntKind.u64.wrap (n : Int) = (n : Int) := by rw [IntKind.wrap_u64]; omega
  have hr : Wi.pr n A 0 = ⟨0, 50, 0, 0, 0, 1, 3, 9⟩ := by unfold Wi.pr; rw [if_neg hl]; rfl
  have hrec := Wi.pr_ok (n := n) (a := A) (k := 0) (by omega) (by omega) (by omega)
  rw [hr] at hrec
  have HR := Wc.hid hr
  have HREC := Wc.hid hrec
  clear eA eN eV hr hrec
  go_enter Try.func8, Try.ntmps8
  go_upto_region 2 with fail
  rw [EA.out, EN.out]
  go_wp2_with fail
  rw [EV.out]
  clear EA EN EV
  refine (lrecs_bs 20 A n 1280 20 50 _ rfl (by omega) (by omega) (by omega) (by omega) (by omega) (by decide) (by decide) rfl).mono ?_
  rintro e w1 ⟨g, rfl, hO1, hb1⟩
  obtain ⟨xs, hx⟩ : ∃ xs, Wi.rcX 20 A n (Wi.fr n A 50) = xs := ⟨_, rfl⟩
  rw [hx] at hO1
  have HX := Wc.hid hx
  have bR := (Below.refl w1.heap.size w1).alloc (Nat.le_refl _) (.cells #[.int .i64 (0), .int .i64 (50), .int .i64 0, .int .i64 0, .int .i64 0, .int .i64 1, .int .i64 3, .int .i64 9] 41)
  have R1 := Wc.hid (Rh.new w1 ⟨0, 50, 0, 0, 0, 1, 3, 9⟩)
  have ⟨c0, c1, c2, c3, c4, c5, c6, c7⟩ := R1.out.rc
  simp only at c0 c1 c2 c3 c4 c5 c6 c7
  have O1 := Wc.hid (hO1.keep bR)
  have B1 := Wc.hid (Wc.step hb1 (Nat.le_refl _) bR)
  clear hO1 hb1 hx bR
  go_wp2_with fail
  refine (bytes8_ok ⟨0, 50, 0, 0, 0, 1, 3, 9⟩ _ HREC.out).mono ?_
  rintro e w2 ⟨g2, rfl, hg2, hr2, hb2⟩
  obtain ⟨X, hXe⟩ : ∃ X, Wr.blk ⟨0, 50, 0, 0, 0, 1, 3, 9⟩ = X := ⟨_, rfl⟩
  have hXl : X.length = 64 := by rw [← hXe]; exact Wr.blk_length _
  have hX := hr2.bs (Wr.blk_length _) (Wr.blk_bd _)
  rw [hXe] at hX
  have HXV := Wc.hid hX
  have HXL := Wc.hid hXl
  have HXE := Wc.hid hXe
  have O2 := Wc.hid (O1.out.keep hb2)
  have B2 := Wc.hid (Wc.step B1.out (Nat.le_refl _) hb2)
  have R2 := Wc.hid (R1.out.keep hb2)
  clear hr2 hb2 O1 B1 R1 hg2 hXl hX hXe c0 c1 c2 c3 c4 c5 c6 c7
  go_wp2_with fail
  refine (apply_ob _ _ _ _ _ _ xs [⟨1, (A : Int), X⟩] _ (O2.out.bs.alloc _) (one_is w2 _ 64 64 _ _ HXV.out (.inr ⟨_, _, _, rfl⟩) _ rfl) (step_at (A + 0) _ _ (by omega) (by omega) HXL.out)).mono ?_
  rintro e w3 ⟨g3, rfl, hg3, hO3, hb3⟩
  rw [pX_app n A 0 _ xs X HX.out (by rw [HR.out]; exact HXE.out) (by omega)] at hO3
  obtain ⟨ys, hy⟩ : ∃ ys, Wi.pX n A 0 = ys := ⟨_, rfl⟩
  rw [hy] at hO3
  have HY := Wc.hid hy
  have O3 := Wc.hid hO3
  have b3 := Wc.step ((Below.refl w2.heap.size w2).alloc (Nat.le_refl _) (.cells #[.int .i64 1, .int .i64 ((A : Int)), .slice (some ⟨g2, 0, none⟩) 64 64] 64)) (Nat.le_refl _) hb3
  have B3 := Wc.hid (Wc.step B2.out (Nat.le_refl _) b3)
  have R3 := Wc.hid (R2.out.keep b3)
  clear hO3 hb3 hg3 O2 B2 HXV HXL HXE hy b3 R2
  go_wp2_with fail
  refine (oopen_any _ ys _ O3.out.bs).mono ?_
  rintro e w4 ⟨a4, n4, c4', rfl, hR4, hb4⟩
  obtain ⟨o1, o2, o3, l, o4, hl, hl0, hf⟩ := pend_yes (n := n) (a := A) (by omega) (by omega) (by omega)
  rw [HY.out] at o1 o2 o3 o4
  rw [o4] at hR4
  obtain ⟨s4, hs4⟩ : ∃ s4, Wi.rcS 20 A n = s4 := ⟨_, rfl⟩
  rw [o1, o2, o3, hs4]
  have hfN : Wi.fndN l 50 = 0 := by unfold Wi.fndN; rw [hf]
  have hfS : (Wi.fnd l 50).isSome = false := by rw [hf]; rfl
  obtain rfl : n4 = n := by rw [← Wi.rs_len hR4]; exact hl
  have bA := (Below.refl w4.heap.size w4).alloc (Nat.le_refl _) (.cells #[.int .i64 s4.gen, .int .i64 s4.blocks, .int .i64 s4.root, .int .i64 s4.size, .int .i64 s4.first, .int .i64 0, .slice a4 n4 c4'] 27)
  have Z4 := Wc.hid (Zh.new w4 s4 0 (.slice a4 n4 c4'))
  have B4 := Wc.hid (Wc.step (Wc.step B3.out (Nat.le_refl _) hb4) (Nat.le_refl _) bA)
  have R4 := Wc.hid ((R3.out.keep hb4).keep bA)
  have L4 := Wc.hid (hR4.keep bA)
  have HL0 := Wc.hid hl0
  have HFN := Wc.hid hfN
  have HFS := Wc.hid hfS
  have ⟨z0, z1, z2, z3, z4, z5, z6⟩ := Z4.out.zc
  unfold stv
  clear hb4 bA o1 o2 o3 o4 hl hl0 hf hfN hfS hs4 hR4 R3
  go_wp2_with fail
  refine (ofind_any s4 0 50 a4 n4 c4' l _ L4.out).mono ?_
  rintro e w5 ⟨rfl, hb5⟩
  rw [HFN.out, HFS.out]
  have Z5 := Wc.hid (Z4.out.keep hb5)
  have B5 := Wc.hid (Wc.step B4.out (Nat.le_refl _) hb5)
  have R5 := Wc.hid (R4.out.keep hb5)
  obtain ⟨_, _, _, h1, -, hlc, hlc2, hln, hpos⟩ := L4.out.keep hb5
  cases h1
  obtain ⟨b, off, rfl, hblt, hcs⟩ := hpos (by omega)
  have ha0 := hcs 0 (by omega)
  rw [HL0.out, HR.out] at ha0
  have ⟨d0, d1, d2, d3, d4, d5, d6, d7⟩ := ha0
  simp only [Nat.zero_mul, Nat.add_zero] at d0 d1 d2 d3 d4 d5 d6 d7
  clear z0 z1 z2 z3 z4 z5 z6 hb5 hpos hcs ha0
  have ⟨z0, z1, z2, z3, z4, z5, z6⟩ := Z5.out.zc
  have ⟨c0, c1, c2, c3, c4, c5, c6, c7⟩ := R5.out.rc
  simp only at c0 c1 c2 c3 c4 c5 c6 c7
  have hq := eql_rec ⟨0, 50, 0, 0, 0, 1, 3, 9⟩ ⟨0, 50, 0, 0, 0, 1, 3, 9⟩
  rw [recEq_iff.2 rfl] at hq
  simp only at hq
  go_wp2_with fail
  go_region_with (go_at_call 19; refine (wakes_any _).mono ?_; rintro e w7 ⟨rfl, hb7⟩)
  all_goals
    have B7 := Wc.hid (Wc.step (show_drew B5.out) (Nat.le_refl _) hb7)
    clear hb7
    go_wp2_with fail
    go_ret
    exact ⟨rfl, B7.out⟩

end Go.Proofs.Ytifoghbacifhnaa
