/-
  OpenTrees returns true, for every four ints.
-/
import Derived.Test.YtifoghbacifhnaaQq
namespace Go.Proofs.Ytifoghbacifhnaa
open Go.RowKit

theorem chain_bs (b a s d N : Nat) (xs : List Int) (R B dI : Int) (w : World) (hB : B = b) (hdI : dI = d) (hx : Wt.ch b a s d 3 = xs) (hR : R = ((a + 2 : Nat) : Int)) (ha : 2 ≤ a) (hb : a + 3 ≤ b) (hb2 : b ≤ 4096) (hs : s < 512) (hd : 2 ≤ d) (hd2 : d < b) (hN : b * 64 = N) :
    Calls Try.prog 27 #[.int .i64 B, .int .i64 a, .int .i64 s, .int .i64 dI] w fun e w' => ∃ g, e = .returned (.tuple #[.slice (some ⟨g, 0, none⟩) N N, .int .i64 R]) ∧ Wc.Ob 5 w.heap.size w' (.slice (some ⟨g, 0, none⟩) N N) xs ∧ Below w.heap.size w w' := by
  subst hB hR hx hdI
  exact chain_any b a s d N w ha hb hb2 hs hd (by omega) hN
theorem third (i : Int) : ∃ K : Nat, K < 3 ∧ (IntKind.u64.wrap ((IntKind.u64.wrap i).tdiv 3)).tmod 3 = (K : Int) := by
  have h0 : 0 ≤ IntKind.u64.wrap i := by rw [IntKind.wrap_u64]; exact Int.emod_nonneg _ (by omega)
  rw [Int.tdiv_eq_ediv_of_nonneg h0, IntKind.wrap_u64 (IntKind.u64.wrap i / 3), Int.tmod_eq_emod_of_nonneg (by omega)]
  exact ⟨(IntKind.u64.wrap i / 3 % 18446744073709551616 % 3).toNat, by omega, by omega⟩
theorem low_sum (A K D : Nat) (h : A + K = D) (hD : D < 4096) : wrap64 ((A : Int) + wrap64 (K : Int)) = (D : Int) := by unfold wrap64; omega
theorem trX_app (b a s d z : Nat) (xs : List Int) (hx : Wt.ch b a s d 3 = xs) : Wd.app xs [⟨1, 1, Ws.blk (Wi.trS b a z)⟩] = Wi.trX b a s d z := by
  subst hx
  rfl
theorem trS_v (a z : Nat) (R : Int) (hR : R = ((a + 2 : Nat) : Int)) : sv (Wi.trS 20 a z) = .agg #[.int .i64 7, .int .i64 20, .int .i64 R, .int .i64 (z : Int), .int .i64 0] := by
  subst hR; rfl
theorem one_of {n : Nat} {X : List Int} (hd : Wd.devB n = true) (hp : 1 < n / 64) (hX : X.length = 64) : Wd.stepsE n [⟨1, 1, X⟩] = 0 := one_step (p := 1) hd hp hX

set_option maxRecDepth 100000 in
set_option maxHeartbeats 6400000 in
theorem openTrees_a (p s z how : Int) (A S Z : Nat) (w : World) (eA : wrap64 (2 + wrap64 ((IntKind.u64.wrap p).tmod 5)) = (A : Int)) (eS : wrap64 ((IntKind.u64.wrap s).tmod 512) = (S : Int)) (eZ : wrap64 ((IntKind.u64.wrap z).tmod 513) = (Z : Int))
   (hA : 2 ≤ A ∧ A < 7) (hS : S < 512) (hZ : Z < 513) (hH : ((IntKind.u64.wrap how).tmod 3 == 0) = false) (hlt : S < Z) :
    Calls Try.prog 5 #[.int .i64 p, .int .i64 s, .int .i64 z, .int .i64 how] w fun e w' => e = .returned (.bool true) ∧ Below w.heap.size w w' := by
  obtain ⟨xs, hx⟩ : ∃ xs, Wt.ch 20 A S 15 3 = xs := ⟨_, rfl⟩
  obtain ⟨R, hR⟩ : ∃ R, R = ((A + 2 : Nat) : Int) := ⟨_, rfl⟩
  have HX := Wc.hid hx
  have HR := Wc.hid hR
  have EA := Wc.hid eA
  have ES := Wc.hid eS
  have EZ := Wc.hid eZ
  clear hx hR eA eS eZ
  go_enter Try.func5, Try.ntmps5
  go_wp2_with fail
  rw [EA.out, ES.out, EZ.out]
  clear EA ES EZ
  refine (chain_bs 20 A S 15 1280 xs R 20 15 _ rfl rfl HX.out HR.out (by omega) (by omega) (by omega) hS (by omega) (by omega) (by omega)).mono ?_
  rintro e w1 ⟨g, rfl, hO1, hb1⟩
  have O1 := Wc.hid hO1
  have B1 := Wc.hid hb1
  have HSB := Wc.hid (Wi.trS_ok (b := 20) (a := A) (z := Z) (by omega) (by omega) (by omega) (by omega))
  have HSV := Wc.hid (trS_v A Z R HR.out)
  clear hO1 hb1
  go_wp2_with fail
  rw [← HSV.out]
  refine (bytes6_ok (Wi.trS 20 A Z) _ HSB.out).mono ?_
  rintro e w2 ⟨g2, rfl, hg2, hr2, hb2'⟩
  obtain ⟨X, hXe⟩ : ∃ X, Ws.blk (Wi.trS 20 A Z) = X := ⟨_, rfl⟩
  have hXl : X.length = 64 := by rw [← hXe]; exact Ws.blk_length _
  have hX := hr2.bs (Ws.blk_length _) (Ws.blk_bd _)
  rw [hXe] at hX
  have HXV := Wc.hid hX
  have HXL := Wc.hid hXl
  have HXE := Wc.hid hXe
  have O2 := Wc.hid (O1.out.keep hb2')
  have B2 := Wc.hid (Wc.step B1.out (Nat.le_refl _) hb2')
  clear hr2 hb2' O1 B1 hg2 hXl hX hXe
  go_wp2_with fail
  refine (apply_ob _ _ _ _ _ _ xs [⟨1, 1, X⟩] _ (O2.out.bs.alloc _) (one_is w2 _ 64 64 _ _ HXV.out (.inr ⟨_, _, _, rfl⟩) _ rfl) (one_of (by decide) (by decide) HXL.out)).mono ?_
  rintro e w3 ⟨g3, rfl, hg3, hO3, hb3⟩
  rw [← HXE.out, trX_app 20 A S 15 Z xs HX.out] at hO3
  obtain ⟨ys, hy⟩ : ∃ ys, Wi.trX 20 A S 15 Z = ys := ⟨_, rfl⟩
  rw [hy] at hO3
  have HY := Wc.hid hy
  have O3 := Wc.hid hO3
  have B3 := Wc.hid (Wc.step (Wc.step B2.out (Nat.le_refl _) ((Below.refl w2.heap.size w2).alloc (Nat.le_refl _) _)) (Nat.le_refl _) hb3)
  clear hO3 hb3 hg3 O2 B2 HXV HXL HXE hy
  go_wp2_with fail
  refine (oopen_any _ ys _ O3.out.bs).mono ?_
  rintro e w4 ⟨a4, n4, c4, rfl, -, hb4⟩
  obtain ⟨o1, o2, o3, -⟩ := trX_yes (b := 20) (a := A) (s := S) (d := 15) (z := Z) (by omega) (by omega) (by omega) (by omega) (by omega) (by omega) (by omega) (by omega)
  rw [HY.out] at o1 o2 o3
  rw [o1, o2, o3]
  have bA := (Below.refl w4.heap.size w4).alloc (Nat.le_refl _) (.cells #[.int .i64 7, .int .i64 20, .int .i64 R, .int .i64 (Z : Int), .int .i64 0, .int .i64 1, .slice a4 n4 c4] 27)
  have Z4 := (Zh.new w4 (Wi.trS 20 A Z) 1 (.slice a4 n4 c4)).zc
  unfold Wi.trS at Z4
  rw [← HR.out] at Z4
  have ⟨z0, z1, z2, z3, z4, z5, z6⟩ := Z4
  simp only at z0 z1 z2 z3 z4 z5 z6
  have B4 := Wc.hid (Wc.step (Wc.step B3.out (Nat.le_refl _) hb4) (Nat.le_refl _) bA)
  simp only [stv, Wi.trS]
  rw [← HR.out]
  clear hb4 bA o1 o2 o3 Z4
  go_wp2_with fail
  refine (wakes_any _).mono ?_
  rintro e w8 ⟨rfl, hb8⟩
  have B8 := Wc.hid (Wc.step B4.out (Nat.le_refl _) hb8)
  clear hb8
  go_wp2_with fail
  go_ret
  exact ⟨rfl, B8.out⟩

set_option maxRecDepth 100000 in
set_option maxHeartbeats 6400000 in
theorem openTrees_b (p s z how : Int) (A S Z : Nat) (w : World) (eA : wrap64 (2 + wrap64 ((IntKind.u64.wrap p).tmod 5)) = (A : Int)) (eS : wrap64 ((IntKind.u64.wrap s).tmod 512) = (S : Int)) (eZ : wrap64 ((IntKind.u64.wrap z).tmod 513) = (Z : Int))
   (hA : 2 ≤ A ∧ A < 7) (hS : S < 512) (hZ : Z < 513) (hH : ((IntKind.u64.wrap how).tmod 3 == 0) = false) (hle : Z ≤ S) :
    Calls Try.prog 5 #[.int .i64 p, .int .i64 s, .int .i64 z, .int .i64 how] w fun e w' => e = .returned (.bool true) ∧ Below w.heap.size w w' := by
  obtain ⟨xs, hx⟩ : ∃ xs, Wt.ch 20 A S 15 3 = xs := ⟨_, rfl⟩
  obtain ⟨R, hR⟩ : ∃ R, R = ((A + 2 : Nat) : Int) := ⟨_, rfl⟩
  have HX := Wc.hid hx
  have HR := Wc.hid hR
  have EA := Wc.hid eA
  have ES := Wc.hid eS
  have EZ := Wc.hid eZ
  clear hx hR eA eS eZ
  go_enter Try.func5, Try.ntmps5
  go_wp2_with fail
  rw [EA.out, ES.out, EZ.out]
  clear EA ES EZ
  refine (chain_bs 20 A S 15 1280 xs R 20 15 _ rfl rfl HX.out HR.out (by omega) (by omega) (by omega) hS (by omega) (by omega) (by omega)).mono ?_
  rintro e w1 ⟨g, rfl, hO1, hb1⟩
  have O1 := Wc.hid hO1
  have B1 := Wc.hid hb1
  have HSB := Wc.hid (Wi.trS_ok (b := 20) (a := A) (z := Z) (by omega) (by omega) (by omega) (by omega))
  have HSV := Wc.hid (trS_v A Z R HR.out)
  clear hO1 hb1
  go_wp2_with fail
  rw [← HSV.out]
  refine (bytes6_ok (Wi.trS 20 A Z) _ HSB.out).mono ?_
  rintro e w2 ⟨g2, rfl, hg2, hr2, hb2'⟩
  obtain ⟨X, hXe⟩ : ∃ X, Ws.blk (Wi.trS 20 A Z) = X := ⟨_, rfl⟩
  have hXl : X.length = 64 := by rw [← hXe]; exact Ws.blk_length _
  have hX := hr2.bs (Ws.blk_length _) (Ws.blk_bd _)
  rw [hXe] at hX
  have HXV := Wc.hid hX
  have HXL := Wc.hid hXl
  have HXE := Wc.hid hXe
  have O2 := Wc.hid (O1.out.keep hb2')
  have B2 := Wc.hid (Wc.step B1.out (Nat.le_refl _) hb2')
  clear hr2 hb2' O1 B1 hg2 hXl hX hXe
  go_wp2_with fail
  refine (apply_ob _ _ _ _ _ _ xs [⟨1, 1, X⟩] _ (O2.out.bs.alloc _) (one_is w2 _ 64 64 _ _ HXV.out (.inr ⟨_, _, _, rfl⟩) _ rfl) (one_of (by decide) (by decide) HXL.out)).mono ?_
  rintro e w3 ⟨g3, rfl, hg3, hO3, hb3⟩
  rw [← HXE.out, trX_app 20 A S 15 Z xs HX.out] at hO3
  obtain ⟨ys, hy⟩ : ∃ ys, Wi.trX 20 A S 15 Z = ys := ⟨_, rfl⟩
  rw [hy] at hO3
  have HY := Wc.hid hy
  have O3 := Wc.hid hO3
  have B3 := Wc.hid (Wc.step (Wc.step B2.out (Nat.le_refl _) ((Below.refl w2.heap.size w2).alloc (Nat.le_refl _) _)) (Nat.le_refl _) hb3)
  clear hO3 hb3 hg3 O2 B2 HXV HXL HXE hy
  go_wp2_with fail
  refine (oopen_any _ ys _ O3.out.bs).mono ?_
  rintro e w4 ⟨a4, n4, c4, rfl, -, hb4⟩
  have h6 : opnE ys = 6 := by rw [← HY.out]; exact trX_no (by omega) (by omega) (by omega) (by omega) (by omega) (by omega) (by omega) (.inr hle)
  have hS4 : opnS ys = Ws.s0 := by unfold opnS; rw [if_neg (by rw [h6]; decide)]
  obtain ⟨t4, ht4⟩ : ∃ t4, opnT ys = t4 := ⟨_, rfl⟩
  rw [h6, hS4, ht4]
  have bA := (Below.refl w4.heap.size w4).alloc (Nat.le_refl _) (.cells #[.int .i64 0, .int .i64 0, .int .i64 0, .int .i64 0, .int .i64 0, .int .i64 t4, .slice a4 n4 c4] 27)
  have ⟨z0, z1, z2, z3, z4, z5, z6⟩ := (Zh.new w4 Ws.s0 t4 (.slice a4 n4 c4)).zc
  simp only [Ws.s0] at z0 z1 z2 z3 z4 z5 z6
  have B4 := Wc.hid (Wc.step (Wc.step B3.out (Nat.le_refl _) hb4) (Nat.le_refl _) bA)
  simp only [stv, Ws.s0]
  clear hb4 bA h6 hS4 ht4
  go_wp2_with fail
  refine (wakes_any _).mono ?_
  rintro e w8 ⟨rfl, hb8⟩
  have B8 := Wc.hid (Wc.step B4.out (Nat.le_refl _) hb8)
  clear hb8
  go_wp2_with fail
  go_ret
  exact ⟨rfl, B8.out⟩

set_option maxRecDepth 100000 in
set_option maxHeartbeats 6400000 in
theorem openTrees_c (p s z how : Int) (A S Z : Nat) (w : World) (eA : wrap64 (2 + wrap64 ((IntKind.u64.wrap p).tmod 5)) = (A : Int)) (eS : wrap64 ((IntKind.u64.wrap s).tmod 512) = (S : Int)) (eZ : wrap64 ((IntKind.u64.wrap z).tmod 513) = (Z : Int))
   (hA : 2 ≤ A ∧ A < 7) (hS : S < 512) (hZ : Z < 513) (hH : ((IntKind.u64.wrap how).tmod 3 == 0) = true) :
    Calls Try.prog 5 #[.int .i64 p, .int .i64 s, .int .i64 z, .int .i64 how] w fun e w' => e = .returned (.bool true) ∧ Below w.heap.size w w' := by
  obtain ⟨K, hK, eK⟩ := third how
  obtain ⟨D, hD⟩ : ∃ D : Nat, A + K = D := ⟨_, rfl⟩
  have eD : wrap64 ((A : Int) + wrap64 ((IntKind.u64.wrap ((IntKind.u64.wrap how).tdiv 3)).tmod 3)) = (D : Int) := by rw [eK]; exact low_sum A K D hD (by omega)
  have hDn : ((D : Int) != 15) = true := by rw [bne_iff_ne]; omega
  have hD1 : A ≤ D := by omega
  have hD2 : D < A + 3 := by omega
  have ED := Wc.hid eD
  clear hD eK hK eD
  obtain ⟨xs, hx⟩ : ∃ xs, Wt.ch 20 A S D 3 = xs := ⟨_, rfl⟩
  obtain ⟨R, hR⟩ : ∃ R, R = ((A + 2 : Nat) : Int) := ⟨_, rfl⟩
  have HX := Wc.hid hx
  have HR := Wc.hid hR
  have EA := Wc.hid eA
  have ES := Wc.hid eS
  have EZ := Wc.hid eZ
  clear hx hR eA eS eZ
  go_enter Try.func5, Try.ntmps5
  go_wp2_with fail
  rw [EA.out, ES.out, EZ.out, ED.out]
  clear EA ES EZ
  refine (chain_bs 20 A S D 1280 xs R 20 (D : Int) _ rfl rfl HX.out HR.out (by omega) (by omega) (by omega) hS (by omega) (by omega) (by omega)).mono ?_
  rintro e w1 ⟨g, rfl, hO1, hb1⟩
  have O1 := Wc.hid hO1
  have B1 := Wc.hid hb1
  have HSB := Wc.hid (Wi.trS_ok (b := 20) (a := A) (z := Z) (by omega) (by omega) (by omega) (by omega))
  have HSV := Wc.hid (trS_v A Z R HR.out)
  clear hO1 hb1
  go_wp2_with fail
  rw [← HSV.out]
  refine (bytes6_ok (Wi.trS 20 A Z) _ HSB.out).mono ?_
  rintro e w2 ⟨g2, rfl, hg2, hr2, hb2'⟩
  obtain ⟨X, hXe⟩ : ∃ X, Ws.blk (Wi.trS 20 A Z) = X := ⟨_, rfl⟩
  have hXl : X.length = 64 := by rw [← hXe]; exact Ws.blk_length _
  have hX := hr2.bs (Ws.blk_length _) (Ws.blk_bd _)
  rw [hXe] at hX
  have HXV := Wc.hid hX
  have HXL := Wc.hid hXl
  have HXE := Wc.hid hXe
  have O2 := Wc.hid (O1.out.keep hb2')
  have B2 := Wc.hid (Wc.step B1.out (Nat.le_refl _) hb2')
  clear hr2 hb2' O1 B1 hg2 hXl hX hXe
  go_wp2_with fail
  refine (apply_ob _ _ _ _ _ _ xs [⟨1, 1, X⟩] _ (O2.out.bs.alloc _) (one_is w2 _ 64 64 _ _ HXV.out (.inr ⟨_, _, _, rfl⟩) _ rfl) (one_of (by decide) (by decide) HXL.out)).mono ?_
  rintro e w3 ⟨g3, rfl, hg3, hO3, hb3⟩
  rw [← HXE.out, trX_app 20 A S D Z xs HX.out] at hO3
  obtain ⟨ys, hy⟩ : ∃ ys, Wi.trX 20 A S D Z = ys := ⟨_, rfl⟩
  rw [hy] at hO3
  have HY := Wc.hid hy
  have O3 := Wc.hid hO3
  have B3 := Wc.hid (Wc.step (Wc.step B2.out (Nat.le_refl _) ((Below.refl w2.heap.size w2).alloc (Nat.le_refl _) _)) (Nat.le_refl _) hb3)
  clear hO3 hb3 hg3 O2 B2 HXV HXL HXE hy
  go_wp2_with fail
  refine (oopen_any _ ys _ O3.out.bs).mono ?_
  rintro e w4 ⟨a4, n4, c4, rfl, -, hb4⟩
  have h6 : opnE ys = 6 := by rw [← HY.out]; exact trX_no (by omega) (by omega) (by omega) (by omega) (by omega) (by omega) (by omega) (.inl ⟨hD1, hD2⟩)
  have hS4 : opnS ys = Ws.s0 := by unfold opnS; rw [if_neg (by rw [h6]; decide)]
  obtain ⟨t4, ht4⟩ : ∃ t4, opnT ys = t4 := ⟨_, rfl⟩
  rw [h6, hS4, ht4]
  have bA := (Below.refl w4.heap.size w4).alloc (Nat.le_refl _) (.cells #[.int .i64 0, .int .i64 0, .int .i64 0, .int .i64 0, .int .i64 0, .int .i64 t4, .slice a4 n4 c4] 27)
  have ⟨z0, z1, z2, z3, z4, z5, z6⟩ := (Zh.new w4 Ws.s0 t4 (.slice a4 n4 c4)).zc
  simp only [Ws.s0] at z0 z1 z2 z3 z4 z5 z6
  have B4 := Wc.hid (Wc.step (Wc.step B3.out (Nat.le_refl _) hb4) (Nat.le_refl _) bA)
  simp only [stv, Ws.s0]
  clear hb4 bA h6 hS4 ht4
  go_wp2_with fail
  refine (wakes_any _).mono ?_
  rintro e w8 ⟨rfl, hb8⟩
  have B8 := Wc.hid (Wc.step B4.out (Nat.le_refl _) hb8)
  clear hb8
  go_wp2_with fail
  go_ret
  exact ⟨rfl, B8.out⟩

theorem openTrees_any (p s z how : Int) (w : World) : Calls Try.prog 5 #[.int .i64 p, .int .i64 s, .int .i64 z, .int .i64 how] w fun e w' => e = .returned (.bool true) ∧ Below w.heap.size w w' := by
  obtain ⟨A, hA, eA⟩ := lowA p 5 2 (by omega) (by omega) (by omega)
  obtain ⟨S, hS, eS⟩ := lowN s 512 (by omega) (by omega)
  obtain ⟨Z, hZ, eZ⟩ := lowN z 513 (by omega) (by omega)
  cases hH : ((IntKind.u64.wrap how).tmod 3 == 0) with
  | true => exact openTrees_c p s z how A S Z w eA eS eZ (by omega) hS hZ hH
  | false =>
    by_cases h : S < Z
    · exact openTrees_a p s z how A S Z w eA eS eZ (by omega) hS hZ hH h
    · exact openTrees_b p s z how A S Z w eA eS eZ (by omega) hS hZ hH (by omega)

end Go.Proofs.Ytifoghbacifhnaa
