/-
  OpenRecords returns true, for every four ints.
-/
import Derived.Test.YtifoghbacifhnaaQya
namespace Go.Proofs.Ytifoghbacifhnaa
open Go.RowKit

theorem bX_app (n a m : Nat) (id p : Int) (r : Wr.Rec) (xs X : List Int) (hx : Wi.rcX 20 a n (Wi.fr n a id) = xs) (hX : Wr.blk r = X) (hp : p = ((a + m : Nat) : Int)) : Wd.app xs [⟨1, p, X⟩] = Wi.bX n a m id r := by
  subst hx hX hp
  rfl
theorem step_20 (q : Nat) (p : Int) (X : List Int) (hp : p = (q : Int)) (hq : q < 20) (hX : X.length = 64) : Wd.stepsE 1280 [⟨1, p, X⟩] = 0 := by
  subst hp
  exact one_step (by decide) (by omega) hX
theorem fr_form (n a k : Nat) (id : Int) : ∃ nx, Wi.fr n a id k = ⟨nx, id + k, 0, 0, 0, 0, 0, 0⟩ := ⟨_, rfl⟩
theorem fr_last {n a m : Nat} {id : Int} (hm : n = m + 1) : Wi.fr n a id m = ⟨0, id + m, 0, 0, 0, 0, 0, 0⟩ := by unfold Wi.fr; rw [if_neg (by omega)]
theorem four (i : Int) (h0 : ¬ (IntKind.u64.wrap i).tmod 4 = 0) (h1 : ¬ (IntKind.u64.wrap i).tmod 4 = 1) (h2 : ¬ (IntKind.u64.wrap i).tmod 4 = 2) : (IntKind.u64.wrap i).tmod 4 = 3 := by
  have h : 0 ≤ IntKind.u64.wrap i := by rw [IntKind.wrap_u64]; exact Int.emod_nonneg _ (by omega)
  rw [Int.tmod_eq_emod_of_nonneg h] at *
  omega

set_option maxRecDepth 100000 in
set_option maxHeartbeats 12800000 in
theorem openRecs_x (z p v how : Int) (A n ID : Nat) (w : World) (eN : wrap64 (1 + wrap64 ((IntKind.u64.wrap z).tmod 10)) = (n : Int)) (eA : wrap64 (2 + wrap64 ((IntKind.u64.wrap p).tmod 5)) = (A : Int)) (eI : wrap64 (1 + wrap64 ((IntKind.u64.wrap v).tmod 1000)) = (ID : Int)) (hn : 1 ≤ n ∧ n < 11) (hA : 2 ≤ A ∧ A < 7) (hI : 1 ≤ ID ∧ ID < 1001) :
    Calls Try.prog 4 #[.int .i64 z, .int .i64 p, .int .i64 v, .int .i64 how] w fun e w' => e = .returned (.bool true) ∧ Below w.heap.size w w' := by
  obtain ⟨m, hm⟩ : ∃ m, n = m + 1 := ⟨n - 1, by omega⟩
  have em : (n : Int) - 1 = (m : Int) := by omega
  have hmn : m < n := by omega
  have HM := Wc.hid hm
  have EM := Wc.hid em
  have EA := Wc.hid eA
  have EN := Wc.hid eN
  have EI := Wc.hid eI
  obtain ⟨xs, hx⟩ : ∃ xs, Wi.rcX 20 A n (Wi.fr n A (ID : Int)) = xs := ⟨_, rfl⟩
  obtain ⟨o1, o2, o3, o4, o5, o6, o7⟩ := plain_yes (n := n) (a := A) (id := (ID : Int)) (by omega) (by omega) (by omega) (by omega) (by omega)
  obtain ⟨L, hL⟩ : ∃ L, (List.range n).map (Wi.fr n A (ID : Int)) = L := ⟨_, rfl⟩
  obtain ⟨s, hs⟩ : ∃ s, Wi.rcS 20 A n = s := ⟨_, rfl⟩
  rw [hx] at o1 o2 o3 o4 o5 o6 o7
  rw [hs] at o2
  rw [hL] at o4 o7
  have hLl : L.length = n := by rw [← hL]; simp
  have HX := Wc.hid hx
  have HL := Wc.hid hL
  have HLL := Wc.hid hLl
  have HO1 := Wc.hid o1
  have HO2 := Wc.hid o2
  have HO3 := Wc.hid o3
  have HO4 := Wc.hid o4
  have HO5 := Wc.hid o5
  have HO6 := Wc.hid o6
  have HO7 := Wc.hid o7
  clear hm em eA eN eI hx hL hs hLl o1 o2 o3 o4 o5 o6 o7
  go_enter Try.func4, Try.ntmps4
  go_wp2_with fail
  rw [EA.out, EN.out, EI.out]
  clear EA EN EI
  refine (lrecs_bs 20 A n 1280 20 (ID : Int) _ rfl (by omega) (by omega) (by omega) (by omega) (by omega) (by omega) (by omega) rfl).mono ?_
  rintro e w1 ⟨g, rfl, hO1, hb1⟩
  rw [HX.out] at hO1
  have V1 := Wc.hid hO1.bs
  have B1 := Wc.hid hb1
  clear hO1 hb1
  go_wp2_with fail
  refine (oopen_any _ xs _ V1.out).mono ?_
  rintro e w2 ⟨a, n2, c, rfl, hR, hb2⟩
  rw [HO1.out, HO2.out, HO3.out]
  rw [HO4.out] at hR
  obtain rfl : n2 = n := by rw [← Wi.rs_len hR]; exact HLL.out
  have bA := (Below.refl w2.heap.size w2).alloc (Nat.le_refl _) (.cells #[.int .i64 s.gen, .int .i64 s.blocks, .int .i64 s.root, .int .i64 s.size, .int .i64 s.first, .int .i64 0, .slice a n2 c] 27)
  have b2 := Wc.step hb2 (Nat.le_refl _) bA
  have Z2 := Wc.hid (Zh.new w2 s 0 (.slice a n2 c))
  have R2 := Wc.hid (hR.keep bA)
  have V2 := Wc.hid (V1.out.keep b2)
  have B2 := Wc.hid (Wc.step B1.out (Nat.le_refl _) b2)
  clear hR hb2 bA b2 V1 B1
  unfold stv
  go_wp2_with fail
  refine (records_any _ xs (A : Int) _ V2.out).mono ?_
  rintro e w3 ⟨a', n3, c', p', n3', q', rfl, hR3, hP3, hb3⟩
  rw [HO5.out]
  rw [HO7.out] at hR3
  rw [HO6.out] at hP3
  obtain rfl : n3 = n2 := by rw [← Wi.rs_len hR3]; exact HLL.out
  obtain rfl : n3' = n3 := by rw [← Wv.rv_len hP3]; exact Wi.sq_length _ _
  have Z3 := Wc.hid (Z2.out.keep hb3)
  have R3 := Wc.hid (R2.out.keep hb3)
  have V3 := Wc.hid (V2.out.keep hb3)
  have B3 := Wc.hid (Wc.step B2.out (Nat.le_refl _) hb3)
  have ⟨z0, z1, z2, z3, z4, z5, z6⟩ := Z3.out.zc
  obtain ⟨_, _, _, h1, -, hlc, hlc2, hln, hpos⟩ := R3.out
  cases h1
  obtain ⟨g1, f1, rfl, hg1, hcs1⟩ := hpos (by omega)
  obtain ⟨_, _, _, h1, -, hlc', hlc2', hln', hpos'⟩ := hR3
  cases h1
  obtain ⟨g2, f2, rfl, hg2, hcs2⟩ := hpos' (by omega)
  obtain ⟨_, _, _, h1, -, hlc3, hlc3', hln3, hpos3⟩ := hP3
  cases h1
  obtain ⟨g3, f3, rfl, hg3, hcs3⟩ := hpos3 (by omega)
  have C1 := Wc.hid hcs1
  have C2 := Wc.hid hcs2
  have C3 := Wc.hid hcs3
  have HG3 := Wc.hid hg3
  clear hcs1 hcs2 hcs3 hpos hpos' hpos3 hb3 hg1 hg2 hg3 hlc' hlc2' hln' hlc3 hlc3' hln3 Z2 V2 B2 R2
  go_wp2_with fail
  clear z0 z1 z2 z3 z4 z5 z6
  go_loopw [15] (fun i wr => ∃ k : Nat, i = .int .i64 k ∧ k ≤ n3' ∧ Hid (Below w3.heap.size w3 wr)) (fun i _ => n3' - (intOf i).toNat)
  case atStart => exact ⟨0, rfl, by omega, Wc.hid (Below.refl _ _)⟩
  case round =>
    obtain ⟨k, rfl, hk, RB⟩ := hrel
    by_cases hlt : k < n3'
    · obtain ⟨nx, hnx⟩ := fr_form n3' A k (ID : Int)
      have hx1 := C1.out k hlt
      have hx2 := C2.out k hlt
      have hx3 := C3.out k hlt
      rw [← HL.out, plain_at hlt, hnx] at hx1 hx2
      rw [Wi.sq_getD hlt, Int.natCast_add] at hx3
      have HX1 := Wc.hid (hx1.keep RB.out)
      have HX2 := Wc.hid (hx2.keep RB.out)
      have HX3 : Hid (wr.cell? ⟨g3, f3 + k, none⟩ = some (.int .i64 ((A : Int) + k))) := Wc.hid ((RB.out.cell (p := ⟨g3, f3 + k, none⟩) HG3.out).trans hx3)
      have Z4 := Wc.hid (Z3.out.keep RB.out)
      have R4 := Wc.hid (R3.out.keep RB.out)
      have hfn : Wi.fnd L ((ID : Int) + k) = some k := by rw [← HL.out]; exact plain_find hlt
      have hfN : Wi.fndN L ((ID : Int) + k) = (k : Int) := by unfold Wi.fndN; rw [hfn]
      have hfS : (Wi.fnd L ((ID : Int) + k)).isSome = true := by rw [hfn]; rfl
      have HFN := Wc.hid hfN
      have HFS := Wc.hid hfS
      have ⟨z0, z1, z2, z3, z4, z5, z6⟩ := Z4.out.zc
      have hqr := neq_rec ⟨nx, (ID : Int) + k, 0, 0, 0, 0, 0, 0⟩ ⟨nx, (ID : Int) + k, 0, 0, 0, 0, 0, 0⟩
      rw [recEq_iff.2 rfl] at hqr
      simp only at hqr
      have HQR := Wc.hid hqr
      have hg3w : g3 < wr.heap.size := Nat.lt_of_lt_of_le HG3.out RB.out.size
      clear hnx hx1 hx2 hx3 hfn hfN hfS hqr
      go_wp2_with fail
      refine (ofind_any s 0 ((ID : Int) + k) (some ⟨g1, f1, none⟩) n3' c L _ R4.out).mono ?_
      rintro e w4 ⟨rfl, hb4⟩
      rw [HFN.out, HFS.out]
      have ⟨d0, d1, d2, d3, d4, d5, d6, d7⟩ := HX1.out.keep hb4
      have ⟨e0, e1, e2, e3, e4, e5, e6, e7⟩ := HX2.out.keep hb4
      have p0 := (hb4.cell (p := ⟨g3, f3 + k, none⟩) hg3w).trans HX3.out
      have Z5 := Wc.hid (Z4.out.keep hb4)
      have B5 := Wc.hid (Wc.step RB.out (Nat.le_refl _) hb4)
      have hqr := HQR.out
      clear z0 z1 z2 z3 z4 z5 z6 hb4 HX1 HX2 HX3 HFN HFS R4 Z4
      have ⟨z0, z1, z2, z3, z4, z5, z6⟩ := Z5.out.zc
      simp only at d0 d1 d2 d3 d4 d5 d6 d7 e0 e1 e2 e3 e4 e5 e6 e7
      go_wp2_with fail
      go_quiet (fail)
      go_wp2_with fail
      go_roundw
      case rel => exact ⟨k + 1, by go_num, by omega, Wc.hid (below_drewN B5.out _)⟩
      case measure => simp [intOf]; omega
    · have hx2 := C2.out m hmn
      rw [← HL.out, plain_at hmn, fr_last HM.out] at hx2
      have ⟨e0, e1, e2, e3, e4, e5, e6, e7⟩ := hx2.keep RB.out
      simp only at e0 e1 e2 e3 e4 e5 e6 e7
      have em := EM.out
      have BR := Wc.hid (Wc.step B3.out (Nat.le_refl _) RB.out)
      have VR := Wc.hid (V3.out.keep RB.out)
      clear hx2
      by_cases h0 : (IntKind.u64.wrap how).tmod 4 = 0
      · have q0 : ((IntKind.u64.wrap how).tmod 4 == 0) = true := by rw [h0]; rfl
        clear h0
        have hfin := bent_round (n := n3') (a := A) (m := m) (id := (ID : Int)) (p := (A : Int)) (q := (ID : Int) + m) (by omega) (by omega) HM.out (by omega) (by omega) rfl rfl
        have hrec : Wr.recB ⟨(A : Int), (ID : Int) + m, 0, 0, 0, 0, 0, 0⟩ = true := Wi.bent_ok (by omega) (by omega) (by omega)
        have HFIN := Wc.hid hfin
        have HREC := Wc.hid hrec
        have bR := (Below.refl wr.heap.size wr).alloc (Nat.le_refl _) (.cells #[.int .i64 ((A : Int)), .int .i64 ((ID : Int) + m), .int .i64 0, .int .i64 0, .int .i64 0, .int .i64 0, .int .i64 0, .int .i64 0] 41)
        have ⟨c0, c1, c2, c3, c4, c5, c6, c7⟩ := (Rh.new wr ⟨(A : Int), (ID : Int) + m, 0, 0, 0, 0, 0, 0⟩).rc
        simp only at c0 c1 c2 c3 c4 c5 c6 c7
        have V6 := Wc.hid (VR.out.keep bR)
        have B6 := Wc.hid (Wc.step BR.out (Nat.le_refl _) bR)
        clear hfin hrec bR
        go_wp2_with fail
        refine (bytes8_ok ⟨(A : Int), (ID : Int) + m, 0, 0, 0, 0, 0, 0⟩ _ HREC.out).mono ?_
        rintro e w6 ⟨g6, rfl, hg6, hr6, hb6⟩
        obtain ⟨X, hXe⟩ : ∃ X, Wr.blk ⟨(A : Int), (ID : Int) + m, 0, 0, 0, 0, 0, 0⟩ = X := ⟨_, rfl⟩
        have hXl : X.length = 64 := by rw [← hXe]; exact Wr.blk_length _
        have hX := hr6.bs (Wr.blk_length _) (Wr.blk_bd _)
        rw [hXe] at hX
        have HXV := Wc.hid hX
        have HXL := Wc.hid hXl
        have HXE := Wc.hid hXe
        have V7 := Wc.hid (V6.out.keep hb6)
        have B7 := Wc.hid (Wc.step B6.out (Nat.le_refl _) hb6)
        clear hr6 hb6 V6 B6 hg6 hXl hX hXe c0 c1 c2 c3 c4 c5 c6 c7 e0 e1 e2 e3 e4 e5 e6 e7
        clear em
        go_wp2_with fail
        refine (apply_ob _ _ _ _ _ _ xs [⟨1, (A : Int) + n3' - 1, X⟩] _ (V7.out.alloc _) (one_is w6 _ 64 64 _ _ HXV.out (.inr ⟨_, _, _, rfl⟩) _ rfl) (step_20 (A + m) _ _ (by have := EM.out; omega) (by omega) HXL.out)).mono ?_
        rintro e w7 ⟨g7, rfl, hg7, hO7, hb7⟩
        rw [bX_app n3' A m (ID : Int) _ ⟨(A : Int), (ID : Int) + m, 0, 0, 0, 0, 0, 0⟩ xs X HX.out HXE.out (by have := EM.out; omega)] at hO7
        obtain ⟨ys, hy⟩ : ∃ ys, Wi.bX n3' A m (ID : Int) ⟨(A : Int), (ID : Int) + m, 0, 0, 0, 0, 0, 0⟩ = ys := ⟨_, rfl⟩
        have h6 := HFIN.out
        rw [hy] at hO7 h6
        have H6 := Wc.hid h6
        have V8 := Wc.hid hO7.bs
        have b7 := Wc.step ((Below.refl w6.heap.size w6).alloc (Nat.le_refl _) (.cells #[.int .i64 1, .int .i64 ((A : Int) + n3' - 1), .slice (some ⟨g6, 0, none⟩) 64 64] 64)) (Nat.le_refl _) hb7
        have B8 := Wc.hid (Wc.step B7.out (Nat.le_refl _) b7)
        clear hO7 hb7 hg7 V7 B7 HXV HXL HXE hy b7 h6
        go_wp2_with fail
        refine (records_any _ ys (A : Int) _ V8.out).mono ?_
        rintro e w8 ⟨a8, n8, c8, p8, m8, q8, rfl, -, -, hb8⟩
        rw [H6.out.2]
        have V9 := Wc.hid (V8.out.keep hb8)
        have B9 := Wc.hid (Wc.step B8.out (Nat.le_refl _) hb8)
        clear hb8 V8 B8
        go_wp2_with fail
        refine (oopen_any _ ys _ V9.out).mono ?_
        rintro e w9 ⟨a9, n9, c9, rfl, -, hb9⟩
        rw [H6.out.1]
        obtain ⟨s9, hs9⟩ : ∃ s9, opnS ys = s9 := ⟨_, rfl⟩
        obtain ⟨t9, ht9⟩ : ∃ t9, opnT ys = t9 := ⟨_, rfl⟩
        rw [hs9, ht9]
        have B10 := Wc.hid (Wc.step (Wc.step B9.out (Nat.le_refl _) hb9) (Nat.le_refl _) ((Below.refl w9.heap.size w9).alloc (Nat.le_refl _) (.cells #[.int .i64 s9.gen, .int .i64 s9.blocks, .int .i64 s9.root, .int .i64 s9.size, .int .i64 s9.first, .int .i64 t9, .slice a9 n9 c9] 27)))
        unfold stv
        clear hb9 hs9 ht9 V9 B9
        go_wp2_with fail
        refine (wakes_any _).mono ?_
        rintro e w10 ⟨rfl, hb10⟩
        have B11 := Wc.hid (Wc.step B10.out (Nat.le_refl _) hb10)
        clear hb10
        go_wp2_with fail
        go_ret
        exact ⟨rfl, B11.out⟩
      have q0 : ((IntKind.u64.wrap how).tmod 4 == 0) = false := by rw [beq_eq_false_iff_ne]; exact h0
      by_cases h1 : (IntKind.u64.wrap how).tmod 4 = 1
      · have q1 : ((IntKind.u64.wrap how).tmod 4 == 1) = true := by rw [h1]; rfl
        clear h0 h1
        have hfin := bent_far (n := n3') (a := A) (m := m) (id := (ID : Int)) (p := 20) (q := (ID : Int) + m) (by omega) (by omega) HM.out (by omega) (by omega) (.inl rfl) rfl
        have hrec : Wr.recB ⟨20, (ID : Int) + m, 0, 0, 0, 0, 0, 0⟩ = true := Wi.bent_ok (by omega) (by omega) (by omega)
        have HFIN := Wc.hid hfin
        have HREC := Wc.hid hrec
        have bR := (Below.refl wr.heap.size wr).alloc (Nat.le_refl _) (.cells #[.int .i64 (20), .int .i64 ((ID : Int) + m), .int .i64 0, .int .i64 0, .int .i64 0, .int .i64 0, .int .i64 0, .int .i64 0] 41)
        have ⟨c0, c1, c2, c3, c4, c5, c6, c7⟩ := (Rh.new wr ⟨20, (ID : Int) + m, 0, 0, 0, 0, 0, 0⟩).rc
        simp only at c0 c1 c2 c3 c4 c5 c6 c7
        have V6 := Wc.hid (VR.out.keep bR)
        have B6 := Wc.hid (Wc.step BR.out (Nat.le_refl _) bR)
        clear hfin hrec bR
        go_wp2_with fail
        refine (bytes8_ok ⟨20, (ID : Int) + m, 0, 0, 0, 0, 0, 0⟩ _ HREC.out).mono ?_
        rintro e w6 ⟨g6, rfl, hg6, hr6, hb6⟩
        obtain ⟨X, hXe⟩ : ∃ X, Wr.blk ⟨20, (ID : Int) + m, 0, 0, 0, 0, 0, 0⟩ = X := ⟨_, rfl⟩
        have hXl : X.length = 64 := by rw [← hXe]; exact Wr.blk_length _
        have hX := hr6.bs (Wr.blk_length _) (Wr.blk_bd _)
        rw [hXe] at hX
        have HXV := Wc.hid hX
        have HXL := Wc.hid hXl
        have HXE := Wc.hid hXe
        have V7 := Wc.hid (V6.out.keep hb6)
        have B7 := Wc.hid (Wc.step B6.out (Nat.le_refl _) hb6)
        clear hr6 hb6 V6 B6 hg6 hXl hX hXe c0 c1 c2 c3 c4 c5 c6 c7 e0 e1 e2 e3 e4 e5 e6 e7
        clear em
        go_wp2_with fail
        refine (apply_ob _ _ _ _ _ _ xs [⟨1, (A : Int) + n3' - 1, X⟩] _ (V7.out.alloc _) (one_is w6 _ 64 64 _ _ HXV.out (.inr ⟨_, _, _, rfl⟩) _ rfl) (step_20 (A + m) _ _ (by have := EM.out; omega) (by omega) HXL.out)).mono ?_
        rintro e w7 ⟨g7, rfl, hg7, hO7, hb7⟩
        rw [bX_app n3' A m (ID : Int) _ ⟨20, (ID : Int) + m, 0, 0, 0, 0, 0, 0⟩ xs X HX.out HXE.out (by have := EM.out; omega)] at hO7
        obtain ⟨ys, hy⟩ : ∃ ys, Wi.bX n3' A m (ID : Int) ⟨20, (ID : Int) + m, 0, 0, 0, 0, 0, 0⟩ = ys := ⟨_, rfl⟩
        have h6 := HFIN.out
        rw [hy] at hO7 h6
        have H6 := Wc.hid h6
        have V8 := Wc.hid hO7.bs
        have b7 := Wc.step ((Below.refl w6.heap.size w6).alloc (Nat.le_refl _) (.cells #[.int .i64 1, .int .i64 ((A : Int) + n3' - 1), .slice (some ⟨g6, 0, none⟩) 64 64] 64)) (Nat.le_refl _) hb7
        have B8 := Wc.hid (Wc.step B7.out (Nat.le_refl _) b7)
        clear hO7 hb7 hg7 V7 B7 HXV HXL HXE hy b7 h6
        go_wp2_with fail
        refine (records_any _ ys (A : Int) _ V8.out).mono ?_
        rintro e w8 ⟨a8, n8, c8, p8, m8, q8, rfl, -, -, hb8⟩
        rw [H6.out.2]
        have V9 := Wc.hid (V8.out.keep hb8)
        have B9 := Wc.hid (Wc.step B8.out (Nat.le_refl _) hb8)
        clear hb8 V8 B8
        go_wp2_with fail
        refine (oopen_any _ ys _ V9.out).mono ?_
        rintro e w9 ⟨a9, n9, c9, rfl, -, hb9⟩
        rw [H6.out.1]
        obtain ⟨s9, hs9⟩ : ∃ s9, opnS ys = s9 := ⟨_, rfl⟩
        obtain ⟨t9, ht9⟩ : ∃ t9, opnT ys = t9 := ⟨_, rfl⟩
        rw [hs9, ht9]
        have B10 := Wc.hid (Wc.step (Wc.step B9.out (Nat.le_refl _) hb9) (Nat.le_refl _) ((Below.refl w9.heap.size w9).alloc (Nat.le_refl _) (.cells #[.int .i64 s9.gen, .int .i64 s9.blocks, .int .i64 s9.root, .int .i64 s9.size, .int .i64 s9.first, .int .i64 t9, .slice a9 n9 c9] 27)))
        unfold stv
        clear hb9 hs9 ht9 V9 B9
        go_wp2_with fail
        refine (wakes_any _).mono ?_
        rintro e w10 ⟨rfl, hb10⟩
        have B11 := Wc.hid (Wc.step B10.out (Nat.le_refl _) hb10)
        clear hb10
        go_wp2_with fail
        go_ret
        exact ⟨rfl, B11.out⟩
      have q1 : ((IntKind.u64.wrap how).tmod 4 == 1) = false := by rw [beq_eq_false_iff_ne]; exact h1
      by_cases h2 : (IntKind.u64.wrap how).tmod 4 = 2
      · have q2 : ((IntKind.u64.wrap how).tmod 4 == 2) = true := by rw [h2]; rfl
        clear h0 h1 h2
        have hfin := bent_far (n := n3') (a := A) (m := m) (id := (ID : Int)) (p := 19) (q := (ID : Int) + m) (by omega) (by omega) HM.out (by omega) (by omega) (.inr rfl) rfl
        have hrec : Wr.recB ⟨19, (ID : Int) + m, 0, 0, 0, 0, 0, 0⟩ = true := Wi.bent_ok (by omega) (by omega) (by omega)
        have HFIN := Wc.hid hfin
        have HREC := Wc.hid hrec
        have bR := (Below.refl wr.heap.size wr).alloc (Nat.le_refl _) (.cells #[.int .i64 (19), .int .i64 ((ID : Int) + m), .int .i64 0, .int .i64 0, .int .i64 0, .int .i64 0, .int .i64 0, .int .i64 0] 41)
        have ⟨c0, c1, c2, c3, c4, c5, c6, c7⟩ := (Rh.new wr ⟨19, (ID : Int) + m, 0, 0, 0, 0, 0, 0⟩).rc
        simp only at c0 c1 c2 c3 c4 c5 c6 c7
        have V6 := Wc.hid (VR.out.keep bR)
        have B6 := Wc.hid (Wc.step BR.out (Nat.le_refl _) bR)
        clear hfin hrec bR
        go_wp2_with fail
        refine (bytes8_ok ⟨19, (ID : Int) + m, 0, 0, 0, 0, 0, 0⟩ _ HREC.out).mono ?_
        rintro e w6 ⟨g6, rfl, hg6, hr6, hb6⟩
        obtain ⟨X, hXe⟩ : ∃ X, Wr.blk ⟨19, (ID : Int) + m, 0, 0, 0, 0, 0, 0⟩ = X := ⟨_, rfl⟩
        have hXl : X.length = 64 := by rw [← hXe]; exact Wr.blk_length _
        have hX := hr6.bs (Wr.blk_length _) (Wr.blk_bd _)
        rw [hXe] at hX
        have HXV := Wc.hid hX
        have HXL := Wc.hid hXl
        have HXE := Wc.hid hXe
        have V7 := Wc.hid (V6.out.keep hb6)
        have B7 := Wc.hid (Wc.step B6.out (Nat.le_refl _) hb6)
        clear hr6 hb6 V6 B6 hg6 hXl hX hXe c0 c1 c2 c3 c4 c5 c6 c7 e0 e1 e2 e3 e4 e5 e6 e7
        clear em
        go_wp2_with fail
        refine (apply_ob _ _ _ _ _ _ xs [⟨1, (A : Int) + n3' - 1, X⟩] _ (V7.out.alloc _) (one_is w6 _ 64 64 _ _ HXV.out (.inr ⟨_, _, _, rfl⟩) _ rfl) (step_20 (A + m) _ _ (by have := EM.out; omega) (by omega) HXL.out)).mono ?_
        rintro e w7 ⟨g7, rfl, hg7, hO7, hb7⟩
        rw [bX_app n3' A m (ID : Int) _ ⟨19, (ID : Int) + m, 0, 0, 0, 0, 0, 0⟩ xs X HX.out HXE.out (by have := EM.out; omega)] at hO7
        obtain ⟨ys, hy⟩ : ∃ ys, Wi.bX n3' A m (ID : Int) ⟨19, (ID : Int) + m, 0, 0, 0, 0, 0, 0⟩ = ys := ⟨_, rfl⟩
        have h6 := HFIN.out
        rw [hy] at hO7 h6
        have H6 := Wc.hid h6
        have V8 := Wc.hid hO7.bs
        have b7 := Wc.step ((Below.refl w6.heap.size w6).alloc (Nat.le_refl _) (.cells #[.int .i64 1, .int .i64 ((A : Int) + n3' - 1), .slice (some ⟨g6, 0, none⟩) 64 64] 64)) (Nat.le_refl _) hb7
        have B8 := Wc.hid (Wc.step B7.out (Nat.le_refl _) b7)
        clear hO7 hb7 hg7 V7 B7 HXV HXL HXE hy b7 h6
        go_wp2_with fail
        refine (records_any _ ys (A : Int) _ V8.out).mono ?_
        rintro e w8 ⟨a8, n8, c8, p8, m8, q8, rfl, -, -, hb8⟩
        rw [H6.out.2]
        have V9 := Wc.hid (V8.out.keep hb8)
        have B9 := Wc.hid (Wc.step B8.out (Nat.le_refl _) hb8)
        clear hb8 V8 B8
        go_wp2_with fail
        refine (oopen_any _ ys _ V9.out).mono ?_
        rintro e w9 ⟨a9, n9, c9, rfl, -, hb9⟩
        rw [H6.out.1]
        obtain ⟨s9, hs9⟩ : ∃ s9, opnS ys = s9 := ⟨_, rfl⟩
        obtain ⟨t9, ht9⟩ : ∃ t9, opnT ys = t9 := ⟨_, rfl⟩
        rw [hs9, ht9]
        have B10 := Wc.hid (Wc.step (Wc.step B9.out (Nat.le_refl _) hb9) (Nat.le_refl _) ((Below.refl w9.heap.size w9).alloc (Nat.le_refl _) (.cells #[.int .i64 s9.gen, .int .i64 s9.blocks, .int .i64 s9.root, .int .i64 s9.size, .int .i64 s9.first, .int .i64 t9, .slice a9 n9 c9] 27)))
        unfold stv
        clear hb9 hs9 ht9 V9 B9
        go_wp2_with fail
        refine (wakes_any _).mono ?_
        rintro e w10 ⟨rfl, hb10⟩
        have B11 := Wc.hid (Wc.step B10.out (Nat.le_refl _) hb10)
        clear hb10
        go_wp2_with fail
        go_ret
        exact ⟨rfl, B11.out⟩
      have q2 : ((IntKind.u64.wrap how).tmod 4 == 2) = false := by rw [beq_eq_false_iff_ne]; exact h2
      clear h0 h1 h2
      by_cases h3 : n3' = 1
      · have q3 : ((n3' : Int) == 1) = true := by rw [h3]; rfl
        clear h3
        have B6 := Wc.hid (BR.out.alloc BR.out.size (.cells #[.int .i64 0, .int .i64 ((ID : Int) + m), .int .i64 0, .int .i64 0, .int .i64 0, .int .i64 0, .int .i64 0, .int .i64 0] 41))
        go_wp2_with fail
        refine (wakes_any _).mono ?_
        rintro e w10 ⟨rfl, hb10⟩
        have B11 := Wc.hid (Wc.step B6.out (Nat.le_refl _) hb10)
        clear hb10
        go_wp2_with fail
        go_ret
        exact ⟨rfl, B11.out⟩
      · have q3 : ((n3' : Int) == 1) = false := by rw [beq_eq_false_iff_ne]; omega
        have hfin := bent_twice (n := n3') (a := A) (m := m) (id := (ID : Int)) (q := (ID : Int)) (by omega) (by omega) HM.out (by have := HM.out; omega) (by omega) (by omega) rfl
        have hrec : Wr.recB ⟨0, (ID : Int), 0, 0, 0, 0, 0, 0⟩ = true := Wi.bent_ok0 (by omega) (by omega)
        have HFIN := Wc.hid hfin
        have HREC := Wc.hid hrec
        have bR := (Below.refl wr.heap.size wr).alloc (Nat.le_refl _) (.cells #[.int .i64 (0), .int .i64 ((ID : Int)), .int .i64 0, .int .i64 0, .int .i64 0, .int .i64 0, .int .i64 0, .int .i64 0] 41)
        have ⟨c0, c1, c2, c3, c4, c5, c6, c7⟩ := (Rh.new wr ⟨0, (ID : Int), 0, 0, 0, 0, 0, 0⟩).rc
        simp only at c0 c1 c2 c3 c4 c5 c6 c7
        have V6 := Wc.hid (VR.out.keep bR)
        have B6 := Wc.hid (Wc.step BR.out (Nat.le_refl _) bR)
        clear hfin hrec bR
        go_wp2_with fail
        refine (bytes8_ok ⟨0, (ID : Int), 0, 0, 0, 0, 0, 0⟩ _ HREC.out).mono ?_
        rintro e w6 ⟨g6, rfl, hg6, hr6, hb6⟩
        obtain ⟨X, hXe⟩ : ∃ X, Wr.blk ⟨0, (ID : Int), 0, 0, 0, 0, 0, 0⟩ = X := ⟨_, rfl⟩
        have hXl : X.length = 64 := by rw [← hXe]; exact Wr.blk_length _
        have hX := hr6.bs (Wr.blk_length _) (Wr.blk_bd _)
        rw [hXe] at hX
        have HXV := Wc.hid hX
        have HXL := Wc.hid hXl
        have HXE := Wc.hid hXe
        have V7 := Wc.hid (V6.out.keep hb6)
        have B7 := Wc.hid (Wc.step B6.out (Nat.le_refl _) hb6)
        clear hr6 hb6 V6 B6 hg6 hXl hX hXe c0 c1 c2 c3 c4 c5 c6 c7 e0 e1 e2 e3 e4 e5 e6 e7
        clear em
        go_wp2_with fail
        refine (apply_ob _ _ _ _ _ _ xs [⟨1, (A : Int) + n3' - 1, X⟩] _ (V7.out.alloc _) (one_is w6 _ 64 64 _ _ HXV.out (.inr ⟨_, _, _, rfl⟩) _ rfl) (step_20 (A + m) _ _ (by have := EM.out; omega) (by omega) HXL.out)).mono ?_
        rintro e w7 ⟨g7, rfl, hg7, hO7, hb7⟩
        rw [bX_app n3' A m (ID : Int) _ ⟨0, (ID : Int), 0, 0, 0, 0, 0, 0⟩ xs X HX.out HXE.out (by have := EM.out; omega)] at hO7
        obtain ⟨ys, hy⟩ : ∃ ys, Wi.bX n3' A m (ID : Int) ⟨0, (ID : Int), 0, 0, 0, 0, 0, 0⟩ = ys := ⟨_, rfl⟩
        have h6 := HFIN.out
        rw [hy] at hO7 h6
        have H6 := Wc.hid h6
        have V8 := Wc.hid hO7.bs
        have b7 := Wc.step ((Below.refl w6.heap.size w6).alloc (Nat.le_refl _) (.cells #[.int .i64 1, .int .i64 ((A : Int) + n3' - 1), .slice (some ⟨g6, 0, none⟩) 64 64] 64)) (Nat.le_refl _) hb7
        have B8 := Wc.hid (Wc.step B7.out (Nat.le_refl _) b7)
        clear hO7 hb7 hg7 V7 B7 HXV HXL HXE hy b7 h6
        go_wp2_with fail
        refine (records_any _ ys (A : Int) _ V8.out).mono ?_
        rintro e w8 ⟨a8, n8, c8, p8, m8, q8, rfl, -, -, hb8⟩
        rw [H6.out.2]
        have V9 := Wc.hid (V8.out.keep hb8)
        have B9 := Wc.hid (Wc.step B8.out (Nat.le_refl _) hb8)
        clear hb8 V8 B8
        go_wp2_with fail
        refine (oopen_any _ ys _ V9.out).mono ?_
        rintro e w9 ⟨a9, n9, c9, rfl, -, hb9⟩
        rw [H6.out.1]
        obtain ⟨s9, hs9⟩ : ∃ s9, opnS ys = s9 := ⟨_, rfl⟩
        obtain ⟨t9, ht9⟩ : ∃ t9, opnT ys = t9 := ⟨_, rfl⟩
        rw [hs9, ht9]
        have B10 := Wc.hid (Wc.step (Wc.step B9.out (Nat.le_refl _) hb9) (Nat.le_refl _) ((Below.refl w9.heap.size w9).alloc (Nat.le_refl _) (.cells #[.int .i64 s9.gen, .int .i64 s9.blocks, .int .i64 s9.root, .int .i64 s9.size, .int .i64 s9.first, .int .i64 t9, .slice a9 n9 c9] 27)))
        unfold stv
        clear hb9 hs9 ht9 V9 B9
        go_wp2_with fail
        refine (wakes_any _).mono ?_
        rintro e w10 ⟨rfl, hb10⟩
        have B11 := Wc.hid (Wc.step B10.out (Nat.le_refl _) hb10)
        clear hb10
        go_wp2_with fail
        go_ret
        exact ⟨rfl, B11.out⟩

theorem openRecs_any (z p v how : Int) (w : World) : Calls Try.prog 4 #[.int .i64 z, .int .i64 p, .int .i64 v, .int .i64 how] w fun e w' => e = .returned (.bool true) ∧ Below w.heap.size w w' := by
  obtain ⟨n, hn, eN⟩ := lowA z 10 1 (by omega) (by omega) (by omega)
  obtain ⟨A, hA, eA⟩ := lowA p 5 2 (by omega) (by omega) (by omega)
  obtain ⟨ID, hI, eI⟩ := lowA v 1000 1 (by omega) (by omega) (by omega)
  exact openRecs_x z p v how A n ID w eN eA eI (by omega) (by omega) (by omega)
end Go.Proofs.Ytifoghbacifhnaa
