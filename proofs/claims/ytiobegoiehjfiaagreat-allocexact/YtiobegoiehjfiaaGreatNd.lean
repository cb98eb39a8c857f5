/-
  AllocExact: few counts, the image does not open, fewer than none or more than there are are asked for.
-/
import Derived.Test.YtiobegoiehjfiaaGreatNb
namespace Go.Proofs.YtiobegoiehjfiaaGreat
open Go.RowKit

set_option maxRecDepth 100000 in
set_option maxHeartbeats 51200000 in
theorem allocExact_short_none_low (a : Option Addr) (n cap : Nat) (cs : List Int) (p q : Int) (ai : Option Addr) (ni ci : Nat) (xs : List Int) (w : World) (hu : Wd.In w (.slice a n cap) cs) (hsh : Wv.Shaped (.slice a n cap)) (hv : Wc.Bs w (.slice ai ni ci) xs) (hn : n ≤ 400) (hi : ni ≤ 19200) (hE : ¬ opnE xs = 0) (hp0 : p < 0) :
    Calls Tryz.prog 3 #[.slice a n cap, .int .i64 p, .int .i64 q, .slice ai ni ci] w fun e w' => e = .returned (.bool true) ∧ Below w.heap.size w w' := by
  have hh : Wd.heavyB ni [] = false := by rw [hvyX]; simp; omega
  have hl := Wv.rv_len hu
  have HL := Wc.hid hl
  have HU := Wc.hid hu
  have HSH := Wc.hid hsh
  obtain ⟨EF, hEF⟩ : ∃ z, Wl.frE cs = z := ⟨_, rfl⟩
  obtain ⟨LF, hLF⟩ : ∃ z, Wl.frL cs = z := ⟨_, rfl⟩
  obtain ⟨ET, hET⟩ : ∃ z, Wl.tkE cs p = z := ⟨_, rfl⟩
  obtain ⟨TA, hTA⟩ : ∃ z, Wl.tkA cs p = z := ⟨_, rfl⟩
  obtain ⟨TB, hTB⟩ : ∃ z, Wl.tkB cs p = z := ⟨_, rfl⟩
  obtain ⟨EM, hEM⟩ : ∃ z, Wl.movE cs q 2147483647 = z := ⟨_, rfl⟩
  obtain ⟨LM, hLM⟩ : ∃ z, Wl.movL cs q 2147483647 1 = z := ⟨_, rfl⟩
  obtain ⟨EL, hEL⟩ : ∃ z, Wl.movE cs q 0 = z := ⟨_, rfl⟩
  obtain ⟨LL, hLL⟩ : ∃ z, Wl.movL cs q 0 (-1) = z := ⟨_, rfl⟩
  have HEF := Wc.hid hEF
  have HLF := Wc.hid hLF
  have HET := Wc.hid hET
  have HTA := Wc.hid hTA
  have HTB := Wc.hid hTB
  have HEM := Wc.hid hEM
  have HLM := Wc.hid hLM
  have HEL := Wc.hid hEL
  have HLL := Wc.hid hLL
  clear hEF hLF hET hTA hTB hEM hLM hEL hLL hl hu hsh
  have hg1 : ¬ 400 < n := by omega
  have hg2 : ¬ 4106 < n := by omega
  have HS : Hid (opnS xs = Ws.s0) := Wc.hid (by unfold opnS; rw [if_neg hE])
  have HT : Hid (opnT xs = 0) := Wc.hid (by unfold opnT; rw [if_neg hE])
  obtain ⟨E, hEE⟩ : ∃ E, opnE xs = E := ⟨_, rfl⟩
  have HNE := Wc.hid hE
  rw [hEE] at hE
  have hz : (E != 0) = true := by simpa using hE
  have hz1 : (E == 0) = false := by simpa using hE
  have HV := Wc.hid hv
  have HE := Wc.hid hEE
  clear hv hEE hE
  go_enter Tryz.func3, Tryz.ntmps3
  go_wp2_with fail
  refine (heavy_raw _ _ _ _ _ _ [] _ (rwX _)).mono ?_
  rintro e w1 ⟨rfl, rfl⟩
  rw [hh]
  go_wp2_with fail
  refine (twinInts_own _ cs _ HU.out HSH.out).mono ?_
  rintro e w2 ⟨a2, n2, c2, rfl, hO, hb⟩
  obtain rfl : n2 = n := by rw [← HL.out]; exact (Wv.rv_len (val := Value.int .i64) (d := (0 : Int)) hO.rv).symm
  have I2 : Hid (Wd.In w2 (.slice a2 n2 c2) cs) := Wc.hid hO.rv
  have V2 := Wc.hid (HV.out.keep hb)
  have U2 := Wc.hid (HU.out.keep hb)
  have B2 := Wc.hid hb
  clear hO hb
  go_wp2_with fail
  refine (free13_all _ _ _ cs _ I2.out).mono ?_
  rintro e w3 ⟨a3, n3, c3, rfl, hF, hb⟩
  rw [HEF.out]
  rw [HLF.out] at hF
  have F3 := Wc.hid hF
  have I3 := Wc.hid (I2.out.keep hb)
  have V3 := Wc.hid (V2.out.keep hb)
  have U3 := Wc.hid (U2.out.keep hb)
  have B3 := Wc.hid (Wc.step B2.out (Nat.le_refl _) hb)
  clear hF hb
  go_wp2_with fail
  refine (take13_all _ _ _ cs p _ I3.out).mono ?_
  rintro e w4 ⟨a4, n4, c4, b4, m4, d4, rfl, h1, h2, hb⟩
  rw [HET.out]
  rw [HTA.out] at h1
  rw [HTB.out] at h2
  have G4 := Wc.hid h1
  have H4 := Wc.hid h2
  have I4 := Wc.hid (I3.out.keep hb)
  have V4 := Wc.hid (V3.out.keep hb)
  have U4 := Wc.hid (U3.out.keep hb)
  have F4 := Wc.hid (F3.out.keep hb)
  have B4 := Wc.hid (Wc.step B3.out (Nat.le_refl _) hb)
  clear h1 h2 hb
  go_wp2_with fail
  refine (more13_all _ _ _ cs q _ I4.out).mono ?_
  rintro e w5 ⟨a5, n5, c5, rfl, h1, hb⟩
  rw [HEM.out]
  rw [HLM.out] at h1
  have M5 := Wc.hid h1
  have I5 := Wc.hid (I4.out.keep hb)
  have V5 := Wc.hid (V4.out.keep hb)
  have U5 := Wc.hid (U4.out.keep hb)
  have F5 := Wc.hid (F4.out.keep hb)
  have G5 := Wc.hid (G4.out.keep hb)
  have H5 := Wc.hid (H4.out.keep hb)
  have B5 := Wc.hid (Wc.step B4.out (Nat.le_refl _) hb)
  clear h1 hb
  go_wp2_with fail
  refine (less13_all _ _ _ cs q _ I5.out).mono ?_
  rintro e w6 ⟨a6, n6, c6, rfl, h1, hb⟩
  rw [HEL.out]
  rw [HLL.out] at h1
  have L6 := Wc.hid h1
  have I6 := Wc.hid (I5.out.keep hb)
  have V6 := Wc.hid (V5.out.keep hb)
  have U6 := Wc.hid (U5.out.keep hb)
  have F6 := Wc.hid (F5.out.keep hb)
  have G6 := Wc.hid (G5.out.keep hb)
  have H6 := Wc.hid (H5.out.keep hb)
  have M6 := Wc.hid (M5.out.keep hb)
  have B6 := Wc.hid (Wc.step B5.out (Nat.le_refl _) hb)
  clear h1 hb
  go_wp2_with fail
  refine (left13_any _ xs _ V6.out).mono ?_
  rintro e w7 ⟨hb, -, hy⟩
  obtain rfl := hy HNE.out
  rw [HE.out]
  have I7 := Wc.hid (I6.out.keep hb)
  have V7 := Wc.hid (V6.out.keep hb)
  have U7 := Wc.hid (U6.out.keep hb)
  have F7 := Wc.hid (F6.out.keep hb)
  have G7 := Wc.hid (G6.out.keep hb)
  have H7 := Wc.hid (H6.out.keep hb)
  have M7 := Wc.hid (M6.out.keep hb)
  have L7 := Wc.hid (L6.out.keep hb)
  have B7 := Wc.hid (Wc.step B6.out (Nat.le_refl _) hb)
  clear hy hb
  go_wp2_with fail
  refine (refOpen_full _ xs _ V7.out).mono ?_
  rintro e w8 ⟨a8, n8, c8, a9, n9, c9, a10, n10, c10, a11, n11, c11, k7, rfl, hR, hb, hmore⟩
  rw [HS.out, HT.out, HE.out]
  have bA : Below w8.heap.size w8 (w8.alloc (.cells #[.int .i64 Ws.s0.gen, .int .i64 Ws.s0.blocks, .int .i64 Ws.s0.root, .int .i64 Ws.s0.size, .int .i64 Ws.s0.first, .int .i64 0, .slice a8 n8 c8, .slice a9 n9 c9, .slice a10 n10 c10, .slice a11 n11 c11] 41)) := (Below.refl _ _).alloc (Nat.le_refl _) _
  have bF : Below (w8.alloc (.cells #[.int .i64 Ws.s0.gen, .int .i64 Ws.s0.blocks, .int .i64 Ws.s0.root, .int .i64 Ws.s0.size, .int .i64 Ws.s0.first, .int .i64 0, .slice a8 n8 c8, .slice a9 n9 c9, .slice a10 n10 c10, .slice a11 n11 c11] 41)).heap.size (w8.alloc (.cells #[.int .i64 Ws.s0.gen, .int .i64 Ws.s0.blocks, .int .i64 Ws.s0.root, .int .i64 Ws.s0.size, .int .i64 Ws.s0.first, .int .i64 0, .slice a8 n8 c8, .slice a9 n9 c9, .slice a10 n10 c10, .slice a11 n11 c11] 41)) ((w8.alloc (.cells #[.int .i64 Ws.s0.gen, .int .i64 Ws.s0.blocks, .int .i64 Ws.s0.root, .int .i64 Ws.s0.size, .int .i64 Ws.s0.first, .int .i64 0, .slice a8 n8 c8, .slice a9 n9 c9, .slice a10 n10 c10, .slice a11 n11 c11] 41)).alloc (.cells #[.int .i64 k7, .int .i64 E] 43)) := (Below.refl _ _).alloc (Nat.le_refl _) _
  have bAF := Wc.step bA (Nat.le_refl _) bF
  have hF := Fh.new (w8.alloc (.cells #[.int .i64 Ws.s0.gen, .int .i64 Ws.s0.blocks, .int .i64 Ws.s0.root, .int .i64 Ws.s0.size, .int .i64 Ws.s0.first, .int .i64 0, .slice a8 n8 c8, .slice a9 n9 c9, .slice a10 n10 c10, .slice a11 n11 c11] 41)) k7 E
  rw [show (w8.alloc (.cells #[.int .i64 Ws.s0.gen, .int .i64 Ws.s0.blocks, .int .i64 Ws.s0.root, .int .i64 Ws.s0.size, .int .i64 Ws.s0.first, .int .i64 0, .slice a8 n8 c8, .slice a9 n9 c9, .slice a10 n10 c10, .slice a11 n11 c11] 41)).heap.size = w8.heap.size + 1 by simp] at hF
  obtain ⟨f0, f1, -⟩ := hF.fc
  have HF := Wc.hid hF
  have hb' := Wc.step hb (Nat.le_refl _) bAF
  have I8 := Wc.hid (I7.out.keep hb')
  have V8 := Wc.hid (V7.out.keep hb')
  have U8 := Wc.hid (U7.out.keep hb')
  have F8 := Wc.hid (F7.out.keep hb')
  have G8 := Wc.hid (G7.out.keep hb')
  have H8 := Wc.hid (H7.out.keep hb')
  have M8 := Wc.hid (M7.out.keep hb')
  have L8 := Wc.hid (L7.out.keep hb')
  have B8 := Wc.hid (Wc.step B7.out (Nat.le_refl _) hb')
  clear hmore bA bF bAF hF hb hb' hR
  unfold imv
  have hee : (E == E) = true := beq_self_eq_true E
  go_wp2_with fail
  refine (ints_any _ _ _ _ _ I8.out U8.out).mono ?_
  rintro e w9 ⟨rfl, hb⟩
  rw [beq_self_eq_true]
  have U9 := Wc.hid (U8.out.keep hb)
  have F9 := Wc.hid (F8.out.keep hb)
  have G9 := Wc.hid (G8.out.keep hb)
  have H9 := Wc.hid (H8.out.keep hb)
  have M9 := Wc.hid (M8.out.keep hb)
  have L9 := Wc.hid (L8.out.keep hb)
  have B9 := Wc.hid (Wc.step B8.out (Nat.le_refl _) hb)
  clear hb f0 f1
  obtain rfl : ET = 1 := by rw [← HET.out]; exact Wl.tkE_low (by omega)
  have e1 : TA = [] := by rw [← HTA.out]; unfold Wl.tkA; rw [if_neg (by rw [HET.out]; decide)]
  have e2 : TB = [] := by rw [← HTB.out]; unfold Wl.tkB; rw [if_neg (by rw [HET.out]; decide)]
  obtain rfl : n4 = 0 := (Wv.rv_len (val := Value.int .i64) (d := (0 : Int)) (by have h := G9.out; rw [e1] at h; exact h)).symm
  obtain rfl : m4 = 0 := (Wv.rv_len (val := Value.int .i64) (d := (0 : Int)) (by have h := H9.out; rw [e2] at h; exact h)).symm
  clear e1 e2
  go_wp2_with fail
  refine (refRight_any _ _ _ cs _ U9.out).mono ?_
  rintro e w10 ⟨rfl, rfl⟩
  by_cases hokk : Wl.okC cs = true
  · have HOK := Wc.hid hokk
    clear hokk
    have hok := HOK.out
    obtain rfl : EF = 0 := by rw [← HEF.out]; unfold Wl.frE; rw [hok]; rfl
    have e1 : LF = Wl.fre cs n2 := by rw [← HLF.out]; unfold Wl.frL; rw [hok, HL.out]; rfl
    subst e1
    rw [hok]
    clear hok
    go_wp2_with fail
    refine (refFree_any _ _ _ _ _ U9.out (by omega)).mono ?_
    rintro e w10 ⟨a20, n20, c20, rfl, hO, hb⟩
    have K10 := Wc.hid hO
    have U10 := Wc.hid (U9.out.keep hb)
    have F10 := Wc.hid (F9.out.keep hb)
    have M10 := Wc.hid (M9.out.keep hb)
    have L10 := Wc.hid (L9.out.keep hb)
    have B10 := Wc.hid (Wc.step B9.out (Nat.le_refl _) hb)
    clear hO hb
    go_wp2_with fail
    refine (ints_any _ _ _ _ _ F10.out K10.out).mono ?_
    rintro e w11 ⟨rfl, hb⟩
    rw [beq_self_eq_true]
    have U11 := Wc.hid (U10.out.keep hb)
    have M11 := Wc.hid (M10.out.keep hb)
    have L11 := Wc.hid (L10.out.keep hb)
    have B11 := Wc.hid (Wc.step B10.out (Nat.le_refl _) hb)
    clear hb
    by_cases hq0 : q < 0
    · obtain rfl : EM = 3 := by rw [← HEM.out]; exact Wl.movE_far HOK.out (.inl hq0)
      obtain rfl : EL = 3 := by rw [← HEL.out]; exact Wl.movE_far HOK.out (.inl hq0)
      have en5 : LM = [] := by rw [← HLM.out]; exact Wl.movL_no (by rw [HEM.out]; decide)
      obtain rfl : n5 = 0 := (Wv.rv_len (val := Value.int .i64) (d := (0 : Int)) (by have h := M11.out; rw [en5] at h; exact h)).symm
      clear en5
      have en6 : LL = [] := by rw [← HLL.out]; exact Wl.movL_no (by rw [HEL.out]; decide)
      obtain rfl : n6 = 0 := (Wv.rv_len (val := Value.int .i64) (d := (0 : Int)) (by have h := L11.out; rw [en6] at h; exact h)).symm
      clear en6
      go_wp2_with fail
      refine (wakes_any _).mono ?_
      rintro e w12 ⟨rfl, hb⟩
      have B12 := Wc.hid (Wc.step B11.out (Nat.le_refl _) hb)
      clear hb
      go_wp2_with fail
      go_ret
      exact ⟨rfl, B12.out⟩
    by_cases hq1 : (n2 : Int) ≤ q
    · obtain rfl : EM = 3 := by rw [← HEM.out]; exact Wl.movE_far HOK.out (.inr (by rw [HL.out]; exact hq1))
      obtain rfl : EL = 3 := by rw [← HEL.out]; exact Wl.movE_far HOK.out (.inr (by rw [HL.out]; exact hq1))
      have en5 : LM = [] := by rw [← HLM.out]; exact Wl.movL_no (by rw [HEM.out]; decide)
      obtain rfl : n5 = 0 := (Wv.rv_len (val := Value.int .i64) (d := (0 : Int)) (by have h := M11.out; rw [en5] at h; exact h)).symm
      clear en5
      have en6 : LL = [] := by rw [← HLL.out]; exact Wl.movL_no (by rw [HEL.out]; decide)
      obtain rfl : n6 = 0 := (Wv.rv_len (val := Value.int .i64) (d := (0 : Int)) (by have h := L11.out; rw [en6] at h; exact h)).symm
      clear en6
      go_wp2_with fail
      refine (wakes_any _).mono ?_
      rintro e w12 ⟨rfl, hb⟩
      have B12 := Wc.hid (Wc.step B11.out (Nat.le_refl _) hb)
      clear hb
      go_wp2_with fail
      go_ret
      exact ⟨rfl, B12.out⟩
    obtain ⟨Q, rfl⟩ : ∃ Q : Nat, q = Q := ⟨q.toNat, by omega⟩
    have hQ : Q < n2 := by omega
    obtain ⟨x, hx⟩ : ∃ x, cs.getD Q 0 = x := ⟨_, rfl⟩
    have hxb := Wl.okC_at HOK.out (k := Q) (by rw [HL.out]; exact hQ)
    rw [hx] at hxb
    have HX := Wc.hid hx
    have HM1 : Hid (EM = if x = 2147483647 then 1 else 0) := Wc.hid (by rw [← HEM.out, Wl.movE_at HOK.out (by rw [HL.out]; omega), Int.toNat_natCast, HX.out])
    have HL1 : Hid (EL = if x = 0 then 1 else 0) := Wc.hid (by rw [← HEL.out, Wl.movE_at HOK.out (by rw [HL.out]; omega), Int.toNat_natCast, HX.out])
    clear hx
    go_wp2_with fail
    refine (twinInts_own _ cs _ U11.out HSH.out).mono ?_
    rintro e w12 ⟨ya, yn, yc, rfl, hO, hb⟩
    obtain ⟨gy, cy, he, hgy⟩ := ov_form hO (by rw [HL.out]; omega)
    rw [HL.out] at he
    cases he
    have Y12 := Wc.hid hO
    have hgy2 : gy < w12.heap.size := ov_lt hO
    have U12 := Wc.hid (U11.out.keep hb)
    have M12 := Wc.hid (M11.out.keep hb)
    have L12 := Wc.hid (L11.out.keep hb)
    have B12 := Wc.hid (Wc.step B11.out (Nat.le_refl _) hb)
    have SZ1 := Wc.hid hb.size
    have DA := Wc.hid hb
    clear hO hb
    go_wp2_with fail
    refine (twinInts_own _ cs _ U12.out HSH.out).mono ?_
    rintro e w13 ⟨za, zn, zc, rfl, hO, hb⟩
    obtain ⟨gz, cz, he, hgz⟩ := ov_form hO (by rw [HL.out]; omega)
    rw [HL.out] at he
    cases he
    have hne : gy ≠ gz := by omega
    have hne' : gz ≠ gy := by omega
    have hgz' : w11.heap.size ≤ gz := Nat.le_trans SZ1.out hgz
    have hYk := Y12.out.keep hb
    have y1 := (Wv.rv_cells (val := Value.int .i64) (d := (0 : Int)) hYk.rv (by omega)).2 Q hQ
    have z1 := (Wv.rv_cells (val := Value.int .i64) (d := (0 : Int)) hO.rv (by omega)).2 Q hQ
    rw [Nat.zero_add, HX.out] at y1 z1
    have y2 := ov_frozen Q hYk
    have z2 := ov_frozen Q hO
    have DB := Wc.hid (Wc.step DA.out (Nat.le_refl _) hb)
    have Y13 := Wc.hid hYk
    have Z13 := Wc.hid hO
    have U13 := Wc.hid (U12.out.keep hb)
    have M13 := Wc.hid (M12.out.keep hb)
    have L13 := Wc.hid (L12.out.keep hb)
    have B13 := Wc.hid (Wc.step B12.out (Nat.le_refl _) hb)
    clear hO hb hYk
    obtain ⟨bu, ou, rfl, u1⟩ := in_cell U13.out hQ
    rw [HX.out] at u1
    go_wp2_with fail
    clear u1
    have u1 := in_cell U13.out hQ
    obtain ⟨_, _, he, u1⟩ := u1
    cases he
    rw [HX.out] at u1
    go_region_with (fail)
    all_goals
      rw [wrapS (x + 1) (by omega), wrapS (x - 1) (by omega)]
      have hYs := ov_set Q Y13.out (x + 1)
      have hYk := ov_other (Q := Q) (z := .int .i64 (x - 1)) hYs hne
      have hZk := ov_other (Q := Q) (z := .int .i64 (x + 1)) Z13.out hne'
      have hZs := ov_set Q hZk (x - 1)
      have YF : Hid (Wd.In _ _ (cs.set Q (x + 1))) := Wc.hid (hYk.keep (show_drew (Below.refl _ _))).rv
      have ZF : Hid (Wd.In _ _ (cs.set Q (x - 1))) := Wc.hid (hZs.keep (show_drew (Below.refl _ _))).rv
      have bS := show_drew (Below.setCell (Below.setCell DB.out (p := ⟨gy, Q, none⟩) hgy (.int .i64 (x + 1))) (p := ⟨gz, Q, none⟩) hgz' (.int .i64 (x - 1)))
      have UF := Wc.hid (U11.out.keep bS)
      have MF := Wc.hid (M11.out.keep bS)
      have LF' := Wc.hid (L11.out.keep bS)
      have BF := Wc.hid (Wc.step B11.out (Nat.le_refl _) bS)
      clear hYs hYk hZk hZs bS u1 y1 y2 z1 z2
      generalize ((w13.setCell ⟨gy, Q, none⟩ (.int .i64 (x + 1))).setCell ⟨gz, Q, none⟩ (.int .i64 (x - 1))).drew = WF at YF ZF UF MF LF' BF ⊢
      obtain ⟨_, _, he, u1⟩ := in_cell UF.out hQ
      cases he
      rw [HX.out] at u1
      by_cases htop : x = 2147483647
      · subst htop
        obtain rfl : EM = 1 := by rw [HM1.out, if_pos rfl]
        obtain rfl : EL = 0 := by rw [HL1.out, if_neg (by decide)]
        have e1 : LM = [] := by rw [← HLM.out]; exact Wl.movL_no (by rw [HEM.out]; decide)
        obtain rfl : n5 = 0 := (Wv.rv_len (val := Value.int .i64) (d := (0 : Int)) (by have h := MF.out; rw [e1] at h; exact h)).symm
        have e2 : LL = cs.set Q (2147483647 - 1) := by rw [← HLL.out, Wl.movL_yes HEL.out, Int.toNat_natCast, HX.out]; rfl
        subst e2
        clear e1
        go_wp2_with fail
        refine (ints_any _ _ _ _ _ LF'.out ZF.out).mono ?_
        rintro e w40 ⟨rfl, hb⟩
        rw [beq_self_eq_true]
        have BE := Wc.hid (Wc.step BF.out (Nat.le_refl _) hb)
        clear hb
        go_wp2_with fail
        refine (wakes_any _).mono ?_
        rintro e w50 ⟨rfl, hb⟩
        have BG := Wc.hid (Wc.step BE.out (Nat.le_refl _) hb)
        clear hb
        go_wp2_with fail
        go_ret
        exact ⟨rfl, BG.out⟩
      by_cases hzero : x = 0
      · subst hzero
        obtain rfl : EM = 0 := by rw [HM1.out, if_neg (by decide)]
        obtain rfl : EL = 1 := by rw [HL1.out, if_pos rfl]
        have e1 : LL = [] := by rw [← HLL.out]; exact Wl.movL_no (by rw [HEL.out]; decide)
        obtain rfl : n6 = 0 := (Wv.rv_len (val := Value.int .i64) (d := (0 : Int)) (by have h := LF'.out; rw [e1] at h; exact h)).symm
        have e2 : LM = cs.set Q (0 + 1) := by rw [← HLM.out, Wl.movL_yes HEM.out, Int.toNat_natCast, HX.out]
        subst e2
        clear e1
        go_wp2_with fail
        refine (ints_any _ _ _ _ _ MF.out YF.out).mono ?_
        rintro e w40 ⟨rfl, hb⟩
        rw [beq_self_eq_true]
        have BE := Wc.hid (Wc.step BF.out (Nat.le_refl _) hb)
        clear hb
        go_wp2_with fail
        refine (wakes_any _).mono ?_
        rintro e w50 ⟨rfl, hb⟩
        have BG := Wc.hid (Wc.step BE.out (Nat.le_refl _) hb)
        clear hb
        go_wp2_with fail
        go_ret
        exact ⟨rfl, BG.out⟩
      obtain rfl : EM = 0 := by rw [HM1.out, if_neg htop]
      obtain rfl : EL = 0 := by rw [HL1.out, if_neg hzero]
      have e1 : LL = cs.set Q (x - 1) := by rw [← HLL.out, Wl.movL_yes HEL.out, Int.toNat_natCast, HX.out]; rfl
      have e2 : LM = cs.set Q (x + 1) := by rw [← HLM.out, Wl.movL_yes HEM.out, Int.toNat_natCast, HX.out]
      subst e1 e2
      have hx1 : x < 2147483647 := by omega
      have hx2 : 0 < x := by omega
      clear htop hzero
      go_wp2_with fail
      refine (ints_any _ _ _ _ _ MF.out YF.out).mono ?_
      rintro e w40 ⟨rfl, hb⟩
      rw [beq_self_eq_true]
      have LG := Wc.hid (LF'.out.keep hb)
      have ZG := Wc.hid (ZF.out.keep hb)
      have BH := Wc.hid (Wc.step BF.out (Nat.le_refl _) hb)
      clear hb
      go_wp2_with fail
      refine (ints_any _ _ _ _ _ LG.out ZG.out).mono ?_
      rintro e w41 ⟨rfl, hb⟩
      rw [beq_self_eq_true]
      have BE := Wc.hid (Wc.step BH.out (Nat.le_refl _) hb)
      clear hb
      go_wp2_with fail
      refine (wakes_any _).mono ?_
      rintro e w50 ⟨rfl, hb⟩
      have BG := Wc.hid (Wc.step BE.out (Nat.le_refl _) hb)
      clear hb
      go_wp2_with fail
      go_ret
      exact ⟨rfl, BG.out⟩
  · have HBAD := Wc.hid (by simpa using hokk : Wl.okC cs = false)
    clear hokk
    have hbad := HBAD.out
    obtain rfl : EF = 1 := by rw [← HEF.out]; unfold Wl.frE; rw [hbad]; rfl
    obtain rfl : EM = 1 := by rw [← HEM.out]; exact Wl.movE_bad hbad
    obtain rfl : EL = 1 := by rw [← HEL.out]; exact Wl.movE_bad hbad
    have e1 : LF = [] := by rw [← HLF.out]; unfold Wl.frL; rw [hbad]; rfl
    have e2 : LM = [] := by rw [← HLM.out]; exact Wl.movL_no (by rw [HEM.out]; decide)
    have e3 : LL = [] := by rw [← HLL.out]; exact Wl.movL_no (by rw [HEL.out]; decide)
    obtain rfl : n3 = 0 := (Wv.rv_len (val := Value.int .i64) (d := (0 : Int)) (by have h := F9.out; rw [e1] at h; exact h)).symm
    obtain rfl : n5 = 0 := (Wv.rv_len (val := Value.int .i64) (d := (0 : Int)) (by have h := M9.out; rw [e2] at h; exact h)).symm
    obtain rfl : n6 = 0 := (Wv.rv_len (val := Value.int .i64) (d := (0 : Int)) (by have h := L9.out; rw [e3] at h; exact h)).symm
    clear e1 e2 e3
    rw [hbad]
    clear hbad
    go_wp2_with fail
    refine (wakes_any _).mono ?_
    rintro e w10 ⟨rfl, hb⟩
    have B10 := Wc.hid (Wc.step B9.out (Nat.le_refl _) hb)
    clear hb
    go_wp2_with fail
    go_ret
    exact ⟨rfl, B10.out⟩

set_option maxRecDepth 100000 in
set_option maxHeartbeats 51200000 in
theorem allocExact_short_none_far (a : Option Addr) (n cap : Nat) (cs : List Int) (p q : Int) (ai : Option Addr) (ni ci : Nat) (xs : List Int) (w : World) (hu : Wd.In w (.slice a n cap) cs) (hsh : Wv.Shaped (.slice a n cap)) (hv : Wc.Bs w (.slice ai ni ci) xs) (hn : n ≤ 400) (hi : ni ≤ 19200) (hE : ¬ opnE xs = 0) (hp0 : ¬ p < 0) (hp1 : (n : Int) < p) :
    Calls Tryz.prog 3 #[.slice a n cap, .int .i64 p, .int .i64 q, .slice ai ni ci] w fun e w' => e = .returned (.bool true) ∧ Below w.heap.size w w' := by
  have hh : Wd.heavyB ni [] = false := by rw [hvyX]; simp; omega
  have hl := Wv.rv_len hu
  have HL := Wc.hid hl
  have HU := Wc.hid hu
  have HSH := Wc.hid hsh
  obtain ⟨EF, hEF⟩ : ∃ z, Wl.frE cs = z := ⟨_, rfl⟩
  obtain ⟨LF, hLF⟩ : ∃ z, Wl.frL cs = z := ⟨_, rfl⟩
  obtain ⟨ET, hET⟩ : ∃ z, Wl.tkE cs p = z := ⟨_, rfl⟩
  obtain ⟨TA, hTA⟩ : ∃ z, Wl.tkA cs p = z := ⟨_, rfl⟩
  obtain ⟨TB, hTB⟩ : ∃ z, Wl.tkB cs p = z := ⟨_, rfl⟩
  obtain ⟨EM, hEM⟩ : ∃ z, Wl.movE cs q 2147483647 = z := ⟨_, rfl⟩
  obtain ⟨LM, hLM⟩ : ∃ z, Wl.movL cs q 2147483647 1 = z := ⟨_, rfl⟩
  obtain ⟨EL, hEL⟩ : ∃ z, Wl.movE cs q 0 = z := ⟨_, rfl⟩
  obtain ⟨LL, hLL⟩ : ∃ z, Wl.movL cs q 0 (-1) = z := ⟨_, rfl⟩
  have HEF := Wc.hid hEF
  have HLF := Wc.hid hLF
  have HET := Wc.hid hET
  have HTA := Wc.hid hTA
  have HTB := Wc.hid hTB
  have HEM := Wc.hid hEM
  have HLM := Wc.hid hLM
  have HEL := Wc.hid hEL
  have HLL := Wc.hid hLL
  clear hEF hLF hET hTA hTB hEM hLM hEL hLL hl hu hsh
  have hg1 : ¬ 400 < n := by omega
  have hg2 : ¬ 4106 < n := by omega
  have HS : Hid (opnS xs = Ws.s0) := Wc.hid (by unfold opnS; rw [if_neg hE])
  have HT : Hid (opnT xs = 0) := Wc.hid (by unfold opnT; rw [if_neg hE])
  obtain ⟨E, hEE⟩ : ∃ E, opnE xs = E := ⟨_, rfl⟩
  have HNE := Wc.hid hE
  rw [hEE] at hE
  have hz : (E != 0) = true := by simpa using hE
  have hz1 : (E == 0) = false := by simpa using hE
  have HV := Wc.hid hv
  have HE := Wc.hid hEE
  clear hv hEE hE
  go_enter Tryz.func3, Tryz.ntmps3
  go_wp2_with fail
  refine (heavy_raw _ _ _ _ _ _ [] _ (rwX _)).mono ?_
  rintro e w1 ⟨rfl, rfl⟩
  rw [hh]
  go_wp2_with fail
  refine (twinInts_own _ cs _ HU.out HSH.out).mono ?_
  rintro e w2 ⟨a2, n2, c2, rfl, hO, hb⟩
  obtain rfl : n2 = n := by rw [← HL.out]; exact (Wv.rv_len (val := Value.int .i64) (d := (0 : Int)) hO.rv).symm
  have I2 : Hid (Wd.In w2 (.slice a2 n2 c2) cs) := Wc.hid hO.rv
  have V2 := Wc.hid (HV.out.keep hb)
  have U2 := Wc.hid (HU.out.keep hb)
  have B2 := Wc.hid hb
  clear hO hb
  go_wp2_with fail
  refine (free13_all _ _ _ cs _ I2.out).mono ?_
  rintro e w3 ⟨a3, n3, c3, rfl, hF, hb⟩
  rw [HEF.out]
  rw [HLF.out] at hF
  have F3 := Wc.hid hF
  have I3 := Wc.hid (I2.out.keep hb)
  have V3 := Wc.hid (V2.out.keep hb)
  have U3 := Wc.hid (U2.out.keep hb)
  have B3 := Wc.hid (Wc.step B2.out (Nat.le_refl _) hb)
  clear hF hb
  go_wp2_with fail
  refine (take13_all _ _ _ cs p _ I3.out).mono ?_
  rintro e w4 ⟨a4, n4, c4, b4, m4, d4, rfl, h1, h2, hb⟩
  rw [HET.out]
  rw [HTA.out] at h1
  rw [HTB.out] at h2
  have G4 := Wc.hid h1
  have H4 := Wc.hid h2
  have I4 := Wc.hid (I3.out.keep hb)
  have V4 := Wc.hid (V3.out.keep hb)
  have U4 := Wc.hid (U3.out.keep hb)
  have F4 := Wc.hid (F3.out.keep hb)
  have B4 := Wc.hid (Wc.step B3.out (Nat.le_refl _) hb)
  clear h1 h2 hb
  go_wp2_with fail
  refine (more13_all _ _ _ cs q _ I4.out).mono ?_
  rintro e w5 ⟨a5, n5, c5, rfl, h1, hb⟩
  rw [HEM.out]
  rw [HLM.out] at h1
  have M5 := Wc.hid h1
  have I5 := Wc.hid (I4.out.keep hb)
  have V5 := Wc.hid (V4.out.keep hb)
  have U5 := Wc.hid (U4.out.keep hb)
  have F5 := Wc.hid (F4.out.keep hb)
  have G5 := Wc.hid (G4.out.keep hb)
  have H5 := Wc.hid (H4.out.keep hb)
  have B5 := Wc.hid (Wc.step B4.out (Nat.le_refl _) hb)
  clear h1 hb
  go_wp2_with fail
  refine (less13_all _ _ _ cs q _ I5.out).mono ?_
  rintro e w6 ⟨a6, n6, c6, rfl, h1, hb⟩
  rw [HEL.out]
  rw [HLL.out] at h1
  have L6 := Wc.hid h1
  have I6 := Wc.hid (I5.out.keep hb)
  have V6 := Wc.hid (V5.out.keep hb)
  have U6 := Wc.hid (U5.out.keep hb)
  have F6 := Wc.hid (F5.out.keep hb)
  have G6 := Wc.hid (G5.out.keep hb)
  have H6 := Wc.hid (H5.out.keep hb)
  have M6 := Wc.hid (M5.out.keep hb)
  have B6 := Wc.hid (Wc.step B5.out (Nat.le_refl _) hb)
  clear h1 hb
  go_wp2_with fail
  refine (left13_any _ xs _ V6.out).mono ?_
  rintro e w7 ⟨hb, -, hy⟩
  obtain rfl := hy HNE.out
  rw [HE.out]
  have I7 := Wc.hid (I6.out.keep hb)
  have V7 := Wc.hid (V6.out.keep hb)
  have U7 := Wc.hid (U6.out.keep hb)
  have F7 := Wc.hid (F6.out.keep hb)
  have G7 := Wc.hid (G6.out.keep hb)
  have H7 := Wc.hid (H6.out.keep hb)
  have M7 := Wc.hid (M6.out.keep hb)
  have L7 := Wc.hid (L6.out.keep hb)
  have B7 := Wc.hid (Wc.step B6.out (Nat.le_refl _) hb)
  clear hy hb
  go_wp2_with fail
  refine (refOpen_full _ xs _ V7.out).mono ?_
  rintro e w8 ⟨a8, n8, c8, a9, n9, c9, a10, n10, c10, a11, n11, c11, k7, rfl, hR, hb, hmore⟩
  rw [HS.out, HT.out, HE.out]
  have bA : Below w8.heap.size w8 (w8.alloc (.cells #[.int .i64 Ws.s0.gen, .int .i64 Ws.s0.blocks, .int .i64 Ws.s0.root, .int .i64 Ws.s0.size, .int .i64 Ws.s0.first, .int .i64 0, .slice a8 n8 c8, .slice a9 n9 c9, .slice a10 n10 c10, .slice a11 n11 c11] 41)) := (Below.refl _ _).alloc (Nat.le_refl _) _
  have bF : Below (w8.alloc (.cells #[.int .i64 Ws.s0.gen, .int .i64 Ws.s0.blocks, .int .i64 Ws.s0.root, .int .i64 Ws.s0.size, .int .i64 Ws.s0.first, .int .i64 0, .slice a8 n8 c8, .slice a9 n9 c9, .slice a10 n10 c10, .slice a11 n11 c11] 41)).heap.size (w8.alloc (.cells #[.int .i64 Ws.s0.gen, .int .i64 Ws.s0.blocks, .int .i64 Ws.s0.root, .int .i64 Ws.s0.size, .int .i64 Ws.s0.first, .int .i64 0, .slice a8 n8 c8, .slice a9 n9 c9, .slice a10 n10 c10, .slice a11 n11 c11] 41)) ((w8.alloc (.cells #[.int .i64 Ws.s0.gen, .int .i64 Ws.s0.blocks, .int .i64 Ws.s0.root, .int .i64 Ws.s0.size, .int .i64 Ws.s0.first, .int .i64 0, .slice a8 n8 c8, .slice a9 n9 c9, .slice a10 n10 c10, .slice a11 n11 c11] 41)).alloc (.cells #[.int .i64 k7, .int .i64 E] 43)) := (Below.refl _ _).alloc (Nat.le_refl _) _
  have bAF := Wc.step bA (Nat.le_refl _) bF
  have hF := Fh.new (w8.alloc (.cells #[.int .i64 Ws.s0.gen, .int .i64 Ws.s0.blocks, .int .i64 Ws.s0.root, .int .i64 Ws.s0.size, .int .i64 Ws.s0.first, .int .i64 0, .slice a8 n8 c8, .slice a9 n9 c9, .slice a10 n10 c10, .slice a11 n11 c11] 41)) k7 E
  rw [show (w8.alloc (.cells #[.int .i64 Ws.s0.gen, .int .i64 Ws.s0.blocks, .int .i64 Ws.s0.root, .int .i64 Ws.s0.size, .int .i64 Ws.s0.first, .int .i64 0, .slice a8 n8 c8, .slice a9 n9 c9, .slice a10 n10 c10, .slice a11 n11 c11] 41)).heap.size = w8.heap.size + 1 by simp] at hF
  obtain ⟨f0, f1, -⟩ := hF.fc
  have HF := Wc.hid hF
  have hb' := Wc.step hb (Nat.le_refl _) bAF
  have I8 := Wc.hid (I7.out.keep hb')
  have V8 := Wc.hid (V7.out.keep hb')
  have U8 := Wc.hid (U7.out.keep hb')
  have F8 := Wc.hid (F7.out.keep hb')
  have G8 := Wc.hid (G7.out.keep hb')
  have H8 := Wc.hid (H7.out.keep hb')
  have M8 := Wc.hid (M7.out.keep hb')
  have L8 := Wc.hid (L7.out.keep hb')
  have B8 := Wc.hid (Wc.step B7.out (Nat.le_refl _) hb')
  clear hmore bA bF bAF hF hb hb' hR
  unfold imv
  have hee : (E == E) = true := beq_self_eq_true E
  go_wp2_with fail
  refine (ints_any _ _ _ _ _ I8.out U8.out).mono ?_
  rintro e w9 ⟨rfl, hb⟩
  rw [beq_self_eq_true]
  have U9 := Wc.hid (U8.out.keep hb)
  have F9 := Wc.hid (F8.out.keep hb)
  have G9 := Wc.hid (G8.out.keep hb)
  have H9 := Wc.hid (H8.out.keep hb)
  have M9 := Wc.hid (M8.out.keep hb)
  have L9 := Wc.hid (L8.out.keep hb)
  have B9 := Wc.hid (Wc.step B8.out (Nat.le_refl _) hb)
  clear hb f0 f1
  obtain rfl : ET = 9 := by rw [← HET.out]; exact Wl.tkE_far (by omega) (by rw [HL.out]; omega)
  have e1 : TA = [] := by rw [← HTA.out]; unfold Wl.tkA; rw [if_neg (by rw [HET.out]; decide)]
  have e2 : TB = [] := by rw [← HTB.out]; unfold Wl.tkB; rw [if_neg (by rw [HET.out]; decide)]
  obtain rfl : n4 = 0 := (Wv.rv_len (val := Value.int .i64) (d := (0 : Int)) (by have h := G9.out; rw [e1] at h; exact h)).symm
  obtain rfl : m4 = 0 := (Wv.rv_len (val := Value.int .i64) (d := (0 : Int)) (by have h := H9.out; rw [e2] at h; exact h)).symm
  clear e1 e2
  go_wp2_with fail
  refine (refRight_any _ _ _ cs _ U9.out).mono ?_
  rintro e w10 ⟨rfl, rfl⟩
  by_cases hokk : Wl.okC cs = true
  · have HOK := Wc.hid hokk
    clear hokk
    have hok := HOK.out
    obtain rfl : EF = 0 := by rw [← HEF.out]; unfold Wl.frE; rw [hok]; rfl
    have e1 : LF = Wl.fre cs n2 := by rw [← HLF.out]; unfold Wl.frL; rw [hok, HL.out]; rfl
    subst e1
    rw [hok]
    clear hok
    go_wp2_with fail
    refine (refFree_any _ _ _ _ _ U9.out (by omega)).mono ?_
    rintro e w10 ⟨a20, n20, c20, rfl, hO, hb⟩
    have K10 := Wc.hid hO
    have U10 := Wc.hid (U9.out.keep hb)
    have F10 := Wc.hid (F9.out.keep hb)
    have M10 := Wc.hid (M9.out.keep hb)
    have L10 := Wc.hid (L9.out.keep hb)
    have B10 := Wc.hid (Wc.step B9.out (Nat.le_refl _) hb)
    clear hO hb
    go_wp2_with fail
    refine (ints_any _ _ _ _ _ F10.out K10.out).mono ?_
    rintro e w11 ⟨rfl, hb⟩
    rw [beq_self_eq_true]
    have U11 := Wc.hid (U10.out.keep hb)
    have M11 := Wc.hid (M10.out.keep hb)
    have L11 := Wc.hid (L10.out.keep hb)
    have B11 := Wc.hid (Wc.step B10.out (Nat.le_refl _) hb)
    clear hb
    by_cases hq0 : q < 0
    · obtain rfl : EM = 3 := by rw [← HEM.out]; exact Wl.movE_far HOK.out (.inl hq0)
      obtain rfl : EL = 3 := by rw [← HEL.out]; exact Wl.movE_far HOK.out (.inl hq0)
      have en5 : LM = [] := by rw [← HLM.out]; exact Wl.movL_no (by rw [HEM.out]; decide)
      obtain rfl : n5 = 0 := (Wv.rv_len (val := Value.int .i64) (d := (0 : Int)) (by have h := M11.out; rw [en5] at h; exact h)).symm
      clear en5
      have en6 : LL = [] := by rw [← HLL.out]; exact Wl.movL_no (by rw [HEL.out]; decide)
      obtain rfl : n6 = 0 := (Wv.rv_len (val := Value.int .i64) (d := (0 : Int)) (by have h := L11.out; rw [en6] at h; exact h)).symm
      clear en6
      go_wp2_with fail
      refine (wakes_any _).mono ?_
      rintro e w12 ⟨rfl, hb⟩
      have B12 := Wc.hid (Wc.step B11.out (Nat.le_refl _) hb)
      clear hb
      go_wp2_with fail
      go_ret
      exact ⟨rfl, B12.out⟩
    by_cases hq1 : (n2 : Int) ≤ q
    · obtain rfl : EM = 3 := by rw [← HEM.out]; exact Wl.movE_far HOK.out (.inr (by rw [HL.out]; exact hq1))
      obtain rfl : EL = 3 := by rw [← HEL.out]; exact Wl.movE_far HOK.out (.inr (by rw [HL.out]; exact hq1))
      have en5 : LM = [] := by rw [← HLM.out]; exact Wl.movL_no (by rw [HEM.out]; decide)
      obtain rfl : n5 = 0 := (Wv.rv_len (val := Value.int .i64) (d := (0 : Int)) (by have h := M11.out; rw [en5] at h; exact h)).symm
      clear en5
      have en6 : LL = [] := by rw [← HLL.out]; exact Wl.movL_no (by rw [HEL.out]; decide)
      obtain rfl : n6 = 0 := (Wv.rv_len (val := Value.int .i64) (d := (0 : Int)) (by have h := L11.out; rw [en6] at h; exact h)).symm
      clear en6
      go_wp2_with fail
      refine (wakes_any _).mono ?_
      rintro e w12 ⟨rfl, hb⟩
      have B12 := Wc.hid (Wc.step B11.out (Nat.le_refl _) hb)
      clear hb
      go_wp2_with fail
      go_ret
      exact ⟨rfl, B12.out⟩
    obtain ⟨Q, rfl⟩ : ∃ Q : Nat, q = Q := ⟨q.toNat, by omega⟩
    have hQ : Q < n2 := by omega
    obtain ⟨x, hx⟩ : ∃ x, cs.getD Q 0 = x := ⟨_, rfl⟩
    have hxb := Wl.okC_at HOK.out (k := Q) (by rw [HL.out]; exact hQ)
    rw [hx] at hxb
    have HX := Wc.hid hx
    have HM1 : Hid (EM = if x = 2147483647 then 1 else 0) := Wc.hid (by rw [← HEM.out, Wl.movE_at HOK.out (by rw [HL.out]; omega), Int.toNat_natCast, HX.out])
    have HL1 : Hid (EL = if x = 0 then 1 else 0) := Wc.hid (by rw [← HEL.out, Wl.movE_at HOK.out (by rw [HL.out]; omega), Int.toNat_natCast, HX.out])
    clear hx
    go_wp2_with fail
    refine (twinInts_own _ cs _ U11.out HSH.out).mono ?_
    rintro e w12 ⟨ya, yn, yc, rfl, hO, hb⟩
    obtain ⟨gy, cy, he, hgy⟩ := ov_form hO (by rw [HL.out]; omega)
    rw [HL.out] at he
    cases he
    have Y12 := Wc.hid hO
    have hgy2 : gy < w12.heap.size := ov_lt hO
    have U12 := Wc.hid (U11.out.keep hb)
    have M12 := Wc.hid (M11.out.keep hb)
    have L12 := Wc.hid (L11.out.keep hb)
    have B12 := Wc.hid (Wc.step B11.out (Nat.le_refl _) hb)
    have SZ1 := Wc.hid hb.size
    have DA := Wc.hid hb
    clear hO hb
    go_wp2_with fail
    refine (twinInts_own _ cs _ U12.out HSH.out).mono ?_
    rintro e w13 ⟨za, zn, zc, rfl, hO, hb⟩
    obtain ⟨gz, cz, he, hgz⟩ := ov_form hO (by rw [HL.out]; omega)
    rw [HL.out] at he
    cases he
    have hne : gy ≠ gz := by omega
    have hne' : gz ≠ gy := by omega
    have hgz' : w11.heap.size ≤ gz := Nat.le_trans SZ1.out hgz
    have hYk := Y12.out.keep hb
    have y1 := (Wv.rv_cells (val := Value.int .i64) (d := (0 : Int)) hYk.rv (by omega)).2 Q hQ
    have z1 := (Wv.rv_cells (val := Value.int .i64) (d := (0 : Int)) hO.rv (by omega)).2 Q hQ
    rw [Nat.zero_add, HX.out] at y1 z1
    have y2 := ov_frozen Q hYk
    have z2 := ov_frozen Q hO
    have DB := Wc.hid (Wc.step DA.out (Nat.le_refl _) hb)
    have Y13 := Wc.hid hYk
    have Z13 := Wc.hid hO
    have U13 := Wc.hid (U12.out.keep hb)
    have M13 := Wc.hid (M12.out.keep hb)
    have L13 := Wc.hid (L12.out.keep hb)
    have B13 := Wc.hid (Wc.step B12.out (Nat.le_refl _) hb)
    clear hO hb hYk
    obtain ⟨bu, ou, rfl, u1⟩ := in_cell U13.out hQ
    rw [HX.out] at u1
    go_wp2_with fail
    clear u1
    have u1 := in_cell U13.out hQ
    obtain ⟨_, _, he, u1⟩ := u1
    cases he
    rw [HX.out] at u1
    go_region_with (fail)
    all_goals
      rw [wrapS (x + 1) (by omega), wrapS (x - 1) (by omega)]
      have hYs := ov_set Q Y13.out (x + 1)
      have hYk := ov_other (Q := Q) (z := .int .i64 (x - 1)) hYs hne
      have hZk := ov_other (Q := Q) (z := .int .i64 (x + 1)) Z13.out hne'
      have hZs := ov_set Q hZk (x - 1)
      have YF : Hid (Wd.In _ _ (cs.set Q (x + 1))) := Wc.hid (hYk.keep (show_drew (Below.refl _ _))).rv
      have ZF : Hid (Wd.In _ _ (cs.set Q (x - 1))) := Wc.hid (hZs.keep (show_drew (Below.refl _ _))).rv
      have bS := show_drew (Below.setCell (Below.setCell DB.out (p := ⟨gy, Q, none⟩) hgy (.int .i64 (x + 1))) (p := ⟨gz, Q, none⟩) hgz' (.int .i64 (x - 1)))
      have UF := Wc.hid (U11.out.keep bS)
      have MF := Wc.hid (M11.out.keep bS)
      have LF' := Wc.hid (L11.out.keep bS)
      have BF := Wc.hid (Wc.step B11.out (Nat.le_refl _) bS)
      clear hYs hYk hZk hZs bS u1 y1 y2 z1 z2
      generalize ((w13.setCell ⟨gy, Q, none⟩ (.int .i64 (x + 1))).setCell ⟨gz, Q, none⟩ (.int .i64 (x - 1))).drew = WF at YF ZF UF MF LF' BF ⊢
      obtain ⟨_, _, he, u1⟩ := in_cell UF.out hQ
      cases he
      rw [HX.out] at u1
      by_cases htop : x = 2147483647
      · subst htop
        obtain rfl : EM = 1 := by rw [HM1.out, if_pos rfl]
        obtain rfl : EL = 0 := by rw [HL1.out, if_neg (by decide)]
        have e1 : LM = [] := by rw [← HLM.out]; exact Wl.movL_no (by rw [HEM.out]; decide)
        obtain rfl : n5 = 0 := (Wv.rv_len (val := Value.int .i64) (d := (0 : Int)) (by have h := MF.out; rw [e1] at h; exact h)).symm
        have e2 : LL = cs.set Q (2147483647 - 1) := by rw [← HLL.out, Wl.movL_yes HEL.out, Int.toNat_natCast, HX.out]; rfl
        subst e2
        clear e1
        go_wp2_with fail
        refine (ints_any _ _ _ _ _ LF'.out ZF.out).mono ?_
        rintro e w40 ⟨rfl, hb⟩
        rw [beq_self_eq_true]
        have BE := Wc.hid (Wc.step BF.out (Nat.le_refl _) hb)
        clear hb
        go_wp2_with fail
        refine (wakes_any _).mono ?_
        rintro e w50 ⟨rfl, hb⟩
        have BG := Wc.hid (Wc.step BE.out (Nat.le_refl _) hb)
        clear hb
        go_wp2_with fail
        go_ret
        exact ⟨rfl, BG.out⟩
      by_cases hzero : x = 0
      · subst hzero
        obtain rfl : EM = 0 := by rw [HM1.out, if_neg (by decide)]
        obtain rfl : EL = 1 := by rw [HL1.out, if_pos rfl]
        have e1 : LL = [] := by rw [← HLL.out]; exact Wl.movL_no (by rw [HEL.out]; decide)
        obtain rfl : n6 = 0 := (Wv.rv_len (val := Value.int .i64) (d := (0 : Int)) (by have h := LF'.out; rw [e1] at h; exact h)).symm
        have e2 : LM = cs.set Q (0 + 1) := by rw [← HLM.out, Wl.movL_yes HEM.out, Int.toNat_natCast, HX.out]
        subst e2
        clear e1
        go_wp2_with fail
        refine (ints_any _ _ _ _ _ MF.out YF.out).mono ?_
        rintro e w40 ⟨rfl, hb⟩
        rw [beq_self_eq_true]
        have BE := Wc.hid (Wc.step BF.out (Nat.le_refl _) hb)
        clear hb
        go_wp2_with fail
        refine (wakes_any _).mono ?_
        rintro e w50 ⟨rfl, hb⟩
        have BG := Wc.hid (Wc.step BE.out (Nat.le_refl _) hb)
        clear hb
        go_wp2_with fail
        go_ret
        exact ⟨rfl, BG.out⟩
      obtain rfl : EM = 0 := by rw [HM1.out, if_neg htop]
      obtain rfl : EL = 0 := by rw [HL1.out, if_neg hzero]
      have e1 : LL = cs.set Q (x - 1) := by rw [← HLL.out, Wl.movL_yes HEL.out, Int.toNat_natCast, HX.out]; rfl
      have e2 : LM = cs.set Q (x + 1) := by rw [← HLM.out, Wl.movL_yes HEM.out, Int.toNat_natCast, HX.out]
      subst e1 e2
      have hx1 : x < 2147483647 := by omega
      have hx2 : 0 < x := by omega
      clear htop hzero
      go_wp2_with fail
      refine (ints_any _ _ _ _ _ MF.out YF.out).mono ?_
      rintro e w40 ⟨rfl, hb⟩
      rw [beq_self_eq_true]
      have LG := Wc.hid (LF'.out.keep hb)
      have ZG := Wc.hid (ZF.out.keep hb)
      have BH := Wc.hid (Wc.step BF.out (Nat.le_refl _) hb)
      clear hb
      go_wp2_with fail
      refine (ints_any _ _ _ _ _ LG.out ZG.out).mono ?_
      rintro e w41 ⟨rfl, hb⟩
      rw [beq_self_eq_true]
      have BE := Wc.hid (Wc.step BH.out (Nat.le_refl _) hb)
      clear hb
      go_wp2_with fail
      refine (wakes_any _).mono ?_
      rintro e w50 ⟨rfl, hb⟩
      have BG := Wc.hid (Wc.step BE.out (Nat.le_refl _) hb)
      clear hb
      go_wp2_with fail
      go_ret
      exact ⟨rfl, BG.out⟩
  · have HBAD := Wc.hid (by simpa using hokk : Wl.okC cs = false)
    clear hokk
    have hbad := HBAD.out
    obtain rfl : EF = 1 := by rw [← HEF.out]; unfold Wl.frE; rw [hbad]; rfl
    obtain rfl : EM = 1 := by rw [← HEM.out]; exact Wl.movE_bad hbad
    obtain rfl : EL = 1 := by rw [← HEL.out]; exact Wl.movE_bad hbad
    have e1 : LF = [] := by rw [← HLF.out]; unfold Wl.frL; rw [hbad]; rfl
    have e2 : LM = [] := by rw [← HLM.out]; exact Wl.movL_no (by rw [HEM.out]; decide)
    have e3 : LL = [] := by rw [← HLL.out]; exact Wl.movL_no (by rw [HEL.out]; decide)
    obtain rfl : n3 = 0 := (Wv.rv_len (val := Value.int .i64) (d := (0 : Int)) (by have h := F9.out; rw [e1] at h; exact h)).symm
    obtain rfl : n5 = 0 := (Wv.rv_len (val := Value.int .i64) (d := (0 : Int)) (by have h := M9.out; rw [e2] at h; exact h)).symm
    obtain rfl : n6 = 0 := (Wv.rv_len (val := Value.int .i64) (d := (0 : Int)) (by have h := L9.out; rw [e3] at h; exact h)).symm
    clear e1 e2 e3
    rw [hbad]
    clear hbad
    go_wp2_with fail
    refine (wakes_any _).mono ?_
    rintro e w10 ⟨rfl, hb⟩
    have B10 := Wc.hid (Wc.step B9.out (Nat.le_refl _) hb)
    clear hb
    go_wp2_with fail
    go_ret
    exact ⟨rfl, B10.out⟩

end Go.Proofs.YtiobegoiehjfiaaGreat
