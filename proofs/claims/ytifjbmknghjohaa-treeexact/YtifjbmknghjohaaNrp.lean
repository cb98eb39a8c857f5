/-
  What the page's open (at NODE) and ParseNode return, for all bytes.
-/
import Derived.Test.YtifjbmknghjohaaNpar
namespace Go.Proofs.Ytifjbmknghjohaa
open Go.RowKit

/-- What the page's open tells. -/
def opN (xs : List Int) : Int := if xs.length = 64 then (if xs.take 4 = Wn.name then (if Wc.goodB xs = true then 0 else 5) else 4) else 2

set_option maxHeartbeats 800000 in
theorem openN_len (a : Option Addr) (n cap : Nat) (w : World) (hl : ¬ n = 64) :
    Calls Try.prog 56 #[.slice a n cap, .string ⟨#[78, 79, 68, 69]⟩] w fun e w' => e = .returned (.int .i64 2) ∧ Below w.heap.size w w' := by
  have hb : (((n : Int) != 64) = true) := by simp; omega
  clear hl
  go_enter Try.func56, Try.ntmps56
  go_wp2_with fail
  go_ret
  exact ⟨rfl, Below.refl _ _⟩

set_option maxHeartbeats 800000 in
theorem openN_name (b off cap : Nat) (S : ByteArray) (w : World) (hc : 64 ≤ cap) (hc2 : cap ≤ 9223372036854775807)
   (hcv : (convert 22 9 (.slice (some ⟨b, off, none⟩) 4 cap)).run Try.prog w = .ok (.string S) w) (hS : (S.toList == [78, 79, 68, 69]) = false) :
    Calls Try.prog 56 #[.slice (some ⟨b, off, none⟩) 64 cap, .string ⟨#[78, 79, 68, 69]⟩] w fun e w' => e = .returned (.int .i64 4) ∧ Below w.heap.size w w' := by
  go_enter Try.func56, Try.ntmps56
  go_wp2_with fail
  go_ret
  exact ⟨rfl, Below.refl _ _⟩

set_option maxRecDepth 100000 in
set_option maxHeartbeats 800000 in
theorem openN_good (b off cap : Nat) (xs : List Int) (S : ByteArray) (w : World) (hv : Wc.Bs w (.slice (some ⟨b, off, none⟩) 64 cap) xs) (hc : 64 ≤ cap) (hc2 : cap ≤ 9223372036854775807)
   (hcv : (convert 22 9 (.slice (some ⟨b, off, none⟩) 4 cap)).run Try.prog w = .ok (.string S) w) (hS : (S.toList == [78, 79, 68, 69]) = true) :
    Calls Try.prog 56 #[.slice (some ⟨b, off, none⟩) 64 cap, .string ⟨#[78, 79, 68, 69]⟩] w fun e w' => e = .returned (.int .i64 (if Wc.goodB xs = true then 0 else 5)) ∧ Below w.heap.size w w' := by
  have HV := Wc.hid hv
  clear hv
  cases hg : Wc.goodB xs
  · have HG := Wc.hid hg
    clear hg
    go_enter Try.func56, Try.ntmps56
    go_wp2_with fail
    refine (refGood_any _ xs _ HV.out).mono ?_
    rintro e w1 ⟨rfl, hb1⟩
    rw [HG.out]
    go_wp2_with fail
    go_ret
    exact ⟨rfl, hb1⟩
  · have HG := Wc.hid hg
    clear hg
    go_enter Try.func56, Try.ntmps56
    go_wp2_with fail
    refine (refGood_any _ xs _ HV.out).mono ?_
    rintro e w1 ⟨rfl, hb1⟩
    rw [HG.out]
    go_wp2_with fail
    go_ret
    exact ⟨rfl, hb1⟩

theorem openN_any (v : Value) (xs : List Int) (w : World) (hv : Wc.Bs w v xs) :
    Calls Try.prog 56 #[v, .string ⟨#[78, 79, 68, 69]⟩] w fun e w' => e = .returned (.int .i64 (opN xs)) ∧ Below w.heap.size w w' := by
  have hxb := Wc.bs_bytes hv
  unfold opN
  by_cases hl : xs.length = 64
  · rw [if_pos hl]
    rcases hv.open with ⟨rfl, _⟩ | ⟨b, off, n, cap, rfl, h0, hn, hc, hc2, _⟩
    · simp at hl
    · obtain rfl : n = 64 := by omega
      have hcv := convert_txt hv (by omega)
      by_cases hnm : xs.take 4 = Wn.name
      · rw [if_pos hnm]
        exact openN_good b off cap xs _ w hv hc hc2 hcv ((txt_node xs (by omega) hxb).2 hnm)
      · rw [if_neg hnm]
        exact openN_name b off cap _ w hc hc2 hcv (txt_nodeNo xs (by omega) hxb hnm)
  · rw [if_neg hl]
    obtain ⟨a, n, cap, rfl, hn, -⟩ := hv
    exact openN_len a n cap w (by omega)

theorem opN_zero {xs : List Int} (h : opN xs = 0) : xs.length = 64 ∧ xs.take 4 = Wn.name ∧ Wc.goodB xs = true := by
  unfold opN at h
  by_cases h1 : xs.length = 64
  · rw [if_pos h1] at h
    by_cases h2 : xs.take 4 = Wn.name
    · rw [if_pos h2] at h
      by_cases h3 : Wc.goodB xs = true
      · exact ⟨h1, h2, h3⟩
      · rw [if_neg h3] at h; omega
    · rw [if_neg h2] at h; omega
  · rw [if_neg h1] at h; omega

theorem opN_no {xs : List Int} (h : ¬ opN xs = 0) : Wn.parE xs = opN xs ∧ Wn.par xs = Wn.n0 := by
  by_cases h1 : xs.length = 64
  · by_cases h2 : xs.take 4 = Wn.name
    · cases h3 : Wc.goodB xs
      · have := Wn.par_sum h1 h2 h3
        exact ⟨by rw [this.1]; simp [opN, h1, h2, h3], this.2⟩
      · exact absurd (by simp [opN, h1, h2, h3]) h
    · have := Wn.par_name h1 h2
      exact ⟨by rw [this.1]; simp [opN, h1, h2], this.2⟩
  · have := Wn.par_len h1
    exact ⟨by rw [this.1]; simp [opN, h1], this.2⟩

set_option maxHeartbeats 1600000 in
theorem refParse7_no (v : Value) (xs : List Int) (w : World) (hv : Wc.Bs w v xs) (h : ¬ opN xs = 0) :
    Calls Try.prog 45 #[v] w fun e w' => e = .returned (.tuple #[nv (Wn.par xs), .int .i64 (Wn.parE xs)]) ∧ Below w.heap.size w w' := by
  have hE := opN_no h
  rw [hE.1, hE.2]
  have HV := Wc.hid (hv.alloc (.cells #[.int .i64 0, .int .i64 0, .int .i64 0, .int .i64 0, .int .i64 0, .int .i64 0, .int .i64 0, .int .i64 0, .int .i64 0] 47))
  have hne : (opN xs != 0) = true := by simpa using h
  clear hv h hE
  go_enter Try.func45, Try.ntmps45
  go_wp2_with fail
  refine (openN_any _ xs _ HV.out).mono ?_
  rintro e w1 ⟨rfl, hb1⟩
  have A1 := Wc.hid ((Nh.new w Wn.n0).keep hb1)
  have HB := Wc.hid (Wc.step ((Below.refl w.heap.size w).alloc (Nat.le_refl _) (.cells #[.int .i64 0, .int .i64 0, .int .i64 0, .int .i64 0, .int .i64 0, .int .i64 0, .int .i64 0, .int .i64 0, .int .i64 0] 47)) (Nat.le_refl _) hb1)
  clear hb1
  have ⟨c, c0, c1, c2, c3, c4, c5, c6, c7⟩ := A1.out.nc
  have f := A1.out.frozen 0
  have f0 := A1.out.frozen 1
  have f1 := A1.out.frozen 2
  have f2 := A1.out.frozen 3
  have f3 := A1.out.frozen 4
  have f4 := A1.out.frozen 5
  have f5 := A1.out.frozen 6
  have f6 := A1.out.frozen 7
  have f7 := A1.out.frozen 8
  go_wp2_with fail
  exact bodyPost_ret (ret_cell7 rfl rfl rfl (A1.out.over Wn.n0).nc) rfl ⟨rfl, below9 HB.out (Nat.le_refl _) Wn.n0⟩

set_option maxHeartbeats 3200000 in
theorem refParse7_yes (b off cap : Nat) (xs : List Int) (w : World) (hv : Wc.Bs w (.slice (some ⟨b, off, none⟩) 64 cap) xs) (hc : 64 ≤ cap) (hc2 : cap ≤ 9223372036854775807) (h : opN xs = 0) :
    Calls Try.prog 45 #[.slice (some ⟨b, off, none⟩) 64 cap] w fun e w' => e = .returned (.tuple #[nv (Wn.par xs), .int .i64 (Wn.parE xs)]) ∧ Below w.heap.size w w' := by
  have HO := Wc.hid (opN_zero h)
  have HE := Wc.hid h
  have HV0 := Wc.hid hv
  have HV := Wc.hid (hv.alloc (.cells #[.int .i64 0, .int .i64 0, .int .i64 0, .int .i64 0, .int .i64 0, .int .i64 0, .int .i64 0, .int .i64 0, .int .i64 0] 47))
  clear hv h
  go_enter Try.func45, Try.ntmps45
  go_wp2_with fail
  refine (openN_any _ xs _ HV.out).mono ?_
  rintro e w1 ⟨rfl, hb1⟩
  rw [HE.out]
  have A1 := Wc.hid ((Nh.new w Wn.n0).keep hb1)
  have HB := Wc.hid (Wc.step ((Below.refl w.heap.size w).alloc (Nat.le_refl _) (.cells #[.int .i64 0, .int .i64 0, .int .i64 0, .int .i64 0, .int .i64 0, .int .i64 0, .int .i64 0, .int .i64 0, .int .i64 0] 47)) (Nat.le_refl _) hb1)
  have V1 := Wc.hid (HV.out.keep hb1)
  clear hb1 HV
  go_wp2_with fail
  refine (refGet4_any b off 64 cap 4 xs _ V1.out (by omega) hc hc2).mono ?_
  rintro e w2 ⟨rfl, rfl⟩
  rw [show Wc.val ((xs.drop 4).take 4) = Ws.num xs 4 4 from rfl]
  have HAL := Wc.hid ((Below.refl w1.heap.size w1).alloc (Nat.le_refl _) (.cells #[.int .i64 (Ws.num xs 4 4), .int .i64 0, .int .i64 0, .int .i64 0, .int .i64 0, .int .i64 0, .int .i64 0, .int .i64 0, .int .i64 0] 47))
  have A2 := Wc.hid (A1.out.keep HAL.out)
  have B2 := Wc.hid (Wc.step HB.out (Nat.le_refl _) HAL.out)
  have D2 : Hid (Nh (w1.alloc (.cells #[.int .i64 (Ws.num xs 4 4), .int .i64 0, .int .i64 0, .int .i64 0, .int .i64 0, .int .i64 0, .int .i64 0, .int .i64 0, .int .i64 0] 47)) w1.heap.size (Wn.fill xs 0)) := Wc.hid (by
    rw [Wn.fill_zero]
    exact Nh.new w1 ⟨Ws.num xs 4 4, 0, 0, 0, 0, 0, 0, 0, 0⟩)
  have HNE : Hid (w.heap.size ≠ w1.heap.size) := Wc.hid (by have := A1.out.lt; omega)
  have HLE : Hid (w.heap.size ≤ w1.heap.size) := Wc.hid (by have := A1.out.lt; omega)
  clear HAL A1 V1 HB
  go_wp2_with fail
  go_loopw [6] (fun i wr => ∃ k : Nat, i = .int .i64 k ∧ k ≤ 8 ∧ Hid (Nh wr w.heap.size Wn.n0) ∧ Hid (Nh wr w1.heap.size (Wn.fill xs k)) ∧ Hid (Below w.heap.size w wr)) (fun i _ => 8 - (intOf i).toNat)
  case atStart => exact ⟨0, rfl, by omega, A2, D2, B2⟩
  case round =>
    obtain ⟨k, rfl, hk, A, D, HB⟩ := hrel
    by_cases hlt : k < 8
    · have hg4 := refGet4_any b off 64 cap (8 + 4 * k) xs wr (HV0.out.keep HB.out) (by omega) hc hc2
      rw [show ((8 + 4 * k : Nat) : Int) = 8 + 4 * (k : Int) from by omega, show Wc.val ((xs.drop (8 + 4 * k)).take 4) = Ws.num xs (8 + 4 * k) 4 from rfl] at hg4
      have HG4 := Wc.hid hg4
      clear hg4
      go_wp2_with fail
      refine HG4.out.mono ?_
      rintro e w' ⟨rfl, rfl⟩
      have hcell := D.out.pat hlt
      have hfz := D.out.frozen (1 + k)
      have A' := Wc.hid (A.out.other HNE.out (1 + k) (.int .i64 (Ws.num xs (8 + 4 * k) 4)))
      have D' := Wc.hid (D.out.set hlt (Ws.num xs (8 + 4 * k) 4))
      rw [Wn.fill_next xs hlt] at D'
      have HB' := Wc.hid (HB.out.setCell (p := ⟨w1.heap.size, 1 + k, none⟩) HLE.out (.int .i64 (Ws.num xs (8 + 4 * k) 4)))
      go_wp2_with fail
      go_roundw
      case rel => exact ⟨k + 1, by go_num, by omega, A', D', HB'⟩
      case measure => simp [intOf]; omega
    · obtain rfl : k = 8 := by omega
      rw [Wn.fill_all] at D
      obtain ⟨t, ht⟩ : ∃ t, Wn.parN xs = t := ⟨_, rfl⟩
      rw [ht] at D
      have HT := Wc.hid ht
      clear ht
      have ⟨d, d0, d1, d2, d3, d4, d5, d6, d7⟩ := D.out.nc
      go_wp2_with fail
      refine (refNode_any t _).mono ?_
      rintro e w2 ⟨rfl, hb2⟩
      have A3 := Wc.hid (A.out.keep hb2)
      have D3 := Wc.hid (D.out.keep hb2)
      have HB2 := Wc.hid (Wc.step HB.out (Nat.le_refl _) hb2)
      have HV2 := Wc.hid (HV0.out.keep HB2.out)
      clear hb2 d d0 d1 d2 d3 d4 d5 d6 d7 A D HB
      have ⟨c, c0, c1, c2, c3, c4, c5, c6, c7⟩ := A3.out.nc
      have f := A3.out.frozen 0
      have f0 := A3.out.frozen 1
      have f1 := A3.out.frozen 2
      have f2 := A3.out.frozen 3
      have f3 := A3.out.frozen 4
      have f4 := A3.out.frozen 5
      have f5 := A3.out.frozen 6
      have f6 := A3.out.frozen 7
      have f7 := A3.out.frozen 8
      cases hnb : Wn.nodB t
      · have HP := Wc.hid (Wn.par_arg HO.out.1 HO.out.2.1 HO.out.2.2 (by rw [HT.out, hnb]; rfl))
        clear hnb
        go_wp2_with fail
        rw [HP.out.1, HP.out.2]
        exact bodyPost_ret (ret_cell7 rfl rfl rfl (A3.out.over Wn.n0).nc) rfl ⟨rfl, below9 HB2.out (Nat.le_refl _) Wn.n0⟩
      · have HNB := Wc.hid hnb
        clear hnb
        have ⟨d, d0, d1, d2, d3, d4, d5, d6, d7⟩ := D3.out.nc
        go_wp2_with fail
        refine (refZeros_any _ xs 40 60 _ HV2.out (by omega)).mono ?_
        rintro e w3 ⟨rfl, rfl⟩
        cases hz : Wc.zerosB xs 40 60
        · have HP := Wc.hid (Wn.par_arg HO.out.1 HO.out.2.1 HO.out.2.2 (by rw [hz, Bool.and_false]))
          clear hz
          go_wp2_with fail
          rw [HP.out.1, HP.out.2]
          exact bodyPost_ret (ret_cell7 rfl rfl rfl (A3.out.over Wn.n0).nc) rfl ⟨rfl, below9 HB2.out (Nat.le_refl _) Wn.n0⟩
        · have HP := Wc.hid (Wn.par_ok HO.out.1 HO.out.2.1 HO.out.2.2 (by rw [hz, HT.out, HNB.out]; rfl))
          clear hz
          go_wp2_with fail
          rw [HP.out.1, HP.out.2, HT.out]
          exact bodyPost_ret (ret_cell7 rfl rfl rfl (A3.out.over t).nc) rfl ⟨rfl, below9 HB2.out (Nat.le_refl _) t⟩

theorem refParse7_any (v : Value) (xs : List Int) (w : World) (hv : Wc.Bs w v xs) :
    Calls Try.prog 45 #[v] w fun e w' => e = .returned (.tuple #[nv (Wn.par xs), .int .i64 (Wn.parE xs)]) ∧ Below w.heap.size w w' := by
  by_cases h : opN xs = 0
  · have hl := (opN_zero h).1
    rcases hv.open with ⟨rfl, _⟩ | ⟨b, off, n, cap, rfl, h0, hn, hc, hc2, _⟩
    · simp at hl
    · obtain rfl : n = 64 := by omega
      exact refParse7_yes b off cap xs w hv hc hc2 h
  · exact refParse7_no v xs w hv h

end Go.Proofs.Ytifjbmknghjohaa
