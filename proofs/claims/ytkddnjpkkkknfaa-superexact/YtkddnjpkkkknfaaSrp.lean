/-
  What the page's open and ParseSuper return, for all bytes.
-/
import Derived.Test.YtkddnjpkkkknfaaSpar
namespace Go.Proofs.Ytkddnjpkkkknfaa
open Go.RowKit

/-- What the page's open tells. -/
def opE (xs : List Int) : Int := if xs.length = 64 then (if xs.take 4 = Ws.name then (if Wc.goodB xs = true then 0 else 5) else 4) else 2

set_option maxHeartbeats 800000 in
theorem open_len (a : Option Addr) (n cap : Nat) (w : World) (hl : ¬ n = 64) :
    Calls Try.prog 28 #[.slice a n cap, .string ⟨#[87, 67, 85, 84]⟩] w fun e w' => e = .returned (.int .i64 2) ∧ Below w.heap.size w w' := by
  have hb : (((n : Int) != 64) = true) := by simp; omega
  clear hl
  go_enter Try.func28, Try.ntmps28
  go_wp2_with fail
  go_ret
  exact ⟨rfl, Below.refl _ _⟩

set_option maxHeartbeats 800000 in
theorem open_name (b off cap : Nat) (S : ByteArray) (w : World) (hc : 64 ≤ cap) (hc2 : cap ≤ 9223372036854775807)
   (hcv : (convert 24 9 (.slice (some ⟨b, off, none⟩) 4 cap)).run Try.prog w = .ok (.string S) w) (hS : (S.toList == [87, 67, 85, 84]) = false) :
    Calls Try.prog 28 #[.slice (some ⟨b, off, none⟩) 64 cap, .string ⟨#[87, 67, 85, 84]⟩] w fun e w' => e = .returned (.int .i64 4) ∧ Below w.heap.size w w' := by
  go_enter Try.func28, Try.ntmps28
  go_wp2_with fail
  go_ret
  exact ⟨rfl, Below.refl _ _⟩

set_option maxHeartbeats 800000 in
theorem open_good (b off cap : Nat) (xs : List Int) (S : ByteArray) (w : World) (hv : Wc.Bs w (.slice (some ⟨b, off, none⟩) 64 cap) xs) (hc : 64 ≤ cap) (hc2 : cap ≤ 9223372036854775807)
   (hcv : (convert 24 9 (.slice (some ⟨b, off, none⟩) 4 cap)).run Try.prog w = .ok (.string S) w) (hS : (S.toList == [87, 67, 85, 84]) = true) :
    Calls Try.prog 28 #[.slice (some ⟨b, off, none⟩) 64 cap, .string ⟨#[87, 67, 85, 84]⟩] w fun e w' => e = .returned (.int .i64 (if Wc.goodB xs = true then 0 else 5)) ∧ Below w.heap.size w w' := by
  have HV := Wc.hid hv
  clear hv
  cases hg : Wc.goodB xs
  · have HG := Wc.hid hg
    clear hg
    go_enter Try.func28, Try.ntmps28
    go_wp2_with fail
    refine (refGood_any _ xs _ HV.out).mono ?_
    rintro e w1 ⟨rfl, hb1⟩
    rw [HG.out]
    go_wp2_with fail
    go_ret
    exact ⟨rfl, hb1⟩
  · have HG := Wc.hid hg
    clear hg
    go_enter Try.func28, Try.ntmps28
    go_wp2_with fail
    refine (refGood_any _ xs _ HV.out).mono ?_
    rintro e w1 ⟨rfl, hb1⟩
    rw [HG.out]
    go_wp2_with fail
    go_ret
    exact ⟨rfl, hb1⟩

theorem open_any (v : Value) (xs : List Int) (w : World) (hv : Wc.Bs w v xs) :
    Calls Try.prog 28 #[v, .string ⟨#[87, 67, 85, 84]⟩] w fun e w' => e = .returned (.int .i64 (opE xs)) ∧ Below w.heap.size w w' := by
  have hxb := Wc.bs_bytes hv
  unfold opE
  by_cases hl : xs.length = 64
  · rw [if_pos hl]
    rcases hv.open with ⟨rfl, _⟩ | ⟨b, off, n, cap, rfl, h0, hn, hc, hc2, _⟩
    · simp at hl
    · obtain rfl : n = 64 := by omega
      have hcv := convert_txt hv (by omega)
      by_cases hnm : xs.take 4 = Ws.name
      · rw [if_pos hnm]
        exact open_good b off cap xs _ w hv hc hc2 hcv ((txt_is xs (by omega) hxb).2 hnm)
      · rw [if_neg hnm]
        exact open_name b off cap _ w hc hc2 hcv (txt_no xs (by omega) hxb hnm)
  · rw [if_neg hl]
    obtain ⟨a, n, cap, rfl, hn, -⟩ := hv
    exact open_len a n cap w (by omega)

theorem opE_zero {xs : List Int} (h : opE xs = 0) : xs.length = 64 ∧ xs.take 4 = Ws.name ∧ Wc.goodB xs = true := by
  unfold opE at h
  by_cases h1 : xs.length = 64
  · rw [if_pos h1] at h
    by_cases h2 : xs.take 4 = Ws.name
    · rw [if_pos h2] at h
      by_cases h3 : Wc.goodB xs = true
      · exact ⟨h1, h2, h3⟩
      · rw [if_neg h3] at h; omega
    · rw [if_neg h2] at h; omega
  · rw [if_neg h1] at h; omega

theorem opE_no {xs : List Int} (h : ¬ opE xs = 0) : Ws.parE xs = opE xs ∧ Ws.par xs = Ws.s0 := by
  by_cases h1 : xs.length = 64
  · by_cases h2 : xs.take 4 = Ws.name
    · cases h3 : Wc.goodB xs
      · have := Ws.par_sum h1 h2 h3
        exact ⟨by rw [this.1]; simp [opE, h1, h2, h3], this.2⟩
      · exact absurd (by simp [opE, h1, h2, h3]) h
    · have := Ws.par_name h1 h2
      exact ⟨by rw [this.1]; simp [opE, h1, h2], this.2⟩
  · have := Ws.par_len h1
    exact ⟨by rw [this.1]; simp [opE, h1], this.2⟩

set_option maxHeartbeats 1600000 in
theorem refParse_no (v : Value) (xs : List Int) (w : World) (hv : Wc.Bs w v xs) (h : ¬ opE xs = 0) :
    Calls Try.prog 12 #[v] w fun e w' => e = .returned (.tuple #[sv (Ws.par xs), .int .i64 (Ws.parE xs)]) ∧ Below w.heap.size w w' := by
  have hE := opE_no h
  rw [hE.1, hE.2]
  have HV := Wc.hid (hv.alloc (.cells #[.int .i64 0, .int .i64 0, .int .i64 0, .int .i64 0, .int .i64 0] 23))
  have hne : (opE xs != 0) = true := by simpa using h
  clear hv h hE
  go_enter Try.func12, Try.ntmps12
  go_wp2_with fail
  refine (open_any _ xs _ HV.out).mono ?_
  rintro e w1 ⟨rfl, hb1⟩
  have A1 := Wc.hid ((Sh.new w Ws.s0).keep hb1)
  have HB := Wc.hid (Wc.step ((Below.refl w.heap.size w).alloc (Nat.le_refl _) (.cells #[.int .i64 0, .int .i64 0, .int .i64 0, .int .i64 0, .int .i64 0] 23)) (Nat.le_refl _) hb1)
  clear hb1
  have ⟨c0, c1, c2, c3, c4⟩ := A1.out.sc
  have f0 := A1.out.frozen 0
  have f1 := A1.out.frozen 1
  have f2 := A1.out.frozen 2
  have f3 := A1.out.frozen 3
  have f4 := A1.out.frozen 4
  go_wp2_with fail
  exact bodyPost_ret (ret_cell rfl rfl rfl (A1.out.set Ws.s0).sc) rfl ⟨rfl, below5 HB.out (Nat.le_refl _) Ws.s0⟩

theorem num_gen (xs : List Int) (hl : xs.length = 64) : (numR ((xs.drop 4).take 8)).1 = (got xs).gen ∧ ((numR ((xs.drop 4).take 8)).2 = false → Ws.supB (Ws.parS xs) = false) := by
  have hg := got_gen xs hl
  have e : (got xs).gen = (Wc.getR xs 4 8).1 := rfl
  rw [e, hg]
  show (if Ws.num xs 4 8 ≤ 4611686018427387903 then (Ws.num xs 4 8, true) else (0, false)).1 = _ ∧ ((if Ws.num xs 4 8 ≤ 4611686018427387903 then (Ws.num xs 4 8, true) else ((0 : Int), false)).2 = false → _)
  by_cases h : Ws.num xs 4 8 ≤ 4611686018427387903
  · rw [if_pos h, if_pos h]
    exact ⟨rfl, fun h => by cases h⟩
  · rw [if_neg h, if_neg h]
    refine ⟨rfl, fun _ => ?_⟩
    rw [Bool.eq_false_iff]; intro hh
    have := (Ws.supB_iff.1 hh).1
    simp only [Ws.parS] at this; omega

set_option maxHeartbeats 3200000 in
theorem refParse_yes (b off cap : Nat) (xs : List Int) (w : World) (hv : Wc.Bs w (.slice (some ⟨b, off, none⟩) 64 cap) xs) (hc : 64 ≤ cap) (hc2 : cap ≤ 9223372036854775807) (h : opE xs = 0) :
    Calls Try.prog 12 #[.slice (some ⟨b, off, none⟩) 64 cap] w fun e w' => e = .returned (.tuple #[sv (Ws.par xs), .int .i64 (Ws.parE xs)]) ∧ Below w.heap.size w w' := by
  have HO := Wc.hid (opE_zero h)
  have HE := Wc.hid h
  have HV := Wc.hid (hv.alloc (.cells #[.int .i64 0, .int .i64 0, .int .i64 0, .int .i64 0, .int .i64 0] 23))
  have HG := Wc.hid (got_sup xs HO.out.1)
  have HN := Wc.hid (num_gen xs HO.out.1)
  clear hv h
  go_enter Try.func12, Try.ntmps12
  go_wp2_with fail
  refine (open_any _ xs _ HV.out).mono ?_
  rintro e w1 ⟨rfl, hb1⟩
  rw [HE.out]
  have A1 := Wc.hid ((Sh.new w Ws.s0).keep hb1)
  have HB := Wc.hid (Wc.step ((Below.refl w.heap.size w).alloc (Nat.le_refl _) (.cells #[.int .i64 0, .int .i64 0, .int .i64 0, .int .i64 0, .int .i64 0] 23)) (Nat.le_refl _) hb1)
  have V1 := Wc.hid (HV.out.keep hb1)
  clear hb1 HV
  go_wp2_with fail
  refine (refGet8_any b off 64 cap 4 xs _ V1.out (by omega) hc hc2).mono ?_
  rintro e w2 ⟨rfl, rfl⟩
  rw [HN.out.1]
  obtain ⟨ok, hok⟩ : ∃ ok, (numR ((xs.drop 4).take 8)).2 = ok := ⟨_, rfl⟩
  rw [hok] at HN ⊢
  clear hok
  go_wp2_with fail
  refine (refGet4_any b off 64 cap 12 xs _ V1.out (by omega) hc hc2).mono ?_
  rintro e w3 ⟨rfl, rfl⟩
  go_wp2_with fail
  refine (refGet4_any b off 64 cap 16 xs _ V1.out (by omega) hc hc2).mono ?_
  rintro e w3 ⟨rfl, rfl⟩
  go_wp2_with fail
  refine (refGet4_any b off 64 cap 20 xs _ V1.out (by omega) hc hc2).mono ?_
  rintro e w3 ⟨rfl, rfl⟩
  go_wp2_with fail
  refine (refGet4_any b off 64 cap 24 xs _ V1.out (by omega) hc hc2).mono ?_
  rintro e w3 ⟨rfl, rfl⟩
  have e1 : Wc.val ((xs.drop 12).take 4) = (got xs).blocks := rfl
  have e2 : Wc.val ((xs.drop 16).take 4) = (got xs).root := rfl
  have e3 : Wc.val ((xs.drop 20).take 4) = (got xs).size := rfl
  have e4 : Wc.val ((xs.drop 24).take 4) = (got xs).first := rfl
  rw [e1, e2, e3, e4]
  clear e1 e2 e3 e4
  generalize got xs = t at HG HN ⊢
  have HAL := Wc.hid ((Below.refl w1.heap.size w1).alloc (Nat.le_refl _) (.cells #[.int .i64 t.gen, .int .i64 t.blocks, .int .i64 t.root, .int .i64 t.size, .int .i64 t.first] 23))
  have A2 := Wc.hid (A1.out.keep HAL.out)
  have B2 := Wc.hid (Wc.step HB.out (Nat.le_refl _) HAL.out)
  have D2 := Wc.hid (Sh.new w1 t)
  have V2 := Wc.hid (V1.out.keep HAL.out)
  clear HAL A1 V1 HB
  cases ok
  · have hp := Ws.par_arg HO.out.1 HO.out.2.1 HO.out.2.2 (by rw [HN.out.2 rfl]; rfl)
    have HP := Wc.hid hp
    clear hp
    have ⟨c0, c1, c2, c3, c4⟩ := A2.out.sc
    have f0 := A2.out.frozen 0
    have f1 := A2.out.frozen 1
    have f2 := A2.out.frozen 2
    have f3 := A2.out.frozen 3
    have f4 := A2.out.frozen 4
    go_wp2_with fail
    rw [HP.out.1, HP.out.2]
    exact bodyPost_ret (ret_cell rfl rfl rfl (A2.out.set Ws.s0).sc) rfl ⟨rfl, below5 B2.out (Nat.le_refl _) Ws.s0⟩
  · go_wp2_with fail
    refine (refSuper_any t _).mono ?_
    rintro e w4 ⟨rfl, hb4⟩
    have A4 := Wc.hid (A2.out.keep hb4)
    have B4 := Wc.hid (Wc.step B2.out (Nat.le_refl _) hb4)
    have D4 := Wc.hid (D2.out.keep hb4)
    have V4 := Wc.hid (V2.out.keep hb4)
    clear hb4 A2 B2 D2 V2
    have ⟨c0, c1, c2, c3, c4⟩ := A4.out.sc
    have f0 := A4.out.frozen 0
    have f1 := A4.out.frozen 1
    have f2 := A4.out.frozen 2
    have f3 := A4.out.frozen 3
    have f4 := A4.out.frozen 4
    have ⟨d0, d1, d2, d3, d4⟩ := D4.out.sc
    cases ht : Ws.supB t
    · have HP := Wc.hid (Ws.par_arg HO.out.1 HO.out.2.1 HO.out.2.2 (by rw [← HG.out.1, ht]; rfl))
      clear ht
      go_wp2_with fail
      rw [HP.out.1, HP.out.2]
      exact bodyPost_ret (ret_cell rfl rfl rfl (A4.out.set Ws.s0).sc) rfl ⟨rfl, below5 B4.out (Nat.le_refl _) Ws.s0⟩
    · have HT := Wc.hid ht
      clear ht
      go_wp2_with fail
      refine (refZeros_any _ xs 28 60 _ V4.out (by omega)).mono ?_
      rintro e w5 ⟨rfl, rfl⟩
      cases hz : Wc.zerosB xs 28 60
      · have HP := Wc.hid (Ws.par_arg HO.out.1 HO.out.2.1 HO.out.2.2 (by rw [hz, Bool.and_false]))
        clear hz
        go_wp2_with fail
        rw [HP.out.1, HP.out.2]
        exact bodyPost_ret (ret_cell rfl rfl rfl (A4.out.set Ws.s0).sc) rfl ⟨rfl, below5 B4.out (Nat.le_refl _) Ws.s0⟩
      · have HP := Wc.hid (Ws.par_ok HO.out.1 HO.out.2.1 HO.out.2.2 (by rw [hz, ← HG.out.1, HT.out]; rfl))
        have HTP := Wc.hid (HG.out.2 (by rw [← HG.out.1]; exact HT.out))
        clear hz
        go_wp2_with fail
        rw [HP.out.1, HP.out.2, ← HTP.out]
        exact bodyPost_ret (ret_cell rfl rfl rfl (A4.out.set t).sc) rfl ⟨rfl, below5 B4.out (Nat.le_refl _) t⟩

theorem refParse_any (v : Value) (xs : List Int) (w : World) (hv : Wc.Bs w v xs) :
    Calls Try.prog 12 #[v] w fun e w' => e = .returned (.tuple #[sv (Ws.par xs), .int .i64 (Ws.parE xs)]) ∧ Below w.heap.size w w' := by
  by_cases h : opE xs = 0
  · have hl := (opE_zero h).1
    rcases hv.open with ⟨rfl, _⟩ | ⟨b, off, n, cap, rfl, h0, hn, hc, hc2, _⟩
    · simp at hl
    · obtain rfl : n = 64 := by omega
      exact refParse_yes b off cap xs w hv hc hc2 h
  · exact refParse_no v xs w hv h

end Go.Proofs.Ytkddnjpkkkknfaa
