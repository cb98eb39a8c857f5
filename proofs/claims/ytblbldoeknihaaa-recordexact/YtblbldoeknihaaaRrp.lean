/-
  What the page's open (at SNAP) and ParseRecord return, for all bytes.
-/
import Derived.Test.YtblbldoeknihaaaRpar
namespace Go.Proofs.Ytblbldoeknihaaa
open Go.RowKit

/-- What the page's open tells. -/
def opR (xs : List Int) : Int := if xs.length = 64 then (if xs.take 4 = Wr.name then (if Wc.goodB xs = true then 0 else 5) else 4) else 2

set_option maxHeartbeats 800000 in
theorem openR_len (a : Option Addr) (n cap : Nat) (w : World) (hl : ¬ n = 64) :
    Calls Try.prog 20 #[.slice a n cap, .string ⟨#[83, 78, 65, 80]⟩] w fun e w' => e = .returned (.int .i64 2) ∧ Below w.heap.size w w' := by
  have hb : (((n : Int) != 64) = true) := by simp; omega
  clear hl
  go_enter Try.func20, Try.ntmps20
  go_wp2_with fail
  go_ret
  exact ⟨rfl, Below.refl _ _⟩

set_option maxHeartbeats 800000 in
theorem openR_name (b off cap : Nat) (S : ByteArray) (w : World) (hc : 64 ≤ cap) (hc2 : cap ≤ 9223372036854775807)
   (hcv : (convert 24 9 (.slice (some ⟨b, off, none⟩) 4 cap)).run Try.prog w = .ok (.string S) w) (hS : (S.toList == [83, 78, 65, 80]) = false) :
    Calls Try.prog 20 #[.slice (some ⟨b, off, none⟩) 64 cap, .string ⟨#[83, 78, 65, 80]⟩] w fun e w' => e = .returned (.int .i64 4) ∧ Below w.heap.size w w' := by
  go_enter Try.func20, Try.ntmps20
  go_wp2_with fail
  go_ret
  exact ⟨rfl, Below.refl _ _⟩

set_option maxHeartbeats 800000 in
theorem openR_good (b off cap : Nat) (xs : List Int) (S : ByteArray) (w : World) (hv : Wc.Bs w (.slice (some ⟨b, off, none⟩) 64 cap) xs) (hc : 64 ≤ cap) (hc2 : cap ≤ 9223372036854775807)
   (hcv : (convert 24 9 (.slice (some ⟨b, off, none⟩) 4 cap)).run Try.prog w = .ok (.string S) w) (hS : (S.toList == [83, 78, 65, 80]) = true) :
    Calls Try.prog 20 #[.slice (some ⟨b, off, none⟩) 64 cap, .string ⟨#[83, 78, 65, 80]⟩] w fun e w' => e = .returned (.int .i64 (if Wc.goodB xs = true then 0 else 5)) ∧ Below w.heap.size w w' := by
  have HV := Wc.hid hv
  clear hv
  cases hg : Wc.goodB xs
  · have HG := Wc.hid hg
    clear hg
    go_enter Try.func20, Try.ntmps20
    go_wp2_with fail
    refine (refGood_any _ xs _ HV.out).mono ?_
    rintro e w1 ⟨rfl, hb1⟩
    rw [HG.out]
    go_wp2_with fail
    go_ret
    exact ⟨rfl, hb1⟩
  · have HG := Wc.hid hg
    clear hg
    go_enter Try.func20, Try.ntmps20
    go_wp2_with fail
    refine (refGood_any _ xs _ HV.out).mono ?_
    rintro e w1 ⟨rfl, hb1⟩
    rw [HG.out]
    go_wp2_with fail
    go_ret
    exact ⟨rfl, hb1⟩

theorem openR_any (v : Value) (xs : List Int) (w : World) (hv : Wc.Bs w v xs) :
    Calls Try.prog 20 #[v, .string ⟨#[83, 78, 65, 80]⟩] w fun e w' => e = .returned (.int .i64 (opR xs)) ∧ Below w.heap.size w w' := by
  have hxb := Wc.bs_bytes hv
  unfold opR
  by_cases hl : xs.length = 64
  · rw [if_pos hl]
    rcases hv.open with ⟨rfl, _⟩ | ⟨b, off, n, cap, rfl, h0, hn, hc, hc2, _⟩
    · simp at hl
    · obtain rfl : n = 64 := by omega
      have hcv := convert_txt hv (by omega)
      by_cases hnm : xs.take 4 = Wr.name
      · rw [if_pos hnm]
        exact openR_good b off cap xs _ w hv hc hc2 hcv ((txt_snap xs (by omega) hxb).2 hnm)
      · rw [if_neg hnm]
        exact openR_name b off cap _ w hc hc2 hcv (txt_snapNo xs (by omega) hxb hnm)
  · rw [if_neg hl]
    obtain ⟨a, n, cap, rfl, hn, -⟩ := hv
    exact openR_len a n cap w (by omega)

theorem opR_zero {xs : List Int} (h : opR xs = 0) : xs.length = 64 ∧ xs.take 4 = Wr.name ∧ Wc.goodB xs = true := by
  unfold opR at h
  by_cases h1 : xs.length = 64
  · rw [if_pos h1] at h
    by_cases h2 : xs.take 4 = Wr.name
    · rw [if_pos h2] at h
      by_cases h3 : Wc.goodB xs = true
      · exact ⟨h1, h2, h3⟩
      · rw [if_neg h3] at h; omega
    · rw [if_neg h2] at h; omega
  · rw [if_neg h1] at h; omega

theorem opR_no {xs : List Int} (h : ¬ opR xs = 0) : Wr.parE xs = opR xs ∧ Wr.par xs = Wr.r0 := by
  by_cases h1 : xs.length = 64
  · by_cases h2 : xs.take 4 = Wr.name
    · cases h3 : Wc.goodB xs
      · have := Wr.par_sum h1 h2 h3
        exact ⟨by rw [this.1]; simp [opR, h1, h2, h3], this.2⟩
      · exact absurd (by simp [opR, h1, h2, h3]) h
    · have := Wr.par_name h1 h2
      exact ⟨by rw [this.1]; simp [opR, h1, h2], this.2⟩
  · have := Wr.par_len h1
    exact ⟨by rw [this.1]; simp [opR, h1], this.2⟩

set_option maxHeartbeats 1600000 in
theorem refParse8_no (v : Value) (xs : List Int) (w : World) (hv : Wc.Bs w v xs) (h : ¬ opR xs = 0) :
    Calls Try.prog 9 #[v] w fun e w' => e = .returned (.tuple #[rv (Wr.par xs), .int .i64 (Wr.parE xs)]) ∧ Below w.heap.size w w' := by
  have hE := opR_no h
  rw [hE.1, hE.2]
  have HV := Wc.hid (hv.alloc (.cells #[.int .i64 0, .int .i64 0, .int .i64 0, .int .i64 0, .int .i64 0, .int .i64 0, .int .i64 0, .int .i64 0] 23))
  have hne : (opR xs != 0) = true := by simpa using h
  clear hv h hE
  go_enter Try.func9, Try.ntmps9
  go_wp2_with fail
  refine (openR_any _ xs _ HV.out).mono ?_
  rintro e w1 ⟨rfl, hb1⟩
  have A1 := Wc.hid ((Rh.new w Wr.r0).keep hb1)
  have HB := Wc.hid (Wc.step ((Below.refl w.heap.size w).alloc (Nat.le_refl _) (.cells #[.int .i64 0, .int .i64 0, .int .i64 0, .int .i64 0, .int .i64 0, .int .i64 0, .int .i64 0, .int .i64 0] 23)) (Nat.le_refl _) hb1)
  clear hb1
  have ⟨c0, c1, c2, c3, c4, c5, c6, c7⟩ := A1.out.rc
  have f0 := A1.out.frozen 0
  have f1 := A1.out.frozen 1
  have f2 := A1.out.frozen 2
  have f3 := A1.out.frozen 3
  have f4 := A1.out.frozen 4
  have f5 := A1.out.frozen 5
  have f6 := A1.out.frozen 6
  have f7 := A1.out.frozen 7
  go_wp2_with fail
  exact bodyPost_ret (ret_cell8 rfl rfl rfl (A1.out.over Wr.r0).rc) rfl ⟨rfl, below8 HB.out (Nat.le_refl _) Wr.r0⟩

set_option maxHeartbeats 3200000 in
theorem refParse8_yes (b off cap : Nat) (xs : List Int) (w : World) (hv : Wc.Bs w (.slice (some ⟨b, off, none⟩) 64 cap) xs) (hc : 64 ≤ cap) (hc2 : cap ≤ 9223372036854775807) (h : opR xs = 0) :
    Calls Try.prog 9 #[.slice (some ⟨b, off, none⟩) 64 cap] w fun e w' => e = .returned (.tuple #[rv (Wr.par xs), .int .i64 (Wr.parE xs)]) ∧ Below w.heap.size w w' := by
  have HO := Wc.hid (opR_zero h)
  have HE := Wc.hid h
  have HV := Wc.hid (hv.alloc (.cells #[.int .i64 0, .int .i64 0, .int .i64 0, .int .i64 0, .int .i64 0, .int .i64 0, .int .i64 0, .int .i64 0] 23))
  have N8 := Wc.hid (num8 xs 8)
  have N16 := Wc.hid (num8 xs 16)
  have I8 := Wc.hid (Wr.hot_id (xs := xs))
  have I16 := Wc.hid (Wr.hot_parent (xs := xs))
  have IH := Wc.hid (Wr.hot_rec xs)
  clear hv h
  go_enter Try.func9, Try.ntmps9
  go_wp2_with fail
  refine (openR_any _ xs _ HV.out).mono ?_
  rintro e w1 ⟨rfl, hb1⟩
  rw [HE.out]
  have A1 := Wc.hid ((Rh.new w Wr.r0).keep hb1)
  have HB := Wc.hid (Wc.step ((Below.refl w.heap.size w).alloc (Nat.le_refl _) (.cells #[.int .i64 0, .int .i64 0, .int .i64 0, .int .i64 0, .int .i64 0, .int .i64 0, .int .i64 0, .int .i64 0] 23)) (Nat.le_refl _) hb1)
  have V1 := Wc.hid (HV.out.keep hb1)
  clear hb1 HV
  go_wp2_with fail
  refine (refGet8_any b off 64 cap 8 xs _ V1.out (by omega) hc hc2).mono ?_
  rintro e w2 ⟨rfl, rfl⟩
  rw [N8.out.1, N8.out.2]
  obtain ⟨ok, hok⟩ : ∃ ok, Wr.i8 (Ws.num xs 8 8) = ok := ⟨_, rfl⟩
  rw [hok] at I8 IH ⊢
  clear hok
  go_wp2_with fail
  refine (refGet8_any b off 64 cap 16 xs _ V1.out (by omega) hc hc2).mono ?_
  rintro e w2 ⟨rfl, rfl⟩
  rw [N16.out.1, N16.out.2]
  obtain ⟨is, his⟩ : ∃ is, Wr.i8 (Ws.num xs 16 8) = is := ⟨_, rfl⟩
  rw [his] at I16 IH ⊢
  clear his
  go_wp2_with fail
  refine (refGet4_any b off 64 cap 4 xs _ V1.out (by omega) hc hc2).mono ?_
  rintro e w3 ⟨rfl, rfl⟩
  go_wp2_with fail
  refine (refGet4_any b off 64 cap 24 xs _ V1.out (by omega) hc hc2).mono ?_
  rintro e w3 ⟨rfl, rfl⟩
  go_wp2_with fail
  refine (refGet4_any b off 64 cap 28 xs _ V1.out (by omega) hc hc2).mono ?_
  rintro e w3 ⟨rfl, rfl⟩
  go_wp2_with fail
  refine (refGet4_any b off 64 cap 32 xs _ V1.out (by omega) hc hc2).mono ?_
  rintro e w3 ⟨rfl, rfl⟩
  go_wp2_with fail
  refine (refGet4_any b off 64 cap 36 xs _ V1.out (by omega) hc hc2).mono ?_
  rintro e w3 ⟨rfl, rfl⟩
  go_wp2_with fail
  refine (refGet4_any b off 64 cap 40 xs _ V1.out (by omega) hc hc2).mono ?_
  rintro e w3 ⟨rfl, rfl⟩
  have e0 : Wc.val ((xs.drop 4).take 4) = (Wr.hot xs).next := rfl
  have e3 : Wc.val ((xs.drop 24).take 4) = (Wr.hot xs).root := rfl
  have e4 : Wc.val ((xs.drop 28).take 4) = (Wr.hot xs).size := rfl
  have e5 : Wc.val ((xs.drop 32).take 4) = (Wr.hot xs).kind := rfl
  have e6 : Wc.val ((xs.drop 36).take 4) = (Wr.hot xs).frames := rfl
  have e7 : Wc.val ((xs.drop 40).take 4) = (Wr.hot xs).digest := rfl
  have e1 : Wr.h8 (Ws.num xs 8 8) = (Wr.hot xs).id := rfl
  have e2 : Wr.h8 (Ws.num xs 16 8) = (Wr.hot xs).parent := rfl
  rw [e0, e1, e2, e3, e4, e5, e6, e7]
  clear e0 e1 e2 e3 e4 e5 e6 e7
  generalize Wr.hot xs = t at IH ⊢
  have HAL := Wc.hid ((Below.refl w1.heap.size w1).alloc (Nat.le_refl _) (.cells #[.int .i64 t.next, .int .i64 t.id, .int .i64 t.parent, .int .i64 t.root, .int .i64 t.size, .int .i64 t.kind, .int .i64 t.frames, .int .i64 t.digest] 23))
  have A2 := Wc.hid (A1.out.keep HAL.out)
  have B2 := Wc.hid (Wc.step HB.out (Nat.le_refl _) HAL.out)
  have D2 := Wc.hid (Rh.new w1 t)
  have V2 := Wc.hid (V1.out.keep HAL.out)
  clear HAL A1 V1 HB
  cases ok
  · have HP := Wc.hid (Wr.par_arg HO.out.1 HO.out.2.1 HO.out.2.2 (by rw [I8.out rfl]; rfl))
    have ⟨c0, c1, c2, c3, c4, c5, c6, c7⟩ := A2.out.rc
    have f0 := A2.out.frozen 0
    have f1 := A2.out.frozen 1
    have f2 := A2.out.frozen 2
    have f3 := A2.out.frozen 3
    have f4 := A2.out.frozen 4
    have f5 := A2.out.frozen 5
    have f6 := A2.out.frozen 6
    have f7 := A2.out.frozen 7
    go_wp2_with fail
    rw [HP.out.1, HP.out.2]
    exact bodyPost_ret (ret_cell8 rfl rfl rfl (A2.out.over Wr.r0).rc) rfl ⟨rfl, below8 B2.out (Nat.le_refl _) Wr.r0⟩
  cases is
  · have HP := Wc.hid (Wr.par_arg HO.out.1 HO.out.2.1 HO.out.2.2 (by rw [I16.out rfl]; rfl))
    have ⟨c0, c1, c2, c3, c4, c5, c6, c7⟩ := A2.out.rc
    have f0 := A2.out.frozen 0
    have f1 := A2.out.frozen 1
    have f2 := A2.out.frozen 2
    have f3 := A2.out.frozen 3
    have f4 := A2.out.frozen 4
    have f5 := A2.out.frozen 5
    have f6 := A2.out.frozen 6
    have f7 := A2.out.frozen 7
    go_wp2_with fail
    rw [HP.out.1, HP.out.2]
    exact bodyPost_ret (ret_cell8 rfl rfl rfl (A2.out.over Wr.r0).rc) rfl ⟨rfl, below8 B2.out (Nat.le_refl _) Wr.r0⟩
  have HT2 := Wc.hid (IH.out rfl rfl)
  clear I8 I16 IH N8 N16
  go_wp2_with fail
  refine (refRecord_any t _).mono ?_
  rintro e w4 ⟨rfl, hb4⟩
  have A4 := Wc.hid (A2.out.keep hb4)
  have B4 := Wc.hid (Wc.step B2.out (Nat.le_refl _) hb4)
  have D4 := Wc.hid (D2.out.keep hb4)
  have V4 := Wc.hid (V2.out.keep hb4)
  clear hb4 A2 B2 D2 V2
  have ⟨c0, c1, c2, c3, c4, c5, c6, c7⟩ := A4.out.rc
  have f0 := A4.out.frozen 0
  have f1 := A4.out.frozen 1
  have f2 := A4.out.frozen 2
  have f3 := A4.out.frozen 3
  have f4 := A4.out.frozen 4
  have f5 := A4.out.frozen 5
  have f6 := A4.out.frozen 6
  have f7 := A4.out.frozen 7
  have ⟨d0, d1, d2, d3, d4, d5, d6, d7⟩ := D4.out.rc
  cases ht : Wr.recB t
  · have HP := Wc.hid (Wr.par_arg HO.out.1 HO.out.2.1 HO.out.2.2 (by rw [← HT2.out, ht]; rfl))
    clear ht
    go_wp2_with fail
    rw [HP.out.1, HP.out.2]
    exact bodyPost_ret (ret_cell8 rfl rfl rfl (A4.out.over Wr.r0).rc) rfl ⟨rfl, below8 B4.out (Nat.le_refl _) Wr.r0⟩
  · have HT := Wc.hid ht
    clear ht
    go_wp2_with fail
    refine (refZeros_any _ xs 44 60 _ V4.out (by omega)).mono ?_
    rintro e w5 ⟨rfl, rfl⟩
    cases hz : Wc.zerosB xs 44 60
    · have HP := Wc.hid (Wr.par_arg HO.out.1 HO.out.2.1 HO.out.2.2 (by rw [hz, Bool.and_false]))
      clear hz
      go_wp2_with fail
      rw [HP.out.1, HP.out.2]
      exact bodyPost_ret (ret_cell8 rfl rfl rfl (A4.out.over Wr.r0).rc) rfl ⟨rfl, below8 B4.out (Nat.le_refl _) Wr.r0⟩
    · have HP := Wc.hid (Wr.par_ok HO.out.1 HO.out.2.1 HO.out.2.2 (by rw [hz, ← HT2.out, HT.out]; rfl))
      clear hz
      go_wp2_with fail
      rw [HP.out.1, HP.out.2, ← HT2.out]
      exact bodyPost_ret (ret_cell8 rfl rfl rfl (A4.out.over t).rc) rfl ⟨rfl, below8 B4.out (Nat.le_refl _) t⟩

theorem refParse8_any (v : Value) (xs : List Int) (w : World) (hv : Wc.Bs w v xs) :
    Calls Try.prog 9 #[v] w fun e w' => e = .returned (.tuple #[rv (Wr.par xs), .int .i64 (Wr.parE xs)]) ∧ Below w.heap.size w w' := by
  by_cases h : opR xs = 0
  · have hl := (opR_zero h).1
    rcases hv.open with ⟨rfl, _⟩ | ⟨b, off, n, cap, rfl, h0, hn, hc, hc2, _⟩
    · simp at hl
    · obtain rfl : n = 64 := by omega
      exact refParse8_yes b off cap xs w hv hc hc2 h
  · exact refParse8_no v xs w hv h

end Go.Proofs.Ytblbldoeknihaaa
