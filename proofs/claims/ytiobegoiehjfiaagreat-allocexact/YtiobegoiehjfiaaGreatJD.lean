/-
  What the page's open and ParseSuper return, for all bytes.
  What the page's Pick returns, for every right device.
  What the page's seal and SuperBytes return, for every right superblock.
  What the page's open (at SNAP) and ParseRecord return, for all bytes.
-/
import Derived.Test.YtiobegoiehjfiaaGreatJC
import Derived.Test.YtiobegoiehjfiaaGreatJB
import Derived.Lib.SlBytesConst
import Derived.Lib.SmallJoins
import Derived.ArgAppend
import Derived.Test.YtiobegoiehjfiaaGreatJF
namespace Go.Proofs.YtiobegoiehjfiaaGreat
open Go.RowKit

/-- What the page's open tells. -/
def opE (xs : List Int) : Int := if xs.length = 64 then (if xs.take 4 = Ws.name then (if Wc.goodB xs = true then 0 else 5) else 4) else 2

set_option maxHeartbeats 800000 in
theorem open_len (a : Option Addr) (n cap : Nat) (w : World) (hl : ¬ n = 64) :
    Calls Tryz.prog 37 #[.slice a n cap, .string ⟨#[87, 67, 85, 84]⟩] w fun e w' => e = .returned (.int .i64 2) ∧ Below w.heap.size w w' := by
  have hb : (((n : Int) != 64) = true) := by simp; omega
  clear hl
  go_enter Tryz.func37, Tryz.ntmps37
  go_wp2_with fail
  go_ret
  exact ⟨rfl, Below.refl _ _⟩

set_option maxHeartbeats 800000 in
theorem open_name (b off cap : Nat) (S : ByteArray) (w : World) (hc : 64 ≤ cap) (hc2 : cap ≤ 9223372036854775807)
   (hcv : (convert 23 9 (.slice (some ⟨b, off, none⟩) 4 cap)).run Tryz.prog w = .ok (.string S) w) (hS : (S.toList == [87, 67, 85, 84]) = false) :
    Calls Tryz.prog 37 #[.slice (some ⟨b, off, none⟩) 64 cap, .string ⟨#[87, 67, 85, 84]⟩] w fun e w' => e = .returned (.int .i64 4) ∧ Below w.heap.size w w' := by
  go_enter Tryz.func37, Tryz.ntmps37
  go_wp2_with fail
  go_ret
  exact ⟨rfl, Below.refl _ _⟩

set_option maxRecDepth 100000 in
set_option maxHeartbeats 800000 in
theorem open_good (b off cap : Nat) (xs : List Int) (S : ByteArray) (w : World) (hv : Wc.Bs w (.slice (some ⟨b, off, none⟩) 64 cap) xs) (hc : 64 ≤ cap) (hc2 : cap ≤ 9223372036854775807)
   (hcv : (convert 23 9 (.slice (some ⟨b, off, none⟩) 4 cap)).run Tryz.prog w = .ok (.string S) w) (hS : (S.toList == [87, 67, 85, 84]) = true) :
    Calls Tryz.prog 37 #[.slice (some ⟨b, off, none⟩) 64 cap, .string ⟨#[87, 67, 85, 84]⟩] w fun e w' => e = .returned (.int .i64 (if Wc.goodB xs = true then 0 else 5)) ∧ Below w.heap.size w w' := by
  have HV := Wc.hid hv
  clear hv
  cases hg : Wc.goodB xs
  · have HG := Wc.hid hg
    clear hg
    go_enter Tryz.func37, Tryz.ntmps37
    go_wp2_with fail
    refine (refGood_any _ xs _ HV.out).mono ?_
    rintro e w1 ⟨rfl, hb1⟩
    rw [HG.out]
    go_wp2_with fail
    go_ret
    exact ⟨rfl, hb1⟩
  · have HG := Wc.hid hg
    clear hg
    go_enter Tryz.func37, Tryz.ntmps37
    go_wp2_with fail
    refine (refGood_any _ xs _ HV.out).mono ?_
    rintro e w1 ⟨rfl, hb1⟩
    rw [HG.out]
    go_wp2_with fail
    go_ret
    exact ⟨rfl, hb1⟩

theorem open_any (v : Value) (xs : List Int) (w : World) (hv : Wc.Bs w v xs) :
    Calls Tryz.prog 37 #[v, .string ⟨#[87, 67, 85, 84]⟩] w fun e w' => e = .returned (.int .i64 (opE xs)) ∧ Below w.heap.size w w' := by
  have hxb := Wc.bs_bytes hv
  unfold opE
  by_cases hl : xs.length = 64
  · rw [if_pos hl]
    rcases hv.open with ⟨rfl, _⟩ | ⟨b, off, n, cap, rfl, h0, hn, hc, hc2, _⟩
    · simp at hl
    · obtain rfl : n = 64 := by omega
      have hcv := convert_txt hv (by omega)
      by_cases hnm : xs.take 4 = Ws.name
      · rw [if_pos hnm]
        exact open_good b off cap xs _ w hv hc hc2 hcv ((txt_is xs (by omega) hxb).2 hnm)
      · rw [if_neg hnm]
        exact open_name b off cap _ w hc hc2 hcv (txt_no xs (by omega) hxb hnm)
  · rw [if_neg hl]
    obtain ⟨a, n, cap, rfl, hn, -⟩ := hv
    exact open_len a n cap w (by omega)

theorem opE_zero {xs : List Int} (h : opE xs = 0) : xs.length = 64 ∧ xs.take 4 = Ws.name ∧ Wc.goodB xs = true := by
  unfold opE at h
  by_cases h1 : xs.length = 64
  · rw [if_pos h1] at h
    by_cases h2 : xs.take 4 = Ws.name
    · rw [if_pos h2] at h
      by_cases h3 : Wc.goodB xs = true
      · exact ⟨h1, h2, h3⟩
      · rw [if_neg h3] at h; omega
    · rw [if_neg h2] at h; omega
  · rw [if_neg h1] at h; omega

theorem opE_no {xs : List Int} (h : ¬ opE xs = 0) : Ws.parE xs = opE xs ∧ Ws.par xs = Ws.s0 := by
  by_cases h1 : xs.length = 64
  · by_cases h2 : xs.take 4 = Ws.name
    · cases h3 : Wc.goodB xs
      · have := Ws.par_sum h1 h2 h3
        exact ⟨by rw [this.1]; simp [opE, h1, h2, h3], this.2⟩
      · exact absurd (by simp [opE, h1, h2, h3]) h
    · have := Ws.par_name h1 h2
      exact ⟨by rw [this.1]; simp [opE, h1, h2], this.2⟩
  · have := Ws.par_len h1
    exact ⟨by rw [this.1]; simp [opE, h1], this.2⟩

set_option maxHeartbeats 1600000 in
theorem refParse_no (v : Value) (xs : List Int) (w : World) (hv : Wc.Bs w v xs) (h : ¬ opE xs = 0) :
    Calls Tryz.prog 33 #[v] w fun e w' => e = .returned (.tuple #[sv (Ws.par xs), .int .i64 (Ws.parE xs)]) ∧ Below w.heap.size w w' := by
  have hE := opE_no h
  rw [hE.1, hE.2]
  have HV := Wc.hid (hv.alloc (.cells #[.int .i64 0, .int .i64 0, .int .i64 0, .int .i64 0, .int .i64 0] 35))
  have hne : (opE xs != 0) = true := by simpa using h
  clear hv h hE
  go_enter Tryz.func33, Tryz.ntmps33
  go_wp2_with fail
  refine (open_any _ xs _ HV.out).mono ?_
  rintro e w1 ⟨rfl, hb1⟩
  have A1 := Wc.hid ((Sh.new w Ws.s0).keep hb1)
  have HB := Wc.hid (Wc.step ((Below.refl w.heap.size w).alloc (Nat.le_refl _) (.cells #[.int .i64 0, .int .i64 0, .int .i64 0, .int .i64 0, .int .i64 0] 35)) (Nat.le_refl _) hb1)
  clear hb1
  have ⟨c0, c1, c2, c3, c4⟩ := A1.out.sc
  have f0 := A1.out.frozen 0
  have f1 := A1.out.frozen 1
  have f2 := A1.out.frozen 2
  have f3 := A1.out.frozen 3
  have f4 := A1.out.frozen 4
  go_wp2_with fail
  exact bodyPost_ret (ret_cell rfl rfl rfl (A1.out.set Ws.s0).sc) rfl ⟨rfl, below5 HB.out (Nat.le_refl _) Ws.s0⟩

theorem num_gen (xs : List Int) (hl : xs.length = 64) : (numR ((xs.drop 4).take 8)).1 = (got xs).gen ∧ ((numR ((xs.drop 4).take 8)).2 = false → Ws.supB (Ws.parS xs) = false) := by
  have hg := got_gen xs hl
  have e : (got xs).gen = (Wc.getR xs 4 8).1 := rfl
  rw [e, hg]
  show (if Ws.num xs 4 8 ≤ 4611686018427387903 then (Ws.num xs 4 8, true) else (0, false)).1 = _ ∧ ((if Ws.num xs 4 8 ≤ 4611686018427387903 then (Ws.num xs 4 8, true) else ((0 : Int), false)).2 = false → _)
  by_cases h : Ws.num xs 4 8 ≤ 4611686018427387903
  · rw [if_pos h, if_pos h]
    exact ⟨rfl, fun h => by cases h⟩
  · rw [if_neg h, if_neg h]
    refine ⟨rfl, fun _ => ?_⟩
    rw [Bool.eq_false_iff]; intro hh
    have := (Ws.supB_iff.1 hh).1
    simp only [Ws.parS] at this; omega

set_option maxHeartbeats 3200000 in
theorem refParse_yes (b off cap : Nat) (xs : List Int) (w : World) (hv : Wc.Bs w (.slice (some ⟨b, off, none⟩) 64 cap) xs) (hc : 64 ≤ cap) (hc2 : cap ≤ 9223372036854775807) (h : opE xs = 0) :
    Calls Tryz.prog 33 #[.slice (some ⟨b, off, none⟩) 64 cap] w fun e w' => e = .returned (.tuple #[sv (Ws.par xs), .int .i64 (Ws.parE xs)]) ∧ Below w.heap.size w w' := by
  have HO := Wc.hid (opE_zero h)
  have HE := Wc.hid h
  have HV := Wc.hid (hv.alloc (.cells #[.int .i64 0, .int .i64 0, .int .i64 0, .int .i64 0, .int .i64 0] 35))
  have HG := Wc.hid (got_sup xs HO.out.1)
  have HN := Wc.hid (num_gen xs HO.out.1)
  clear hv h
  go_enter Tryz.func33, Tryz.ntmps33
  go_wp2_with fail
  refine (open_any _ xs _ HV.out).mono ?_
  rintro e w1 ⟨rfl, hb1⟩
  rw [HE.out]
  have A1 := Wc.hid ((Sh.new w Ws.s0).keep hb1)
  have HB := Wc.hid (Wc.step ((Below.refl w.heap.size w).alloc (Nat.le_refl _) (.cells #[.int .i64 0, .int .i64 0, .int .i64 0, .int .i64 0, .int .i64 0] 35)) (Nat.le_refl _) hb1)
  have V1 := Wc.hid (HV.out.keep hb1)
  clear hb1 HV
  go_wp2_with fail
  refine (refGet8_any b off 64 cap 4 xs _ V1.out (by omega) hc hc2).mono ?_
  rintro e w2 ⟨rfl, rfl⟩
  rw [HN.out.1]
  obtain ⟨ok, hok⟩ : ∃ ok, (numR ((xs.drop 4).take 8)).2 = ok := ⟨_, rfl⟩
  rw [hok] at HN ⊢
  clear hok
  go_wp2_with fail
  refine (refGet4_any b off 64 cap 12 xs _ V1.out (by omega) hc hc2).mono ?_
  rintro e w3 ⟨rfl, rfl⟩
  go_wp2_with fail
  refine (refGet4_any b off 64 cap 16 xs _ V1.out (by omega) hc hc2).mono ?_
  rintro e w3 ⟨rfl, rfl⟩
  go_wp2_with fail
  refine (refGet4_any b off 64 cap 20 xs _ V1.out (by omega) hc hc2).mono ?_
  rintro e w3 ⟨rfl, rfl⟩
  go_wp2_with fail
  refine (refGet4_any b off 64 cap 24 xs _ V1.out (by omega) hc hc2).mono ?_
  rintro e w3 ⟨rfl, rfl⟩
  have e1 : Wc.val ((xs.drop 12).take 4) = (got xs).blocks := rfl
  have e2 : Wc.val ((xs.drop 16).take 4) = (got xs).root := rfl
  have e3 : Wc.val ((xs.drop 20).take 4) = (got xs).size := rfl
  have e4 : Wc.val ((xs.drop 24).take 4) = (got xs).first := rfl
  rw [e1, e2, e3, e4]
  clear e1 e2 e3 e4
  generalize got xs = t at HG HN ⊢
  have HAL := Wc.hid ((Below.refl w1.heap.size w1).alloc (Nat.le_refl _) (.cells #[.int .i64 t.gen, .int .i64 t.blocks, .int .i64 t.root, .int .i64 t.size, .int .i64 t.first] 35))
  have A2 := Wc.hid (A1.out.keep HAL.out)
  have B2 := Wc.hid (Wc.step HB.out (Nat.le_refl _) HAL.out)
  have D2 := Wc.hid (Sh.new w1 t)
  have V2 := Wc.hid (V1.out.keep HAL.out)
  clear HAL A1 V1 HB
  cases ok
  · have hp := Ws.par_arg HO.out.1 HO.out.2.1 HO.out.2.2 (by rw [HN.out.2 rfl]; rfl)
    have HP := Wc.hid hp
    clear hp
    have ⟨c0, c1, c2, c3, c4⟩ := A2.out.sc
    have f0 := A2.out.frozen 0
    have f1 := A2.out.frozen 1
    have f2 := A2.out.frozen 2
    have f3 := A2.out.frozen 3
    have f4 := A2.out.frozen 4
    go_wp2_with fail
    rw [HP.out.1, HP.out.2]
    exact bodyPost_ret (ret_cell rfl rfl rfl (A2.out.set Ws.s0).sc) rfl ⟨rfl, below5 B2.out (Nat.le_refl _) Ws.s0⟩
  · go_wp2_with fail
    refine (refSuper_any t _).mono ?_
    rintro e w4 ⟨rfl, hb4⟩
    have A4 := Wc.hid (A2.out.keep hb4)
    have B4 := Wc.hid (Wc.step B2.out (Nat.le_refl _) hb4)
    have D4 := Wc.hid (D2.out.keep hb4)
    have V4 := Wc.hid (V2.out.keep hb4)
    clear hb4 A2 B2 D2 V2
    have ⟨c0, c1, c2, c3, c4⟩ := A4.out.sc
    have f0 := A4.out.frozen 0
    have f1 := A4.out.frozen 1
    have f2 := A4.out.frozen 2
    have f3 := A4.out.frozen 3
    have f4 := A4.out.frozen 4
    have ⟨d0, d1, d2, d3, d4⟩ := D4.out.sc
    cases ht : Ws.supB t
    · have HP := Wc.hid (Ws.par_arg HO.out.1 HO.out.2.1 HO.out.2.2 (by rw [← HG.out.1, ht]; rfl))
      clear ht
      go_wp2_with fail
      rw [HP.out.1, HP.out.2]
      exact bodyPost_ret (ret_cell rfl rfl rfl (A4.out.set Ws.s0).sc) rfl ⟨rfl, below5 B4.out (Nat.le_refl _) Ws.s0⟩
    · have HT := Wc.hid ht
      clear ht
      go_wp2_with fail
      refine (refZeros_any _ xs 28 60 _ V4.out (by omega)).mono ?_
      rintro e w5 ⟨rfl, rfl⟩
      cases hz : Wc.zerosB xs 28 60
      · have HP := Wc.hid (Ws.par_arg HO.out.1 HO.out.2.1 HO.out.2.2 (by rw [hz, Bool.and_false]))
        clear hz
        go_wp2_with fail
        rw [HP.out.1, HP.out.2]
        exact bodyPost_ret (ret_cell rfl rfl rfl (A4.out.set Ws.s0).sc) rfl ⟨rfl, below5 B4.out (Nat.le_refl _) Ws.s0⟩
      · have HP := Wc.hid (Ws.par_ok HO.out.1 HO.out.2.1 HO.out.2.2 (by rw [hz, ← HG.out.1, HT.out]; rfl))
        have HTP := Wc.hid (HG.out.2 (by rw [← HG.out.1]; exact HT.out))
        clear hz
        go_wp2_with fail
        rw [HP.out.1, HP.out.2, ← HTP.out]
        exact bodyPost_ret (ret_cell rfl rfl rfl (A4.out.set t).sc) rfl ⟨rfl, below5 B4.out (Nat.le_refl _) t⟩

theorem refParse_any (v : Value) (xs : List Int) (w : World) (hv : Wc.Bs w v xs) :
    Calls Tryz.prog 33 #[v] w fun e w' => e = .returned (.tuple #[sv (Ws.par xs), .int .i64 (Ws.parE xs)]) ∧ Below w.heap.size w w' := by
  by_cases h : opE xs = 0
  · have hl := (opE_zero h).1
    rcases hv.open with ⟨rfl, _⟩ | ⟨b, off, n, cap, rfl, h0, hn, hc, hc2, _⟩
    · simp at hl
    · obtain rfl : n = 64 := by omega
      exact refParse_yes b off cap xs w hv hc hc2 h
  · exact refParse_no v xs w hv h

end Go.Proofs.YtiobegoiehjfiaaGreat
namespace Go.Proofs.YtiobegoiehjfiaaGreat
open Go.RowKit

/-- What the page's Pick tells. -/
def rpk (one two : Bool) (a b : Ws.Sup) : Ws.Sup × Int × Bool :=
  if (one && (!two || decide (b.gen ≤ a.gen))) = true then (a, 0, true) else if two = true then (b, 1, true) else (Ws.s0, 0, false)

def onB (n : Int) (xs : List Int) : Bool := (Ws.parE xs == 0) && ((Ws.par xs).blocks == n)

theorem onB_slot (n : Int) (xs : List Int) : Ws.slotS n xs = (if onB n xs = true then Ws.par xs else Ws.s0) ∧ (onB n xs = true → 1 ≤ (Ws.par xs).gen) := by
  unfold onB
  by_cases h1 : Ws.parE xs = 0
  · by_cases h2 : (Ws.par xs).blocks = n
    · have hy := Ws.slot_yes (n := n) (b := xs) ⟨h1, h2⟩
      rw [hy.1] at hy
      refine ⟨?_, fun _ => hy.2⟩
      rw [hy.1, h1, h2]
      have hyn := (Ws.slot_yes (n := n) (b := xs) ⟨h1, h2⟩).1
      simpa using hyn
    · refine ⟨?_, fun h => ?_⟩
      · rw [Ws.slot_no (fun e => h2 e.2), if_neg (by simp [h2])]
      · simp [h2] at h
  · refine ⟨?_, fun h => ?_⟩
    · rw [Ws.slot_no (fun e => h1 e.1), if_neg (by simp [h1])]
    · simp [h1] at h

theorem rpk_picks (n : Int) (X Y : List Int) : Ws.picks (Ws.slotS n X) (Ws.slotS n Y) = ((rpk (onB n X) (onB n Y) (Ws.par X) (Ws.par Y)).1, (rpk (onB n X) (onB n Y) (Ws.par X) (Ws.par Y)).2.1, if (rpk (onB n X) (onB n Y) (Ws.par X) (Ws.par Y)).2.2 = true then 0 else 8) := by
  have hX := onB_slot n X
  have hY := onB_slot n Y
  rw [hX.1, hY.1]
  have z : Ws.s0.gen = 0 := rfl
  cases h1 : onB n X <;> cases h2 : onB n Y
  · simp [rpk, Ws.picks, z]
  · have g2 := hY.2 h2
    have : 0 < (Ws.par Y).gen := by omega
    simp [rpk, Ws.picks, z, this]
  · have g1 := hX.2 h1
    have : 0 < (Ws.par X).gen := by omega
    have h3 : ¬ (Ws.par X).gen < 0 := by omega
    simp [rpk, Ws.picks, z, this, h3]
  · have g1 := hX.2 h1
    have : 0 < (Ws.par X).gen := by omega
    by_cases h3 : (Ws.par X).gen < (Ws.par Y).gen
    · have h4 : ¬ (Ws.par Y).gen ≤ (Ws.par X).gen := by omega
      simp [rpk, Ws.picks, this, h3, h4]
    · have h4 : (Ws.par Y).gen ≤ (Ws.par X).gen := by omega
      simp [rpk, Ws.picks, this, h3, h4]

set_option maxHeartbeats 6400000 in
theorem refPick_any (ai : Option Addr) (ni ci : Nat) (xs X Y : List Int) (m : Int) (w : World) (hv : Wc.Bs w (.slice ai ni ci) xs) (hd : Wd.devB ni = true) (hm : ((ni / 64 : Nat) : Int) = m) (hX : (xs.drop (0 * 64)).take 64 = X) (hY : (xs.drop (1 * 64)).take 64 = Y) :
    Calls Tryz.prog 22 #[.slice ai ni ci] w fun e w' => e = .returned (.tuple #[sv (rpk (onB m X) (onB m Y) (Ws.par X) (Ws.par Y)).1, .int .i64 (rpk (onB m X) (onB m Y) (Ws.par X) (Ws.par Y)).2.1, .bool (rpk (onB m X) (onB m Y) (Ws.par X) (Ws.par Y)).2.2]) ∧ Below w.heap.size w w' := by
  have hni : ni ≤ 140737488355328 := by obtain ⟨_, _, _, h1, _, _, _, h5, _⟩ := hv; cases h1; exact h5
  have HV := Wc.hid hv
  have HD := Wc.hid (Wd.devB_iff.1 hd)
  have HX := Wc.hid hX
  have HY := Wc.hid hY
  have HM := Wc.hid hm
  clear hv hd hX hY hm
  have A0 := Wc.hid (Sh.new w Ws.s0)
  have B0 := Wc.hid ((Below.refl w.heap.size w).alloc (Nat.le_refl _) (.cells #[.int .i64 0, .int .i64 0, .int .i64 0, .int .i64 0, .int .i64 0] 35))
  have V0 := Wc.hid (HV.out.alloc (.cells #[.int .i64 0, .int .i64 0, .int .i64 0, .int .i64 0, .int .i64 0] 35))
  clear HV
  go_enter Tryz.func22, Tryz.ntmps22
  go_wp2_with fail
  refine (blocks_any _ _ _ _ hni).mono ?_
  rintro e w0 ⟨rfl, rfl⟩
  rw [HM.out]
  go_wp2_with fail
  refine (block_any _ _ _ 0 xs _ V0.out (by have := HD.out; omega)).mono ?_
  rintro e w0 ⟨ax, cx, rfl, hx, rfl⟩
  rw [HX.out] at hx
  have HBX := Wc.hid hx
  clear hx
  go_wp2_with fail
  refine (refParse_any _ X _ HBX.out).mono ?_
  rintro e w1 ⟨rfl, hb1⟩
  have A1 := Wc.hid (A0.out.keep hb1)
  have B1 := Wc.hid (Wc.step B0.out (Nat.le_refl _) hb1)
  have V1 := Wc.hid (V0.out.keep hb1)
  clear hb1 HBX A0 B0 V0
  have hon : ∀ n, onB n X = ((Ws.parE X == 0) && ((Ws.par X).blocks == n)) := fun _ => rfl
  have hon2 : ∀ n, onB n Y = ((Ws.parE Y == 0) && ((Ws.par Y).blocks == n)) := fun _ => rfl
  obtain ⟨s, hs⟩ : ∃ s, Ws.par X = s := ⟨_, rfl⟩
  obtain ⟨E, hE⟩ : ∃ E, Ws.parE X = E := ⟨_, rfl⟩
  rw [hs, hE] at hon
  have HON := Wc.hid (hon m)
  have HS := Wc.hid hs
  rw [hs, hE]
  clear hs hE hon
  unfold sv
  have A2 := Wc.hid (A1.out.keep ((Below.refl w1.heap.size w1).alloc (Nat.le_refl _) (.cells #[.int .i64 s.gen, .int .i64 s.blocks, .int .i64 s.root, .int .i64 s.size, .int .i64 s.first] 35)))
  have B2 := Wc.hid (B1.out.alloc B1.out.size (.cells #[.int .i64 s.gen, .int .i64 s.blocks, .int .i64 s.root, .int .i64 s.size, .int .i64 s.first] 35))
  have V2 := Wc.hid (V1.out.keep ((Below.refl w1.heap.size w1).alloc (Nat.le_refl _) (.cells #[.int .i64 s.gen, .int .i64 s.blocks, .int .i64 s.root, .int .i64 s.size, .int .i64 s.first] 35)))
  have C2 := Wc.hid (Sh.new w1 s)
  clear A1 B1 V1
  go_wp2_with fail
  obtain ⟨W2, hW2⟩ : ∃ W2, w1.alloc (.cells #[.int .i64 s.gen, .int .i64 s.blocks, .int .i64 s.root, .int .i64 s.size, .int .i64 s.first] 35) = W2 := ⟨_, rfl⟩
  rw [hW2] at A2 B2 V2 C2 ⊢
  clear hW2
  refine (block_any _ _ _ 1 xs _ V2.out (by have := HD.out; omega)).mono ?_
  rintro e w0 ⟨ay, cy, rfl, hy, rfl⟩
  rw [HY.out] at hy
  have HBY := Wc.hid hy
  clear hy
  go_wp2_with fail
  refine (refParse_any _ Y _ HBY.out).mono ?_
  rintro e w3 ⟨rfl, hb3⟩
  obtain ⟨t, ht⟩ : ∃ t, Ws.par Y = t := ⟨_, rfl⟩
  obtain ⟨F, hF⟩ : ∃ F, Ws.parE Y = F := ⟨_, rfl⟩
  rw [ht, hF] at hon2
  have HON2 := Wc.hid (hon2 m)
  have HT := Wc.hid ht
  rw [ht, hF]
  clear ht hF hon2
  unfold sv
  have HAL := Wc.hid ((Below.refl w3.heap.size w3).alloc (Nat.le_refl _) (.cells #[.int .i64 t.gen, .int .i64 t.blocks, .int .i64 t.root, .int .i64 t.size, .int .i64 t.first] 35))
  have A4 := Wc.hid ((A2.out.keep hb3).keep HAL.out)
  have B4 := Wc.hid (Wc.step (Wc.step B2.out (Nat.le_refl _) hb3) (Nat.le_refl _) HAL.out)
  have C4 := Wc.hid ((C2.out.keep hb3).keep HAL.out)
  have D4 := Wc.hid (Sh.new w3 t)
  clear hb3 HAL A2 B2 V2 C2 HBY
  go_wp2_with fail
  obtain ⟨W4, hW4⟩ : ∃ W4, w3.alloc (.cells #[.int .i64 t.gen, .int .i64 t.blocks, .int .i64 t.root, .int .i64 t.size, .int .i64 t.first] 35) = W4 := ⟨_, rfl⟩
  rw [hW4] at A4 B4 C4 D4 ⊢
  clear hW4
  have ⟨a0, a1, a2, a3, a4⟩ := A4.out.sc
  have ⟨c0, c1, c2, c3, c4⟩ := C4.out.sc
  have ⟨d0, d1, d2, d3, d4⟩ := D4.out.sc
  cases k1 : (E == 0)
  · cases k2 : (F == 0)
    · have HR : Hid (rpk (onB m X) (onB m Y) (Ws.par X) (Ws.par Y) = (Ws.s0, 0, false)) := Wc.hid (by rw [HON.out, HON2.out, HS.out, HT.out, k1, k2]; simp [rpk])
      go_quiet (fail)
      have A5 : Hid (Sh (W4.drewN nq) w.heap.size Ws.s0) := A4
      have C5 : Hid (Sh (W4.drewN nq) w1.heap.size s) := C4
      have D5 : Hid (Sh (W4.drewN nq) w3.heap.size t) := D4
      have B5 := Wc.hid (below_drewN B4.out nq)
      obtain ⟨W5, hW5⟩ : ∃ W5, W4.drewN nq = W5 := ⟨_, rfl⟩
      rw [hW5] at A5 B5 C5 D5 ⊢
      clear hW5 a0 a1 a2 a3 a4 c0 c1 c2 c3 c4 d0 d1 d2 d3 d4 A4 B4 C4 D4
      have ⟨a0, a1, a2, a3, a4⟩ := A5.out.sc
      have ⟨c0, c1, c2, c3, c4⟩ := C5.out.sc
      have ⟨d0, d1, d2, d3, d4⟩ := D5.out.sc
      have f0 := A5.out.frozen 0
      have f1 := A5.out.frozen 1
      have f2 := A5.out.frozen 2
      have f3 := A5.out.frozen 3
      have f4 := A5.out.frozen 4
      go_wp2_with fail
      rw [HR.out]
      exact bodyPost_ret (ret_cell3 rfl rfl rfl rfl (A5.out.set Ws.s0).sc) rfl ⟨rfl, below5 B5.out (Nat.le_refl _) Ws.s0⟩
    · cases l2 : (t.blocks == m)
      · have HR : Hid (rpk (onB m X) (onB m Y) (Ws.par X) (Ws.par Y) = (Ws.s0, 0, false)) := Wc.hid (by rw [HON.out, HON2.out, HS.out, HT.out, k1, k2, l2]; simp [rpk])
        go_quiet (fail)
        have A5 : Hid (Sh (W4.drewN nq) w.heap.size Ws.s0) := A4
        have C5 : Hid (Sh (W4.drewN nq) w1.heap.size s) := C4
        have D5 : Hid (Sh (W4.drewN nq) w3.heap.size t) := D4
        have B5 := Wc.hid (below_drewN B4.out nq)
        obtain ⟨W5, hW5⟩ : ∃ W5, W4.drewN nq = W5 := ⟨_, rfl⟩
        rw [hW5] at A5 B5 C5 D5 ⊢
        clear hW5 a0 a1 a2 a3 a4 c0 c1 c2 c3 c4 d0 d1 d2 d3 d4 A4 B4 C4 D4
        have ⟨a0, a1, a2, a3, a4⟩ := A5.out.sc
        have ⟨c0, c1, c2, c3, c4⟩ := C5.out.sc
        have ⟨d0, d1, d2, d3, d4⟩ := D5.out.sc
        have f0 := A5.out.frozen 0
        have f1 := A5.out.frozen 1
        have f2 := A5.out.frozen 2
        have f3 := A5.out.frozen 3
        have f4 := A5.out.frozen 4
        go_wp2_with fail
        rw [HR.out]
        exact bodyPost_ret (ret_cell3 rfl rfl rfl rfl (A5.out.set Ws.s0).sc) rfl ⟨rfl, below5 B5.out (Nat.le_refl _) Ws.s0⟩
      · have HR : Hid (rpk (onB m X) (onB m Y) (Ws.par X) (Ws.par Y) = (t, 1, true)) := Wc.hid (by rw [HON.out, HON2.out, HS.out, HT.out, k1, k2, l2]; simp [rpk])
        go_quiet (fail)
        have A5 : Hid (Sh (W4.drewN nq) w.heap.size Ws.s0) := A4
        have C5 : Hid (Sh (W4.drewN nq) w1.heap.size s) := C4
        have D5 : Hid (Sh (W4.drewN nq) w3.heap.size t) := D4
        have B5 := Wc.hid (below_drewN B4.out nq)
        obtain ⟨W5, hW5⟩ : ∃ W5, W4.drewN nq = W5 := ⟨_, rfl⟩
        rw [hW5] at A5 B5 C5 D5 ⊢
        clear hW5 a0 a1 a2 a3 a4 c0 c1 c2 c3 c4 d0 d1 d2 d3 d4 A4 B4 C4 D4
        have ⟨a0, a1, a2, a3, a4⟩ := A5.out.sc
        have ⟨c0, c1, c2, c3, c4⟩ := C5.out.sc
        have ⟨d0, d1, d2, d3, d4⟩ := D5.out.sc
        have f0 := A5.out.frozen 0
        have f1 := A5.out.frozen 1
        have f2 := A5.out.frozen 2
        have f3 := A5.out.frozen 3
        have f4 := A5.out.frozen 4
        go_wp2_with fail
        rw [HR.out]
        exact bodyPost_ret (ret_cell3 rfl rfl rfl rfl (A5.out.set t).sc) rfl ⟨rfl, below5 B5.out (Nat.le_refl _) t⟩
  · cases l1 : (s.blocks == m)
    · cases k2 : (F == 0)
      · have HR : Hid (rpk (onB m X) (onB m Y) (Ws.par X) (Ws.par Y) = (Ws.s0, 0, false)) := Wc.hid (by rw [HON.out, HON2.out, HS.out, HT.out, k1, l1, k2]; simp [rpk])
        go_quiet (fail)
        have A5 : Hid (Sh (W4.drewN nq) w.heap.size Ws.s0) := A4
        have C5 : Hid (Sh (W4.drewN nq) w1.heap.size s) := C4
        have D5 : Hid (Sh (W4.drewN nq) w3.heap.size t) := D4
        have B5 := Wc.hid (below_drewN B4.out nq)
        obtain ⟨W5, hW5⟩ : ∃ W5, W4.drewN nq = W5 := ⟨_, rfl⟩
        rw [hW5] at A5 B5 C5 D5 ⊢
        clear hW5 a0 a1 a2 a3 a4 c0 c1 c2 c3 c4 d0 d1 d2 d3 d4 A4 B4 C4 D4
        have ⟨a0, a1, a2, a3, a4⟩ := A5.out.sc
        have ⟨c0, c1, c2, c3, c4⟩ := C5.out.sc
        have ⟨d0, d1, d2, d3, d4⟩ := D5.out.sc
        have f0 := A5.out.frozen 0
        have f1 := A5.out.frozen 1
        have f2 := A5.out.frozen 2
        have f3 := A5.out.frozen 3
        have f4 := A5.out.frozen 4
        go_wp2_with fail
        rw [HR.out]
        exact bodyPost_ret (ret_cell3 rfl rfl rfl rfl (A5.out.set Ws.s0).sc) rfl ⟨rfl, below5 B5.out (Nat.le_refl _) Ws.s0⟩
      · cases l2 : (t.blocks == m)
        · have HR : Hid (rpk (onB m X) (onB m Y) (Ws.par X) (Ws.par Y) = (Ws.s0, 0, false)) := Wc.hid (by rw [HON.out, HON2.out, HS.out, HT.out, k1, l1, k2, l2]; simp [rpk])
          go_quiet (fail)
          have A5 : Hid (Sh (W4.drewN nq) w.heap.size Ws.s0) := A4
          have C5 : Hid (Sh (W4.drewN nq) w1.heap.size s) := C4
          have D5 : Hid (Sh (W4.drewN nq) w3.heap.size t) := D4
          have B5 := Wc.hid (below_drewN B4.out nq)
          obtain ⟨W5, hW5⟩ : ∃ W5, W4.drewN nq = W5 := ⟨_, rfl⟩
          rw [hW5] at A5 B5 C5 D5 ⊢
          clear hW5 a0 a1 a2 a3 a4 c0 c1 c2 c3 c4 d0 d1 d2 d3 d4 A4 B4 C4 D4
          have ⟨a0, a1, a2, a3, a4⟩ := A5.out.sc
          have ⟨c0, c1, c2, c3, c4⟩ := C5.out.sc
          have ⟨d0, d1, d2, d3, d4⟩ := D5.out.sc
          have f0 := A5.out.frozen 0
          have f1 := A5.out.frozen 1
          have f2 := A5.out.frozen 2
          have f3 := A5.out.frozen 3
          have f4 := A5.out.frozen 4
          go_wp2_with fail
          rw [HR.out]
          exact bodyPost_ret (ret_cell3 rfl rfl rfl rfl (A5.out.set Ws.s0).sc) rfl ⟨rfl, below5 B5.out (Nat.le_refl _) Ws.s0⟩
        · have HR : Hid (rpk (onB m X) (onB m Y) (Ws.par X) (Ws.par Y) = (t, 1, true)) := Wc.hid (by rw [HON.out, HON2.out, HS.out, HT.out, k1, l1, k2, l2]; simp [rpk])
          go_quiet (fail)
          have A5 : Hid (Sh (W4.drewN nq) w.heap.size Ws.s0) := A4
          have C5 : Hid (Sh (W4.drewN nq) w1.heap.size s) := C4
          have D5 : Hid (Sh (W4.drewN nq) w3.heap.size t) := D4
          have B5 := Wc.hid (below_drewN B4.out nq)
          obtain ⟨W5, hW5⟩ : ∃ W5, W4.drewN nq = W5 := ⟨_, rfl⟩
          rw [hW5] at A5 B5 C5 D5 ⊢
          clear hW5 a0 a1 a2 a3 a4 c0 c1 c2 c3 c4 d0 d1 d2 d3 d4 A4 B4 C4 D4
          have ⟨a0, a1, a2, a3, a4⟩ := A5.out.sc
          have ⟨c0, c1, c2, c3, c4⟩ := C5.out.sc
          have ⟨d0, d1, d2, d3, d4⟩ := D5.out.sc
          have f0 := A5.out.frozen 0
          have f1 := A5.out.frozen 1
          have f2 := A5.out.frozen 2
          have f3 := A5.out.frozen 3
          have f4 := A5.out.frozen 4
          go_wp2_with fail
          rw [HR.out]
          exact bodyPost_ret (ret_cell3 rfl rfl rfl rfl (A5.out.set t).sc) rfl ⟨rfl, below5 B5.out (Nat.le_refl _) t⟩
    · cases k2 : (F == 0)
      · have HR : Hid (rpk (onB m X) (onB m Y) (Ws.par X) (Ws.par Y) = (s, 0, true)) := Wc.hid (by rw [HON.out, HON2.out, HS.out, HT.out, k1, l1, k2]; simp [rpk])
        go_quiet (fail)
        have A5 : Hid (Sh (W4.drewN nq) w.heap.size Ws.s0) := A4
        have C5 : Hid (Sh (W4.drewN nq) w1.heap.size s) := C4
        have D5 : Hid (Sh (W4.drewN nq) w3.heap.size t) := D4
        have B5 := Wc.hid (below_drewN B4.out nq)
        obtain ⟨W5, hW5⟩ : ∃ W5, W4.drewN nq = W5 := ⟨_, rfl⟩
        rw [hW5] at A5 B5 C5 D5 ⊢
        clear hW5 a0 a1 a2 a3 a4 c0 c1 c2 c3 c4 d0 d1 d2 d3 d4 A4 B4 C4 D4
        have ⟨a0, a1, a2, a3, a4⟩ := A5.out.sc
        have ⟨c0, c1, c2, c3, c4⟩ := C5.out.sc
        have ⟨d0, d1, d2, d3, d4⟩ := D5.out.sc
        have f0 := A5.out.frozen 0
        have f1 := A5.out.frozen 1
        have f2 := A5.out.frozen 2
        have f3 := A5.out.frozen 3
        have f4 := A5.out.frozen 4
        go_wp2_with fail
        rw [HR.out]
        exact bodyPost_ret (ret_cell3 rfl rfl rfl rfl (A5.out.set s).sc) rfl ⟨rfl, below5 B5.out (Nat.le_refl _) s⟩
      · cases l2 : (t.blocks == m)
        · have HR : Hid (rpk (onB m X) (onB m Y) (Ws.par X) (Ws.par Y) = (s, 0, true)) := Wc.hid (by rw [HON.out, HON2.out, HS.out, HT.out, k1, l1, k2, l2]; simp [rpk])
          go_quiet (fail)
          have A5 : Hid (Sh (W4.drewN nq) w.heap.size Ws.s0) := A4
          have C5 : Hid (Sh (W4.drewN nq) w1.heap.size s) := C4
          have D5 : Hid (Sh (W4.drewN nq) w3.heap.size t) := D4
          have B5 := Wc.hid (below_drewN B4.out nq)
          obtain ⟨W5, hW5⟩ : ∃ W5, W4.drewN nq = W5 := ⟨_, rfl⟩
          rw [hW5] at A5 B5 C5 D5 ⊢
          clear hW5 a0 a1 a2 a3 a4 c0 c1 c2 c3 c4 d0 d1 d2 d3 d4 A4 B4 C4 D4
          have ⟨a0, a1, a2, a3, a4⟩ := A5.out.sc
          have ⟨c0, c1, c2, c3, c4⟩ := C5.out.sc
          have ⟨d0, d1, d2, d3, d4⟩ := D5.out.sc
          have f0 := A5.out.frozen 0
          have f1 := A5.out.frozen 1
          have f2 := A5.out.frozen 2
          have f3 := A5.out.frozen 3
          have f4 := A5.out.frozen 4
          go_wp2_with fail
          rw [HR.out]
          exact bodyPost_ret (ret_cell3 rfl rfl rfl rfl (A5.out.set s).sc) rfl ⟨rfl, below5 B5.out (Nat.le_refl _) s⟩
        · by_cases hge : t.gen ≤ s.gen
          · have HR : Hid (rpk (onB m X) (onB m Y) (Ws.par X) (Ws.par Y) = (s, 0, true)) := Wc.hid (by rw [HON.out, HON2.out, HS.out, HT.out, k1, l1, k2, l2]; simp [rpk, hge])
            go_quiet (fail)
            have A5 : Hid (Sh (W4.drewN nq) w.heap.size Ws.s0) := A4
            have C5 : Hid (Sh (W4.drewN nq) w1.heap.size s) := C4
            have D5 : Hid (Sh (W4.drewN nq) w3.heap.size t) := D4
            have B5 := Wc.hid (below_drewN B4.out nq)
            obtain ⟨W5, hW5⟩ : ∃ W5, W4.drewN nq = W5 := ⟨_, rfl⟩
            rw [hW5] at A5 B5 C5 D5 ⊢
            clear hW5 a0 a1 a2 a3 a4 c0 c1 c2 c3 c4 d0 d1 d2 d3 d4 A4 B4 C4 D4
            have ⟨a0, a1, a2, a3, a4⟩ := A5.out.sc
            have ⟨c0, c1, c2, c3, c4⟩ := C5.out.sc
            have ⟨d0, d1, d2, d3, d4⟩ := D5.out.sc
            have f0 := A5.out.frozen 0
            have f1 := A5.out.frozen 1
            have f2 := A5.out.frozen 2
            have f3 := A5.out.frozen 3
            have f4 := A5.out.frozen 4
            go_wp2_with fail
            rw [HR.out]
            exact bodyPost_ret (ret_cell3 rfl rfl rfl rfl (A5.out.set s).sc) rfl ⟨rfl, below5 B5.out (Nat.le_refl _) s⟩
          · have HR : Hid (rpk (onB m X) (onB m Y) (Ws.par X) (Ws.par Y) = (t, 1, true)) := Wc.hid (by rw [HON.out, HON2.out, HS.out, HT.out, k1, l1, k2, l2]; simp [rpk, hge])
            go_quiet (fail)
            have A5 : Hid (Sh (W4.drewN nq) w.heap.size Ws.s0) := A4
            have C5 : Hid (Sh (W4.drewN nq) w1.heap.size s) := C4
            have D5 : Hid (Sh (W4.drewN nq) w3.heap.size t) := D4
            have B5 := Wc.hid (below_drewN B4.out nq)
            obtain ⟨W5, hW5⟩ : ∃ W5, W4.drewN nq = W5 := ⟨_, rfl⟩
            rw [hW5] at A5 B5 C5 D5 ⊢
            clear hW5 a0 a1 a2 a3 a4 c0 c1 c2 c3 c4 d0 d1 d2 d3 d4 A4 B4 C4 D4
            have ⟨a0, a1, a2, a3, a4⟩ := A5.out.sc
            have ⟨c0, c1, c2, c3, c4⟩ := C5.out.sc
            have ⟨d0, d1, d2, d3, d4⟩ := D5.out.sc
            have f0 := A5.out.frozen 0
            have f1 := A5.out.frozen 1
            have f2 := A5.out.frozen 2
            have f3 := A5.out.frozen 3
            have f4 := A5.out.frozen 4
            go_wp2_with fail
            rw [HR.out]
            exact bodyPost_ret (ret_cell3 rfl rfl rfl rfl (A5.out.set t).sc) rfl ⟨rfl, below5 B5.out (Nat.le_refl _) t⟩

end Go.Proofs.YtiobegoiehjfiaaGreat
namespace Wc
open Go Go.RowKit

end Wc
namespace Go.Proofs.YtiobegoiehjfiaaGreat
open Go.RowKit

theorem Sh.below {w w' : World} {B base : Nat} {s : Ws.Sup} (h : Sh w B s) (hb : Below base w w') (hlt : B < base) : Sh w' B s := by
  unfold Sh
  rw [hb.block B hlt]; exact h

theorem fit_enc {n : Int} (h : 0 ≤ n ∧ n ≤ 1099511627776) : 0 ≤ n ∧ n ≤ 4611686018427387903 := by omega

end Go.Proofs.YtiobegoiehjfiaaGreat
namespace Go.Proofs.YtiobegoiehjfiaaGreat
open Go.RowKit

/-- What the page's open tells. -/
def opR (xs : List Int) : Int := if xs.length = 64 then (if xs.take 4 = Wr.name then (if Wc.goodB xs = true then 0 else 5) else 4) else 2

set_option maxHeartbeats 800000 in
theorem openR_len (a : Option Addr) (n cap : Nat) (w : World) (hl : ¬ n = 64) :
    Calls Tryz.prog 37 #[.slice a n cap, .string ⟨#[83, 78, 65, 80]⟩] w fun e w' => e = .returned (.int .i64 2) ∧ Below w.heap.size w w' := by
  have hb : (((n : Int) != 64) = true) := by simp; omega
  clear hl
  go_enter Tryz.func37, Tryz.ntmps37
  go_wp2_with fail
  go_ret
  exact ⟨rfl, Below.refl _ _⟩

set_option maxHeartbeats 800000 in
theorem openR_name (b off cap : Nat) (S : ByteArray) (w : World) (hc : 64 ≤ cap) (hc2 : cap ≤ 9223372036854775807)
   (hcv : (convert 23 9 (.slice (some ⟨b, off, none⟩) 4 cap)).run Tryz.prog w = .ok (.string S) w) (hS : (S.toList == [83, 78, 65, 80]) = false) :
    Calls Tryz.prog 37 #[.slice (some ⟨b, off, none⟩) 64 cap, .string ⟨#[83, 78, 65, 80]⟩] w fun e w' => e = .returned (.int .i64 4) ∧ Below w.heap.size w w' := by
  go_enter Tryz.func37, Tryz.ntmps37
  go_wp2_with fail
  go_ret
  exact ⟨rfl, Below.refl _ _⟩

set_option maxRecDepth 100000 in
set_option maxHeartbeats 800000 in
theorem openR_good (b off cap : Nat) (xs : List Int) (S : ByteArray) (w : World) (hv : Wc.Bs w (.slice (some ⟨b, off, none⟩) 64 cap) xs) (hc : 64 ≤ cap) (hc2 : cap ≤ 9223372036854775807)
   (hcv : (convert 23 9 (.slice (some ⟨b, off, none⟩) 4 cap)).run Tryz.prog w = .ok (.string S) w) (hS : (S.toList == [83, 78, 65, 80]) = true) :
    Calls Tryz.prog 37 #[.slice (some ⟨b, off, none⟩) 64 cap, .string ⟨#[83, 78, 65, 80]⟩] w fun e w' => e = .returned (.int .i64 (if Wc.goodB xs = true then 0 else 5)) ∧ Below w.heap.size w w' := by
  have HV := Wc.hid hv
  clear hv
  cases hg : Wc.goodB xs
  · have HG := Wc.hid hg
    clear hg
    go_enter Tryz.func37, Tryz.ntmps37
    go_wp2_with fail
    refine (refGood_any _ xs _ HV.out).mono ?_
    rintro e w1 ⟨rfl, hb1⟩
    rw [HG.out]
    go_wp2_with fail
    go_ret
    exact ⟨rfl, hb1⟩
  · have HG := Wc.hid hg
    clear hg
    go_enter Tryz.func37, Tryz.ntmps37
    go_wp2_with fail
    refine (refGood_any _ xs _ HV.out).mono ?_
    rintro e w1 ⟨rfl, hb1⟩
    rw [HG.out]
    go_wp2_with fail
    go_ret
    exact ⟨rfl, hb1⟩

theorem openR_any (v : Value) (xs : List Int) (w : World) (hv : Wc.Bs w v xs) :
    Calls Tryz.prog 37 #[v, .string ⟨#[83, 78, 65, 80]⟩] w fun e w' => e = .returned (.int .i64 (opR xs)) ∧ Below w.heap.size w w' := by
  have hxb := Wc.bs_bytes hv
  unfold opR
  by_cases hl : xs.length = 64
  · rw [if_pos hl]
    rcases hv.open with ⟨rfl, _⟩ | ⟨b, off, n, cap, rfl, h0, hn, hc, hc2, _⟩
    · simp at hl
    · obtain rfl : n = 64 := by omega
      have hcv := convert_txt hv (by omega)
      by_cases hnm : xs.take 4 = Wr.name
      · rw [if_pos hnm]
        exact openR_good b off cap xs _ w hv hc hc2 hcv ((txt_snap xs (by omega) hxb).2 hnm)
      · rw [if_neg hnm]
        exact openR_name b off cap _ w hc hc2 hcv (txt_snapNo xs (by omega) hxb hnm)
  · rw [if_neg hl]
    obtain ⟨a, n, cap, rfl, hn, -⟩ := hv
    exact openR_len a n cap w (by omega)

theorem opR_zero {xs : List Int} (h : opR xs = 0) : xs.length = 64 ∧ xs.take 4 = Wr.name ∧ Wc.goodB xs = true := by
  unfold opR at h
  by_cases h1 : xs.length = 64
  · rw [if_pos h1] at h
    by_cases h2 : xs.take 4 = Wr.name
    · rw [if_pos h2] at h
      by_cases h3 : Wc.goodB xs = true
      · exact ⟨h1, h2, h3⟩
      · rw [if_neg h3] at h; omega
    · rw [if_neg h2] at h; omega
  · rw [if_neg h1] at h; omega

theorem opR_no {xs : List Int} (h : ¬ opR xs = 0) : Wr.parE xs = opR xs ∧ Wr.par xs = Wr.r0 := by
  by_cases h1 : xs.length = 64
  · by_cases h2 : xs.take 4 = Wr.name
    · cases h3 : Wc.goodB xs
      · have := Wr.par_sum h1 h2 h3
        exact ⟨by rw [this.1]; simp [opR, h1, h2, h3], this.2⟩
      · exact absurd (by simp [opR, h1, h2, h3]) h
    · have := Wr.par_name h1 h2
      exact ⟨by rw [this.1]; simp [opR, h1, h2], this.2⟩
  · have := Wr.par_len h1
    exact ⟨by rw [this.1]; simp [opR, h1], this.2⟩

set_option maxHeartbeats 1600000 in
theorem refParse8_no (v : Value) (xs : List Int) (w : World) (hv : Wc.Bs w v xs) (h : ¬ opR xs = 0) :
    Calls Tryz.prog 35 #[v] w fun e w' => e = .returned (.tuple #[rv (Wr.par xs), .int .i64 (Wr.parE xs)]) ∧ Below w.heap.size w w' := by
  have hE := opR_no h
  rw [hE.1, hE.2]
  have HV := Wc.hid (hv.alloc (.cells #[.int .i64 0, .int .i64 0, .int .i64 0, .int .i64 0, .int .i64 0, .int .i64 0, .int .i64 0, .int .i64 0] 63))
  have hne : (opR xs != 0) = true := by simpa using h
  clear hv h hE
  go_enter Tryz.func35, Tryz.ntmps35
  go_wp2_with fail
  refine (openR_any _ xs _ HV.out).mono ?_
  rintro e w1 ⟨rfl, hb1⟩
  have A1 := Wc.hid ((Rh.new w Wr.r0).keep hb1)
  have HB := Wc.hid (Wc.step ((Below.refl w.heap.size w).alloc (Nat.le_refl _) (.cells #[.int .i64 0, .int .i64 0, .int .i64 0, .int .i64 0, .int .i64 0, .int .i64 0, .int .i64 0, .int .i64 0] 63)) (Nat.le_refl _) hb1)
  clear hb1
  have ⟨c0, c1, c2, c3, c4, c5, c6, c7⟩ := A1.out.rc
  have f0 := A1.out.frozen 0
  have f1 := A1.out.frozen 1
  have f2 := A1.out.frozen 2
  have f3 := A1.out.frozen 3
  have f4 := A1.out.frozen 4
  have f5 := A1.out.frozen 5
  have f6 := A1.out.frozen 6
  have f7 := A1.out.frozen 7
  go_wp2_with fail
  exact bodyPost_ret (ret_cell8 rfl rfl rfl (A1.out.over Wr.r0).rc) rfl ⟨rfl, below8 HB.out (Nat.le_refl _) Wr.r0⟩

set_option maxHeartbeats 3200000 in
theorem refParse8_yes (b off cap : Nat) (xs : List Int) (w : World) (hv : Wc.Bs w (.slice (some ⟨b, off, none⟩) 64 cap) xs) (hc : 64 ≤ cap) (hc2 : cap ≤ 9223372036854775807) (h : opR xs = 0) :
    Calls Tryz.prog 35 #[.slice (some ⟨b, off, none⟩) 64 cap] w fun e w' => e = .returned (.tuple #[rv (Wr.par xs), .int .i64 (Wr.parE xs)]) ∧ Below w.heap.size w w' := by
  have HO := Wc.hid (opR_zero h)
  have HE := Wc.hid h
  have HV := Wc.hid (hv.alloc (.cells #[.int .i64 0, .int .i64 0, .int .i64 0, .int .i64 0, .int .i64 0, .int .i64 0, .int .i64 0, .int .i64 0] 63))
  have N8 := Wc.hid (num8 xs 8)
  have N16 := Wc.hid (num8 xs 16)
  have I8 := Wc.hid (Wr.hot_id (xs := xs))
  have I16 := Wc.hid (Wr.hot_parent (xs := xs))
  have IH := Wc.hid (Wr.hot_rec xs)
  clear hv h
  go_enter Tryz.func35, Tryz.ntmps35
  go_wp2_with fail
  refine (openR_any _ xs _ HV.out).mono ?_
  rintro e w1 ⟨rfl, hb1⟩
  rw [HE.out]
  have A1 := Wc.hid ((Rh.new w Wr.r0).keep hb1)
  have HB := Wc.hid (Wc.step ((Below.refl w.heap.size w).alloc (Nat.le_refl _) (.cells #[.int .i64 0, .int .i64 0, .int .i64 0, .int .i64 0, .int .i64 0, .int .i64 0, .int .i64 0, .int .i64 0] 63)) (Nat.le_refl _) hb1)
  have V1 := Wc.hid (HV.out.keep hb1)
  clear hb1 HV
  go_wp2_with fail
  refine (refGet8_any b off 64 cap 8 xs _ V1.out (by omega) hc hc2).mono ?_
  rintro e w2 ⟨rfl, rfl⟩
  rw [N8.out.1, N8.out.2]
  obtain ⟨ok, hok⟩ : ∃ ok, Wr.i8 (Ws.num xs 8 8) = ok := ⟨_, rfl⟩
  rw [hok] at I8 IH ⊢
  clear hok
  go_wp2_with fail
  refine (refGet8_any b off 64 cap 16 xs _ V1.out (by omega) hc hc2).mono ?_
  rintro e w2 ⟨rfl, rfl⟩
  rw [N16.out.1, N16.out.2]
  obtain ⟨is, his⟩ : ∃ is, Wr.i8 (Ws.num xs 16 8) = is := ⟨_, rfl⟩
  rw [his] at I16 IH ⊢
  clear his
  go_wp2_with fail
  refine (refGet4_any b off 64 cap 4 xs _ V1.out (by omega) hc hc2).mono ?_
  rintro e w3 ⟨rfl, rfl⟩
  go_wp2_with fail
  refine (refGet4_any b off 64 cap 24 xs _ V1.out (by omega) hc hc2).mono ?_
  rintro e w3 ⟨rfl, rfl⟩
  go_wp2_with fail
  refine (refGet4_any b off 64 cap 28 xs _ V1.out (by omega) hc hc2).mono ?_
  rintro e w3 ⟨rfl, rfl⟩
  go_wp2_with fail
  refine (refGet4_any b off 64 cap 32 xs _ V1.out (by omega) hc hc2).mono ?_
  rintro e w3 ⟨rfl, rfl⟩
  go_wp2_with fail
  refine (refGet4_any b off 64 cap 36 xs _ V1.out (by omega) hc hc2).mono ?_
  rintro e w3 ⟨rfl, rfl⟩
  go_wp2_with fail
  refine (refGet4_any b off 64 cap 40 xs _ V1.out (by omega) hc hc2).mono ?_
  rintro e w3 ⟨rfl, rfl⟩
  have e0 : Wc.val ((xs.drop 4).take 4) = (Wr.hot xs).next := rfl
  have e3 : Wc.val ((xs.drop 24).take 4) = (Wr.hot xs).root := rfl
  have e4 : Wc.val ((xs.drop 28).take 4) = (Wr.hot xs).size := rfl
  have e5 : Wc.val ((xs.drop 32).take 4) = (Wr.hot xs).kind := rfl
  have e6 : Wc.val ((xs.drop 36).take 4) = (Wr.hot xs).frames := rfl
  have e7 : Wc.val ((xs.drop 40).take 4) = (Wr.hot xs).digest := rfl
  have e1 : Wr.h8 (Ws.num xs 8 8) = (Wr.hot xs).id := rfl
  have e2 : Wr.h8 (Ws.num xs 16 8) = (Wr.hot xs).parent := rfl
  rw [e0, e1, e2, e3, e4, e5, e6, e7]
  clear e0 e1 e2 e3 e4 e5 e6 e7
  generalize Wr.hot xs = t at IH ⊢
  have HAL := Wc.hid ((Below.refl w1.heap.size w1).alloc (Nat.le_refl _) (.cells #[.int .i64 t.next, .int .i64 t.id, .int .i64 t.parent, .int .i64 t.root, .int .i64 t.size, .int .i64 t.kind, .int .i64 t.frames, .int .i64 t.digest] 63))
  have A2 := Wc.hid (A1.out.keep HAL.out)
  have B2 := Wc.hid (Wc.step HB.out (Nat.le_refl _) HAL.out)
  have D2 := Wc.hid (Rh.new w1 t)
  have V2 := Wc.hid (V1.out.keep HAL.out)
  clear HAL A1 V1 HB
  cases ok
  · have HP := Wc.hid (Wr.par_arg HO.out.1 HO.out.2.1 HO.out.2.2 (by rw [I8.out rfl]; rfl))
    have ⟨c0, c1, c2, c3, c4, c5, c6, c7⟩ := A2.out.rc
    have f0 := A2.out.frozen 0
    have f1 := A2.out.frozen 1
    have f2 := A2.out.frozen 2
    have f3 := A2.out.frozen 3
    have f4 := A2.out.frozen 4
    have f5 := A2.out.frozen 5
    have f6 := A2.out.frozen 6
    have f7 := A2.out.frozen 7
    go_wp2_with fail
    rw [HP.out.1, HP.out.2]
    exact bodyPost_ret (ret_cell8 rfl rfl rfl (A2.out.over Wr.r0).rc) rfl ⟨rfl, below8 B2.out (Nat.le_refl _) Wr.r0⟩
  cases is
  · have HP := Wc.hid (Wr.par_arg HO.out.1 HO.out.2.1 HO.out.2.2 (by rw [I16.out rfl]; rfl))
    have ⟨c0, c1, c2, c3, c4, c5, c6, c7⟩ := A2.out.rc
    have f0 := A2.out.frozen 0
    have f1 := A2.out.frozen 1
    have f2 := A2.out.frozen 2
    have f3 := A2.out.frozen 3
    have f4 := A2.out.frozen 4
    have f5 := A2.out.frozen 5
    have f6 := A2.out.frozen 6
    have f7 := A2.out.frozen 7
    go_wp2_with fail
    rw [HP.out.1, HP.out.2]
    exact bodyPost_ret (ret_cell8 rfl rfl rfl (A2.out.over Wr.r0).rc) rfl ⟨rfl, below8 B2.out (Nat.le_refl _) Wr.r0⟩
  have HT2 := Wc.hid (IH.out rfl rfl)
  clear I8 I16 IH N8 N16
  go_wp2_with fail
  refine (refRecord_any t _).mono ?_
  rintro e w4 ⟨rfl, hb4⟩
  have A4 := Wc.hid (A2.out.keep hb4)
  have B4 := Wc.hid (Wc.step B2.out (Nat.le_refl _) hb4)
  have D4 := Wc.hid (D2.out.keep hb4)
  have V4 := Wc.hid (V2.out.keep hb4)
  clear hb4 A2 B2 D2 V2
  have ⟨c0, c1, c2, c3, c4, c5, c6, c7⟩ := A4.out.rc
  have f0 := A4.out.frozen 0
  have f1 := A4.out.frozen 1
  have f2 := A4.out.frozen 2
  have f3 := A4.out.frozen 3
  have f4 := A4.out.frozen 4
  have f5 := A4.out.frozen 5
  have f6 := A4.out.frozen 6
  have f7 := A4.out.frozen 7
  have ⟨d0, d1, d2, d3, d4, d5, d6, d7⟩ := D4.out.rc
  cases ht : Wr.recB t
  · have HP := Wc.hid (Wr.par_arg HO.out.1 HO.out.2.1 HO.out.2.2 (by rw [← HT2.out, ht]; rfl))
    clear ht
    go_wp2_with fail
    rw [HP.out.1, HP.out.2]
    exact bodyPost_ret (ret_cell8 rfl rfl rfl (A4.out.over Wr.r0).rc) rfl ⟨rfl, below8 B4.out (Nat.le_refl _) Wr.r0⟩
  · have HT := Wc.hid ht
    clear ht
    go_wp2_with fail
    refine (refZeros_any _ xs 44 60 _ V4.out (by omega)).mono ?_
    rintro e w5 ⟨rfl, rfl⟩
    cases hz : Wc.zerosB xs 44 60
    · have HP := Wc.hid (Wr.par_arg HO.out.1 HO.out.2.1 HO.out.2.2 (by rw [hz, Bool.and_false]))
      clear hz
      go_wp2_with fail
      rw [HP.out.1, HP.out.2]
      exact bodyPost_ret (ret_cell8 rfl rfl rfl (A4.out.over Wr.r0).rc) rfl ⟨rfl, below8 B4.out (Nat.le_refl _) Wr.r0⟩
    · have HP := Wc.hid (Wr.par_ok HO.out.1 HO.out.2.1 HO.out.2.2 (by rw [hz, ← HT2.out, HT.out]; rfl))
      clear hz
      go_wp2_with fail
      rw [HP.out.1, HP.out.2, ← HT2.out]
      exact bodyPost_ret (ret_cell8 rfl rfl rfl (A4.out.over t).rc) rfl ⟨rfl, below8 B4.out (Nat.le_refl _) t⟩

theorem refParse8_any (v : Value) (xs : List Int) (w : World) (hv : Wc.Bs w v xs) :
    Calls Tryz.prog 35 #[v] w fun e w' => e = .returned (.tuple #[rv (Wr.par xs), .int .i64 (Wr.parE xs)]) ∧ Below w.heap.size w w' := by
  by_cases h : opR xs = 0
  · have hl := (opR_zero h).1
    rcases hv.open with ⟨rfl, _⟩ | ⟨b, off, n, cap, rfl, h0, hn, hc, hc2, _⟩
    · simp at hl
    · obtain rfl : n = 64 := by omega
      exact refParse8_yes b off cap xs w hv hc hc2 h
  · exact refParse8_no v xs w hv h

end Go.Proofs.YtiobegoiehjfiaaGreat
