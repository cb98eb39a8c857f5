/-
  DevLast for every input.
-/
import Derived.Test.YtjacpmbdmbahhaaDblk
import Derived.Test.YtjacpmbdmbahhaaDhv
import Derived.Test.YtjacpmbdmbahhaaDwake
namespace Go.Proofs.Ytjacpmbdmbahhaa
open Go.RowKit

set_option maxRecDepth 100000 in
set_option maxHeartbeats 1600000 in
theorem devLast_ok (ai : Option Addr) (ni ci : Nat) (a : Option Addr) (n cap : Nat) (y : Int) (xs : List Int) (l : List Wd.Io) (w : World) (hB : Wc.Bs w (.slice ai ni ci) xs) (hR : Wd.Raw w a n cap l) (hh : Wd.heavyB ni l = false) (hz : Wd.stepsE ni l = 0) :
    Calls Try.prog 7 #[.slice ai ni ci, .slice a n cap, .int .i64 y] w fun e w' => e = .returned (.bool true) ∧ Below w.heap.size w w' := by
  have hI := hR.light hh
  have hni : ni ≤ 140737488355328 := by obtain ⟨_, _, _, h1, _, _, _, h5, _⟩ := hB; cases h1; exact h5
  have hxl := Wc.bs_len hB
  have hst := Wd.stepsE_zero hz
  have hd := Wd.devB_iff.1 hst.1
  obtain ⟨m, hm⟩ : ∃ m : Nat, ni / 64 = m := ⟨_, rfl⟩
  have hm2 : 4 ≤ m ∧ m ≤ 4096 := by omega
  have HR := Wc.hid hR
  have HB := Wc.hid hB
  have HI := Wc.hid hI
  have HST := Wc.hid hst
  have HXL := Wc.hid hxl
  have HM := Wc.hid hm
  have hdv := hst.1
  obtain ⟨A, hA1, hA2⟩ := Wc.low (m : Int) y (by omega) (by omega)
  obtain ⟨q, rfl⟩ : ∃ q : Nat, A = q := ⟨A.toNat, by omega⟩
  have hq : q < m := by omega
  have hok := hst.2.2
  rw [hm] at hok
  have hxm : xs.length = m * 64 := by omega
  obtain ⟨X, hX⟩ : ∃ X, Wd.app xs l = X := ⟨_, rfl⟩
  have eA : Wd.appR xs l = X := by unfold Wd.appR; rw [hxl, if_pos hz, hX]
  have eAl : X.length = ni := by rw [← hX, Wd.app_length (by omega) l xs hxm hok, hxl]
  have eS : Wd.stepsE xs.length l = 0 := by rw [hxl]; exact hz
  have hrd := Wd.rdR_blk (xs := X) (q := q) (by rw [eAl]; exact hdv) (by rw [eAl, hm]; exact hq)
  have hbl : (Wd.blk X q).length = 64 := by unfold Wd.blk; simp; omega
  have hfin : Wd.blk X q = Wd.lastW xs l q n := by
    have := Wd.blk_app (by omega) q hxm hok l.length (Nat.le_refl _)
    rw [List.take_length, hX, Wd.is_len hI] at this
    exact this
  have hln := Wd.is_cap hI
  obtain ⟨a', n', cap', h1, hl, -, -, -, hpos⟩ := hI
  cases h1
  have HP := Wc.hid hpos
  have HL := Wc.hid hl
  have HOK := Wc.hid hok
  have HFIN := Wc.hid hfin
  have HRD := Wc.hid hrd
  have HEA := Wc.hid eA
  have HEL := Wc.hid eAl
  have HES := Wc.hid eS
  have HBL := Wc.hid hbl
  have hqq : q * 64 + 64 ≤ ni := by omega
  clear hR hB hst hxl hd hpos hl hok hxm hX eA eAl eS hrd hbl hfin hA1
  go_enter Try.func7, Try.ntmps7
  go_wp2_with (first | (go_at_call 8; refine (heavy_raw _ _ _ _ _ _ l _ HR.out).mono ?_; rintro e w' ⟨rfl, rfl⟩; rw [hh]) | (go_at_call 17; refine (refSteps_any _ _ _ _ _ _ l _ hni HI.out).mono ?_; rintro e w' ⟨rfl, rfl⟩; rw [hz]) | (go_at_call 16; refine (blocks_any _ _ _ _ hni).mono ?_; rintro e w' ⟨rfl, rfl⟩; rw [hm, hdv]))
  rw [hA2]
  clear hh hz hm hdv hA2
  refine (apply_any _ _ _ _ _ _ xs l _ HB.out HI.out).mono ?_
  rintro e w1 ⟨ax, cx, rfl, hx, hb1⟩
  rw [HEA.out, HEL.out] at hx
  rw [HEA.out, HEL.out, HES.out]
  have HX := Wc.hid hx
  have HB1 := Wc.hid hb1
  clear hx hb1
  go_wp2_with fail
  refine (read_any _ _ _ q X _ HX.out).mono ?_
  rintro e w2 ⟨az, cz, rfl, hz, hb2⟩
  rw [HRD.out.2, HBL.out] at hz
  rw [HRD.out.2, HBL.out, HRD.out.1]
  have HZ := Wc.hid hz
  have HB2 := Wc.hid (Wc.step HB1.out (Nat.le_refl _) hb2)
  clear hz hb2
  go_wp2_with fail
  refine (block_any _ _ _ q xs _ (HB.out.keep HB2.out) hqq).mono ?_
  rintro e w3 ⟨aw, cw, rfl, hw, rfl⟩
  have HW := Wc.hid hw
  clear hw
  go_wp2_with fail
  go_loopw [13, 14] (fun v i wr => ∃ k : Nat, i = .int .i64 k ∧ k ≤ n ∧ w2 = wr ∧ ∃ va vc, v = .slice va 64 vc ∧ Hid (Wc.Bs w2 (.slice va 64 vc) (Wd.lastW xs l q k))) (fun _ i _ => n - (intOf i).toNat)
  case atStart => exact ⟨0, rfl, by omega, rfl, _, _, rfl, HW⟩
  case round =>
    obtain ⟨k, rfl, hk, rfl, va, vc, rfl, HV⟩ := hrel
    by_cases hlt : k < n
    · obtain ⟨b, off, rfl, hblt, hcs⟩ := HP.out (by omega)
      obtain ⟨a', c', hx⟩ := hcs k hlt
      have hxok := Wd.all_at HOK.out k (by rw [HL.out]; exact hlt)
      have hlw : Wd.lastW xs l q (k + 1) = if Wd.hits (l.getD k Wd.d0) q then (l.getD k Wd.d0).data else Wd.lastW xs l q k := rfl
      obtain ⟨x, hxe⟩ : ∃ x, l.getD k Wd.d0 = x := ⟨_, rfl⟩
      rw [hxe] at hx hxok hlw
      obtain ⟨c0, c1, c2, c3, -⟩ := hx.keep HB2.out
      clear hcs hx hxe
      by_cases hk1 : x.kind = 1
      · have hdl : x.data.length = 64 := by
          rcases Wd.rightB_iff.1 hxok with ⟨_, _, _, h⟩ | ⟨h, _⟩
          · exact h
          · omega
        rw [hk1] at c0
        rw [hdl] at c2 c3
        have C3 := Wc.hid c3
        by_cases hp : x.pos = (q : Int)
        · rw [if_pos ⟨hk1, hp⟩] at hlw
          have HLW := Wc.hid hlw
          rw [hp] at c1
          clear hlw c3 hxok hk1 hp hdl
          go_wp2
          go_roundw
          case rel => exact ⟨k + 1, by go_num, by omega, (by trivial), _, _, rfl, by rw [HLW.out]; exact C3⟩
          case measure => simp only [intOf]; omega
        · rw [if_neg (fun h => hp h.2)] at hlw
          have HLW := Wc.hid hlw
          have hpb : (x.pos == (q : Int)) = false := by simpa using hp
          clear hlw c3 hxok hk1 hp hdl
          go_wp2
          go_roundw
          case rel => exact ⟨k + 1, by go_num, by omega, (by trivial), _, _, rfl, by rw [HLW.out]; exact HV⟩
          case measure => simp only [intOf]; omega
      · rw [if_neg (fun h => hk1 h.1)] at hlw
        have HLW := Wc.hid hlw
        have hkb : (x.kind == 1) = false := by simpa using hk1
        clear hlw c3 hxok hk1
        go_wp2
        go_roundw
        case rel => exact ⟨k + 1, by go_num, by omega, (by trivial), _, _, rfl, by rw [HLW.out]; exact HV⟩
        case measure => simp only [intOf]; omega
    · obtain rfl : k = n := by omega
      go_wp2_with fail
      refine (bytes_any _ _ _ _ _ HZ.out HV.out).mono ?_
      rintro e w4 ⟨rfl, hb4⟩
      rw [HFIN.out, beq_self_eq_true]
      go_wp2_with fail
      refine (wakes_any _).mono ?_
      rintro e w5 ⟨rfl, hb5⟩
      go_wp2_with fail
      go_ret
      exact ⟨rfl, Wc.step (Wc.step HB2.out (Nat.le_refl _) hb4) (Nat.le_refl _) hb5⟩

set_option maxRecDepth 100000 in
set_option maxHeartbeats 1600000 in
/-- DevLast is true of whatever comes in. -/
theorem devLast_any (ai : Option Addr) (ni ci : Nat) (a : Option Addr) (n cap : Nat) (y : Int) (xs : List Int) (l : List Wd.Io) (w : World) (hB : Wd.RawB w ai ni ci xs) (hR : Wd.Raw w a n cap l) :
    Calls Try.prog 7 #[.slice ai ni ci, .slice a n cap, .int .i64 y] w fun e w' => e = .returned (.bool true) ∧ Below w.heap.size w w' := by
  cases hh : Wd.heavyB ni l
  · have hni := (Wd.heavy_no hh).1
    by_cases hz : Wd.stepsE ni l = 0
    · exact devLast_ok ai ni ci a n cap y xs l w (hB.bs (by omega)) hR hh hz
    · obtain ⟨E, hE⟩ : ∃ E, Wd.stepsE ni l = E := ⟨_, rfl⟩
      have HI := Wc.hid (hR.light hh)
      have HR := Wc.hid hR
      rw [hE] at hz
      have hz' : (E != 0) = true := by simpa using hz
      clear hB hR hz
      go_enter Try.func7, Try.ntmps7
      go_wp2_with (first | (go_at_call 8; refine (heavy_raw _ _ _ _ _ _ l _ HR.out).mono ?_; rintro e w' ⟨rfl, rfl⟩; rw [hh]) | (go_at_call 17; refine (refSteps_any _ _ _ _ _ _ l _ (by omega) HI.out).mono ?_; rintro e w' ⟨rfl, rfl⟩; rw [hE]))
      go_ret
      exact ⟨rfl, Below.refl _ _⟩
  · have HR := Wc.hid hR
    clear hB hR
    go_enter Try.func7, Try.ntmps7
    go_wp2_with (first | (go_at_call 8; refine (heavy_raw _ _ _ _ _ _ l _ HR.out).mono ?_; rintro e w' ⟨rfl, rfl⟩; rw [hh]))
    go_ret
    exact ⟨rfl, Below.refl _ _⟩

end Go.Proofs.Ytjacpmbdmbahhaa
