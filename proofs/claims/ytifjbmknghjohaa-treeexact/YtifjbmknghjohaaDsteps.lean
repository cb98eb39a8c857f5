/-
  What dev.Steps, the page's Steps and the statements' Heavy return, for every device and every list of steps.
-/
import Derived.Test.YtifjbmknghjohaaMore
import Derived.Test.YtifjbmknghjohaaDleaf
namespace Wd
open Go Go.RowKit

theorem all_true {l : List Io} {f : Io → Bool} (h : ∀ j, j < l.length → f (l.getD j d0) = true) : l.all f = true := by
  rw [List.all_eq_true]
  intro x hx
  obtain ⟨i, hi, rfl⟩ := List.mem_iff_getElem.1 hx
  have := h i hi
  simpa [hi] using this

theorem all_false {l : List Io} {f : Io → Bool} (k : Nat) (hk : k < l.length) (h : f (l.getD k d0) = false) : l.all f = false := by
  rw [List.all_eq_false]
  refine ⟨l[k], List.getElem_mem hk, ?_⟩
  have e : l.getD k d0 = l[k] := by simp [hk]
  rw [e] at h
  simp [h]

theorem all_at {l : List Io} {f : Io → Bool} (h : l.all f = true) (k : Nat) (hk : k < l.length) : f (l.getD k d0) = true := by
  have e : l.getD k d0 = l[k] := by simp [hk]
  rw [e]
  exact List.all_eq_true.1 h _ (List.getElem_mem hk)

/-- More than is played? -/
def lightIo (x : Io) : Bool := decide (x.data.length ≤ 300)
def heavyB (n : Nat) (l : List Io) : Bool := !(decide (n ≤ 19200) && (decide (l.length ≤ 400) && l.all lightIo))

theorem stepsE_dev {n : Nat} {l : List Io} (h : devB n = false) : stepsE n l = 2 := by simp [stepsE, h]
theorem stepsE_long {n : Nat} {l : List Io} (h : ¬ l.length ≤ 1048576) : stepsE n l = 2 := by simp [stepsE, h]
theorem stepsE_ok {n : Nat} {l : List Io} (h : devB n = true) (h1 : l.length ≤ 1048576) (h2 : l.all (okIo ((n : Int) / 64)) = true) : stepsE n l = 0 := by
  have : chkN n = (n : Int) / 64 := by simp [chkN, h]
  rw [stepsE, if_pos h, if_pos h1, this, if_pos h2]
theorem stepsE_bad {n : Nat} {l : List Io} (h : devB n = true) (h1 : l.length ≤ 1048576) (h2 : l.all (okIo ((n : Int) / 64)) = false) : stepsE n l = 1 := by
  have : chkN n = (n : Int) / 64 := by simp [chkN, h]
  rw [stepsE, if_pos h, if_pos h1, this, h2]; simp

end Wd
namespace Go.Proofs.Ytifjbmknghjohaa
open Go.RowKit

set_option maxHeartbeats 1600000 in
theorem steps_any (ai : Option Addr) (ni ci : Nat) (a : Option Addr) (n cap : Nat) (l : List Wd.Io) (w : World) (hni : ni ≤ 140737488355328) (hI : Wd.Is w (.slice a n cap) l) :
    Calls Try.prog 33 #[.slice ai ni ci, .slice a n cap] w fun e w' => e = .returned (.int .i64 (Wd.stepsE ni l)) ∧ Below w.heap.size w w' := by
  by_cases hd : Wd.devB ni = true
  · obtain ⟨a', n', cap', h1, hl, hcap, hcap2, hn, hpos⟩ := hI
    cases h1
    have hN := (Wd.chk_yes (Wd.devB_iff.1 hd)).1.symm
    have hE := (Wd.chk_yes (Wd.devB_iff.1 hd)).2.symm
    have HD := Wc.hid hd
    have HP := Wc.hid hpos
    have HL := Wc.hid hl
    clear hd hpos hl
    obtain ⟨m, hm⟩ : ∃ m : Int, (ni : Int) / 64 = m := ⟨_, rfl⟩
    have HM := Wc.hid hm
    rw [hm] at hN
    clear hm
    go_enter Try.func33, Try.ntmps33
    go_wp2_with (go_at_call 41; refine (check_any _ _ _ _ hni).mono ?_; rintro e w' ⟨rfl, rfl⟩; rw [hN, hE])
    · go_ret
      refine ⟨ret_int (Wd.stepsE_long ?_).symm, Below.refl _ _⟩
      rw [HL.out]; omega
    · clear hN hE
      go_loopw [22] (fun i wr => ∃ k : Nat, i = .int .i64 k ∧ k ≤ n ∧ Below w.heap.size w wr ∧ Hid (∀ j, j < k → Wd.okIo m (l.getD j Wd.d0) = true)) (fun i _ => n - (intOf i).toNat)
      case atStart => exact ⟨0, rfl, by omega, Below.refl _ _, fun j h => by omega⟩
      case round =>
        obtain ⟨k, rfl, hk, hb, HZ⟩ := hrel
        by_cases hlt : k < n
        · obtain ⟨b, off, rfl, hblt, hcs⟩ := HP.out (by omega)
          obtain ⟨a', c', hx⟩ := hcs k hlt
          obtain ⟨c0, c1, c2, -, -⟩ := hx.keep hb
          clear hcs hx
          obtain ⟨x, hx⟩ : ∃ x, l.getD k Wd.d0 = x := ⟨_, rfl⟩
          rw [hx] at c0 c1 c2
          have HX := Wc.hid hx
          clear hx
          cases hok : Wd.okIo m x
          · have HOK := Wc.hid hok
            unfold Wd.okIo at hok
            go_wp2_with (go_at_call 49; refine (right_any _ _ _ _ _ _ _).mono ?_; rintro e w' ⟨rfl, hb2⟩; rw [hok])
            go_ret
            refine ⟨ret_int (Wd.stepsE_bad HD.out (by rw [HL.out]; omega) (Wd.all_false k (by rw [HL.out]; exact hlt) ?_)).symm, ?_⟩
            · rw [HM.out, HX.out]; exact HOK.out
            · exact Wc.step (hb.alloc hb.size _) (Nat.le_refl _) hb2
          · have HOK := Wc.hid hok
            unfold Wd.okIo at hok
            go_wp2_with (go_at_call 49; refine (right_any _ _ _ _ _ _ _).mono ?_; rintro e w' ⟨rfl, hb2⟩; rw [hok])
            go_roundw
            case rel =>
              refine ⟨k + 1, by go_num, by omega, Wc.step (hb.alloc hb.size _) (Nat.le_refl _) hb2, fun j hj => ?_⟩
              by_cases hjk : j = k
              · subst hjk; rw [HX.out]; exact HOK.out
              · exact HZ.out j (by omega)
            case measure => simp only [intOf]; omega
        · go_wp2
          go_ret
          refine ⟨ret_int (Wd.stepsE_ok HD.out (by rw [HL.out]; omega) (Wd.all_true fun j hj => ?_)).symm, hb⟩
          rw [HM.out]
          exact HZ.out j (by rw [HL.out] at hj; omega)
  · have hd' : Wd.devB ni = false := by simpa using hd
    have hE := (Wd.chk_no (fun h => hd (Wd.devB_iff.2 h))).2.symm
    have HD := Wc.hid hd'
    clear hd hd' hI
    go_enter Try.func33, Try.ntmps33
    go_wp2_with (go_at_call 41; refine (check_any _ _ _ _ hni).mono ?_; rintro e w' ⟨rfl, rfl⟩; rw [hE])
    go_ret
    exact ⟨ret_int (Wd.stepsE_dev HD.out).symm, Below.refl _ _⟩

set_option maxHeartbeats 1600000 in
theorem heavy_any (ai : Option Addr) (ni ci : Nat) (a : Option Addr) (n cap : Nat) (l : List Wd.Io) (w : World) (hni : ni ≤ 140737488355328) (hI : Wd.Is w (.slice a n cap) l) :
    Calls Try.prog 7 #[.slice ai ni ci, .slice a n cap] w fun e w' => e = .returned (.bool (Wd.heavyB ni l)) ∧ w = w' := by
  obtain ⟨a', n', cap', h1, hl, hcap, hcap2, hn, hpos⟩ := hI
  cases h1
  have HP := Wc.hid hpos
  have HL := Wc.hid hl
  clear hpos hl
  by_cases hg : ni ≤ 19200 ∧ n ≤ 400
  · have g1 : decide ((19200 : Int) < (ni : Int)) = false := by simp; omega
    have g2 : decide ((400 : Int) < (n : Int)) = false := by simp; omega
    have HG := Wc.hid hg
    clear hg
    go_enter Try.func7, Try.ntmps7
    go_wp2
    clear g1 g2
    go_loopw [5] (fun i wr => ∃ k : Nat, i = .int .i64 k ∧ k ≤ n ∧ w = wr ∧ Hid (∀ j, j < k → Wd.lightIo (l.getD j Wd.d0) = true)) (fun i _ => n - (intOf i).toNat)
    case atStart => exact ⟨0, rfl, by omega, rfl, fun j h => by omega⟩
    case round =>
      obtain ⟨k, rfl, hk, rfl, HZ⟩ := hrel
      by_cases hlt : k < n
      · obtain ⟨b, off, rfl, hblt, hcs⟩ := HP.out (by omega)
        obtain ⟨a', c', c0, c1, c2, -, -⟩ := hcs k hlt
        clear hcs
        obtain ⟨x, hx⟩ : ∃ x, l.getD k Wd.d0 = x := ⟨_, rfl⟩
        rw [hx] at c0 c1 c2
        have HX := Wc.hid hx
        clear hx
        by_cases hli : x.data.length ≤ 300
        · have g3 : decide ((300 : Int) < (x.data.length : Int)) = false := by simp; omega
          have HH := Wc.hid hli
          clear hli
          go_wp2
          go_roundw
          case rel =>
            refine ⟨k + 1, by go_num, by omega, (by trivial), fun j hj => ?_⟩
            by_cases hjk : j = k
            · subst hjk; rw [HX.out]; exact decide_eq_true HH.out
            · exact HZ.out j (by omega)
          case measure => simp only [intOf]; omega
        · have g3 : decide ((300 : Int) < (x.data.length : Int)) = true := by simp; omega
          have HH := Wc.hid hli
          clear hli
          go_wp2
          go_ret
          refine ⟨ret_bool ?_, rfl⟩
          have := Wd.all_false (l := l) (f := Wd.lightIo) k (by rw [HL.out]; exact hlt) (by rw [HX.out]; exact decide_eq_false HH.out)
          simp [Wd.heavyB, this]
      · go_wp2
        go_ret
        refine ⟨ret_bool ?_, rfl⟩
        have := Wd.all_true (l := l) (f := Wd.lightIo) (fun j hj => HZ.out j (by rw [HL.out] at hj; omega))
        have h1 := HG.out.1
        have h2 : l.length ≤ 400 := by rw [HL.out]; exact HG.out.2
        simp [Wd.heavyB, this, h1, h2]
  · clear HP
    have HG := Wc.hid hg
    have hh : Wd.heavyB ni l = true := by
      unfold Wd.heavyB
      rw [HL.out]
      by_cases h1 : ni ≤ 19200
      · have h2 : ¬ n ≤ 400 := fun h => hg ⟨h1, h⟩
        simp [h2]
      · simp [h1]
    rw [hh]
    clear hh
    go_enter Try.func7, Try.ntmps7
    by_cases h1 : ni ≤ 19200
    · have g1 : decide ((19200 : Int) < (ni : Int)) = false := by simp; omega
      have g2 : decide ((400 : Int) < (n : Int)) = true := by simp; omega
      clear hg
      go_wp2
      go_ret
      exact ⟨rfl, rfl⟩
    · have g1 : decide ((19200 : Int) < (ni : Int)) = true := by simp; omega
      clear hg
      go_wp2
      go_ret
      exact ⟨rfl, rfl⟩

end Go.Proofs.Ytifjbmknghjohaa
