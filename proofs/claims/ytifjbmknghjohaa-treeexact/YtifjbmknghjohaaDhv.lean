/-
  What the statements' Heavy returns, whatever came in.
-/
import Derived.Test.YtifjbmknghjohaaDsteps
import Derived.Test.YtifjbmknghjohaaDopen
namespace Wd
open Go Go.RowKit

theorem heavy_no {n : Nat} {l : List Io} (h : heavyB n l = false) : n ≤ 19200 ∧ l.length ≤ 400 ∧ ∀ x ∈ l, x.data.length ≤ 300 := by
  simp only [heavyB, Bool.not_eq_false', Bool.and_eq_true, decide_eq_true_eq, List.all_eq_true, lightIo] at h
  exact ⟨h.1, h.2.1, h.2.2⟩

theorem Raw.light {w : World} {a : Option Addr} {n cap : Nat} {l : List Io} {ni : Nat} (h : Raw w a n cap l) (hh : heavyB ni l = false) : Is w (.slice a n cap) l := by
  obtain ⟨-, h2, h3⟩ := heavy_no hh
  refine h.is (by have := h.1; omega) fun x hx => ?_
  have := h3 x hx
  omega

end Wd
namespace Go.Proofs.Ytifjbmknghjohaa
open Go.RowKit

set_option maxHeartbeats 1600000 in
theorem heavy_raw (ai : Option Addr) (ni ci : Nat) (a : Option Addr) (n cap : Nat) (l : List Wd.Io) (w : World) (hR : Wd.Raw w a n cap l) :
    Calls Try.prog 7 #[.slice ai ni ci, .slice a n cap] w fun e w' => e = .returned (.bool (Wd.heavyB ni l)) ∧ w = w' := by
  obtain ⟨hl, hcap, hcap2, hpos⟩ := hR
  have HP := Wc.hid hpos
  have HL := Wc.hid hl
  clear hpos hl
  by_cases hg : ni ≤ 19200 ∧ n ≤ 400
  · have g1 : decide ((19200 : Int) < (ni : Int)) = false := by simp; omega
    have g2 : decide ((400 : Int) < (n : Int)) = false := by simp; omega
    have HG := Wc.hid hg
    clear hg
    go_enter Try.func7, Try.ntmps7
    go_wp2
    clear g1 g2
    go_loopw [5] (fun i wr => ∃ k : Nat, i = .int .i64 k ∧ k ≤ n ∧ w = wr ∧ Hid (∀ j, j < k → Wd.lightIo (l.getD j Wd.d0) = true)) (fun i _ => n - (intOf i).toNat)
    case atStart => exact ⟨0, rfl, by omega, rfl, fun j h => by omega⟩
    case round =>
      obtain ⟨k, rfl, hk, rfl, HZ⟩ := hrel
      by_cases hlt : k < n
      · obtain ⟨b, off, rfl, hblt, hcs⟩ := HP.out (by omega)
        obtain ⟨a', c', c0, c1, c2, -⟩ := hcs k hlt
        clear hcs
        obtain ⟨x, hx⟩ : ∃ x, l.getD k Wd.d0 = x := ⟨_, rfl⟩
        rw [hx] at c0 c1 c2
        have HX := Wc.hid hx
        clear hx
        by_cases hli : x.data.length ≤ 300
        · have g3 : decide ((300 : Int) < (x.data.length : Int)) = false := by simp; omega
          have HH := Wc.hid hli
          clear hli
          go_wp2
          go_roundw
          case rel =>
            refine ⟨k + 1, by go_num, by omega, (by trivial), fun j hj => ?_⟩
            by_cases hjk : j = k
            · subst hjk; rw [HX.out]; exact decide_eq_true HH.out
            · exact HZ.out j (by omega)
          case measure => simp only [intOf]; omega
        · have g3 : decide ((300 : Int) < (x.data.length : Int)) = true := by simp; omega
          have HH := Wc.hid hli
          clear hli
          go_wp2
          go_ret
          refine ⟨ret_bool ?_, rfl⟩
          have := Wd.all_false (l := l) (f := Wd.lightIo) k (by rw [HL.out]; exact hlt) (by rw [HX.out]; exact decide_eq_false HH.out)
          simp [Wd.heavyB, this]
      · go_wp2
        go_ret
        refine ⟨ret_bool ?_, rfl⟩
        have := Wd.all_true (l := l) (f := Wd.lightIo) (fun j hj => HZ.out j (by rw [HL.out] at hj; omega))
        have h1 := HG.out.1
        have h2 : l.length ≤ 400 := by rw [HL.out]; exact HG.out.2
        simp [Wd.heavyB, this, h1, h2]
  · clear HP
    have HG := Wc.hid hg
    have hh : Wd.heavyB ni l = true := by
      unfold Wd.heavyB
      rw [HL.out]
      by_cases h1 : ni ≤ 19200
      · have h2 : ¬ n ≤ 400 := fun h => hg ⟨h1, h⟩
        simp [h2]
      · simp [h1]
    rw [hh]
    clear hh
    go_enter Try.func7, Try.ntmps7
    by_cases h1 : ni ≤ 19200
    · have g1 : decide ((19200 : Int) < (ni : Int)) = false := by simp; omega
      have g2 : decide ((400 : Int) < (n : Int)) = true := by simp; omega
      clear hg
      go_wp2
      go_ret
      exact ⟨rfl, rfl⟩
    · have g1 : decide ((19200 : Int) < (ni : Int)) = true := by simp; omega
      clear hg
      go_wp2
      go_ret
      exact ⟨rfl, rfl⟩

end Go.Proofs.Ytifjbmknghjohaa
