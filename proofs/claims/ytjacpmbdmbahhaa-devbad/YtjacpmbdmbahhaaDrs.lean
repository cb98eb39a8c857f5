/-
  What the page's Steps returns, for every device and every list of steps.
-/
import Derived.Test.YtjacpmbdmbahhaaDsteps
namespace Wd
open Go Go.RowKit

theorem rightB_iff {k p : Int} {n : Nat} {m : Int} : rightB k p n m = true ↔ (k = 1 ∧ 0 ≤ p ∧ p < m ∧ n = 64) ∨ (k = 2 ∧ p = 0 ∧ n = 0) := by
  simp [rightB, and_assoc]

theorem rightB_no {k p : Int} {n : Nat} {m : Int} (h : ¬ ((k = 1 ∧ 0 ≤ p ∧ p < m ∧ n = 64) ∨ (k = 2 ∧ p = 0 ∧ n = 0))) : rightB k p n m = false := by
  rw [Bool.eq_false_iff]
  exact fun e => h (rightB_iff.1 e)

end Wd
namespace Go.Proofs.Ytjacpmbdmbahhaa
open Go.RowKit

set_option maxRecDepth 100000 in
set_option maxHeartbeats 1600000 in
theorem refSteps_any (ai : Option Addr) (ni ci : Nat) (a : Option Addr) (n cap : Nat) (l : List Wd.Io) (w : World) (hni : ni ≤ 140737488355328) (hI : Wd.Is w (.slice a n cap) l) :
    Calls Try.prog 17 #[.slice ai ni ci, .slice a n cap] w fun e w' => e = .returned (.int .i64 (Wd.stepsE ni l)) ∧ w = w' := by
  by_cases hd : Wd.devB ni = true
  · obtain ⟨a', n', cap', h1, hl, hcap, hcap2, hn, hpos⟩ := hI
    cases h1
    have HD := Wc.hid hd
    have HP := Wc.hid hpos
    have HL := Wc.hid hl
    have hmm := Wd.devB_iff.1 hd
    have HDD := Wc.hid hd
    clear hpos hl
    obtain ⟨m, hm⟩ : ∃ m : Nat, ni / 64 = m := ⟨_, rfl⟩
    have hm2 : 4 ≤ m ∧ m ≤ 4096 := by omega
    have HM := Wc.hid hm
    clear hmm
    go_enter Try.func17, Try.ntmps17
    go_wp2_with (go_at_call 16; refine (blocks_any _ _ _ _ hni).mono ?_; rintro e w' ⟨rfl, rfl⟩; rw [hm, hd])
    · clear hm
      go_ret
      refine ⟨ret_int (Wd.stepsE_long ?_).symm, rfl⟩
      rw [HL.out]; omega
    · clear hm hd
      have hm1 : wrap64 ((m : Int) - 1) = (m : Int) - 1 := by unfold wrap64; omega
      go_loopw [7] (fun i wr => ∃ k : Nat, i = .int .i64 k ∧ k ≤ n ∧ w = wr ∧ Hid (∀ j, j < k → Wd.okIo m (l.getD j Wd.d0) = true)) (fun i _ => n - (intOf i).toNat)
      case atStart => exact ⟨0, rfl, by omega, rfl, fun j h => by omega⟩
      case round =>
        obtain ⟨k, rfl, hk, rfl, HZ⟩ := hrel
        by_cases hlt : k < n
        · obtain ⟨b, off, rfl, hblt, hcs⟩ := HP.out (by omega)
          obtain ⟨a', c', c0, c1, c2, -, -⟩ := hcs k hlt
          clear hcs
          obtain ⟨x, hx⟩ : ∃ x, l.getD k Wd.d0 = x := ⟨_, rfl⟩
          rw [hx] at c0 c1 c2
          have HX := Wc.hid hx
          clear hx
          have bad : Wd.okIo m x = false → Ending.returned (.int .i64 1) = .returned (.int .i64 (Wd.stepsE ni l)) := fun h =>
            ret_int (Wd.stepsE_bad HD.out (by rw [HL.out]; omega) (Wd.all_false k (by rw [HL.out]; exact hlt) (by
              have : (ni : Int) / 64 = (m : Int) := by have := HM.out; omega
              rw [HX.out, this]; exact h))).symm
          have good : Wd.okIo m x = true → ∀ j, j < k + 1 → Wd.okIo m (l.getD j Wd.d0) = true := fun h j hj => by
            by_cases hjk : j = k
            · subst hjk; rw [HX.out]; exact h
            · exact HZ.out j (by omega)
          have BAD := Wc.hid bad
          have GOOD := Wc.hid good
          clear bad good HZ
          obtain ⟨kk, pp, dd⟩ := x
          have EX : Wd.okIo m ⟨kk, pp, dd⟩ = Wd.rightB kk pp dd.length m := rfl
          rw [EX] at BAD GOOD
          clear EX HX
          dsimp only at c0 c1 c2
          go_wp2_with (go_at_call 31; refine (refIn_any _ _ _ _).mono ?_; rintro e w' ⟨rfl, rfl⟩)
          all_goals clear c0 c1 c2
          all_goals first
            | (go_ret; exact ⟨BAD.out (Wd.rightB_no (by clear BAD GOOD; try simp only [beq_iff_eq, bne_iff_ne, beq_eq_false_iff_ne, ne_eq] at *; omega)), rfl⟩)
            | (go_roundw
               case rel => exact ⟨k + 1, by go_num, by omega, (by trivial), Wc.hid (GOOD.out (Wd.rightB_iff.2 (by clear BAD GOOD; try simp only [beq_iff_eq, beq_eq_false_iff_ne, bne_eq_false_iff_eq, ne_eq] at *; omega)))⟩
               case measure => simp only [intOf]; omega)
        · go_wp2
          go_ret
          refine ⟨ret_int (Wd.stepsE_ok HD.out (by rw [HL.out]; omega) (Wd.all_true fun j hj => ?_)).symm, rfl⟩
          have : (ni : Int) / 64 = (m : Int) := by have := HM.out; omega
          rw [this]
          exact HZ.out j (by rw [HL.out] at hj; omega)
  · have hd' : Wd.devB ni = false := by simpa using hd
    have HD := Wc.hid hd'
    clear hd hI
    go_enter Try.func17, Try.ntmps17
    go_wp2_with (go_at_call 16; refine (blocks_any _ _ _ _ hni).mono ?_; rintro e w' ⟨rfl, rfl⟩; rw [hd'])
    go_ret
    exact ⟨ret_int (Wd.stepsE_dev HD.out).symm, rfl⟩

end Go.Proofs.Ytjacpmbdmbahhaa
