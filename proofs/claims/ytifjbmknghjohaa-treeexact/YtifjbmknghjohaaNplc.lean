/-
  What node.Place returns, for every sector and every level.
-/
import Derived.Test.YtifjbmknghjohaaNchk
namespace Go.Proofs.Ytifjbmknghjohaa
open Go.RowKit

theorem pow8 {k : Nat} (h : k ≤ 2) : 1 ≤ (8 : Int) ^ k ∧ (8 : Int) ^ k ≤ 64 ∧ (k ≤ 1 → (8 : Int) ^ k ≤ 8) := by
  have : k = 0 ∨ k = 1 ∨ k = 2 := by omega
  rcases this with rfl | rfl | rfl <;> decide

set_option maxHeartbeats 400000 in
theorem sectorsBelow_any (l : Nat) (w : World) (hl : l ≤ 2) :
    Calls Try.prog 40 #[.int .i64 l] w fun e w' => e = .returned (.int .i64 (8 ^ l)) ∧ w = w' := by
  go_enter Try.func40, Try.ntmps40
  go_wp2
  go_loopw [3, 5] (fun u i wr => ∃ k : Nat, ∃ m : Int, u = .int .i64 m ∧ i = .int .i64 k ∧ k ≤ l ∧ w = wr ∧ Hid (m = 8 ^ k)) (fun _ i _ => l - (intOf i).toNat)
  case atStart => exact ⟨0, 1, rfl, rfl, by omega, rfl, Wc.hid rfl⟩
  case round =>
    obtain ⟨k, m, rfl, rfl, hk, rfl, HM⟩ := hrel
    by_cases hlt : k < l
    · have hp := pow8 (k := k) (by omega)
      have hm : 1 ≤ m ∧ m ≤ 8 := by rw [HM.out]; exact ⟨hp.1, hp.2.2 (by omega)⟩
      clear hp
      go_wp2
      go_roundw
      case rel => exact ⟨k + 1, m * 8, by go_num, by go_num, by omega, trivial, Wc.hid (by rw [HM.out, Int.pow_succ])⟩
      case measure => simp [intOf]; omega
    · obtain rfl : k = l := by omega
      go_wp2
      go_ret
      exact ⟨ret_int HM.out, rfl⟩

set_option maxHeartbeats 800000 in
theorem place_any (s l : Int) (w : World) :
    Calls Try.prog 25 #[.int .i64 s, .int .i64 l] w fun e w' => e = .returned (.tuple #[.int .i64 (Wn.placeR s l).1, .int .i64 (Wn.placeR s l).2.1, .int .i64 (Wn.placeR s l).2.2]) ∧ ∃ m, w' = w.drewN m := by
  by_cases hl : 0 ≤ l ∧ l ≤ 2
  · obtain ⟨k, rfl⟩ := Int.eq_ofNat_of_zero_le hl.1
    have hk : k ≤ 2 := by omega
    have hlv : lvB (k : Int) = true := lvB_iff.2 hl
    have HL := Wc.hid hl
    clear hl
    obtain ⟨m, hm⟩ : ∃ m : Int, (8 : Int) ^ k = m := ⟨_, rfl⟩
    have hp := pow8 hk
    rw [hm] at hp
    obtain ⟨h1, h2, -⟩ := hp
    have HR : Hid ((0 ≤ s ∧ s < 8 * m → Wn.placeR s (k : Int) = (s / m, s % m, 0)) ∧ (¬ (0 ≤ s ∧ s < 8 * m) → Wn.placeR s (k : Int) = (0, 0, 1))) := Wc.hid (by
      have e : ((k : Int)).toNat = k := by omega
      have e2 : (8 : Int) ^ ((k : Int)).toNat = m := by rw [e, hm]
      constructor
      · intro h
        have := Wn.place_yes (s := s) (l := (k : Int)) ⟨HL.out.1, HL.out.2, h.1, by rw [e2]; exact h.2⟩
        rw [e2] at this
        exact this
      · intro h
        exact Wn.place_no (by rw [e2]; intro hh; exact h ⟨hh.2.2.1, hh.2.2.2⟩))
    have HSB : Hid (∀ w : World, Calls Try.prog 40 #[.int .i64 (k : Int)] w fun e w' => e = .returned (.int .i64 m) ∧ w = w') := Wc.hid fun w => by
      have := sectorsBelow_any k w hk
      rw [hm] at this
      exact this
    clear hm hk
    go_enter Try.func25, Try.ntmps25
    go_wp2_with fail
    refine (rightLevel_any _ _).mono ?_
    rintro e w' ⟨rfl, rfl⟩
    rw [hlv]
    clear hlv
    go_wp2_with fail
    refine (HSB.out _).mono ?_
    rintro e w' ⟨rfl, rfl⟩
    by_cases hs : 0 ≤ s ∧ s < 8 * m
    · have HP := Wc.hid (HR.out.1 hs)
      obtain ⟨s0, s1⟩ := hs
      have hd : s.tdiv m = s / m := Int.tdiv_eq_ediv_of_nonneg s0
      have hmd : s.tmod m = s % m := Int.tmod_eq_emod_of_nonneg s0
      have q0 : 0 ≤ s / m := Int.ediv_nonneg s0 (by omega)
      have q1 : s / m < 8 := Int.ediv_lt_of_lt_mul (by omega) s1
      have r0 := Int.emod_nonneg s (b := m) (by omega)
      have r1 := Int.emod_lt_of_pos s (b := m) (by omega)
      go_wp2
      go_quiet (fail)
      go_wp2
      rw [HP.out]
      go_ret3
      exact ⟨rfl, nq, rfl⟩
    · have HP := Wc.hid (HR.out.2 hs)
      go_wp2
      all_goals (rw [HP.out]; go_ret3; exact ⟨rfl, 0, rfl⟩)
  · have HN := Wc.hid (Wn.place_no (s := s) (l := l) (fun h => hl ⟨h.1, h.2.1⟩))
    have hlv : lvB l = false := by rw [Bool.eq_false_iff]; exact fun e => hl (lvB_iff.1 e)
    clear hl
    go_enter Try.func25, Try.ntmps25
    go_wp2_with fail
    refine (rightLevel_any _ _).mono ?_
    rintro e w' ⟨rfl, rfl⟩
    rw [hlv]
    go_wp2
    rw [HN.out]
    go_ret3
    exact ⟨rfl, 0, rfl⟩

theorem place_below (s l : Int) (w : World) :
    Calls Try.prog 25 #[.int .i64 s, .int .i64 l] w fun e w' => e = .returned (.tuple #[.int .i64 (Wn.placeR s l).1, .int .i64 (Wn.placeR s l).2.1, .int .i64 (Wn.placeR s l).2.2]) ∧ Below w.heap.size w w' := by
  refine (place_any s l w).mono ?_
  rintro e w' ⟨rfl, m, rfl⟩
  exact ⟨rfl, below_drewN (Below.refl _ _) m⟩

end Go.Proofs.Ytifjbmknghjohaa
