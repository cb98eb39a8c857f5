/-
  What the small functions of package frame and of the page's layer 9 return, for every input.
-/
import Derived.Test.YtfejabeifabdlaaFf
import Derived.Test.YtfejabeifabdlaaRput
namespace Go.Proofs.Ytfejabeifabdlaa
open Go.RowKit

theorem ide_any (n : Int) (w : World) :
    Calls Try.prog 47 #[.int .i64 n] w fun e w' => e = .returned (.int .i64 (Wr.idE n)) ∧ w = w' := by
  have e : Wr.idE n = if 1 ≤ n ∧ n ≤ 4611686018427387903 then 0 else 1 := by unfold Wr.idE; simp only [Wr.idB_iff]
  have E := Wc.hid e
  clear e
  go_enter Try.func47, Try.ntmps47
  go_wp2
  all_goals go_ret
  all_goals refine ⟨?_, rfl⟩
  all_goals rw [E.out]
  all_goals first | (rw [if_neg (by omega)]; rfl) | (rw [if_pos (by omega)]; rfl)

theorem refIde_any (n : Int) (w : World) :
    Calls Try.prog 34 #[.int .i64 n] w fun e w' => e = .returned (.bool (Wr.idB n)) ∧ w = w' := by
  go_enter Try.func34, Try.ntmps34
  go_wp2_with (first | (go_at_call 35; refine (refIn_any _ _ _ _).mono ?_; rintro e w' ⟨rfl, rfl⟩))
  go_ret
  exact ⟨rfl, rfl⟩

set_option maxHeartbeats 400000 in
theorem within9_any (n lo hi : Int) (w : World) :
    Calls Try.prog 25 #[.int .i64 n, .int .i64 lo, .int .i64 hi] w fun e w' => e = .returned (.bool (decide (lo ≤ n) && decide (n ≤ hi))) ∧ w = w' := by
  go_enter Try.func25, Try.ntmps25
  go_wp2
  all_goals go_ret
  · exact ⟨ret_bool (by simp [*]), rfl⟩
  · exact ⟨ret_bool (by symm; rw [Bool.eq_false_iff]; simp; omega), rfl⟩

theorem rightSize9_any (n : Int) (w : World) :
    Calls Try.prog 49 #[.int .i64 n] w fun e w' => e = .returned (.bool (Wk.szB n)) ∧ w = w' := by
  go_enter Try.func49, Try.ntmps49
  go_wp2_with (first | (go_at_call 25; refine (within9_any _ _ _ _).mono ?_; rintro e w' ⟨rfl, rfl⟩))
  go_ret
  exact ⟨rfl, rfl⟩

set_option maxHeartbeats 800000 in
theorem rightRun_any (f n : Int) (w : World) (hn : -9223372036854775808 ≤ n ∧ n ≤ 9223372036854775807) :
    Calls Try.prog 51 #[.int .i64 f, .int .i64 n] w fun e w' => e = .returned (.bool (Wk.runB f n)) ∧ w = w' := by
  unfold Wk.runB
  by_cases h : 1 ≤ n
  · have hd : decide (1 ≤ n) = true := by simpa using h
    rw [hd, Bool.true_and]
    clear hd
    go_enter Try.func51, Try.ntmps51
    go_wp2_with (first | (go_at_call 25; refine (within9_any _ _ _ _).mono ?_; rintro e w' ⟨rfl, rfl⟩))
    go_ret
    exact ⟨rfl, rfl⟩
  · have hd : decide (1 ≤ n) = false := by simpa using h
    rw [hd, Bool.false_and]
    clear hd
    go_enter Try.func51, Try.ntmps51
    go_wp2_with (first | (go_at_call 25; refine (within9_any _ _ _ _).mono ?_; rintro e w' ⟨rfl, rfl⟩))
    go_ret
    exact ⟨rfl, rfl⟩

set_option maxHeartbeats 800000 in
theorem rightData_any (a : Option Addr) (n cap : Nat) (w : World) (hn : n ≤ 140737488355328) :
    Calls Try.prog 50 #[.slice a n cap] w fun e w' => e = .returned (.bool (Wk.datB n)) ∧ w = w' := by
  unfold Wk.datB
  by_cases h : (n : Int) % 64 = 0
  · have hd : ((n : Int) % 64 == 0) = true := by simpa using h
    rw [hd, Bool.true_and]
    clear hd
    go_enter Try.func50, Try.ntmps50
    go_wp2_with (first | (go_at_call 25; refine (within9_any _ _ _ _).mono ?_; rintro e w' ⟨rfl, rfl⟩))
    go_ret
    exact ⟨rfl, rfl⟩
  · have hd : ((n : Int) % 64 == 0) = false := by simpa using h
    rw [hd, Bool.false_and]
    go_enter Try.func50, Try.ntmps50
    go_wp2_with (first | (go_at_call 25; refine (within9_any _ _ _ _).mono ?_; rintro e w' ⟨rfl, rfl⟩))
    go_ret
    exact ⟨rfl, rfl⟩

set_option maxHeartbeats 800000 in
theorem rightParent_any (p n : Int) (w : World) :
    Calls Try.prog 48 #[.int .i64 p, .int .i64 n] w fun e w' => e = .returned (.bool (Wr.parB p n)) ∧ w = w' := by
  unfold Wr.parB
  cases hi : Wr.idB p
  · have HE := Wc.hid (Wr.idE_no hi)
    clear hi
    go_enter Try.func48, Try.ntmps48
    go_wp2_with (go_at_call 47; refine (ide_any _ _).mono ?_; rintro e w' ⟨rfl, rfl⟩; rw [HE.out])
    all_goals go_ret
    all_goals (refine ⟨ret_bool ?_, rfl⟩; simp_all)
  · have HE := Wc.hid (Wr.idE_yes hi)
    clear hi
    go_enter Try.func48, Try.ntmps48
    go_wp2_with (go_at_call 47; refine (ide_any _ _).mono ?_; rintro e w' ⟨rfl, rfl⟩; rw [HE.out])
    all_goals go_ret
    all_goals (refine ⟨ret_bool ?_, rfl⟩; simp_all)

set_option maxHeartbeats 800000 in
theorem refRun_any (f n : Int) (w : World) (hf : -9223372036854775808 ≤ f ∧ f ≤ 9223372036854775807) (hn : -9223372036854775808 ≤ n ∧ n ≤ 9223372036854775807) :
    Calls Try.prog 36 #[.int .i64 f, .int .i64 n] w fun e w' => e = .returned (.bool (Wk.runB f n)) ∧ w = w' := by
  have E : Hid (Wk.runB f n = decide (1 ≤ n ∧ 0 ≤ f ∧ f + n ≤ 512)) := Wc.hid (by rw [Bool.eq_iff_iff, Wk.runB_iff]; simp)
  by_cases h1 : 0 ≤ f ∧ f ≤ 512
  · have a1 : (decide (0 ≤ f) && decide (f ≤ 512)) = true := by simpa using h1
    by_cases h2 : 1 ≤ n ∧ n ≤ 512
    · have a2 : (decide (1 ≤ n) && decide (n ≤ 512)) = true := by simpa using h2
      go_enter Try.func36, Try.ntmps36
      go_wp2_with (first | (go_at_call 35; refine (refIn_any _ _ _ _).mono ?_; rintro e w' ⟨rfl, rfl⟩; first | rw [a1] | rw [a2]))
      go_ret
      refine ⟨ret_bool ?_, rfl⟩
      rw [E.out, Bool.eq_iff_iff]; simp; omega
    · have a2 : (decide (1 ≤ n) && decide (n ≤ 512)) = false := by rw [Bool.eq_false_iff]; simpa using h2
      go_enter Try.func36, Try.ntmps36
      go_wp2_with (first | (go_at_call 35; refine (refIn_any _ _ _ _).mono ?_; rintro e w' ⟨rfl, rfl⟩; first | rw [a1] | rw [a2]))
      go_ret
      refine ⟨ret_bool ?_, rfl⟩
      rw [E.out]; symm; rw [decide_eq_false_iff_not]; omega
  · have a1 : (decide (0 ≤ f) && decide (f ≤ 512)) = false := by rw [Bool.eq_false_iff]; simpa using h1
    go_enter Try.func36, Try.ntmps36
    go_wp2_with (first | (go_at_call 35; refine (refIn_any _ _ _ _).mono ?_; rintro e w' ⟨rfl, rfl⟩; rw [a1]))
    go_ret
    refine ⟨ret_bool ?_, rfl⟩
    rw [E.out]; symm; rw [decide_eq_false_iff_not]; omega

end Go.Proofs.Ytfejabeifabdlaa
