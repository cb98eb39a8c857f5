/-
  What the small tests of package le and of the page's answer return, for every input.
-/
import Derived.Test.YtifjbmknghjohaaRows
import Derived.Test.YtifjbmknghjohaaPlain
import Derived.WalkKit
import Derived.WalkSpells
import Derived.WalkLawsBesides
namespace Go.Proofs.Ytifjbmknghjohaa
open Go.RowKit

theorem ret_bool {a b : Bool} (h : a = b) : Ending.returned (.bool a) = .returned (.bool b) := by rw [h]

set_option maxHeartbeats 400000 in
theorem rightSize_any (s : Int) (w : World) :
    Calls Try.prog 60 #[.int .i64 s] w fun e w' => e = .returned (.bool (Wc.rsB s)) ∧ w = w' := by
  go_enter Try.func60, Try.ntmps60
  go_wp2
  all_goals go_ret
  all_goals exact ⟨ret_bool (by simp [Wc.rsB, *]), rfl⟩

set_option maxHeartbeats 400000 in
theorem inside_any (a : Option Addr) (n cap : Nat) (p s : Int) (w : World) (hn : n ≤ 140737488355328) (hs : 0 ≤ s) (hs2 : s ≤ 8) :
    Calls Try.prog 62 #[.slice a n cap, .int .i64 p, .int .i64 s] w fun e w' => e = .returned (.bool (Wc.inB n p s)) ∧ w = w' := by
  go_enter Try.func62, Try.ntmps62
  go_wp2
  all_goals go_ret
  · exact ⟨ret_bool (by rw [Bool.eq_iff_iff]; simp [Wc.inB]; omega), rfl⟩
  · exact ⟨ret_bool (by symm; rw [Bool.eq_false_iff]; simp [Wc.inB]; omega), rfl⟩

set_option maxHeartbeats 400000 in
theorem refIn_any (n lo hi : Int) (w : World) :
    Calls Try.prog 28 #[.int .i64 n, .int .i64 lo, .int .i64 hi] w fun e w' => e = .returned (.bool (decide (lo ≤ n) && decide (n ≤ hi))) ∧ w = w' := by
  go_enter Try.func28, Try.ntmps28
  go_wp2
  all_goals go_ret
  · exact ⟨ret_bool (by simp [*]), rfl⟩
  · exact ⟨ret_bool (by symm; rw [Bool.eq_false_iff]; simp; omega), rfl⟩

set_option maxHeartbeats 400000 in
theorem fits_any (n s : Int) (w : World) (hs : Wc.rsB s = true) :
    Calls Try.prog 61 #[.int .i64 n, .int .i64 s] w fun e w' => e = .returned (.bool (Wc.fitB n s)) ∧ w = w' := by
  rcases Wc.rsB_cases hs with rfl | rfl | rfl | rfl
  all_goals
    clear hs
    go_enter Try.func61, Try.ntmps61
    go_wp2
    all_goals go_ret
    all_goals (refine ⟨ret_bool ?_, rfl⟩; rw [Bool.eq_iff_iff]; simp [Wc.fitB]; try omega)
