/-
  What the small functions of package dev, of the page and of keep return, for every input.
-/
import Derived.Test.YtifjbmknghjohaaLeaf
import Derived.Test.YtifjbmknghjohaaPut
import Derived.Test.YtifjbmknghjohaaRead
import Derived.Test.YtifjbmknghjohaaRows
import Derived.Test.YtifjbmknghjohaaDmem
import Derived.WalkKit
import Derived.WalkSpells
import Derived.WalkLawsBesides
import Derived.Deep.QuietTactic
import Derived.BigQuiet
namespace Go.Proofs.Ytifjbmknghjohaa
open Go.RowKit

theorem tup2 {a b c d : Int} (h : a = c) (k : b = d) : Ending.returned (.tuple #[.int .i64 a, .int .i64 b]) = .returned (.tuple #[.int .i64 c, .int .i64 d]) := by rw [h, k]
theorem tupb {a c : Int} {b d : Bool} (h : a = c) (k : b = d) : Ending.returned (.tuple #[.int .i64 a, .bool b]) = .returned (.tuple #[.int .i64 c, .bool d]) := by rw [h, k]

theorem Try.infoI64 : (Try.prog.info? 3).map (fun i => (i.zero, i.size, i.bytes)) = some (some (.int .i64 0), 1, 8) := by kernel_rfl

set_option maxHeartbeats 400000 in
theorem among_any (p m : Int) (w : World) :
    Calls Try.prog 64 #[.int .i64 p, .int .i64 m] w fun e w' => e = .returned (.bool (decide (0 ≤ p) && decide (p < m))) ∧ w = w' := by
  go_enter Try.func64, Try.ntmps64
  go_wp2
  all_goals go_ret
  · exact ⟨ret_bool (by simp [*]), rfl⟩
  · exact ⟨ret_bool (by symm; rw [Bool.eq_false_iff]; simp; omega), rfl⟩

set_option maxHeartbeats 1600000 in
theorem right_any (k p : Int) (a : Option Addr) (n c : Nat) (m : Int) (w : World) :
    Calls Try.prog 49 #[.agg #[.int .i64 k, .int .i64 p, .slice a n c], .int .i64 m] w fun e w' => e = .returned (.bool (Wd.rightB k p n m)) ∧ Below w.heap.size w w' := by
  go_enter Try.func49, Try.ntmps49
  go_wp2_with (go_at_call 64; refine (among_any _ _ _).mono ?_; rintro e w' ⟨rfl, rfl⟩)
  all_goals go_ret
  all_goals (refine ⟨ret_bool ?_, (Below.refl _ _).alloc (Nat.le_refl _) _⟩; rw [Bool.eq_iff_iff]; simp [Wd.rightB, *] <;> simp_all <;> omega)

set_option maxHeartbeats 1600000 in
theorem check_any (a : Option Addr) (n c : Nat) (w : World) (hn : n ≤ 140737488355328) :
    Calls Try.prog 41 #[.slice a n c] w fun e w' => e = .returned (.tuple #[.int .i64 (Wd.chkN n), .int .i64 (Wd.chkE n)]) ∧ w = w' := by
  go_enter Try.func41, Try.ntmps41
  go_wp2
  all_goals go_ret2
  all_goals first
    | exact ⟨tup2 (Wd.chk_yes (n := n) (by omega)).1 (Wd.chk_yes (n := n) (by omega)).2, rfl⟩
    | exact ⟨tup2 (Wd.chk_no (n := n) (by omega)).1 (Wd.chk_no (n := n) (by omega)).2, rfl⟩

set_option maxHeartbeats 1600000 in
theorem blocks_any (a : Option Addr) (n c : Nat) (w : World) (hn : n ≤ 140737488355328) :
    Calls Try.prog 17 #[.slice a n c] w fun e w' => e = .returned (.tuple #[.int .i64 ((n / 64 : Nat) : Int), .bool (Wd.devB n)]) ∧ w = w' := by
  go_enter Try.func17, Try.ntmps17
  go_wp2_with (go_at_call 28; refine (refIn_any _ _ _ _).mono ?_; rintro e w' ⟨rfl, rfl⟩)
  all_goals go_ret2
  all_goals (refine ⟨tupb (by omega) ?_, rfl⟩; rw [Bool.eq_iff_iff]; simp [Wd.devB]; try omega)


end Go.Proofs.Ytifjbmknghjohaa
