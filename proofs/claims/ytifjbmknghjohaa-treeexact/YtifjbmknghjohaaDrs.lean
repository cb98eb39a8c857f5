/-
  What the page's Steps returns, for every device and every list of steps.
-/
import Derived.Test.YtifjbmknghjohaaDsteps
namespace Wd
open Go Go.RowKit

theorem rightB_iff {k p : Int} {n : Nat} {m : Int} : rightB k p n m = true ↔ (k = 1 ∧ 0 ≤ p ∧ p < m ∧ n = 64) ∨ (k = 2 ∧ p = 0 ∧ n = 0) := by
  simp [rightB, and_assoc]

theorem rightB_no {k p : Int} {n : Nat} {m : Int} (h : ¬ ((k = 1 ∧ 0 ≤ p ∧ p < m ∧ n = 64) ∨ (k = 2 ∧ p = 0 ∧ n = 0))) : rightB k p n m = false := by
  rw [Bool.eq_false_iff]
  exact fun e => h (rightB_iff.1 e)

end Wd
namespace Go.Proofs.Ytifjbmknghjohaa
open Go.RowKit

end Go.Proofs.Ytifjbmknghjohaa
