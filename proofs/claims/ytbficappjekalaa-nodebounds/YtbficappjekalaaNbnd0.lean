/-
  The nodes that NodeBounds makes: which are right.
-/
import Derived.Test.YtbficappjekalaaNwake
namespace Go.Proofs.Ytbficappjekalaa
open Go.RowKit

/-- The node that NodeBounds makes. -/
def bn (L P : Int) (I : Nat) : Wn.Nod := Wn.setP (Wn.setP ⟨L, 0, 0, 0, 0, 0, 0, 0, 0⟩ ((I + 1) % 8) 2) I P
def mayB (L P : Int) : Bool := (P != 1 && decide (P < 4096)) && decide (L < 3)

theorem bn_nod (L P : Int) (I : Nat) (hI : I < 8) (hL : 0 ≤ L) (hP : 0 ≤ P) : Wn.nodB (bn L P I) = mayB L P := by
  rw [Bool.eq_iff_iff, Wn.nodB_iff]
  simp only [mayB, Bool.and_eq_true, bne_iff_ne, ne_eq, decide_eq_true_eq]
  rcases Wn.below8 hI with rfl | rfl | rfl | rfl | rfl | rfl | rfl | rfl
  all_goals (simp [bn, Wn.setP, Wn.ptr]; omega)

/-- A node with a pointer that may not be. -/
def ln (I : Nat) : Wn.Nod := Wn.setP Wn.n0 I (-1)
theorem ln_no (I : Nat) (hI : I < 8) : Wn.nodB (ln I) = false := by
  rcases Wn.below8 hI with rfl | rfl | rfl | rfl | rfl | rfl | rfl | rfl <;> decide

theorem mn_no (L : Int) : Wn.nodB ⟨L, 0, 0, 0, 0, 0, 0, 0, 0⟩ = false :=
  Wn.nodB_none fun k hk => by rcases Wn.below8 hk with rfl | rfl | rfl | rfl | rfl | rfl | rfl | rfl <;> rfl

end Go.Proofs.Ytbficappjekalaa
