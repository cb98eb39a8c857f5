/-
  The statements' own wakes returns true.
-/
import Derived.Test.YtiobegoiehjfiaaGreatKf
import Derived.Test.YtiobegoiehjfiaaGreatJB
namespace Wj
/-- How often each of the first m blocks is met. -/
def cts (T : List Int) (m : Nat) : List Int := (List.range m).map fun (j : Nat) => ((T.count (j : Int) : Nat) : Int)
theorem cts_length (T : List Int) (m : Nat) : (cts T m).length = m := by simp [cts]
theorem cts_get (T : List Int) {m j : Nat} (h : j < m) : (cts T m).getD j 0 = ((T.count (j : Int) : Nat) : Int) := by
  simp [cts, List.getD_eq_getElem?_getD, h]
end Wj
namespace Go.Proofs.YtiobegoiehjfiaaGreat
open Go.RowKit

theorem cn_in {w : World} {g m : Nat} {T : List Int} (h : Wj.Cn w g m T) (hm : m ≤ 100000) : Wd.In w (.slice (some ⟨g, 0, none⟩) m m) (Wj.cts T m) := by
  refine ⟨_, _, _, rfl, Wj.cts_length T m, Nat.le_refl _, by omega, by omega, fun _ => ⟨g, 0, rfl, World.rowIs.lt h, fun i hi => ?_⟩⟩
  rw [Nat.zero_add, Wj.cts_get T hi]
  exact World.rowIs.cell h hi

theorem new8 (w : World) : Calls Tryz.prog 28 #[.int .i64 8] w fun e w' => ∃ g X, e = .returned (.tuple #[.slice (some ⟨g, 0, none⟩) 512 512, .int .i64 0]) ∧ Wc.Bs w' (.slice (some ⟨g, 0, none⟩) 512 512) X ∧
    (opnE X = 0 ∧ X.length / 64 = 8 ∧ cnt X = [0, 1]) ∧ Below w.heap.size w w' := by
  refine (new_yes 8 512 w (by decide) (by decide) rfl).mono ?_
  rintro e w1 ⟨g, rfl, hg, hO, hb⟩
  obtain ⟨h1, h2, h3, h4⟩ := new_open (m := 8) (by decide) (by decide)
  refine ⟨g, _, rfl, hO.bs, ⟨h1, by rw [Wi.newI_length (by decide)], ?_⟩, hb⟩
  unfold cnt opnL
  rw [h2, h4]
  decide
