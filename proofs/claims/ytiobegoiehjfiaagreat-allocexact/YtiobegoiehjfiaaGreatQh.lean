/-
  What open.Find, keep.Records and keep.State return, for every input; the statements' own wakes returns true.
-/
import Derived.Test.YtiobegoiehjfiaaGreatQg
namespace Wi
theorem fnd_none {l : List Wr.Rec} {id : Int} (h : ∀ j, j < l.length → ((l.getD j Wr.r0).id == id && (l.getD j Wr.r0).kind == 0) = false) : fnd l id = none := by
  unfold fnd
  rw [List.findIdx?_eq_none_iff]
  intro x hx
  obtain ⟨j, hj, rfl⟩ := List.getElem_of_mem hx
  have := h j hj
  rwa [show l.getD j Wr.r0 = l[j] by simp [hj]] at this
theorem fnd_some {l : List Wr.Rec} {id : Int} {k : Nat} (hk : k < l.length) (h : ∀ j, j < k → ((l.getD j Wr.r0).id == id && (l.getD j Wr.r0).kind == 0) = false) (h1 : ((l.getD k Wr.r0).id == id && (l.getD k Wr.r0).kind == 0) = true) : fnd l id = some k := by
  unfold fnd
  rw [List.findIdx?_eq_some_iff_getElem]
  refine ⟨hk, by rwa [show l.getD k Wr.r0 = l[k] by simp [hk]] at h1, fun j hj => ?_⟩
  have := h j hj
  rw [show l.getD j Wr.r0 = l[j] by simp [show j < l.length by omega]] at this
  simpa using this
/-- Are two lists of records one? -/
def recsB (l m : List Wr.Rec) : Bool := l.length == m.length && (List.range l.length).all fun i => Go.Proofs.YtiobegoiehjfiaaGreat.recEq (l.getD i Wr.r0) (m.getD i Wr.r0)
theorem recsB_iff {l m : List Wr.Rec} : recsB l m = true ↔ l = m := by
  unfold recsB
  rw [Bool.and_eq_true, beq_iff_eq, List.all_eq_true]
  constructor
  · rintro ⟨h1, h2⟩
    apply List.ext_getElem h1
    intro i hi hi'
    have := h2 i (List.mem_range.2 hi)
    rw [Go.Proofs.YtiobegoiehjfiaaGreat.recEq_iff] at this
    simpa [hi, hi'] using this
  · rintro rfl
    exact ⟨rfl, fun i _ => Go.Proofs.YtiobegoiehjfiaaGreat.recEq_iff.2 rfl⟩
end Wi
namespace Go.Proofs.YtiobegoiehjfiaaGreat
open Go.RowKit

/-- Are two states one? -/
def stEq (s s' : Ws.Sup) (t t' : Int) (l l' : List Wr.Rec) : Bool := supEq s s' && (t == t' && Wi.recsB l l')
theorem stEq_iff {s s' : Ws.Sup} {t t' : Int} {l l' : List Wr.Rec} : stEq s s' t t' l l' = true ↔ s = s' ∧ t = t' ∧ l = l' := by
  unfold stEq
  rw [Bool.and_eq_true, Bool.and_eq_true, supEq_iff, beq_iff_eq, Wi.recsB_iff]

end Go.Proofs.YtiobegoiehjfiaaGreat
