/-
  A region that draws its order, by an invariant: whatever comes up keeps it. It speaks of no program.
  A row that stays, whatever its type.
-/
import Derived.WalkKit
import Derived.WalkSpells
import Derived.WalkLawsBesides
import Derived.Orders
import Derived.Deep.OwnRows
import Derived.OpenShut
namespace Wo
open Go Go.RowKit

/-- Slots laid anew. -/
def setAll (L : List Nat) (u : Nat → Value) (t : Array Value) : Array Value := L.foldl (fun t k => t.setIfInBounds k (u k)) t

theorem setAll_size (L : List Nat) (u : Nat → Value) : ∀ t : Array Value, (setAll L u t).size = t.size := by
  unfold setAll
  induction L with
  | nil => intro t; rfl
  | cons h L ih => intro t; rw [List.foldl_cons, ih]; simp

theorem setAll_get (L : List Nat) (u : Nat → Value) : ∀ (t : Array Value) (k : Nat), (setAll L u t)[k]? = if k ∈ L ∧ k < t.size then some (u k) else t[k]? := by
  unfold setAll
  induction L with
  | nil => intro t k; simp
  | cons h L ih =>
    intro t k
    rw [List.foldl_cons, ih]
    by_cases hk : k ∈ L ∧ k < t.size
    · rw [if_pos (by simpa using hk), if_pos ⟨List.mem_cons_of_mem _ hk.1, hk.2⟩]
    · rw [if_neg (by simpa using hk)]
      by_cases he : h = k
      · subst he
        by_cases hs : h < t.size
        · rw [if_pos ⟨List.mem_cons_self, hs⟩]; simp [hs]
        · rw [if_neg (fun hh => hs hh.2)]; simp [hs]
      · rw [if_neg (fun hh => by
          rcases List.mem_cons.1 hh.1 with h1 | h1
          · exact he h1.symm
          · exact hk ⟨h1, hh.2⟩)]
        simp [he]

def upd (u : Nat → Value) (k : Nat) (v : Value) : Nat → Value := fun j => if j = k then v else u j

theorem setAll_put (L : List Nat) (u : Nat → Value) (t : Array Value) (k : Nat) (v : Value) (hk : k ∈ L) (hs : k < t.size) : (setAll L u t).setIfInBounds k v = setAll L (upd u k v) t := by
  apply Array.ext_getElem?
  intro i
  rw [Array.getElem?_setIfInBounds, setAll_get, setAll_get, setAll_size]
  by_cases h : k = i
  · subst h
    rw [if_pos rfl, if_pos hs, if_pos ⟨hk, hs⟩]
    simp [upd]
  · rw [if_neg h]
    have : ¬ i = k := fun e => h e.symm
    simp [upd, this]

theorem setAll_self (L : List Nat) (t : Array Value) : setAll L (fun j => t.getD j undef) t = t := by
  apply Array.ext_getElem?
  intro i
  rw [setAll_get]
  split
  · rename_i h
    simp [h.2]
  · rfl

theorem setAll_in (L : List Nat) (u : Nat → Value) (t : Array Value) (k : Nat) (hk : k ∈ L) (hs : k < t.size) (d : List Deferred) : ({ tmps := setAll L u t, defers := d } : Act).eval (.tmp k) = u k := by
  have := setAll_get L u t k
  rw [if_pos ⟨hk, hs⟩] at this
  simp [Act.eval, this]

theorem setAll_out (L : List Nat) (u : Nat → Value) (t : Array Value) (k : Nat) (hk : ¬ k ∈ L) (d : List Deferred) : ({ tmps := setAll L u t, defers := d } : Act).eval (.tmp k) = t.getD k undef := by
  have := setAll_get L u t k
  rw [if_neg (fun h => hk h.1)] at this
  simp [Act.eval, this]

section
variable {P : Program} {ops : Array Oper} {Q : Exit → Act → World → Prop} {md : Region.Mode}

theorem ready_spec {listed : Array Bool} {i : Nat} (h : i ∈ Region.ready md ops listed) : i < ops.size ∧ listed.getD i true = false ∧ ∀ o, ops[i]? = some o → ∀ e ∈ o.after, Region.binds md e = true → listed.getD e.on false = true := by
  unfold Region.ready at h
  rw [List.mem_filter] at h
  obtain ⟨h1, h2⟩ := h
  simp only [Bool.and_eq_true, Bool.not_eq_true'] at h2
  refine ⟨List.mem_range.1 h1, h2.1, fun o ho e he hb => ?_⟩
  have h3 := h2.2
  rw [ho] at h3
  simp only [Option.map_some, Option.getD_some, Array.all_eq_true'] at h3
  have := h3 e he
  simpa [hb] using this

theorem count_set (listed : Array Bool) (i : Nat) (h : listed.getD i true = false) : (listed.setIfInBounds i true).toList.count false + 1 = listed.toList.count false := by
  have hi : i < listed.size := by
    rcases Nat.lt_or_ge i listed.size with h1 | h1
    · exact h1
    · simp [Array.getD, Nat.not_lt.2 h1] at h
  have hv : listed[i] = false := by simpa [Array.getD, hi] using h
  have h2 : listed.toList[i]'(by simpa using hi) = false := by simpa using hv
  have hpos : 0 < listed.toList.count false := List.count_pos_iff.2 (h2 ▸ List.getElem_mem _)
  have e := List.count_set (a := true) (b := false) (l := listed.toList) (i := i) (by simpa using hi)
  rw [h2] at e
  have e3 : (if (true == false) = true then 1 else 0) = 0 := rfl
  have e4 : (if (false == false) = true then 1 else 0) = 1 := rfl
  rw [e3, e4] at e
  rw [Array.toList_setIfInBounds, e]
  omega

theorem wpOp_run {i : Nat} {o : Oper} {a : Act} {w w' : World} {K : Act → World → Prop} {v : Value} (ho : ops[i]? = some o) (hg : o.guard = none) (hrun : (execOp a.eval o).run P w = .ok (.value v) w') (h : K (a.put o.dst v) w') : wpOp P ops Q i K a w := by
  have hw : Region.wanted o (yielded ops a.tmps) = true := by simp [Region.wanted, hg]
  unfold wpOp
  simp only [ho, hw, if_true]
  left
  unfold Oper.wp
  rw [hrun]
  exact h

theorem wpOp_skip {i : Nat} {o : Oper} {a : Act} {w w' : World} {K : Act → World → Prop} (ho : ops[i]? = some o) (hg : o.guard = none) (hd : o.dst = none) (hrun : (execOp a.eval o).run P w = .ok .skip w') (h : K a w') : wpOp P ops Q i K a w := by
  have hw : Region.wanted o (yielded ops a.tmps) = true := by simp [Region.wanted, hg]
  unfold wpOp
  simp only [ho, hw, if_true]
  left
  unfold Oper.wp
  rw [hrun]
  simpa [Oper.upon, hd, Act.put] using h

/-- Whatever comes up keeps the invariant. -/
theorem any_inv (I : Array Bool → Act → World → Prop)
    (step : ∀ listed a w i, listed.size = ops.size → I listed a w → i ∈ Region.ready md ops listed → wpOp P ops Q i (I (listed.setIfInBounds i true)) a w)
    (fin : ∀ listed a w, listed.size = ops.size → I listed a w → Region.ready md ops listed = [] → Q .normal a w) :
    ∀ fuel listed a w, listed.size = ops.size → I listed a w → listed.toList.count false ≤ fuel → wpAny P md ops Q fuel listed a w := by
  intro fuel
  induction fuel with
  | zero =>
    intro listed a w hs hI hc
    have hr : Region.ready md ops listed = [] := by
      cases h : Region.ready md ops listed with
      | nil => rfl
      | cons i rs =>
        obtain ⟨_, h2, _⟩ := ready_spec (md := md) (ops := ops) (i := i) (by rw [h]; exact List.mem_cons_self)
        have := count_set listed i h2
        omega
    exact ⟨hr, fin listed a w hs hI hr⟩
  | succ fuel ih =>
    intro listed a w hs hI hc
    refine ⟨fin listed a w hs hI, fun i hi => ?_⟩
    refine wpOp_mono (fun a' w' h => ?_) (step listed a w i hs hI hi)
    refine ih _ a' w' (by simpa using hs) h ?_
    have := count_set listed i (ready_spec hi).2.1
    omega

end
end Wo
namespace Go.Proofs.YtfflhiajbioheaaGreat
open Go.RowKit

theorem row_keep {w w' : World} {g n T : Nat} {f : Nat → Value} (h : w.rowIs g T n f) (hb : Below w.heap.size w w') : w'.rowIs g T n f := h.of_block (hb.block g h.lt)

end Go.Proofs.YtfflhiajbioheaaGreat
