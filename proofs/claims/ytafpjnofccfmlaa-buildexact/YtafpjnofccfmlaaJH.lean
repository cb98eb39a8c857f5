/-
  A region that draws its order, by an invariant: whatever comes up keeps it. It speaks of no program.
  A row that stays, whatever its type.
  The page's walk in memory: its cells, its marks, what each of its steps leaves.
  What the page's walk.node does where it ends at once.
  What the page's walk.node does, for every device and every way.
  The region in which the page's Tree lays down its walk, whatever order it is done in.
  What the page's walk.node does at every level; what the page's Tree returns, for every right device and every root.
-/
import Derived.WalkKit
import Derived.WalkSpells
import Derived.WalkLawsBesides
import Derived.Orders
import Derived.Deep.OwnRows
import Derived.OpenShut
import Derived.Test.YtafpjnofccfmlaaJG
import Derived.Test.YtafpjnofccfmlaaJE
import Derived.BigQuiet
namespace Wo
open Go Go.RowKit

/-- Slots laid anew. -/
def setAll (L : List Nat) (u : Nat → Value) (t : Array Value) : Array Value := L.foldl (fun t k => t.setIfInBounds k (u k)) t

theorem setAll_size (L : List Nat) (u : Nat → Value) : ∀ t : Array Value, (setAll L u t).size = t.size := by
  unfold setAll
  induction L with
  | nil => intro t; rfl
  | cons h L ih => intro t; rw [List.foldl_cons, ih]; simp

theorem setAll_get (L : List Nat) (u : Nat → Value) : ∀ (t : Array Value) (k : Nat), (setAll L u t)[k]? = if k ∈ L ∧ k < t.size then some (u k) else t[k]? := by
  unfold setAll
  induction L with
  | nil => intro t k; simp
  | cons h L ih =>
    intro t k
    rw [List.foldl_cons, ih]
    by_cases hk : k ∈ L ∧ k < t.size
    · rw [if_pos (by simpa using hk), if_pos ⟨List.mem_cons_of_mem _ hk.1, hk.2⟩]
    · rw [if_neg (by simpa using hk)]
      by_cases he : h = k
      · subst he
        by_cases hs : h < t.size
        · rw [if_pos ⟨List.mem_cons_self, hs⟩]; simp [hs]
        · rw [if_neg (fun hh => hs hh.2)]; simp [hs]
      · rw [if_neg (fun hh => by
          rcases List.mem_cons.1 hh.1 with h1 | h1
          · exact he h1.symm
          · exact hk ⟨h1, hh.2⟩)]
        simp [he]

def upd (u : Nat → Value) (k : Nat) (v : Value) : Nat → Value := fun j => if j = k then v else u j

theorem setAll_put (L : List Nat) (u : Nat → Value) (t : Array Value) (k : Nat) (v : Value) (hk : k ∈ L) (hs : k < t.size) : (setAll L u t).setIfInBounds k v = setAll L (upd u k v) t := by
  apply Array.ext_getElem?
  intro i
  rw [Array.getElem?_setIfInBounds, setAll_get, setAll_get, setAll_size]
  by_cases h : k = i
  · subst h
    rw [if_pos rfl, if_pos hs, if_pos ⟨hk, hs⟩]
    simp [upd]
  · rw [if_neg h]
    have : ¬ i = k := fun e => h e.symm
    simp [upd, this]

theorem setAll_self (L : List Nat) (t : Array Value) : setAll L (fun j => t.getD j undef) t = t := by
  apply Array.ext_getElem?
  intro i
  rw [setAll_get]
  split
  · rename_i h
    simp [h.2]
  · rfl

theorem setAll_in (L : List Nat) (u : Nat → Value) (t : Array Value) (k : Nat) (hk : k ∈ L) (hs : k < t.size) (d : List Deferred) : ({ tmps := setAll L u t, defers := d } : Act).eval (.tmp k) = u k := by
  have := setAll_get L u t k
  rw [if_pos ⟨hk, hs⟩] at this
  simp [Act.eval, this]

theorem setAll_out (L : List Nat) (u : Nat → Value) (t : Array Value) (k : Nat) (hk : ¬ k ∈ L) (d : List Deferred) : ({ tmps := setAll L u t, defers := d } : Act).eval (.tmp k) = t.getD k undef := by
  have := setAll_get L u t k
  rw [if_neg (fun h => hk h.1)] at this
  simp [Act.eval, this]

section
variable {P : Program} {ops : Array Oper} {Q : Exit → Act → World → Prop} {md : Region.Mode}

theorem ready_spec {listed : Array Bool} {i : Nat} (h : i ∈ Region.ready md ops listed) : i < ops.size ∧ listed.getD i true = false ∧ ∀ o, ops[i]? = some o → ∀ e ∈ o.after, Region.binds md e = true → listed.getD e.on false = true := by
  unfold Region.ready at h
  rw [List.mem_filter] at h
  obtain ⟨h1, h2⟩ := h
  simp only [Bool.and_eq_true, Bool.not_eq_true'] at h2
  refine ⟨List.mem_range.1 h1, h2.1, fun o ho e he hb => ?_⟩
  have h3 := h2.2
  rw [ho] at h3
  simp only [Option.map_some, Option.getD_some, Array.all_eq_true'] at h3
  have := h3 e he
  simpa [hb] using this

theorem count_set (listed : Array Bool) (i : Nat) (h : listed.getD i true = false) : (listed.setIfInBounds i true).toList.count false + 1 = listed.toList.count false := by
  have hi : i < listed.size := by
    rcases Nat.lt_or_ge i listed.size with h1 | h1
    · exact h1
    · simp [Array.getD, Nat.not_lt.2 h1] at h
  have hv : listed[i] = false := by simpa [Array.getD, hi] using h
  have h2 : listed.toList[i]'(by simpa using hi) = false := by simpa using hv
  have hpos : 0 < listed.toList.count false := List.count_pos_iff.2 (h2 ▸ List.getElem_mem _)
  have e := List.count_set (a := true) (b := false) (l := listed.toList) (i := i) (by simpa using hi)
  rw [h2] at e
  have e3 : (if (true == false) = true then 1 else 0) = 0 := rfl
  have e4 : (if (false == false) = true then 1 else 0) = 1 := rfl
  rw [e3, e4] at e
  rw [Array.toList_setIfInBounds, e]
  omega

theorem wpOp_run {i : Nat} {o : Oper} {a : Act} {w w' : World} {K : Act → World → Prop} {v : Value} (ho : ops[i]? = some o) (hg : o.guard = none) (hrun : (execOp a.eval o).run P w = .ok (.value v) w') (h : K (a.put o.dst v) w') : wpOp P ops Q i K a w := by
  have hw : Region.wanted o (yielded ops a.tmps) = true := by simp [Region.wanted, hg]
  unfold wpOp
  simp only [ho, hw, if_true]
  left
  unfold Oper.wp
  rw [hrun]
  exact h

theorem wpOp_skip {i : Nat} {o : Oper} {a : Act} {w w' : World} {K : Act → World → Prop} (ho : ops[i]? = some o) (hg : o.guard = none) (hd : o.dst = none) (hrun : (execOp a.eval o).run P w = .ok .skip w') (h : K a w') : wpOp P ops Q i K a w := by
  have hw : Region.wanted o (yielded ops a.tmps) = true := by simp [Region.wanted, hg]
  unfold wpOp
  simp only [ho, hw, if_true]
  left
  unfold Oper.wp
  rw [hrun]
  simpa [Oper.upon, hd, Act.put] using h

/-- Whatever comes up keeps the invariant. -/
theorem any_inv (I : Array Bool → Act → World → Prop)
    (step : ∀ listed a w i, listed.size = ops.size → I listed a w → i ∈ Region.ready md ops listed → wpOp P ops Q i (I (listed.setIfInBounds i true)) a w)
    (fin : ∀ listed a w, listed.size = ops.size → I listed a w → Region.ready md ops listed = [] → Q .normal a w) :
    ∀ fuel listed a w, listed.size = ops.size → I listed a w → listed.toList.count false ≤ fuel → wpAny P md ops Q fuel listed a w := by
  intro fuel
  induction fuel with
  | zero =>
    intro listed a w hs hI hc
    have hr : Region.ready md ops listed = [] := by
      cases h : Region.ready md ops listed with
      | nil => rfl
      | cons i rs =>
        obtain ⟨_, h2, _⟩ := ready_spec (md := md) (ops := ops) (i := i) (by rw [h]; exact List.mem_cons_self)
        have := count_set listed i h2
        omega
    exact ⟨hr, fin listed a w hs hI hr⟩
  | succ fuel ih =>
    intro listed a w hs hI hc
    refine ⟨fin listed a w hs hI, fun i hi => ?_⟩
    refine wpOp_mono (fun a' w' h => ?_) (step listed a w i hs hI hi)
    refine ih _ a' w' (by simpa using hs) h ?_
    have := count_set listed i (ready_spec hi).2.1
    omega

end
end Wo
namespace Go.Proofs.Ytafpjnofccfmlaa
open Go.RowKit

theorem row_keep {w w' : World} {g n T : Nat} {f : Nat → Value} (h : w.rowIs g T n f) (hb : Below w.heap.size w w') : w'.rowIs g T n f := h.of_block (hb.block g h.lt)

end Go.Proofs.Ytafpjnofccfmlaa
namespace Go.Proofs.Ytafpjnofccfmlaa
open Go.RowKit

/-- The block B is a walk's own cells. -/
def Wh (w : World) (B : Nat) (img : Value) (m : Nat) (vn vs vd vm : Value) (ok : Bool) : Prop :=
  w.heap[B]? = some (.cells #[img, .int .i64 m, vn, vs, vd, vm, .bool ok] 78 (0, 0))

section
variable {w w' : World} {B m : Nat} {img vn vs vd vm : Value} {ok : Bool}

theorem Wh.lt (h : Wh w B img m vn vs vd vm ok) : B < w.heap.size := (Array.getElem?_eq_some_iff.1 h).1
theorem Wh.c0 (h : Wh w B img m vn vs vd vm ok) : w.cell? ⟨B, 0, none⟩ = some img := by unfold Wh at h; simp [World.cell?, h]
theorem Wh.c1 (h : Wh w B img m vn vs vd vm ok) : w.cell? ⟨B, 1, none⟩ = some (.int .i64 m) := by unfold Wh at h; simp [World.cell?, h]
theorem Wh.c2 (h : Wh w B img m vn vs vd vm ok) : w.cell? ⟨B, 2, none⟩ = some vn := by unfold Wh at h; simp [World.cell?, h]
theorem Wh.c3 (h : Wh w B img m vn vs vd vm ok) : w.cell? ⟨B, 3, none⟩ = some vs := by unfold Wh at h; simp [World.cell?, h]
theorem Wh.c4 (h : Wh w B img m vn vs vd vm ok) : w.cell? ⟨B, 4, none⟩ = some vd := by unfold Wh at h; simp [World.cell?, h]
theorem Wh.c5 (h : Wh w B img m vn vs vd vm ok) : w.cell? ⟨B, 5, none⟩ = some vm := by unfold Wh at h; simp [World.cell?, h]
theorem Wh.c6 (h : Wh w B img m vn vs vd vm ok) : w.cell? ⟨B, 6, none⟩ = some (.bool ok) := by unfold Wh at h; simp [World.cell?, h]
theorem Wh.fr (h : Wh w B img m vn vs vd vm ok) (i : Nat) : w.frozen? ⟨B, i, none⟩ = false := by unfold Wh at h; simp [World.frozen?, h]
theorem Wh.keep (h : Wh w B img m vn vs vd vm ok) (hb : Below w.heap.size w w') : Wh w' B img m vn vs vd vm ok := by
  unfold Wh; rw [hb.block B h.lt]; exact h
theorem Wh.other (h : Wh w B img m vn vs vd vm ok) {b : Nat} (hne : B ≠ b) (o : Nat) (u : Value) : Wh (w.setCell ⟨b, o, none⟩ u) B img m vn vs vd vm ok := by
  unfold Wh; rw [heap_setCell_other _ _ _ _ hne]; exact h
theorem Wh.fail (h : Wh w B img m vn vs vd vm ok) (k : Bool) : Wh (w.setCell ⟨B, 6, none⟩ (.bool k)) B img m vn vs vd vm k := by
  have := heap_setCell_same w B 6 _ 78 (.bool k) h
  unfold Wh; simpa using this
theorem Wh.setN (h : Wh w B img m vn vs vd vm ok) (u : Value) : Wh (w.setCell ⟨B, 2, none⟩ u) B img m u vs vd vm ok := by
  have := heap_setCell_same w B 2 _ 78 u h
  unfold Wh; simpa using this
end

/-- Blocks that hold a node stay. -/
def K47 (w w' : World) : Prop := ∀ (b : Nat) (cs : Array Value) (fr : Nat × Nat), w.heap[b]? = some (.cells cs 83 fr) → w'.heap[b]? = some (.cells cs 83 fr)
theorem K47.refl (w : World) : K47 w w := fun _ _ _ h => h
theorem K47.trans {a b c : World} (h : K47 a b) (k : K47 b c) : K47 a c := fun x cs fr hx => k x cs fr (h x cs fr hx)
theorem K47.of {w w' : World} (hb : Below w.heap.size w w') : K47 w w' := fun b cs fr h => by rw [hb.block b (Array.getElem?_eq_some_iff.1 h).1]; exact h
theorem K47.set {w : World} {B : Nat} {cs : Array Value} {T : TypeId} {fr : Nat × Nat} (h : w.heap[B]? = some (.cells cs T fr)) (hT : T ≠ 83) (o : Nat) (u : Value) : K47 w (w.setCell ⟨B, o, none⟩ u) := fun b cs' fr' hb => by
  rw [heap_setCell_other _ _ _ _ (fun e => ?_)]
  · exact hb
  · have e' : b = B := e
    rw [e', h] at hb
    cases hb
    exact hT rfl
theorem K47.row {w : World} {B n : Nat} {f : Nat → Value} {T : TypeId} (h : w.rowIs B T n f) (hT : T ≠ 83) (o : Nat) (u : Value) : K47 w (w.setCell ⟨B, o, none⟩ u) := by
  obtain ⟨c, hc, -⟩ := h
  exact K47.set hc hT o u

/-- The walk as it stands: nodes, marks of nodes, sectors, marks of sectors' blocks. -/
def Wk (w : World) (B : Nat) (img : Value) (m gs gd gm nb : Nat) (ns ms sc dt : List Int) : Prop :=
  ∃ a n c, Wh w B img m (.slice a n c) (.slice (some ⟨gs, 0, none⟩) m m) (.slice (some ⟨gd, 0, none⟩) m m) (.slice (some ⟨gm, 0, none⟩) 512 512) true ∧ Wv.Ov (Value.int .i64) 3 nb w (.slice a n c) ns ∧ Marks w gs m ms ∧ Marks w gd m dt ∧
    w.rowIs gm 3 512 (fun j => .int .i64 (sc.getD j 0)) ∧ sc.length = 512 ∧ B < nb ∧ gs < nb ∧ gd < nb ∧ gm < nb ∧ gs ≠ gd ∧ nb ≤ w.heap.size

/-- The walk once it has failed. -/
def Wf (w : World) (B : Nat) (img : Value) (m : Nat) : Prop := ∃ vn vs vd vm, Wh w B img m vn vs vd vm false

theorem Wf.keep {w w' : World} {B m : Nat} {img : Value} (h : Wf w B img m) (hb : Below w.heap.size w w') : Wf w' B img m := by
  obtain ⟨vn, vs, vd, vm, h⟩ := h
  exact ⟨vn, vs, vd, vm, h.keep hb⟩

section
variable {w w' : World} {B m gs gd gm nb : Nat} {img : Value} {ns ms sc dt : List Int}

theorem row_ne {T T' : TypeId} {b b' n n' : Nat} {f f' : Nat → Value} (h : w.rowIs b T n f) (h' : w.rowIs b' T' n' f') (hT : T ≠ T') : b ≠ b' := fun e => by
  obtain ⟨c, hc, -⟩ := h
  obtain ⟨c', hc', -⟩ := h'
  rw [e, hc'] at hc
  cases hc
  exact hT rfl

theorem wh_ne {T b n : Nat} {f : Nat → Value} {vn vs vd vm : Value} {ok : Bool} (h : Wh w B img m vn vs vd vm ok) (h' : w.rowIs b T n f) (hT : T ≠ 78) : B ≠ b := fun e => by
  obtain ⟨c', hc', -⟩ := h'
  unfold Wh at h
  rw [e, hc'] at h
  cases h
  exact hT rfl

theorem Wk.keep (h : Wk w B img m gs gd gm nb ns ms sc dt) (hb : Below w.heap.size w w') : Wk w' B img m gs gd gm nb ns ms sc dt := by
  obtain ⟨a, n, c, h1, h2, h3, h4, h5, h6, h7, h8, h9, h10, h11, h12⟩ := h
  exact ⟨a, n, c, h1.keep hb, h2.keep hb, h3.of_block (hb.block gs h3.lt), h4.of_block (hb.block gd h4.lt), h5.of_block (hb.block gm h5.lt), h6, h7, h8, h9, h10, h11, Nat.le_trans h12 hb.size⟩

theorem Wk.fail (h : Wk w B img m gs gd gm nb ns ms sc dt) : Wf (w.setCell ⟨B, 6, none⟩ (.bool false)) B img m := by
  obtain ⟨a, n, c, h1, -⟩ := h
  exact ⟨_, _, _, _, h1.fail false⟩

theorem Wk.mark (h : Wk w B img m gs gd gm nb ns ms sc dt) (j : Nat) : Wk (w.setCell ⟨gs, j, none⟩ (.bool true)) B img m gs gd gm nb ns (ms ++ [(j : Int)]) sc dt := by
  obtain ⟨a, n, c, h1, h2, h3, h4, h5, h6, h7, h8, h9, h10, h11, h12⟩ := h
  exact ⟨a, n, c, h1.other (wh_ne h1 h3 (by decide)) j _, ⟨ownsRow_setCell_below h2.1 (a := ⟨gs, j, none⟩) h8 _, h2.2⟩, h3.set j, World.rowIs.setOther h4 (a := ⟨gs, j, none⟩) (fun e => h11 e.symm) _, h5.setOther (a := ⟨gs, j, none⟩) (row_ne h5 h3 (by decide)) _, h6, h7, h8, h9, h10, h11, by simpa using h12⟩

theorem Wk.seen (h : Wk w B img m gs gd gm nb ns ms sc dt) (j : Nat) : Wk (w.setCell ⟨gd, j, none⟩ (.bool true)) B img m gs gd gm nb ns ms sc (dt ++ [(j : Int)]) := by
  obtain ⟨a, n, c, h1, h2, h3, h4, h5, h6, h7, h8, h9, h10, h11, h12⟩ := h
  exact ⟨a, n, c, h1.other (wh_ne h1 h4 (by decide)) j _, ⟨ownsRow_setCell_below h2.1 (a := ⟨gd, j, none⟩) h9 _, h2.2⟩, World.rowIs.setOther h3 (a := ⟨gd, j, none⟩) h11 _, h4.set j, h5.setOther (a := ⟨gd, j, none⟩) (row_ne h5 h4 (by decide)) _, h6, h7, h8, h9, h10, h11, by simpa using h12⟩

theorem Wk.sec (h : Wk w B img m gs gd gm nb ns ms sc dt) (pl : Nat) (p : Int) : Wk (w.setCell ⟨gm, pl, none⟩ (.int .i64 p)) B img m gs gd gm nb ns ms (sc.set pl p) dt := by
  obtain ⟨a, n, c, h1, h2, h3, h4, h5, h6, h7, h8, h9, h10, h11, h12⟩ := h
  refine ⟨a, n, c, h1.other (wh_ne h1 h5 (by decide)) pl _, ⟨ownsRow_setCell_below h2.1 (a := ⟨gm, pl, none⟩) h10 _, h2.2⟩, World.rowIs.setOther h3 (a := ⟨gm, pl, none⟩) (row_ne h3 h5 (by decide)) _, World.rowIs.setOther h4 (a := ⟨gm, pl, none⟩) (row_ne h4 h5 (by decide)) _, (h5.set pl _).congr fun j hj => ?_, by simpa using h6, h7, h8, h9, h10, h11, by simpa using h12⟩
  by_cases e : j = pl
  · subst e; rw [if_pos rfl]; simp [h6, hj]
  · rw [if_neg e]
    rw [List.getD_eq_getElem?_getD, List.getD_eq_getElem?_getD, List.getElem?_set_ne (by omega)]

theorem Wk.push (h : Wk w B img m gs gd gm nb ns ms sc dt) (hb : Below nb w w') {a : Option Addr} {n c : Nat} {l : List Int} (hO : Wv.Ov (Value.int .i64) 3 nb w' (.slice a n c) l) : Wk (w'.setCell ⟨B, 2, none⟩ (.slice a n c)) B img m gs gd gm nb l ms sc dt := by
  obtain ⟨a', n', c', h1, h2, h3, h4, h5, h6, h7, h8, h9, h10, h11, h12⟩ := h
  have k1 : Wh w' B img m (.slice a' n' c') (.slice (some ⟨gs, 0, none⟩) m m) (.slice (some ⟨gd, 0, none⟩) m m) (.slice (some ⟨gm, 0, none⟩) 512 512) true := by unfold Wh; rw [hb.block B h7]; exact h1
  have k3 : Marks w' gs m ms := h3.of_block (hb.block gs h8)
  have k4 : Marks w' gd m dt := h4.of_block (hb.block gd h9)
  have k5 := h5.of_block (hb.block gm h10)
  refine ⟨a, n, c, k1.setN _, ⟨ownsRow_setCell_below hO.1 (a := ⟨B, 2, none⟩) h7 _, hO.2⟩, World.rowIs.setOther k3 (a := ⟨B, 2, none⟩) (fun e => wh_ne k1 k3 (by decide) e.symm) _, World.rowIs.setOther k4 (a := ⟨B, 2, none⟩) (fun e => wh_ne k1 k4 (by decide) e.symm) _, k5.setOther (a := ⟨B, 2, none⟩) (fun e => wh_ne k1 k5 (by decide) e.symm) _, h6, h7, h8, h9, h10, h11, ?_⟩
  have := hb.size
  simp; omega

/-- What one may look at. -/
theorem Wk.cells (h : Wk w B img m gs gd gm nb ns ms sc dt) : ∃ a n c, (w.cell? ⟨B, 0, none⟩ = some img ∧ w.cell? ⟨B, 1, none⟩ = some (.int .i64 m) ∧ w.cell? ⟨B, 2, none⟩ = some (.slice a n c) ∧ w.cell? ⟨B, 3, none⟩ = some (.slice (some ⟨gs, 0, none⟩) m m) ∧ w.cell? ⟨B, 4, none⟩ = some (.slice (some ⟨gd, 0, none⟩) m m) ∧ w.cell? ⟨B, 5, none⟩ = some (.slice (some ⟨gm, 0, none⟩) 512 512) ∧ w.cell? ⟨B, 6, none⟩ = some (.bool true)) ∧ (∀ i, w.frozen? ⟨B, i, none⟩ = false) ∧ Wv.Ov (Value.int .i64) 3 nb w (.slice a n c) ns := by
  obtain ⟨a, n, c, h1, h2, -⟩ := h
  exact ⟨a, n, c, ⟨h1.c0, h1.c1, h1.c2, h1.c3, h1.c4, h1.c5, h1.c6⟩, h1.fr, h2⟩

theorem Wk.rows (h : Wk w B img m gs gd gm nb ns ms sc dt) : Marks w gs m ms ∧ Marks w gd m dt ∧ w.rowIs gm 3 512 (fun j => .int .i64 (sc.getD j 0)) ∧ sc.length = 512 ∧ B < nb ∧ nb ≤ w.heap.size ∧ (∃ cs, w.heap[B]? = some (.cells cs 78 (0, 0))) := by
  obtain ⟨a, n, c, h1, h2, h3, h4, h5, h6, h7, h8, h9, h10, h11, h12⟩ := h
  exact ⟨h3, h4, h5, h6, h7, h12, _, h1⟩
end

theorem rdR_at {xs : List Int} {q : Nat} (hd : Wd.devB xs.length = true) (hq : q < xs.length / 64) : Wd.rdR xs (q : Int) = (xs.drop (q * 64)).take 64 := by
  have h1 : Wd.rdE xs.length (q : Int) = 0 := by
    unfold Wd.rdE
    rw [if_pos hd, if_pos (by omega)]
  unfold Wd.rdR
  rw [if_pos h1]; rfl

set_option maxHeartbeats 400000 in
theorem refIn10_any (n lo hi : Int) (w : World) :
    Calls Try.prog 50 #[.int .i64 n, .int .i64 lo, .int .i64 hi] w fun e w' => e = .returned (.bool (decide (lo ≤ n) && decide (n ≤ hi))) ∧ w = w' := by
  go_enter Try.func50, Try.ntmps50
  go_wp2
  all_goals go_ret
  all_goals (refine ⟨ret_bool ?_, rfl⟩; rw [Bool.eq_iff_iff]; simp; try omega)

end Go.Proofs.Ytafpjnofccfmlaa
namespace Go.Proofs.Ytafpjnofccfmlaa
open Go.RowKit

/-- What a call of node leaves. -/
def NodePost (img : Value) (w0 w : World) (B m gs gd gm nb : Nat) (o : Option Wt.St) : Ending → World → Prop := fun e w' =>
  e = .returned (.tuple #[]) ∧ Below w0.heap.size w0 w' ∧ K47 w w' ∧ (∀ t, o = some t → Wk w' B img m gs gd gm nb t.nodes t.nodes t.sec t.dat) ∧ (o = none → Wf w' B img m)

theorem node_none {img : Value} {w0 w w' : World} {B m gs gd gm nb : Nat} (hb : Below w0.heap.size w0 w') (hk : K47 w w') (hf : Wf w' B img m) : NodePost img w0 w B m gs gd gm nb none (.returned (.tuple #[])) w' :=
  ⟨rfl, hb, hk, fun t h => (by cases h), fun _ => hf⟩

set_option maxRecDepth 100000 in
set_option maxHeartbeats 1600000 in
theorem node_failed (img : Value) (w0 w : World) (B m gs gd gm nb : Nat) (p l q : Int) (hB : w0.heap.size ≤ B) (hb : Below w0.heap.size w0 w) (hF : Wf w B img m) :
    Calls Try.prog 36 #[.pointer (some ⟨B, 0, none⟩), .int .i64 p, .int .i64 l, .int .i64 q] w (NodePost img w0 w B m gs gd gm nb none) := by
  obtain ⟨vn, vs, vd, vm, h⟩ := hF
  have c6 := h.c6
  have cf := h.fr
  have H := Wc.hid h
  have HB := Wc.hid hb
  clear h hb
  go_enter Try.func36, Try.ntmps36
  go_wp2_with fail
  go_end0
  exact node_none (HB.out.setCell hB _) (K47.set H.out (by decide) _ _) ⟨_, _, _, _, H.out.fail false⟩

set_option maxRecDepth 100000 in
set_option maxHeartbeats 1600000 in
theorem node_far (img : Value) (w0 w : World) (B m gs gd gm nb : Nat) (p l q : Int) (s : Wt.St) (hB : w0.heap.size ≤ B) (hm : m ≤ 4096) (hb : Below w0.heap.size w0 w) (hW : Wk w B img m gs gd gm nb s.nodes s.nodes s.sec s.dat) (hp : ¬ (2 ≤ p ∧ p < m)) :
    Calls Try.prog 36 #[.pointer (some ⟨B, 0, none⟩), .int .i64 p, .int .i64 l, .int .i64 q] w (NodePost img w0 w B m gs gd gm nb none) := by
  obtain ⟨a, n, c, ⟨c0, c1, c2, c3, c4, c5, c6⟩, cf, -⟩ := hW.cells
  obtain ⟨-, -, -, -, -, -, cs, hcs⟩ := hW.rows
  have hin : (decide (2 ≤ p) && decide (p ≤ (m : Int) - 1)) = false := by rw [Bool.eq_false_iff]; simp; omega
  have HW := Wc.hid hW
  have HB := Wc.hid hb
  have HC := Wc.hid hcs
  clear hW hb hcs hp c0 c2 c3 c4 c5
  go_enter Try.func36, Try.ntmps36
  go_wp2_with fail
  refine (refIn10_any _ _ _ _).mono ?_
  rintro e w1 ⟨rfl, rfl⟩
  rw [hin]
  go_wp2_with fail
  go_end0
  exact node_none (HB.out.setCell hB _) (K47.set HC.out (by decide) _ _) HW.out.fail

set_option maxRecDepth 100000 in
set_option maxHeartbeats 1600000 in
theorem node_seen (img : Value) (w0 w : World) (B m gs gd gm nb j : Nat) (l q : Int) (s : Wt.St) (hB : w0.heap.size ≤ B) (hm : m ≤ 4096) (hb : Below w0.heap.size w0 w) (hW : Wk w B img m gs gd gm nb s.nodes s.nodes s.sec s.dat) (h2 : 2 ≤ j) (hj : j < m) (hs : (j : Int) ∈ s.nodes) :
    Calls Try.prog 36 #[.pointer (some ⟨B, 0, none⟩), .int .i64 j, .int .i64 l, .int .i64 q] w (NodePost img w0 w B m gs gd gm nb none) := by
  obtain ⟨a, n, c, ⟨c0, c1, c2, c3, c4, c5, c6⟩, cf, -⟩ := hW.cells
  obtain ⟨hM, -, -, -, -, -, cs, hcs⟩ := hW.rows
  have k0 := hM.cell hj
  rw [decide_eq_true hs] at k0
  have hin : (decide (2 ≤ (j : Int)) && decide ((j : Int) ≤ (m : Int) - 1)) = true := by simp; omega
  have HW := Wc.hid hW
  have HB := Wc.hid hb
  have HC := Wc.hid hcs
  clear hW hb hcs c0 c2 c4 c5 hM hs
  go_enter Try.func36, Try.ntmps36
  go_wp2_with fail
  refine (refIn10_any _ _ _ _).mono ?_
  rintro e w1 ⟨rfl, rfl⟩
  rw [hin]
  go_wp2_with fail
  go_end0
  exact node_none (HB.out.setCell hB _) (K47.set HC.out (by decide) _ _) HW.out.fail

set_option maxRecDepth 100000 in
set_option maxHeartbeats 1600000 in
theorem node_bad (xs : List Int) (ai : Option Addr) (ni ci : Nat) (w0 w : World) (B m gs gd gm nb j L : Nat) (l q : Int) (s : Wt.St) (hv : Wc.Bs w0 (.slice ai ni ci) xs) (hd : Wd.devB xs.length = true) (hmx : xs.length / 64 = m) (hl : l = L) (hB : w0.heap.size ≤ B) (hm : m ≤ 4096) (hb : Below w0.heap.size w0 w)
   (hW : Wk w B (.slice ai ni ci) m gs gd gm nb s.nodes s.nodes s.sec s.dat) (h2 : 2 ≤ j) (hj : j < m) (hs : ¬ (j : Int) ∈ s.nodes) (ho : Wt.okN xs (j : Int) L = false) :
    Calls Try.prog 36 #[.pointer (some ⟨B, 0, none⟩), .int .i64 j, .int .i64 l, .int .i64 q] w (NodePost (.slice ai ni ci) w0 w B m gs gd gm nb none) := by
  obtain ⟨a, n, c, ⟨c0, c1, c2, c3, c4, c5, c6⟩, cf, -⟩ := hW.cells
  obtain ⟨hM, -, -, -, -, -, cs, hcs⟩ := hW.rows
  have k0 := hM.cell hj
  rw [decide_eq_false hs] at k0
  have hin : (decide (2 ≤ (j : Int)) && decide ((j : Int) ≤ (m : Int) - 1)) = true := by simp; omega
  have hxl := Wc.bs_len hv
  have HV := Wc.hid (hv.keep hb)
  have HQ : Hid (j * 64 + 64 ≤ ni) := Wc.hid (by have := Wd.devB_iff.1 hd; omega)
  have HR := Wc.hid (rdR_at hd (show j < xs.length / 64 by omega))
  have HW := Wc.hid hW
  have HB := Wc.hid hb
  have HC := Wc.hid hcs
  clear hv hW hb hcs c2 c4 c5 hM hs hd hmx hxl
  cases hk : (Wn.parE (Wd.rdR xs (j : Int)) != 0)
  · have hlev : ¬ (Wt.nd xs (j : Int)).level = (L : Int) := fun e => by
      have h0 : (Wn.parE (Wd.rdR xs (j : Int)) == 0) = true := by simpa using hk
      rw [okN_iff.2 ⟨h0, e⟩] at ho; cases ho
    clear ho
    obtain ⟨n, hn⟩ : ∃ n, Wt.nd xs (j : Int) = n := ⟨_, rfl⟩
    rw [hn] at hlev
    have HN := Wc.hid hn
    clear hn
    have HK := Wc.hid hk
    clear hk
    go_enter Try.func36, Try.ntmps36
    go_wp2_with fail
    refine (refIn10_any _ _ _ _).mono ?_
    rintro e w1 ⟨rfl, rfl⟩
    rw [hin]
    go_wp2_with fail
    refine (block_any ai ni ci j xs _ HV.out HQ.out).mono ?_
    rintro e w2 ⟨ax, cx, rfl, hbs, rfl⟩
    rw [← HR.out] at hbs
    have HBS := Wc.hid hbs
    clear hbs
    go_wp2_with fail
    refine (refParse7_any _ _ _ HBS.out).mono ?_
    rintro e w3 ⟨rfl, hb3⟩
    have hE : Wn.parE (Wd.rdR xs (j : Int)) = 0 := by simpa using HK.out
    rw [show Wn.par (Wd.rdR xs (j : Int)) = n from HN.out, hE]
    have bA : Below w3.heap.size w3 (w3.alloc (.cells #[.int .i64 n.level, .int .i64 n.p0, .int .i64 n.p1, .int .i64 n.p2, .int .i64 n.p3, .int .i64 n.p4, .int .i64 n.p5, .int .i64 n.p6, .int .i64 n.p7] 83)) := (Below.refl _ _).alloc (Nat.le_refl _) _
    have W3 := (HW.out.keep hb3).keep bA
    obtain ⟨a3, n3, x3, ⟨d0, d1, d2, d3, d4, d5, d6⟩, df, -⟩ := W3.cells
    obtain ⟨-, -, -, -, -, -, cs3, hcs3⟩ := W3.rows
    have ⟨f, f0, f1, f2, f3, f4, f5, f6, f7⟩ := (Nh.new w3 n).nc
    have hne : (n.level != l) = true := by simp; omega
    have HW3 := Wc.hid W3
    have HC3 := Wc.hid hcs3
    have HB3 := Wc.hid (Wc.step (Wc.step HB.out (Nat.le_refl _) hb3) (Nat.le_refl _) bA)
    have HK3 := Wc.hid ((K47.of hb3).trans (K47.of bA))
    unfold nv
    clear W3 hcs3 hb3 bA d0 d1 d2 d3 d4 d5 hE
    go_wp2_with fail
    go_end0
    exact node_none (HB3.out.setCell hB _) (HK3.out.trans (K47.set HC3.out (by decide) _ _)) HW3.out.fail
  · clear ho
    obtain ⟨E, hE⟩ : ∃ E, Wn.parE (Wd.rdR xs (j : Int)) = E := ⟨_, rfl⟩
    rw [hE] at hk
    obtain ⟨n, hn⟩ : ∃ n, Wt.nd xs (j : Int) = n := ⟨_, rfl⟩
    have HN := Wc.hid hn
    have HE := Wc.hid hE
    clear hn hE
    go_enter Try.func36, Try.ntmps36
    go_wp2_with fail
    refine (refIn10_any _ _ _ _).mono ?_
    rintro e w1 ⟨rfl, rfl⟩
    rw [hin]
    go_wp2_with fail
    refine (block_any ai ni ci j xs _ HV.out HQ.out).mono ?_
    rintro e w2 ⟨ax, cx, rfl, hbs, rfl⟩
    rw [← HR.out] at hbs
    have HBS := Wc.hid hbs
    clear hbs
    go_wp2_with fail
    refine (refParse7_any _ _ _ HBS.out).mono ?_
    rintro e w3 ⟨rfl, hb3⟩
    rw [show Wn.par (Wd.rdR xs (j : Int)) = n from HN.out, HE.out]
    have bA : Below w3.heap.size w3 (w3.alloc (.cells #[.int .i64 n.level, .int .i64 n.p0, .int .i64 n.p1, .int .i64 n.p2, .int .i64 n.p3, .int .i64 n.p4, .int .i64 n.p5, .int .i64 n.p6, .int .i64 n.p7] 83)) := (Below.refl _ _).alloc (Nat.le_refl _) _
    have W3 := (HW.out.keep hb3).keep bA
    obtain ⟨a3, n3, x3, ⟨d0, d1, d2, d3, d4, d5, d6⟩, df, -⟩ := W3.cells
    obtain ⟨-, -, -, -, -, -, cs3, hcs3⟩ := W3.rows
    have HW3 := Wc.hid W3
    have HC3 := Wc.hid hcs3
    have HB3 := Wc.hid (Wc.step (Wc.step HB.out (Nat.le_refl _) hb3) (Nat.le_refl _) bA)
    have HK3 := Wc.hid ((K47.of hb3).trans (K47.of bA))
    unfold nv
    clear W3 hcs3 hb3 bA d0 d1 d2 d3 d4 d5
    go_wp2_with fail
    go_end0
    exact node_none (HB3.out.setCell hB _) (HK3.out.trans (K47.set HC3.out (by decide) _ _)) HW3.out.fail

end Go.Proofs.Ytafpjnofccfmlaa
namespace Go.Proofs.Ytafpjnofccfmlaa
open Go.RowKit

/-- What node does at a level. -/
def NodeOk (xs : List Int) (img : Value) (w0 : World) (B m gs gd gm nb L : Nat) : Prop :=
  ∀ (p l q : Int) (pl : Nat) (s : Wt.St) (w : World), l = L → q = ((pl * 8 ^ (L + 1) : Nat) : Int) → (pl + 1) * 8 ^ (L + 1) ≤ 512 → s.nodes.length + Wt.room (L + 1) ≤ 1000 → 2 ≤ p → Below w0.heap.size w0 w → Wk w B img m gs gd gm nb s.nodes s.nodes s.sec s.dat →
    Calls Try.prog 36 #[.pointer (some ⟨B, 0, none⟩), .int .i64 p, .int .i64 l, .int .i64 q] w (NodePost img w0 w B m gs gd gm nb (Wt.rmet xs m (L + 1) p pl s))

theorem rmet_room (xs : List Int) (N : Int) (L : Nat) (p : Int) (pl : Nat) (s t : Wt.St) (h : Wt.rmet xs N L p pl s = some t) : t.nodes.length ≤ s.nodes.length + Wt.room L :=
  Wt.met_room xs L p pl s t (Wt.rmet_met xs N L p pl s t h)

/-- The state of the loop over a node's pointers. -/
def Rst (xs : List Int) (img : Value) (B m gs gd gm nb L pl : Nat) (n : Wn.Nod) (s : Wt.St) (k : Nat) (wr : World) : Prop :=
  (∃ t, Wt.go (Wt.rmet xs m L) n pl k s = some t ∧ Wk wr B img m gs gd gm nb t.nodes t.nodes t.sec t.dat) ∨ (Wt.go (Wt.rmet xs m L) n pl k s = none ∧ Wf wr B img m ∧ 1 ≤ L)

theorem go8_none {f : Int → Nat → Wt.St → Option Wt.St} {n : Wn.Nod} {pl k : Nat} {s : Wt.St} (hk : k < 8) (h : Wt.go f n pl (k + 1) s = none) : Wt.go f n pl 8 s = none := by
  have := Wt.go_none h (7 - k)
  rwa [show k + 1 + (7 - k) = 8 by omega] at this

theorem rst_end {xs : List Int} {img : Value} {w0 w wr : World} {B m gs gd gm nb L pl : Nat} {n : Wn.Nod} {s : Wt.St} (h : Rst xs img B m gs gd gm nb L pl n s 8 wr) (hb : Below w0.heap.size w0 wr) (hk : K47 w wr) :
    NodePost img w0 w B m gs gd gm nb (Wt.go (Wt.rmet xs m L) n pl 8 s) (.returned (.tuple #[])) wr := by
  rcases h with ⟨t, h1, h2⟩ | ⟨h1, h2, -⟩
  · refine ⟨rfl, hb, hk, fun u hu => ?_, fun hu => by rw [h1] at hu; cases hu⟩
    rw [h1] at hu; cases hu; exact h2
  · rw [h1]; exact node_none hb hk h2

/-- The walk fails at a pointer. -/
theorem rst_fail {xs : List Int} {img : Value} {w0 w wr : World} {B m gs gd gm nb L pl k : Nat} {n : Wn.Nod} {s : Wt.St} (hk8 : k < 8) (h : Wt.go (Wt.rmet xs m L) n pl (k + 1) s = none) (hb : Below w0.heap.size w0 wr) (hk : K47 w wr) (hf : Wf wr B img m) :
    NodePost img w0 w B m gs gd gm nb (Wt.go (Wt.rmet xs m L) n pl 8 s) (.returned (.tuple #[])) wr := by
  rw [go8_none hk8 h]; exact node_none hb hk hf

theorem rmet_far {xs : List Int} {N p : Int} {L pl : Nat} {s : Wt.St} (h : N ≤ p) : Wt.rmet xs N L p pl s = none := by
  cases L with
  | zero => unfold Wt.rmet; rw [if_neg (by omega)]
  | succ L => unfold Wt.rmet; rw [if_neg (fun h' => by omega)]

theorem wf_set {w : World} {B m : Nat} {img : Value} (h : Wf w B img m) : Wf (w.setCell ⟨B, 6, none⟩ (.bool false)) B img m := by
  obtain ⟨vn, vs, vd, vm, h⟩ := h
  exact ⟨_, _, _, _, h.fail false⟩

theorem wf_k47 {w : World} {B m : Nat} {img : Value} (h : Wf w B img m) (u : Value) : K47 w (w.setCell ⟨B, 6, none⟩ u) := by
  obtain ⟨vn, vs, vd, vm, h⟩ := h
  exact K47.set h (by decide) _ _

theorem wk_k47 {w : World} {B m gs gd gm nb : Nat} {img : Value} {ns ms sc dt : List Int} (h : Wk w B img m gs gd gm nb ns ms sc dt) (o : Nat) (u : Value) : K47 w (w.setCell ⟨B, o, none⟩ u) := by
  obtain ⟨cs, hcs⟩ := h.rows.2.2.2.2.2.2
  exact K47.set hcs (by decide) _ _

set_option maxRecDepth 100000 in
set_option maxHeartbeats 6400000 in
theorem node_yes (xs : List Int) (ai : Option Addr) (ni ci : Nat) (w0 w : World) (B m gs gd gm nb j L pl : Nat) (l q : Int) (s : Wt.St) (hv : Wc.Bs w0 (.slice ai ni ci) xs) (hd : Wd.devB xs.length = true) (hmx : xs.length / 64 = m) (hl : l = L) (hL : L ≤ 2) (hq : q = ((pl * 8 ^ (L + 1) : Nat) : Int)) (hpl : (pl + 1) * 8 ^ (L + 1) ≤ 512) (hr : s.nodes.length + Wt.room (L + 1) ≤ 1000)
   (hB : w0.heap.size ≤ B) (hgs : w0.heap.size ≤ gs) (hgd : w0.heap.size ≤ gd) (hgm : w0.heap.size ≤ gm) (hm : m ≤ 4096) (hb : Below w0.heap.size w0 w)
   (hN : ∀ L', L = L' + 1 → NodeOk xs (.slice ai ni ci) w0 B m gs gd gm nb L')
   (hW : Wk w B (.slice ai ni ci) m gs gd gm nb s.nodes s.nodes s.sec s.dat) (h2 : 2 ≤ j) (hj : j < m) (hs : ¬ (j : Int) ∈ s.nodes) (ho : Wt.okN xs (j : Int) L = true) :
    Calls Try.prog 36 #[.pointer (some ⟨B, 0, none⟩), .int .i64 j, .int .i64 l, .int .i64 q] w (NodePost (.slice ai ni ci) w0 w B m gs gd gm nb (Wt.go (Wt.rmet xs m L) (Wt.nd xs (j : Int)) pl 8 ⟨s.nodes ++ [(j : Int)], s.sec, s.dat⟩)) := by
  obtain ⟨a, n0, c, ⟨c0, c1, c2, c3, c4, c5, c6⟩, cf, -⟩ := hW.cells
  obtain ⟨hM, -, -, -, -, -, cs, hcs⟩ := hW.rows
  have k0 := hM.cell hj
  rw [decide_eq_false hs] at k0
  have hin : (decide (2 ≤ (j : Int)) && decide ((j : Int) ≤ (m : Int) - 1)) = true := by simp; omega
  have hxl := Wc.bs_len hv
  have HV := Wc.hid (hv.keep hb)
  have HQ : Hid (j * 64 + 64 ≤ ni) := Wc.hid (by have := Wd.devB_iff.1 hd; omega)
  have HR := Wc.hid (rdR_at hd (show j < xs.length / 64 by omega))
  have HW := Wc.hid hW
  have HB := Wc.hid hb
  obtain ⟨hnod, -, -, hE0, hlev⟩ := Wt.okN_nod ho
  have HE := Wc.hid hE0
  obtain ⟨n, hn⟩ : ∃ n, Wt.nd xs (j : Int) = n := ⟨_, rfl⟩
  rw [hn] at hlev hnod ⊢
  have HN := Wc.hid hn
  have HNOD := Wc.hid hnod
  have HREC := Wc.hid hN
  have HP := Wc.hid hpl
  have HRO := Wc.hid hr
  have HQQ := Wc.hid hq
  clear hv hW hb hcs c2 c4 c5 hM hs hd hmx hxl ho hE0 hn hnod hN hpl hr hq
  go_enter Try.func36, Try.ntmps36
  go_wp2_with fail
  refine (refIn10_any _ _ _ _).mono ?_
  rintro e w1 ⟨rfl, rfl⟩
  rw [hin]
  go_wp2_with fail
  refine (block_any ai ni ci j xs _ HV.out HQ.out).mono ?_
  rintro e w2 ⟨ax, cx, rfl, hbs, rfl⟩
  rw [← HR.out] at hbs
  have HBS := Wc.hid hbs
  clear hbs
  go_wp2_with fail
  refine (refParse7_any _ _ _ HBS.out).mono ?_
  rintro e w3 ⟨rfl, hb3⟩
  rw [show Wn.par (Wd.rdR xs (j : Int)) = n from HN.out, HE.out]
  obtain ⟨wa, hwa⟩ : ∃ wa, wa = w3.alloc (.cells #[.int .i64 n.level, .int .i64 n.p0, .int .i64 n.p1, .int .i64 n.p2, .int .i64 n.p3, .int .i64 n.p4, .int .i64 n.p5, .int .i64 n.p6, .int .i64 n.p7] 83) := ⟨_, rfl⟩
  have bA : Below w3.heap.size w3 (w3.alloc (.cells #[.int .i64 n.level, .int .i64 n.p0, .int .i64 n.p1, .int .i64 n.p2, .int .i64 n.p3, .int .i64 n.p4, .int .i64 n.p5, .int .i64 n.p6, .int .i64 n.p7] 83)) := (Below.refl _ _).alloc (Nat.le_refl _) _
  have W3 := (HW.out.keep hb3).keep bA
  obtain ⟨a3, n3, x3, ⟨d0, d1, d2, d3, d4, d5, d6⟩, df, -⟩ := W3.cells
  have N3 := Nh.new w3 n
  have ⟨f, f0, f1, f2, f3, f4, f5, f6, f7⟩ := N3.nc
  have hne : (n.level != l) = false := by simp; omega
  have m3 := (W3.rows.1).cell hj
  have m3f := (W3.rows.1).frozen j
  -- the mark is set
  have W4 := W3.mark j
  have KM := K47.row W3.rows.1 (by decide) j (.bool true)
  have N4 := KM _ _ _ N3
  obtain ⟨a4, n4, x4, ⟨-, -, e2, -, -, -, -⟩, ef, hO4⟩ := W4.cells
  have hnb4 := W4.rows.2.2.2.2.2.1
  have hBn := W4.rows.2.2.2.2.1
  have hln : s.nodes.length ≤ 1000 := by have := HRO.out; omega
  obtain ⟨a5, n5, x5, w5, hrun, hO5, hb5, hoth⟩ := push_run _ (w3.heap.size + 1) nb (by simp) _ s.nodes (j : Int) hO4 hln hnb4
  have W4b := W4.keep ((Below.refl _ _).alloc (Nat.le_refl _) (.cells #[.int .i64 (j : Int)] 3))
  have W5 := Wc.hid (W4b.push hb5 hO5)
  obtain ⟨a6, n6, x6, ⟨-, -, g2, -, -, -, -⟩, gf, -⟩ := W4b.cells
  have e20 : w5.cell? ⟨B, 2, none⟩ = some (.slice a6 n6 x6) := (hb5.cell (p := ⟨B, 2, none⟩) hBn).trans g2
  have e21 : w5.frozen? ⟨B, 2, none⟩ = false := (hb5.frozen (p := ⟨B, 2, none⟩) hBn).trans (gf 2)
  have hRUN := Wc.hid hrun
  have B3 := Wc.step (Wc.step HB.out (Nat.le_refl _) hb3) (Nat.le_refl _) bA
  have B4 := B3.setCell (p := ⟨gs, j, none⟩) hgs (.bool true)
  have B5 := Wc.hid (((B4.alloc B4.size (.cells #[.int .i64 (j : Int)] 3)).trans (hb5.mono (by omega))).setCell (p := ⟨B, 2, none⟩) hB (.slice a5 n5 x5))
  have K3 : K47 (w3.alloc (.cells #[.int .i64 n.level, .int .i64 n.p0, .int .i64 n.p1, .int .i64 n.p2, .int .i64 n.p3, .int .i64 n.p4, .int .i64 n.p5, .int .i64 n.p6, .int .i64 n.p7] 83)) (w5.setCell ⟨B, 2, none⟩ (.slice a5 n5 x5)) := by
    refine KM.trans ((K47.of ((Below.refl _ _).alloc (Nat.le_refl _) (.cells #[.int .i64 (j : Int)] 3))).trans (K47.trans (b := w5) (fun b cs fr hh => hoth b cs 83 fr hh (by decide)) ?_))
    obtain ⟨cs9, h9⟩ := W4b.rows.2.2.2.2.2.2
    exact K47.set (cs := cs9) (T := 78) (fr := (0, 0)) ((hb5.block B hBn).trans h9) (by decide) _ _
  have N5 : Hid (Nh (w5.setCell ⟨B, 2, none⟩ (.slice a5 n5 x5)) w3.heap.size n) := Wc.hid (K3 _ _ _ N3)
  have KK := Wc.hid (((K47.of hb3).trans (K47.of bA)).trans K3)
  unfold nv
  clear B3 B4 W4b W4 W3 gf g2 ef hO4 hnb4 hBn hO5 N3 N4 hwa wa bA hlev hrun K3 KM hoth hb5
  go_wp2_with (at_builtin; refine Wv.wp_append hRUN.out rfl rfl rfl rfl ?_)
  clear f f0 f1 f2 f3 f4 f5 f6 f7 m3 m3f d0 d1 d2 d3 d4 d5 d6 df e2 e20 e21 hne c0 c1 c3 c6 cf k0 hin hRUN HBS HV HQ HR HE HN hb3 HW HB
  go_loop [10, 11] (fun sp i => ∃ k : Nat, k ≤ L ∧ i = .int .i64 k ∧ sp = .int .i64 ((8 : Int) ^ k)) (fun _ i => L - (intOf i).toNat)
  case atStart => exact ⟨0, by omega, rfl, rfl⟩
  case round =>
    obtain ⟨k, hk, rfl, rfl⟩ := hrel
    have hp8 := pow8 (k := k) (by omega)
    by_cases hlt : k < L
    · have hp9 := hp8.2.2 (by omega)
      have hps : (8 : Int) ^ (k + 1) = 8 ^ k * 8 := Int.pow_succ _ _
      have HPS := Wc.hid hps
      generalize (8 : Int) ^ k = S at *
      go_wp2_with fail
      go_round
      case rel => exact ⟨k + 1, by omega, by go_num, by rw [HPS.out]⟩
      case measure => simp [intOf]; omega
    · obtain rfl : L = k := by omega
      obtain ⟨S, hS⟩ : ∃ S : Int, (8 : Int) ^ L = S := ⟨_, rfl⟩
      rw [hS] at hp8 ⊢
      have HS := Wc.hid hS
      have hq0 : 0 ≤ q ∧ q ≤ 512 := by
        have h1 := HQQ.out
        have h2 := HP.out
        rw [Nat.succ_mul] at h2
        have h4 : pl * 8 ^ (L + 1) ≤ 512 := Nat.le_trans (Nat.le_add_right _ _) h2
        generalize pl * 8 ^ (L + 1) = Q at h1 h4
        omega
      obtain ⟨Q, rfl⟩ : ∃ Q : Nat, q = Q := ⟨q.toNat, by omega⟩
      have hQ5 : Q ≤ 512 := by omega
      clear hq0
      clear hS
      go_wp2_with fail
      go_loopw [12] (fun i wr => ∃ k : Nat, i = .int .i64 k ∧ k ≤ 8 ∧ Hid (Rst xs (.slice ai ni ci) B m gs gd gm nb L pl n ⟨s.nodes ++ [(j : Int)], s.sec, s.dat⟩ k wr) ∧ Hid (Nh wr w3.heap.size n) ∧ Hid (Below w0.heap.size w0 wr) ∧ Hid (K47 w wr)) (fun i _ => 8 - (intOf i).toNat)
      case atStart => exact ⟨0, rfl, by omega, Wc.hid (.inl ⟨_, rfl, W5.out⟩), N5, B5, KK⟩
      case round =>
        obtain ⟨k, rfl, hk, RS, RN, RB, RK⟩ := hrel
        by_cases hlt : k < 8
        · have hcell := RN.out.pat hlt
          have hpl2 := Wt.pat_link HNOD.out hlt
          by_cases hz : Wn.pat n k = 0
          · have RS1 : Hid (Rst xs (.slice ai ni ci) B m gs gd gm nb L pl n ⟨s.nodes ++ [(j : Int)], s.sec, s.dat⟩ (k + 1) wr) := by
              rcases RS.out with ⟨t, h1, h2⟩ | ⟨h1, h2, h3⟩
              · exact .inl ⟨t, Wt.go_skip h1 hz, h2⟩
              · exact .inr ⟨Wt.go_none h1 1, h2, h3⟩
            rw [hz] at hcell
            clear hpl2 hz
            go_wp2_with fail
            go_roundw
            case rel => exact ⟨k + 1, by go_num, by omega, RS1, RN, RB, RK⟩
            case measure => simp [intOf]; omega
          · obtain ⟨p, hp⟩ : ∃ p, Wn.pat n k = p := ⟨_, rfl⟩
            rw [hp] at hcell hpl2 hz
            have hp2 : 2 ≤ p := by omega
            have hpz : (p == 0) = false := by simpa using hz
            have HPP := Wc.hid hp
            clear hp hpl2
            rcases RS.out with ⟨t, h1, h2⟩ | ⟨h1, h2, h3⟩
            · have HG := Wc.hid h1
              have HT := Wc.hid h2
              have HG1 : Hid (Wt.go (Wt.rmet xs m L) n pl (k + 1) ⟨s.nodes ++ [(j : Int)], s.sec, s.dat⟩ = Wt.rmet xs m L p (pl * 8 + k) t) := Wc.hid (by rw [Wt.go_step h1 (by rw [HPP.out]; exact hz), HPP.out])
              obtain ⟨a7, n7, x7, ⟨g0, g1, g2, g3, g4, g5, g6⟩, gf, -⟩ := h2.cells
              clear h1 h2 hz
              by_cases hfar : (m : Int) ≤ p
              · have HE : Hid (Wt.go (Wt.rmet xs m L) n pl (k + 1) ⟨s.nodes ++ [(j : Int)], s.sec, s.dat⟩ = none) := Wc.hid (by rw [HG1.out, rmet_far hfar])
                clear g0 g2 g3 g4 g5
                go_wp2_with fail
                go_end0
                exact rst_fail hlt HE.out (RB.out.setCell hB _) (RK.out.trans (wk_k47 HT.out _ _)) HT.out.fail
              · obtain ⟨r, rfl⟩ : ∃ r : Nat, p = r := ⟨p.toNat, by omega⟩
                have hrm : r < m := by omega
                by_cases hL0 : L = 0
                · have hLz : ((L : Int) == 0) = true := by simp [hL0]
                  have hQ : Q = pl * 8 := by
                    have h9 := HQQ.out
                    rw [hL0] at h9
                    omega
                  have hQk : Q + k < 512 := by
                    have h9 := HP.out
                    rw [hL0] at h9
                    omega
                  obtain ⟨-, hMd, hRow, hRl, -⟩ := HT.out.rows
                  have s0 := hRow.cell hQk
                  have s1 := hRow.frozen (Q + k)
                  have T1 := HT.out.sec (Q + k) (r : Int)
                  obtain ⟨a8, n8, x8, ⟨-, -, -, -, t4, -, -⟩, -, -⟩ := T1.cells
                  have s2 := (T1.rows.2.1).cell hrm
                  have s3 := (T1.rows.2.1).frozen r
                  have T2 := Wc.hid (T1.seen r)
                  have KT := Wc.hid ((K47.row hRow (by decide) (Q + k) (.int .i64 (r : Int))).trans (K47.row T1.rows.2.1 (by decide) r (.bool true)))
                  have BT := Wc.hid ((RB.out.setCell (p := ⟨gm, Q + k, none⟩) hgm (.int .i64 (r : Int))).setCell (p := ⟨gd, r, none⟩) hgd (.bool true))
                  have HE : Hid (Wt.go (Wt.rmet xs m L) n pl (k + 1) ⟨s.nodes ++ [(j : Int)], s.sec, s.dat⟩ = some ⟨t.nodes, t.sec.set (Q + k) r, t.dat ++ [(r : Int)]⟩) := Wc.hid (by
                    rw [HG1.out, hL0, hQ]
                    unfold Wt.rmet
                    rw [if_pos (by omega)])
                  clear hMd hRow hRl T1 g0 g2 g3 g6 hL0 hQ
                  go_wp2_with fail
                  go_roundw
                  case rel => exact ⟨k + 1, by go_num, by omega, Wc.hid (.inl ⟨_, HE.out, T2.out⟩), Wc.hid (KT.out _ _ _ RN.out), BT, Wc.hid (RK.out.trans KT.out)⟩
                  case measure => simp [intOf]; omega
                · obtain ⟨L', hLL⟩ : ∃ L', L = L' + 1 := ⟨L - 1, by omega⟩
                  have hLz : ((L : Int) == 0) = false := by simp; omega
                  have hS2 : S = 8 ∧ L = 1 ∨ S = 64 ∧ L = 2 := by
                    have h9 := HS.out
                    have : L = 1 ∨ L = 2 := by omega
                    rcases this with rfl | rfl
                    · left; omega
                    · right; omega
                  have HNO := Wc.hid (HREC.out L' hLL)
                  have HGL : Hid (Wt.go (Wt.rmet xs m L) n pl (k + 1) ⟨s.nodes ++ [(j : Int)], s.sec, s.dat⟩ = Wt.rmet xs m (L' + 1) r (pl * 8 + k) t) := Wc.hid (by rw [HG1.out, hLL])
                  have HLE : Hid ((pl * 8 + k + 1) * 8 ^ (L' + 1) ≤ 512) := Wc.hid (by
                    have h1 := HP.out
                    rw [Nat.pow_succ, hLL] at h1
                    have h2 : (pl * 8 + k + 1) * 8 ^ (L' + 1) ≤ (pl * 8 + 8) * 8 ^ (L' + 1) := Nat.mul_le_mul_right _ (by omega)
                    have h3 : (pl * 8 + 8) * 8 ^ (L' + 1) = (pl + 1) * (8 ^ (L' + 1) * 8) := by rw [show pl * 8 + 8 = (pl + 1) * 8 by omega, Nat.mul_assoc, Nat.mul_comm 8]
                    omega)
                  have HRR : Hid (t.nodes.length + Wt.room (L' + 1) ≤ 1000) := Wc.hid (by
                    have h1 := Wt.go_room (rmet_room xs m L) k _ _ HG.out
                    have h2 := HRO.out
                    rw [hLL] at h1 h2
                    rw [Wt.room] at h2
                    simp only [List.length_append, List.length_cons, List.length_nil] at h1
                    have h3 : k * Wt.room (L' + 1) ≤ 7 * Wt.room (L' + 1) := Nat.mul_le_mul_right _ (by omega)
                    omega)
                  have HLL := Wc.hid hLL
                  have HQ2 := HQQ
                  clear hL0 hLL
                  cases ho : Wt.rmet xs m (L' + 1) r (pl * 8 + k) t with
                  | none =>
                    have HO := Wc.hid ho
                    clear ho
                    have H3 : Hid (1 ≤ L) := Wc.hid (by have := HLL.out; omega)
                    rcases hS2 with ⟨rfl, hLv⟩ | ⟨rfl, hLv⟩
                    all_goals
                      have HLV := Wc.hid hLv
                      clear hLv
                      go_wp2_with fail
                      refine (HNO.out r _ _ (pl * 8 + k) t wr (by have := HLL.out; omega) (by
                        have h1 := HQ2.out
                        have h2 := HLL.out
                        have h3 := HLV.out
                        obtain rfl : L' = _ := Nat.succ.inj (h2.symm.trans h3)
                        rw [h3] at h1
                        omega) HLE.out HRR.out hp2 RB.out HT.out).mono ?_
                      rw [HO.out]
                      rintro e w6 ⟨rfl, hb6, hk6, -, hf6⟩
                      have HF6 := Wc.hid (hf6 rfl)
                      have HB6 := Wc.hid hb6
                      have HK6 := Wc.hid hk6
                      clear hf6 hb6 hk6
                      go_wp2_with fail
                      go_roundw
                      case rel => exact ⟨k + 1, by go_num, by omega, Wc.hid (.inr ⟨HGL.out.trans HO.out, HF6.out, H3.out⟩), Wc.hid (HK6.out _ _ _ RN.out), HB6, Wc.hid (RK.out.trans HK6.out)⟩
                      case measure => simp [intOf]; omega
                  | some u =>
                    have HO := Wc.hid ho
                    clear ho
                    rcases hS2 with ⟨rfl, hLv⟩ | ⟨rfl, hLv⟩
                    all_goals
                      have HLV := Wc.hid hLv
                      clear hLv
                      go_wp2_with fail
                      refine (HNO.out r _ _ (pl * 8 + k) t wr (by have := HLL.out; omega) (by
                        have h1 := HQ2.out
                        have h2 := HLL.out
                        have h3 := HLV.out
                        obtain rfl : L' = _ := Nat.succ.inj (h2.symm.trans h3)
                        rw [h3] at h1
                        omega) HLE.out HRR.out hp2 RB.out HT.out).mono ?_
                      rw [HO.out]
                      rintro e w6 ⟨rfl, hb6, hk6, hf6, -⟩
                      have HF6 := Wc.hid (hf6 u rfl)
                      have HB6 := Wc.hid hb6
                      have HK6 := Wc.hid hk6
                      clear hf6 hb6 hk6
                      go_wp2_with fail
                      go_roundw
                      case rel => exact ⟨k + 1, by go_num, by omega, Wc.hid (.inl ⟨u, HGL.out.trans HO.out, HF6.out⟩), Wc.hid (HK6.out _ _ _ RN.out), HB6, Wc.hid (RK.out.trans HK6.out)⟩
                      case measure => simp [intOf]; omega
            · have HG := Wc.hid h1
              have HT := Wc.hid h2
              have HE : Hid (Wt.go (Wt.rmet xs m L) n pl (k + 1) ⟨s.nodes ++ [(j : Int)], s.sec, s.dat⟩ = none) := Wc.hid (Wt.go_none h1 1)
              obtain ⟨vn, vs, vd, vm, h5⟩ := h2
              have g1 := h5.c1
              have g6 := h5.c6
              have gf := h5.fr
              clear h1 hz h5
              by_cases hfar : (m : Int) ≤ p
              · go_wp2_with fail
                go_end0
                exact rst_fail hlt HE.out (RB.out.setCell hB _) (RK.out.trans (wf_k47 HT.out _)) (wf_set HT.out)
              · have hL0 : ((L : Int) == 0) = false := by simp; omega
                have hS2 : S = 8 ∨ S = 64 := by
                  have h9 := HS.out
                  have : L = 1 ∨ L = 2 := by omega
                  rcases this with rfl | rfl
                  · left; omega
                  · right; omega
                have H3 := Wc.hid h3
                rcases hS2 with rfl | rfl
                all_goals
                  go_wp2_with fail
                  refine (node_failed (.slice ai ni ci) w0 wr B m gs gd gm nb _ _ _ hB RB.out HT.out).mono ?_
                  rintro e w6 ⟨rfl, hb6, hk6, -, hf6⟩
                  have HF6 := Wc.hid (hf6 rfl)
                  have HB6 := Wc.hid hb6
                  have HK6 := Wc.hid hk6
                  clear hf6 hb6 hk6
                  go_wp2_with fail
                  go_roundw
                  case rel => exact ⟨k + 1, by go_num, by omega, Wc.hid (.inr ⟨HE.out, HF6.out, H3.out⟩), Wc.hid (HK6.out _ _ _ RN.out), HB6, Wc.hid (RK.out.trans HK6.out)⟩
                  case measure => simp [intOf]; omega
        · obtain rfl : k = 8 := by omega
          go_wp2_with fail
          go_end0
          exact rst_end RS.out RB.out RK.out

end Go.Proofs.Ytafpjnofccfmlaa
namespace Go.Proofs.Ytafpjnofccfmlaa
open Go.RowKit

/-- A new row of marks. -/
def Mk (base m : Nat) (x : Value) (w : World) : Prop := ∃ g, x = .slice (some ⟨g, 0, none⟩) m m ∧ base ≤ g ∧ Marks w g m []
/-- A new row of sectors. -/
def Sk (base : Nat) (x : Value) (w : World) : Prop := ∃ g, x = .slice (some ⟨g, 0, none⟩) 512 512 ∧ base ≤ g ∧ w.rowIs g 3 512 (fun _ => .int .i64 0)

/-- What the j-th operation leaves in its slot. -/
def Fct (img : Value) (m base : Nat) (j : Nat) (x : Value) (w : World) : Prop :=
  match j with
  | 0 => x = img
  | 1 => x = .int .i64 m
  | 2 => x = .int .i64 m
  | 3 => Mk base m x w
  | 4 => x = .int .i64 m
  | 5 => Mk base m x w
  | 6 => Sk base x w
  | 7 => ∃ gs gd gm, x = .agg #[img, .int .i64 m, .slice none 0 0, .slice (some ⟨gs, 0, none⟩) m m, .slice (some ⟨gd, 0, none⟩) m m, .slice (some ⟨gm, 0, none⟩) 512 512, .bool true] ∧ base ≤ gs ∧ base ≤ gd ∧ base ≤ gm ∧ gs ≠ gd ∧ Marks w gs m [] ∧ Marks w gd m [] ∧ w.rowIs gm 3 512 (fun _ => .int .i64 0)
  | 8 => ∃ g, x = .pointer (some ⟨g, 0, none⟩) ∧ base ≤ g ∧ w.heap[g]? = some (.cells #[.slice none 0 0, .int .i64 0, .slice none 0 0, .slice none 0 0, .slice none 0 0, .slice none 0 0, .bool false] 78)
  | _ => True

theorem Marks.keep {w w' : World} {g m : Nat} {l : List Int} (h : Marks w g m l) (hb : Below w.heap.size w w') : Marks w' g m l := World.rowIs.of_block h (hb.block g (World.rowIs.lt h))

theorem Fct.keep {img : Value} {m base j : Nat} {x : Value} {w w' : World} (h : Fct img m base j x w) (hb : Below w.heap.size w w') : Fct img m base j x w' := by
  unfold Fct at *
  split <;> simp only at h
  all_goals first
    | exact h
    | (obtain ⟨g, h1, h2, h3⟩ := h; exact ⟨g, h1, h2, Marks.keep h3 hb⟩)
    | (obtain ⟨g, h1, h2, h3⟩ := h; exact ⟨g, h1, h2, row_keep h3 hb⟩)
    | (obtain ⟨gs, gd, gm, h1, h2, h3, h4, h5, h6, h7, h8⟩ := h; exact ⟨gs, gd, gm, h1, h2, h3, h4, h5, h6.keep hb, h7.keep hb, row_keep h8 hb⟩)
    | (obtain ⟨g, h1, h2, h3⟩ := h; exact ⟨g, h1, h2, (hb.block g (Array.getElem?_eq_some_iff.1 h3).1).trans h3⟩)

/-- The j-th operation's slot. -/
def slt (j : Nat) : Nat := if j = 8 then 9 else 16 + j
def slts : List Nat := [9, 16, 17, 18, 19, 20, 21, 22, 23]

/-- What is left in the end. -/
def Lft (img : Value) (m base : Nat) (x : Value) (w : World) : Prop :=
  ∃ B gs gd gm, x = .pointer (some ⟨B, 0, none⟩) ∧ base ≤ B ∧ base ≤ gs ∧ base ≤ gd ∧ base ≤ gm ∧ Wk w B img m gs gd gm w.heap.size [] [] (List.replicate 512 0) []

/-- The invariant. -/
def Iv (img : Value) (m : Nat) (w0 : World) (t : Array Value) (d : List Deferred) (listed : Array Bool) (a : Act) (w : World) : Prop :=
  ∃ u, a = { tmps := Wo.setAll slts u t, defers := d } ∧ Below w0.heap.size w0 w ∧ (listed.getD 9 false = true → (∀ j, j < 9 → listed.getD j false = true) ∧ Lft img m w0.heap.size (u 9) w) ∧
    (listed.getD 9 false = false → (∀ j, j < 9 → listed.getD j false = true → Fct img m w0.heap.size j (u (slt j)) w) ∧ (listed.getD 3 false = true → listed.getD 5 false = true → u 19 ≠ u 21))

theorem slt_mem : ∀ j, j < 9 → slt j ∈ slts ∧ slt j < 61 := by decide
theorem slt_inj : ∀ i, i < 9 → ∀ j, j < 9 → slt i = slt j → i = j := by decide

abbrev r2 : Array Oper :=
  #[{ dst := some 16, op := Op.move (Operand.tmp 0), type := 22, pos := "ref.go:59", after := #[], guard := none },
    { dst := some 17, op := Op.move (Operand.tmp 7), type := 3, pos := "ref.go:59", after := #[], guard := none },
    { dst := some 18, op := Op.move (Operand.tmp 7), type := 3, pos := "ref.go:59", after := #[], guard := none },
    { dst := some 19, op := Op.makeSlice 71 (Operand.tmp 18) (Operand.tmp 18), type := 71, pos := "ref.go:59", after := #[{ on := 2, ground := Ground.data }, { on := 2, ground := Ground.data }], guard := none },
    { dst := some 20, op := Op.move (Operand.tmp 7), type := 3, pos := "ref.go:59", after := #[], guard := none },
    { dst := some 21, op := Op.makeSlice 71 (Operand.tmp 20) (Operand.tmp 20), type := 71, pos := "ref.go:59", after := #[{ on := 4, ground := Ground.data }, { on := 4, ground := Ground.data }], guard := none },
    { dst := some 22, op := Op.makeSlice 23 (Operand.const (Value.int IntKind.i64 512)) (Operand.const (Value.int IntKind.i64 512)), type := 23, pos := "ref.go:59", after := #[], guard := none },
    { dst := some 23, op := Op.build 78 #[(0, Operand.tmp 16), (1, Operand.tmp 17), (3, Operand.tmp 19), (4, Operand.tmp 21), (5, Operand.tmp 22), (6, Operand.const (Value.bool true))], type := 78, pos := "ref.go:59", after := #[{ on := 0, ground := Ground.data }, { on := 1, ground := Ground.data }, { on := 3, ground := Ground.data }, { on := 5, ground := Ground.data }, { on := 6, ground := Ground.data }], guard := none },
    { dst := some 9, op := Op.alloc 78, type := 0, pos := "ref.go:59", after := #[], guard := none },
    { dst := none, op := Op.store 78 (Operand.tmp 9) (Operand.tmp 23), type := 0, pos := "ref.go:59", after := #[{ on := 8, ground := Ground.data }, { on := 7, ground := Ground.data }, { on := 0, ground := Ground.phase }, { on := 1, ground := Ground.phase }, { on := 2, ground := Ground.phase }, { on := 3, ground := Ground.phase }, { on := 4, ground := Ground.phase }, { on := 5, ground := Ground.phase }, { on := 6, ground := Ground.phase }, { on := 7, ground := Ground.phase }, { on := 8, ground := Ground.phase }], guard := none }]

/-- One of the first nine operations. -/
theorem r2_step {img : Value} {m : Nat} {w0 : World} {t : Array Value} {d : List Deferred} {Q : Exit → Act → World → Prop} (ht : t.size = 61) {listed : Array Bool} {w : World} {i : Nat} {o : Oper} {u : Nat → Value} {v : Value} {w' : World}
    (hi : i < 9) (hb : Below w0.heap.size w0 w) (h9 : listed.getD 9 false = false)
    (hF : (∀ j, j < 9 → listed.getD j false = true → Fct img m w0.heap.size j (u (slt j)) w) ∧ (listed.getD 3 false = true → listed.getD 5 false = true → u 19 ≠ u 21))
    (ho : r2[i]? = some o) (hg : o.guard = none) (hd : o.dst = some (slt i)) (hrun : (execOp (Act.eval { tmps := Wo.setAll slts u t, defers := d }) o).run Try.prog w = .ok (.value v) w') (hbw : Below w.heap.size w w') (hv : Fct img m w0.heap.size i v w')
    (hap : (i = 3 → listed.getD 5 false = true → v ≠ u 21) ∧ (i = 5 → listed.getD 3 false = true → u 19 ≠ v)) :
    wpOp Try.prog r2 Q i (Iv img m w0 t d (listed.setIfInBounds i true)) { tmps := Wo.setAll slts u t, defers := d } w := by
  refine Wo.wpOp_run ho hg hrun ?_
  have hsl := slt_mem i hi
  refine ⟨Wo.upd u (slt i) v, ?_, Wc.step hb (Nat.le_refl _) hbw, fun h => ?_, fun _ => ⟨fun j hj hlj => ?_, fun h3 h5 => ?_⟩⟩
  · rw [hd]
    simp only [Act.put]
    rw [Wo.setAll_put _ _ _ _ _ hsl.1 (by omega)]
  · have hne : ¬ i = 9 := by omega
    have : (listed.setIfInBounds i true).getD 9 false = listed.getD 9 false := by simp [Array.getD_eq_getD_getElem?, hne]
    rw [this, h9] at h
    cases h
  · by_cases hij : i = j
    · subst hij
      have : Wo.upd u (slt i) v (slt i) = v := by simp [Wo.upd]
      rw [this]; exact hv
    · have hne : ¬ slt j = slt i := fun e => hij (slt_inj j hj i hi e).symm
      have e1 : Wo.upd u (slt i) v (slt j) = u (slt j) := by simp [Wo.upd, hne]
      have e2 : (listed.setIfInBounds i true).getD j false = listed.getD j false := by simp [Array.getD_eq_getD_getElem?, hij]
      rw [e1]
      rw [e2] at hlj
      exact (hF.1 j hj hlj).keep hbw
  · have hget : ∀ j, ¬ i = j → (listed.setIfInBounds i true).getD j false = listed.getD j false := fun j hij => by simp [Array.getD_eq_getD_getElem?, hij]
    by_cases e3 : i = 3
    · have hs5 : ¬ 21 = slt i := by rw [e3]; decide
      have hs3 : 19 = slt i := by rw [e3]; rfl
      rw [hget 5 (by omega)] at h5
      simp only [Wo.upd, if_neg hs5, if_pos hs3]
      exact hap.1 e3 h5
    · by_cases e5 : i = 5
      · have hs5 : 21 = slt i := by rw [e5]; rfl
        have hs3 : ¬ 19 = slt i := by rw [e5]; decide
        rw [hget 3 (by omega)] at h3
        simp only [Wo.upd, if_neg hs3, if_pos hs5]
        exact hap.2 e5 h3
      · have hs5 : ¬ 21 = slt i := fun e => e5 (slt_inj 5 (by omega) i hi e).symm
        have hs3 : ¬ 19 = slt i := fun e => e3 (slt_inj 3 (by omega) i hi e).symm
        rw [hget 3 (by omega)] at h3
        rw [hget 5 (by omega)] at h5
        simp only [Wo.upd, if_neg hs3, if_neg hs5]
        exact hF.2 h3 h5

/-- Where nothing may come up, all has. -/
theorem all_listed (listed : Array Bool) (hs : listed.size = r2.size) (hr : Region.ready .any r2 listed = []) : ∀ i, i < 10 → listed.getD i false = true := by
  have hfw : ∀ i, i < 10 → ((r2[i]?).map (·.after.all fun e => decide (e.on < i))).getD false = true := by decide +kernel
  intro i
  induction i using Nat.strongRecOn with
  | ind i ih =>
    intro hi
    have hs10 : listed.size = 10 := hs
    cases h : listed.getD i false with
    | true => rfl
    | false =>
      exfalso
      have hl : listed.getD i true = false := by simpa [Array.getD_eq_getD_getElem?, show i < listed.size by omega] using h
      have hm : i ∈ Region.ready .any r2 listed := by
        unfold Region.ready
        rw [List.mem_filter]
        refine ⟨List.mem_range.2 hi, ?_⟩
        have h1 := hfw i hi
        cases ho : r2[i]? with
        | none => rw [ho] at h1; cases h1
        | some o =>
          rw [ho] at h1
          simp only [Option.map_some, Option.getD_some, Array.all_eq_true', decide_eq_true_eq] at h1
          simp only [hl, Bool.not_false, Bool.true_and, Option.map_some, Option.getD_some, Array.all_eq_true', Bool.or_eq_true]
          intro e he
          exact .inr (ih e.on (h1 e he) (by have := h1 e he; omega))
      rw [hr] at hm
      cases hm

theorem mk_new (w : World) (base m : Nat) (hb : base ≤ w.heap.size) : Mk base m (.slice (some ⟨w.heap.size, 0, none⟩) m m) (w.alloc (.cells (madeCells #[.bool false] m) 4)) := ⟨_, rfl, hb, Marks.new w m⟩
theorem mk_old {w : World} {base m : Nat} {x : Value} (h : Mk base m x w) : x ≠ .slice (some ⟨w.heap.size, 0, none⟩) m m := by
  obtain ⟨g, rfl, -, hg⟩ := h
  intro e
  have hlt := World.rowIs.lt hg
  injection e with e1
  injection e1 with e2
  injection e2 with e3
  omega

set_option maxRecDepth 100000 in
set_option maxHeartbeats 3200000 in
theorem region2 (img : Value) (ai : Option Addr) (ni ci : Nat) (himg : img = .slice ai ni ci) (m : Nat) (hm : m ≤ 1000000) (t : Array Value) (d : List Deferred) (w : World) {Q : Exit → Act → World → Prop} (ht : t.size = 61) (h0 : t.getD 0 undef = img) (h7 : t.getD 7 undef = .int .i64 m)
    (hQ : ∀ u w', Below w.heap.size w w' → Lft img m w.heap.size (u 9) w' → Q .normal { tmps := Wo.setAll slts u t, defers := d } w') :
    (Code.region 2 r2 true).wp Try.prog Q { tmps := t, defers := d } w := by
  subst himg
  obtain ⟨mc, hmk, hmc⟩ := made512
  have hmb := run_make_row' (P := Try.prog) 71 4 (.bool false) 1 Try.underlying71 Try.infoB rfl .i64 .i64 m (by omega) (by omega)
  refine wp_region_any (by kernel_rfl) ?_
  refine Wo.any_inv (Iv (.slice ai ni ci) m w t d) ?step ?fin 10 _ _ _ (by simp) ⟨fun j => t.getD j undef, by rw [Wo.setAll_self], (Below.refl _ _).drew, ?i1, ?i2⟩ (by simp)
  case i1 => intro h; simp [r2] at h
  case i2 =>
    intro _
    refine ⟨fun j hj h => ?_, fun h => ?_⟩
    · have hj2 : j < 10 := (by omega)
      simp [r2, Array.getD_eq_getD_getElem?, hj2] at h
    · simp [r2] at h
  case fin =>
    rintro listed a w1 hs ⟨u, rfl, hb, h9t, hF⟩ hr
    have hall := all_listed listed hs hr 9 (by omega)
    exact hQ u w1 hb (h9t hall).2
  case step =>
    rintro listed a w1 i hs ⟨u, rfl, hb, h9t, hF⟩ hi
    obtain ⟨hi10, hl, hdep⟩ := Wo.ready_spec hi
    have hs10 : listed.size = 10 := hs
    have hi10' : i < 10 := hi10
    have hli : listed.getD i false = false := by simpa [Array.getD_eq_getD_getElem?, show i < listed.size by omega] using hl
    have h9 : listed.getD 9 false = false := by
      cases h : listed.getD 9 false with
      | false => rfl
      | true =>
        by_cases h3 : i = 9
        · subst h3; rw [h] at hli; exact hli
        · have := (h9t h).1 i (by omega)
          rw [this] at hli; cases hli
    have hFF := hF h9
    clear hF h9t hi
    have ev : ∀ j, j < 9 → Act.eval { tmps := Wo.setAll slts u t, defers := d } (.tmp (slt j)) = u (slt j) := fun j hj => Wo.setAll_in _ _ _ _ (slt_mem j hj).1 (by have := (slt_mem j hj).2; omega) _
    have ev0 : Act.eval { tmps := Wo.setAll slts u t, defers := d } (.tmp 0) = .slice ai ni ci := (Wo.setAll_out _ _ _ _ (by decide) _).trans h0
    have ev7 : Act.eval { tmps := Wo.setAll slts u t, defers := d } (.tmp 7) = .int .i64 m := (Wo.setAll_out _ _ _ _ (by decide) _).trans h7
    have evc : ∀ c, Act.eval { tmps := Wo.setAll slts u t, defers := d } (.const c) = c := fun _ => rfl
    have hal : ∀ o, Below w1.heap.size w1 (w1.alloc o) := fun o => (Below.refl _ _).alloc (Nat.le_refl _) o
    rcases (by omega : i = 0 ∨ i = 1 ∨ i = 2 ∨ i = 3 ∨ i = 4 ∨ i = 5 ∨ i = 6 ∨ i = 7 ∨ i = 8 ∨ i = 9) with rfl | rfl | rfl | rfl | rfl | rfl | rfl | rfl | rfl | rfl
    · refine r2_step (v := .slice ai ni ci) (w' := w1) ht (by omega) hb h9 hFF rfl rfl rfl ?_ (Below.refl _ _) rfl (by constructor <;> intro h <;> omega)
      generalize Act.eval _ = ρ at *
      go_simp
    · refine r2_step (v := .int .i64 m) (w' := w1) ht (by omega) hb h9 hFF rfl rfl rfl ?_ (Below.refl _ _) rfl (by constructor <;> intro h <;> omega)
      generalize Act.eval _ = ρ at *
      go_simp
    · refine r2_step (v := .int .i64 m) (w' := w1) ht (by omega) hb h9 hFF rfl rfl rfl ?_ (Below.refl _ _) rfl (by constructor <;> intro h <;> omega)
      generalize Act.eval _ = ρ at *
      go_simp
    · have f1 := hFF.1 2 (by omega) (hdep _ rfl ⟨2, .data⟩ (by simp) rfl)
      simp only [Fct] at f1
      have e1 : Act.eval { tmps := Wo.setAll slts u t, defers := d } (.tmp 18) = .int .i64 m := (ev 2 (by omega)).trans f1
      refine r2_step (v := .slice (some ⟨w1.heap.size, 0, none⟩) m m) (w' := w1.alloc (.cells (madeCells #[.bool false] m) 4)) ht (by omega) hb h9 hFF rfl rfl rfl ?_ (hal _) (mk_new w1 _ m hb.size) ⟨fun _ h5 => ?_, fun h => by omega⟩
      · clear hFF
        generalize Act.eval _ = ρ at *
        go_simp
      · have f5 := hFF.1 5 (by omega) h5
        exact fun e => mk_old f5 e.symm
    · refine r2_step (v := .int .i64 m) (w' := w1) ht (by omega) hb h9 hFF rfl rfl rfl ?_ (Below.refl _ _) rfl (by constructor <;> intro h <;> omega)
      generalize Act.eval _ = ρ at *
      go_simp
    · have f1 := hFF.1 4 (by omega) (hdep _ rfl ⟨4, .data⟩ (by simp) rfl)
      simp only [Fct] at f1
      have e1 : Act.eval { tmps := Wo.setAll slts u t, defers := d } (.tmp 20) = .int .i64 m := (ev 4 (by omega)).trans f1
      refine r2_step (v := .slice (some ⟨w1.heap.size, 0, none⟩) m m) (w' := w1.alloc (.cells (madeCells #[.bool false] m) 4)) ht (by omega) hb h9 hFF rfl rfl rfl ?_ (hal _) (mk_new w1 _ m hb.size) ⟨fun h => by omega, fun _ h3 => ?_⟩
      · clear hFF
        generalize Act.eval _ = ρ at *
        go_simp
      · have f3 := hFF.1 3 (by omega) h3
        exact mk_old f3
    · refine r2_step (v := .slice (some ⟨w1.heap.size, 0, none⟩) 512 512) (w' := w1.alloc (.cells mc 3)) ht (by omega) hb h9 hFF rfl rfl rfl ?_ (hal _) ⟨_, rfl, hb.size, hmc w1⟩ (by constructor <;> intro h <;> omega)
      generalize Act.eval _ = ρ at *
      go_simp
    · have l3 := hdep _ rfl ⟨3, .data⟩ (by simp) rfl
      have l5 := hdep _ rfl ⟨5, .data⟩ (by simp) rfl
      have f0 := hFF.1 0 (by omega) (hdep _ rfl ⟨0, .data⟩ (by simp) rfl)
      have f1 := hFF.1 1 (by omega) (hdep _ rfl ⟨1, .data⟩ (by simp) rfl)
      have f3 := hFF.1 3 (by omega) l3
      have f5 := hFF.1 5 (by omega) l5
      have f6 := hFF.1 6 (by omega) (hdep _ rfl ⟨6, .data⟩ (by simp) rfl)
      have hne := hFF.2 l3 l5
      simp only [Fct] at f0 f1 f3 f5 f6
      obtain ⟨gs, hx3, hg3, hM3⟩ := f3
      obtain ⟨gd, hx5, hg5, hM5⟩ := f5
      obtain ⟨gm, hx6, hg6, hR6⟩ := f6
      have hsd : gs ≠ gd := by
        intro e
        apply hne
        have h3 : u 19 = .slice (some ⟨gs, 0, none⟩) m m := hx3
        have h5 : u 21 = .slice (some ⟨gd, 0, none⟩) m m := hx5
        rw [h3, h5, e]
      have e0 : Act.eval { tmps := Wo.setAll slts u t, defers := d } (.tmp 16) = .slice ai ni ci := (ev 0 (by omega)).trans f0
      have e1 : Act.eval { tmps := Wo.setAll slts u t, defers := d } (.tmp 17) = .int .i64 m := (ev 1 (by omega)).trans f1
      have e3 : Act.eval { tmps := Wo.setAll slts u t, defers := d } (.tmp 19) = .slice (some ⟨gs, 0, none⟩) m m := (ev 3 (by omega)).trans hx3
      have e5 : Act.eval { tmps := Wo.setAll slts u t, defers := d } (.tmp 21) = .slice (some ⟨gd, 0, none⟩) m m := (ev 5 (by omega)).trans hx5
      have e6 : Act.eval { tmps := Wo.setAll slts u t, defers := d } (.tmp 22) = .slice (some ⟨gm, 0, none⟩) 512 512 := (ev 6 (by omega)).trans hx6
      refine r2_step (v := .agg #[.slice ai ni ci, .int .i64 m, .slice none 0 0, .slice (some ⟨gs, 0, none⟩) m m, .slice (some ⟨gd, 0, none⟩) m m, .slice (some ⟨gm, 0, none⟩) 512 512, .bool true]) (w' := w1) ht (by omega) hb h9 hFF rfl rfl rfl ?_ (Below.refl _ _) ⟨gs, gd, gm, rfl, hg3, hg5, hg6, hsd, hM3, hM5, hR6⟩ (by constructor <;> intro h <;> omega)
      clear hFF hne
      generalize Act.eval _ = ρ at *
      go_simp
    · refine r2_step (v := .pointer (some ⟨w1.heap.size, 0, none⟩)) (w' := w1.alloc (.cells #[.slice none 0 0, .int .i64 0, .slice none 0 0, .slice none 0 0, .slice none 0 0, .slice none 0 0, .bool false] 78)) ht (by omega) hb h9 hFF rfl rfl rfl ?_ (hal _) ⟨w1.heap.size, rfl, hb.size, by show (w1.heap.push _)[_]? = _; simp⟩ (by constructor <;> intro h <;> omega)
      generalize Act.eval _ = ρ at *
      go_simp
    · have f7 := hFF.1 7 (by omega) (hdep _ rfl ⟨7, .data⟩ (by simp) rfl)
      have f8 := hFF.1 8 (by omega) (hdep _ rfl ⟨8, .data⟩ (by simp) rfl)
      have hph : ∀ j, j < 9 → listed.getD j false = true := fun j hj => hdep _ rfl ⟨j, .phase⟩ (by simp; omega) rfl
      simp only [Fct] at f7 f8
      obtain ⟨gs, gd, gm, hx, hg3, hg5, hg6, hsd, hM3, hM5, hR6⟩ := f7
      obtain ⟨g, hx2, hbg, hgh⟩ := f8
      have e7 : Act.eval { tmps := Wo.setAll slts u t, defers := d } (.tmp 23) = _ := (ev 7 (by omega)).trans hx
      have e8 : Act.eval { tmps := Wo.setAll slts u t, defers := d } (.tmp 9) = _ := (ev 8 (by omega)).trans hx2
      have q0 : w1.cell? ⟨g, 0, none⟩ = some (.slice none 0 0) := by simp [World.cell?, hgh]
      have q1 : w1.cell? ⟨g, 1, none⟩ = some (.int .i64 0) := by simp [World.cell?, hgh]
      have q2 : w1.cell? ⟨g, 2, none⟩ = some (.slice none 0 0) := by simp [World.cell?, hgh]
      have q3 : w1.cell? ⟨g, 3, none⟩ = some (.slice none 0 0) := by simp [World.cell?, hgh]
      have q4 : w1.cell? ⟨g, 4, none⟩ = some (.slice none 0 0) := by simp [World.cell?, hgh]
      have q5 : w1.cell? ⟨g, 5, none⟩ = some (.slice none 0 0) := by simp [World.cell?, hgh]
      have q6 : w1.cell? ⟨g, 6, none⟩ = some (.bool false) := by simp [World.cell?, hgh]
      have pf : ∀ i, w1.frozen? ⟨g, i, none⟩ = false := fun i => by simp [World.frozen?, hgh]
      refine Wo.wpOp_skip (w' := ((((((w1.setCell ⟨g, 0, none⟩ (.slice ai ni ci)).setCell ⟨g, 1, none⟩ (.int .i64 m)).setCell ⟨g, 2, none⟩ (.slice none 0 0)).setCell ⟨g, 3, none⟩ (.slice (some ⟨gs, 0, none⟩) m m)).setCell ⟨g, 4, none⟩ (.slice (some ⟨gd, 0, none⟩) m m)).setCell ⟨g, 5, none⟩ (.slice (some ⟨gm, 0, none⟩) 512 512)).setCell ⟨g, 6, none⟩ (.bool true)) rfl rfl rfl ?_ ?_
      · clear hFF hx hx2
        generalize Act.eval _ = ρ at *
        go_simp
      · clear hFF
        have n3 : gs ≠ g := fun e => by
          obtain ⟨c, hc, -⟩ := hM3
          rw [e, hgh] at hc; cases hc
        have n5 : gd ≠ g := fun e => by
          obtain ⟨c, hc, -⟩ := hM5
          rw [e, hgh] at hc; cases hc
        have n6 : gm ≠ g := fun e => by
          obtain ⟨c, hc, -⟩ := hR6
          rw [e, hgh] at hc; cases hc
        have ob : ∀ b, b ≠ g → (((((((w1.setCell ⟨g, 0, none⟩ (.slice ai ni ci)).setCell ⟨g, 1, none⟩ (.int .i64 m)).setCell ⟨g, 2, none⟩ (.slice none 0 0)).setCell ⟨g, 3, none⟩ (.slice (some ⟨gs, 0, none⟩) m m)).setCell ⟨g, 4, none⟩ (.slice (some ⟨gd, 0, none⟩) m m)).setCell ⟨g, 5, none⟩ (.slice (some ⟨gm, 0, none⟩) 512 512)).setCell ⟨g, 6, none⟩ (.bool true)).heap[b]? = w1.heap[b]? := fun b hne => by
          rw [heap_setCell_other _ _ _ _ hne, heap_setCell_other _ _ _ _ hne, heap_setCell_other _ _ _ _ hne, heap_setCell_other _ _ _ _ hne, heap_setCell_other _ _ _ _ hne, heap_setCell_other _ _ _ _ hne, heap_setCell_other _ _ _ _ hne]
        refine ⟨u, rfl, ?_, fun _ => ⟨fun j hj => ?_, g, gs, gd, gm, hx2, hbg, hg3, hg5, hg6, none, 0, 0, ?_, Wv.Ov.nil _ _ _, hM3.of_block (ob gs n3), hM5.of_block (ob gd n5), (hR6.of_block (ob gm n6)).congr (fun j _ => by rw [zeros_getD]), List.length_replicate, ?_, ?_, ?_, ?_, hsd, Nat.le_refl _⟩, fun h => ?_⟩
        · exact ((((((hb.setCell (p := ⟨g, 0, none⟩) hbg _).setCell (p := ⟨g, 1, none⟩) hbg _).setCell (p := ⟨g, 2, none⟩) hbg _).setCell (p := ⟨g, 3, none⟩) hbg _).setCell (p := ⟨g, 4, none⟩) hbg _).setCell (p := ⟨g, 5, none⟩) hbg _).setCell (p := ⟨g, 6, none⟩) hbg _
        · have hne : ¬ 9 = j := by omega
          have e2 : (listed.setIfInBounds 9 true).getD j false = listed.getD j false := by simp [Array.getD_eq_getD_getElem?, hne]
          rw [e2]; exact hph j hj
        · unfold Wh
          simp [World.setCell, Array.getElem?_modify, hgh]
        · have := (Array.getElem?_eq_some_iff.1 hgh).1
          simpa [World.setCell] using this
        · have := World.rowIs.lt hM3
          simpa [World.setCell] using this
        · have := World.rowIs.lt hM5
          simpa [World.setCell] using this
        · have := hR6.lt
          simpa [World.setCell] using this
        · have : (listed.setIfInBounds 9 true).getD 9 false = true := by simp [Array.getD_eq_getD_getElem?, hs10]
          rw [this] at h; cases h

end Go.Proofs.Ytafpjnofccfmlaa
namespace Go.Proofs.Ytafpjnofccfmlaa
open Go.RowKit

theorem node_all (xs : List Int) (ai : Option Addr) (ni ci : Nat) (w0 : World) (B m gs gd gm nb : Nat) (hv : Wc.Bs w0 (.slice ai ni ci) xs) (hd : Wd.devB xs.length = true) (hmx : xs.length / 64 = m)
   (hB : w0.heap.size ≤ B) (hgs : w0.heap.size ≤ gs) (hgd : w0.heap.size ≤ gd) (hgm : w0.heap.size ≤ gm) (hm : m ≤ 4096) : ∀ L, L ≤ 2 → NodeOk xs (.slice ai ni ci) w0 B m gs gd gm nb L := by
  intro L
  induction L with
  | zero =>
    intro hL p l q pl s w hl hq hpl hr h2 hb hW
    by_cases hf : (m : Int) ≤ p
    · rw [rmet_far hf]
      exact node_far _ w0 w B m gs gd gm nb p l q s hB hm hb hW (by omega)
    · obtain ⟨j, rfl⟩ : ∃ j : Nat, p = j := ⟨p.toNat, by omega⟩
      have hj : j < m := by omega
      unfold Wt.rmet
      by_cases hs : (j : Int) ∈ s.nodes
      · rw [if_neg (fun h => h.2.1 hs)]
        exact node_seen _ w0 w B m gs gd gm nb j l q s hB hm hb hW (by omega) hj hs
      · cases ho : Wt.okN xs (j : Int) 0
        · rw [if_neg (fun h => by cases h.2.2)]
          exact node_bad xs ai ni ci w0 w B m gs gd gm nb j 0 l q s hv hd hmx hl hB hm hb hW (by omega) hj hs ho
        · rw [if_pos ⟨by omega, hs, rfl⟩]
          exact node_yes xs ai ni ci w0 w B m gs gd gm nb j 0 pl l q s hv hd hmx hl hL hq hpl hr hB hgs hgd hgm hm hb (fun L' h => by omega) hW (by omega) hj hs ho
  | succ L ih =>
    intro hL p l q pl s w hl hq hpl hr h2 hb hW
    by_cases hf : (m : Int) ≤ p
    · rw [rmet_far hf]
      exact node_far _ w0 w B m gs gd gm nb p l q s hB hm hb hW (by omega)
    · obtain ⟨j, rfl⟩ : ∃ j : Nat, p = j := ⟨p.toNat, by omega⟩
      have hj : j < m := by omega
      unfold Wt.rmet
      by_cases hs : (j : Int) ∈ s.nodes
      · rw [if_neg (fun h => h.2.1 hs)]
        exact node_seen _ w0 w B m gs gd gm nb j l q s hB hm hb hW (by omega) hj hs
      · cases ho : Wt.okN xs (j : Int) (L + 1)
        · rw [if_neg (fun h => by cases h.2.2)]
          exact node_bad xs ai ni ci w0 w B m gs gd gm nb j (L + 1) l q s hv hd hmx hl hB hm hb hW (by omega) hj hs ho
        · rw [if_pos ⟨by omega, hs, rfl⟩]
          exact node_yes xs ai ni ci w0 w B m gs gd gm nb j (L + 1) pl l q s hv hd hmx hl hL hq hpl hr hB hgs hgd hgm hm hb (fun L' h => by
            obtain rfl : L = L' := by omega
            exact ih (by omega)) hW (by omega) hj hs ho

theorem Wk.okT {w : World} {B m gs gd gm nb : Nat} {img : Value} {ns ms sc dt : List Int} (h : Wk w B img m gs gd gm nb ns ms sc dt) : Wk (w.setCell ⟨B, 6, none⟩ (.bool true)) B img m gs gd gm nb ns ms sc dt := by
  obtain ⟨a, n, c, h1, h2, h3, h4, h5, h6, h7, h8, h9, h10, h11, h12⟩ := h
  exact ⟨a, n, c, h1.fail true, ⟨ownsRow_setCell_below h2.1 (a := ⟨B, 6, none⟩) h7 _, h2.2⟩, World.rowIs.setOther h3 (a := ⟨B, 6, none⟩) (fun e => wh_ne h1 h3 (by decide) e.symm) _, World.rowIs.setOther h4 (a := ⟨B, 6, none⟩) (fun e => wh_ne h1 h4 (by decide) e.symm) _, h5.setOther (a := ⟨B, 6, none⟩) (fun e => wh_ne h1 h5 (by decide) e.symm) _, h6, h7, h8, h9, h10, h11, by simpa using h12⟩

/-- What the page's Tree tells. -/
def TreePost (xs : List Int) (root : Int) (w : World) : Ending → World → Prop := fun e w' =>
  ∃ a n c a' n' c', e = .returned (.tuple #[.slice a n c, .slice a' n' c', .bool (Wt.tre xs root).isSome]) ∧ Wd.In w' (.slice a n c) (Wt.treS xs root) ∧ Wd.In w' (.slice a' n' c') (Wt.treN xs root) ∧ Below w.heap.size w w'

theorem tree_nil {xs : List Int} {root : Int} {w w' : World} (hd : Wd.devB xs.length = true) (h : Wt.rtre xs root = none) (hb : Below w.heap.size w w') : TreePost xs root w (.returned (.tuple #[.slice none 0 0, .slice none 0 0, .bool false])) w' := by
  have ht : Wt.tre xs root = none := (Wt.tre_rtre xs root).trans h
  have h3 := Wt.tre_none hd ht
  refine ⟨none, 0, 0, none, 0, 0, by rw [ht]; rfl, ?_, ?_, hb⟩
  · rw [h3.2.2]; exact Wv.Rv.nil _
  · rw [h3.2.1]; exact Wv.Rv.nil _

theorem tree_yes {xs : List Int} {root : Int} {w wr w' : World} {B m gs gd gm nb : Nat} {img : Value} {t : Wt.St} {a : Option Addr} {n c : Nat} (hd : Wd.devB xs.length = true) (h : Wt.rtre xs root = some t) (hWr : Wk wr B img m gs gd gm nb t.nodes t.nodes t.sec t.dat) (hcr : wr.cell? ⟨B, 2, none⟩ = some (.slice a n c)) (hbr : Below wr.heap.size wr w') (hb : Below w.heap.size w w') :
    TreePost xs root w (.returned (.tuple #[.slice (some ⟨gm, 0, none⟩) 512 512, .slice a n c, .bool true])) w' := by
  have ht : Wt.tre xs root = some t := (Wt.tre_rtre xs root).trans h
  have h3 := Wt.tre_some hd ht
  have hlt : B < wr.heap.size := Nat.lt_of_lt_of_le hWr.rows.2.2.2.2.1 hWr.rows.2.2.2.2.2.1
  have hW := hWr.keep hbr
  have hc : w'.cell? ⟨B, 2, none⟩ = some (.slice a n c) := (hbr.cell (p := ⟨B, 2, none⟩) hlt).trans hcr
  obtain ⟨a', n', c', ⟨-, -, c2, -⟩, -, hO⟩ := hW.cells
  rw [hc] at c2
  cases c2
  refine ⟨_, 512, 512, a, n, c, by rw [ht]; rfl, ?_, ?_, hb⟩
  · rw [h3.2.2]; exact rv_row hW.rows.2.2.1 hW.rows.2.2.2.1 (by omega)
  · rw [h3.2.1]; exact hO.rv

/-- The state of the last loop. -/
def Lst (xs : List Int) (root : Int) (img : Value) (B m gs gd gm nb k : Nat) (wr : World) : Prop :=
  (∃ t, 2 ≤ root ∧ Wt.rmet xs m 3 root 0 Wt.s0 = some t ∧ Wk wr B img m gs gd gm nb t.nodes t.nodes t.sec t.dat ∧ ∀ j, j < k → ¬ (j : Int) ∈ t.nodes ∨ ¬ (j : Int) ∈ t.dat) ∨ (Wt.rtre xs root = none ∧ Wf wr B img m)

theorem rtre_yes {xs : List Int} {root : Int} {m : Nat} (hm : xs.length / 64 = m) (h2 : 2 ≤ root) {t : Wt.St} (h : Wt.rmet xs m 3 root 0 Wt.s0 = some t) (hs : ∀ j, j < m → ¬ (j : Int) ∈ t.nodes ∨ ¬ (j : Int) ∈ t.dat) : Wt.rtre xs root = some t := by
  have h' : Wt.sepB t.nodes t.dat m = true := by
    simp only [Wt.sepB, List.all_eq_true, List.mem_range, Bool.or_eq_true, Bool.not_eq_true', decide_eq_false_iff_not]
    exact hs
  unfold Wt.rtre
  rw [if_neg (by omega), if_pos h2, hm, h]
  show (if Wt.sepB t.nodes t.dat m = true then some t else none) = some t
  rw [if_pos h']
theorem rtre_no {xs : List Int} {root : Int} {m : Nat} (hm : xs.length / 64 = m) (h0 : ¬ root = 0) (h : Wt.rmet xs m 3 root 0 Wt.s0 = none) : Wt.rtre xs root = none := by
  unfold Wt.rtre
  rw [if_neg h0, hm, h]
  by_cases h2 : 2 ≤ root
  · rw [if_pos h2]
  · rw [if_neg h2]
theorem rtre_two {xs : List Int} {root : Int} {m k : Nat} (hm : xs.length / 64 = m) (h2 : 2 ≤ root) {t : Wt.St} (h : Wt.rmet xs m 3 root 0 Wt.s0 = some t) (hk : k < m) (h1 : (k : Int) ∈ t.nodes) (h3 : (k : Int) ∈ t.dat) : Wt.rtre xs root = none := by
  have h' : ¬ Wt.sepB t.nodes t.dat m = true := by
    intro hs
    simp only [Wt.sepB, List.all_eq_true, List.mem_range, Bool.or_eq_true, Bool.not_eq_true', decide_eq_false_iff_not] at hs
    rcases hs k hk with h | h
    · exact h h1
    · exact h h3
  unfold Wt.rtre
  rw [if_neg (by omega), if_pos h2, hm, h]
  show (if Wt.sepB t.nodes t.dat m = true then some t else none) = none
  rw [if_neg h']

theorem rtre_low {xs : List Int} {root : Int} (h0 : ¬ root = 0) (h : ¬ 2 ≤ root) : Wt.rtre xs root = none := by
  unfold Wt.rtre
  rw [if_neg h0, if_neg h]

set_option maxRecDepth 100000 in
set_option maxHeartbeats 3200000 in
theorem refTree_zero (ai : Option Addr) (ni ci : Nat) (xs : List Int) (w : World) (hv : Wc.Bs w (.slice ai ni ci) xs) (hd : Wd.devB xs.length = true) :
    Calls Try.prog 15 #[.slice ai ni ci, .int .i64 0] w (TreePost xs 0 w) := by
  have hni : ni ≤ 140737488355328 := by obtain ⟨_, _, _, h1, _, _, _, h5, _⟩ := hv; cases h1; exact h5
  have hl := Wc.bs_len hv
  have hdv := Wd.devB_iff.1 hd
  rw [hl] at hdv
  have hm : ni / 64 ≤ 1000000 := by omega
  have HD := Wc.hid hd
  clear hv hl hd hdv
  go_enter Try.func15, Try.ntmps15
  go_wp2_with fail
  refine (blocks_any _ _ _ _ hni).mono ?_
  rintro e w1 ⟨rfl, rfl⟩
  generalize ni / 64 = m at *
  generalize Wd.devB ni = db at *
  go_wp2_with fail
  refine region2 _ ai ni ci rfl m hm _ _ _ rfl rfl rfl ?_
  intro u W hb hleft
  obtain ⟨B, gs, gd, gm, hu, -, -, -, -, hW⟩ := hleft
  simp only [Wo.setAll, slts, List.foldl_cons, List.foldl_nil, List.setIfInBounds_toArray, List.set_cons_zero, List.set_cons_succ]
  rw [hu]
  obtain ⟨a, n, c, ⟨c0, c1, c2, c3, c4, c5, c6⟩, cf, -⟩ := hW.cells
  have HB := Wc.hid hb
  have HW := Wc.hid hW
  clear hb hW c0 c1 c2 c3 c4 c6
  go_wp2_with fail
  go_ret3
  have ht : Wt.tre xs 0 = some Wt.s0 := by unfold Wt.tre; rw [if_pos rfl]
  have h3 := Wt.tre_some HD.out ht
  refine ⟨_, _, _, none, 0, 0, by rw [ht]; rfl, ?_, ?_, HB.out⟩
  · rw [h3.2.2]; exact rv_row HW.out.rows.2.2.1 HW.out.rows.2.2.2.1 (by omega)
  · rw [h3.2.1]; exact Wv.Rv.nil _

set_option maxRecDepth 100000 in
set_option maxHeartbeats 3200000 in
theorem refTree_more (ai : Option Addr) (ni ci : Nat) (xs : List Int) (root : Int) (w : World) (hv : Wc.Bs w (.slice ai ni ci) xs) (hd : Wd.devB xs.length = true) (h0 : ¬ root = 0) :
    Calls Try.prog 15 #[.slice ai ni ci, .int .i64 root] w (TreePost xs root w) := by
  have hni : ni ≤ 140737488355328 := by obtain ⟨_, _, _, h1, _, _, _, h5, _⟩ := hv; cases h1; exact h5
  have hl := Wc.bs_len hv
  have hdv := Wd.devB_iff.1 hd
  rw [hl] at hdv
  have hmx : xs.length / 64 = ni / 64 := by rw [hl]
  have hm6 : ni / 64 ≤ 4096 := by omega
  have HD := Wc.hid hd
  have HV := Wc.hid hv
  have hr0 : (root == 0) = false := by simpa using h0
  have H0 := Wc.hid h0
  have HMX := Wc.hid hmx
  clear hv hl hd hdv h0 hmx
  go_enter Try.func15, Try.ntmps15
  go_wp2_with fail
  refine (blocks_any _ _ _ _ hni).mono ?_
  rintro e w1 ⟨rfl, rfl⟩
  generalize ni / 64 = m at *
  generalize Wd.devB ni = db at *
  go_wp2_with fail
  refine region2 _ ai ni ci rfl m (by omega) _ _ _ rfl rfl rfl ?_
  intro u W hb hleft
  obtain ⟨B, gs, gd, gm, hu, hB, hgs, hgd, hgm, hW⟩ := hleft
  simp only [Wo.setAll, slts, List.foldl_cons, List.foldl_nil, List.setIfInBounds_toArray, List.set_cons_zero, List.set_cons_succ]
  rw [hu]
  obtain ⟨nb, hnb⟩ : ∃ nb, W.heap.size = nb := ⟨_, rfl⟩
  rw [hnb] at hW
  have HB := Wc.hid hb
  have HW := Wc.hid hW
  clear hb hW hu
  go_wp2_with fail
  have hcall : Calls Try.prog 36 #[.pointer (some ⟨B, 0, none⟩), .int .i64 root, .int .i64 2, .int .i64 0] W fun e w' => e = .returned (.tuple #[]) ∧ Below w.heap.size w w' ∧ Lst xs root (.slice ai ni ci) B m gs gd gm nb 0 w' := by
    by_cases h2 : 2 ≤ root
    · refine ((node_all xs ai ni ci w B m gs gd gm nb HV.out HD.out HMX.out hB hgs hgd hgm hm6 2 (by omega)) root 2 0 0 Wt.s0 W rfl (by simp) (by omega) (by show 0 + Wt.room 3 ≤ 1000; decide) h2 HB.out HW.out).mono ?_
      rintro e w' ⟨rfl, hb', -, h1, h3⟩
      refine ⟨rfl, hb', ?_⟩
      cases ho : Wt.rmet xs m 3 root 0 Wt.s0 with
      | none => exact .inr ⟨rtre_no HMX.out H0.out ho, h3 ho⟩
      | some t => exact .inl ⟨t, h2, ho, h1 t ho, fun j hj => by omega⟩
    · refine (node_far (.slice ai ni ci) w W B m gs gd gm nb root 2 0 Wt.s0 hB hm6 HB.out HW.out (by omega)).mono ?_
      rintro e w' ⟨rfl, hb', -, -, h3⟩
      exact ⟨rfl, hb', .inr ⟨rtre_low H0.out h2, h3 rfl⟩⟩
  refine hcall.mono ?_
  rintro e w2 ⟨rfl, hb2, hL2⟩
  have HB2 := Wc.hid hb2
  have HL2 := Wc.hid hL2
  have HBB := Wc.hid hB
  clear hb2 hL2 HW HB hcall hB hgs hgd hgm
  go_wp2_with fail
  go_loopw [10] (fun i wr => ∃ k : Nat, i = .int .i64 k ∧ k ≤ m ∧ Hid (Lst xs root (.slice ai ni ci) B m gs gd gm nb k wr) ∧ Hid (Below w.heap.size w wr)) (fun i _ => m - (intOf i).toNat)
  case atStart => exact ⟨0, rfl, by omega, HL2, HB2⟩
  case round =>
    obtain ⟨k, rfl, hk, RL, RB⟩ := hrel
    rcases RL.out with ⟨t, h2, hr, hW, hs⟩ | ⟨hn, hF⟩
    · have H2 := Wc.hid h2
      have HR := Wc.hid hr
      have HW := Wc.hid hW
      have HS := Wc.hid hs
      obtain ⟨a, n, c, ⟨c0, c1, c2, c3, c4, c5, c6⟩, cf, -⟩ := hW.cells
      obtain ⟨hMs, hMd, -⟩ := hW.rows
      clear h2 hr hW hs c0 c1 RL
      by_cases hlt : k < m
      · have k3 := hMs.cell hlt
        have k4 := hMd.cell hlt
        clear hMs hMd c2 c5
        by_cases hm1 : (k : Int) ∈ t.nodes
        · rw [decide_eq_true hm1] at k3
          by_cases hm2 : (k : Int) ∈ t.dat
          · rw [decide_eq_true hm2] at k4
            have HN := Wc.hid (rtre_two HMX.out H2.out HR.out hlt hm1 hm2)
            clear hm1 hm2
            go_wp2_with fail
            go_roundw
            case rel => exact ⟨k + 1, by go_num, by omega, Wc.hid (.inr ⟨HN.out, HW.out.fail⟩), Wc.hid (RB.out.setCell HBB.out _)⟩
            case measure => simp [intOf]; omega
          · rw [decide_eq_false hm2] at k4
            have HM := Wc.hid hm2
            clear hm1 hm2
            go_wp2_with fail
            go_roundw
            case rel => exact ⟨k + 1, by go_num, by omega, Wc.hid (.inl ⟨t, H2.out, HR.out, HW.out.okT, fun j hj => by
              by_cases e : j = k
              · subst e; exact .inr HM.out
              · exact HS.out j (by omega)⟩), Wc.hid (RB.out.setCell HBB.out _)⟩
            case measure => simp [intOf]; omega
        · rw [decide_eq_false hm1] at k3
          have HM := Wc.hid hm1
          clear hm1
          go_wp2_with fail
          go_roundw
          case rel => exact ⟨k + 1, by go_num, by omega, Wc.hid (.inl ⟨t, H2.out, HR.out, HW.out.okT, fun j hj => by
            by_cases e : j = k
            · subst e; exact .inl HM.out
            · exact HS.out j (by omega)⟩), Wc.hid (RB.out.setCell HBB.out _)⟩
          case measure => simp [intOf]; omega
      · obtain rfl : k = m := by omega
        clear hMs hMd c3 c4
        have HC := Wc.hid c2
        go_wp2_with fail
        go_quiet (fail)
        go_wp2
        go_ret3
        exact tree_yes HD.out (rtre_yes HMX.out H2.out HR.out HS.out) HW.out HC.out (below_drewN (Below.refl _ _) _) (below_drewN RB.out _)
    · have HN := Wc.hid hn
      obtain ⟨vn, vs, vd, vm, h5⟩ := hF
      have g6 := h5.c6
      clear hn h5
      by_cases hlt : k < m
      · go_wp2_with fail
        go_ret3
        exact tree_nil HD.out HN.out RB.out
      · obtain rfl : k = m := by omega
        go_wp2_with fail
        go_ret3
        exact tree_nil HD.out HN.out RB.out

theorem refTree_any (v : Value) (xs : List Int) (root : Int) (w : World) (hv : Wc.Bs w v xs) (hd : Wd.devB xs.length = true) : Calls Try.prog 15 #[v, .int .i64 root] w (TreePost xs root w) := by
  obtain ⟨ai, ni, ci, rfl, -⟩ := id hv
  by_cases h0 : root = 0
  · subst h0; exact refTree_zero ai ni ci xs w hv hd
  · exact refTree_more ai ni ci xs root w hv hd h0

end Go.Proofs.Ytafpjnofccfmlaa
