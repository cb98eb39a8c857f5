/-
  The page's walk in memory: its cells, its marks, what each of its steps leaves.
-/
import Derived.Test.YtifjbmknghjohaaTh
import Derived.Test.YtifjbmknghjohaaNrp
namespace Go.Proofs.Ytifjbmknghjohaa
open Go.RowKit

/-- The block B is a walk's own cells. -/
def Wh (w : World) (B : Nat) (img : Value) (m : Nat) (vn vs vd vm : Value) (ok : Bool) : Prop :=
  w.heap[B]? = some (.cells #[img, .int .i64 m, vn, vs, vd, vm, .bool ok] 69 (0, 0))

section
variable {w w' : World} {B m : Nat} {img vn vs vd vm : Value} {ok : Bool}

theorem Wh.lt (h : Wh w B img m vn vs vd vm ok) : B < w.heap.size := (Array.getElem?_eq_some_iff.1 h).1
theorem Wh.c0 (h : Wh w B img m vn vs vd vm ok) : w.cell? ⟨B, 0, none⟩ = some img := by unfold Wh at h; simp [World.cell?, h]
theorem Wh.c1 (h : Wh w B img m vn vs vd vm ok) : w.cell? ⟨B, 1, none⟩ = some (.int .i64 m) := by unfold Wh at h; simp [World.cell?, h]
theorem Wh.c2 (h : Wh w B img m vn vs vd vm ok) : w.cell? ⟨B, 2, none⟩ = some vn := by unfold Wh at h; simp [World.cell?, h]
theorem Wh.c3 (h : Wh w B img m vn vs vd vm ok) : w.cell? ⟨B, 3, none⟩ = some vs := by unfold Wh at h; simp [World.cell?, h]
theorem Wh.c4 (h : Wh w B img m vn vs vd vm ok) : w.cell? ⟨B, 4, none⟩ = some vd := by unfold Wh at h; simp [World.cell?, h]
theorem Wh.c5 (h : Wh w B img m vn vs vd vm ok) : w.cell? ⟨B, 5, none⟩ = some vm := by unfold Wh at h; simp [World.cell?, h]
theorem Wh.c6 (h : Wh w B img m vn vs vd vm ok) : w.cell? ⟨B, 6, none⟩ = some (.bool ok) := by unfold Wh at h; simp [World.cell?, h]
theorem Wh.fr (h : Wh w B img m vn vs vd vm ok) (i : Nat) : w.frozen? ⟨B, i, none⟩ = false := by unfold Wh at h; simp [World.frozen?, h]
theorem Wh.keep (h : Wh w B img m vn vs vd vm ok) (hb : Below w.heap.size w w') : Wh w' B img m vn vs vd vm ok := by
  unfold Wh; rw [hb.block B h.lt]; exact h
theorem Wh.other (h : Wh w B img m vn vs vd vm ok) {b : Nat} (hne : B ≠ b) (o : Nat) (u : Value) : Wh (w.setCell ⟨b, o, none⟩ u) B img m vn vs vd vm ok := by
  unfold Wh; rw [heap_setCell_other _ _ _ _ hne]; exact h
theorem Wh.fail (h : Wh w B img m vn vs vd vm ok) (k : Bool) : Wh (w.setCell ⟨B, 6, none⟩ (.bool k)) B img m vn vs vd vm k := by
  have := heap_setCell_same w B 6 _ 69 (.bool k) h
  unfold Wh; simpa using this
theorem Wh.setN (h : Wh w B img m vn vs vd vm ok) (u : Value) : Wh (w.setCell ⟨B, 2, none⟩ u) B img m u vs vd vm ok := by
  have := heap_setCell_same w B 2 _ 69 u h
  unfold Wh; simpa using this
end

/-- Blocks that hold a node stay. -/
def K47 (w w' : World) : Prop := ∀ (b : Nat) (cs : Array Value) (fr : Nat × Nat), w.heap[b]? = some (.cells cs 47 fr) → w'.heap[b]? = some (.cells cs 47 fr)
theorem K47.refl (w : World) : K47 w w := fun _ _ _ h => h
theorem K47.trans {a b c : World} (h : K47 a b) (k : K47 b c) : K47 a c := fun x cs fr hx => k x cs fr (h x cs fr hx)
theorem K47.of {w w' : World} (hb : Below w.heap.size w w') : K47 w w' := fun b cs fr h => by rw [hb.block b (Array.getElem?_eq_some_iff.1 h).1]; exact h
theorem K47.set {w : World} {B : Nat} {cs : Array Value} {T : TypeId} {fr : Nat × Nat} (h : w.heap[B]? = some (.cells cs T fr)) (hT : T ≠ 47) (o : Nat) (u : Value) : K47 w (w.setCell ⟨B, o, none⟩ u) := fun b cs' fr' hb => by
  rw [heap_setCell_other _ _ _ _ (fun e => ?_)]
  · exact hb
  · have e' : b = B := e
    rw [e', h] at hb
    cases hb
    exact hT rfl
theorem K47.row {w : World} {B n : Nat} {f : Nat → Value} {T : TypeId} (h : w.rowIs B T n f) (hT : T ≠ 47) (o : Nat) (u : Value) : K47 w (w.setCell ⟨B, o, none⟩ u) := by
  obtain ⟨c, hc, -⟩ := h
  exact K47.set hc hT o u

/-- The walk as it stands: nodes, marks of nodes, sectors, marks of sectors' blocks. -/
def Wk (w : World) (B : Nat) (img : Value) (m gs gd gm nb : Nat) (ns ms sc dt : List Int) : Prop :=
  ∃ a n c, Wh w B img m (.slice a n c) (.slice (some ⟨gs, 0, none⟩) m m) (.slice (some ⟨gd, 0, none⟩) m m) (.slice (some ⟨gm, 0, none⟩) 512 512) true ∧ Wv.Ov (Value.int .i64) 3 nb w (.slice a n c) ns ∧ Marks w gs m ms ∧ Marks w gd m dt ∧
    w.rowIs gm 3 512 (fun j => .int .i64 (sc.getD j 0)) ∧ sc.length = 512 ∧ B < nb ∧ gs < nb ∧ gd < nb ∧ gm < nb ∧ gs ≠ gd ∧ nb ≤ w.heap.size

/-- The walk once it has failed. -/
def Wf (w : World) (B : Nat) (img : Value) (m : Nat) : Prop := ∃ vn vs vd vm, Wh w B img m vn vs vd vm false

theorem Wf.keep {w w' : World} {B m : Nat} {img : Value} (h : Wf w B img m) (hb : Below w.heap.size w w') : Wf w' B img m := by
  obtain ⟨vn, vs, vd, vm, h⟩ := h
  exact ⟨vn, vs, vd, vm, h.keep hb⟩

section
variable {w w' : World} {B m gs gd gm nb : Nat} {img : Value} {ns ms sc dt : List Int}

theorem row_ne {T T' : TypeId} {b b' n n' : Nat} {f f' : Nat → Value} (h : w.rowIs b T n f) (h' : w.rowIs b' T' n' f') (hT : T ≠ T') : b ≠ b' := fun e => by
  obtain ⟨c, hc, -⟩ := h
  obtain ⟨c', hc', -⟩ := h'
  rw [e, hc'] at hc
  cases hc
  exact hT rfl

theorem wh_ne {T b n : Nat} {f : Nat → Value} {vn vs vd vm : Value} {ok : Bool} (h : Wh w B img m vn vs vd vm ok) (h' : w.rowIs b T n f) (hT : T ≠ 69) : B ≠ b := fun e => by
  obtain ⟨c', hc', -⟩ := h'
  unfold Wh at h
  rw [e, hc'] at h
  cases h
  exact hT rfl

theorem Wk.keep (h : Wk w B img m gs gd gm nb ns ms sc dt) (hb : Below w.heap.size w w') : Wk w' B img m gs gd gm nb ns ms sc dt := by
  obtain ⟨a, n, c, h1, h2, h3, h4, h5, h6, h7, h8, h9, h10, h11, h12⟩ := h
  exact ⟨a, n, c, h1.keep hb, h2.keep hb, h3.of_block (hb.block gs h3.lt), h4.of_block (hb.block gd h4.lt), h5.of_block (hb.block gm h5.lt), h6, h7, h8, h9, h10, h11, Nat.le_trans h12 hb.size⟩

theorem Wk.fail (h : Wk w B img m gs gd gm nb ns ms sc dt) : Wf (w.setCell ⟨B, 6, none⟩ (.bool false)) B img m := by
  obtain ⟨a, n, c, h1, -⟩ := h
  exact ⟨_, _, _, _, h1.fail false⟩

theorem Wk.mark (h : Wk w B img m gs gd gm nb ns ms sc dt) (j : Nat) : Wk (w.setCell ⟨gs, j, none⟩ (.bool true)) B img m gs gd gm nb ns (ms ++ [(j : Int)]) sc dt := by
  obtain ⟨a, n, c, h1, h2, h3, h4, h5, h6, h7, h8, h9, h10, h11, h12⟩ := h
  exact ⟨a, n, c, h1.other (wh_ne h1 h3 (by decide)) j _, ⟨ownsRow_setCell_below h2.1 (a := ⟨gs, j, none⟩) h8 _, h2.2⟩, h3.set j, World.rowIs.setOther h4 (a := ⟨gs, j, none⟩) (fun e => h11 e.symm) _, h5.setOther (a := ⟨gs, j, none⟩) (row_ne h5 h3 (by decide)) _, h6, h7, h8, h9, h10, h11, by simpa using h12⟩

theorem Wk.seen (h : Wk w B img m gs gd gm nb ns ms sc dt) (j : Nat) : Wk (w.setCell ⟨gd, j, none⟩ (.bool true)) B img m gs gd gm nb ns ms sc (dt ++ [(j : Int)]) := by
  obtain ⟨a, n, c, h1, h2, h3, h4, h5, h6, h7, h8, h9, h10, h11, h12⟩ := h
  exact ⟨a, n, c, h1.other (wh_ne h1 h4 (by decide)) j _, ⟨ownsRow_setCell_below h2.1 (a := ⟨gd, j, none⟩) h9 _, h2.2⟩, World.rowIs.setOther h3 (a := ⟨gd, j, none⟩) h11 _, h4.set j, h5.setOther (a := ⟨gd, j, none⟩) (row_ne h5 h4 (by decide)) _, h6, h7, h8, h9, h10, h11, by simpa using h12⟩

theorem Wk.sec (h : Wk w B img m gs gd gm nb ns ms sc dt) (pl : Nat) (p : Int) : Wk (w.setCell ⟨gm, pl, none⟩ (.int .i64 p)) B img m gs gd gm nb ns ms (sc.set pl p) dt := by
  obtain ⟨a, n, c, h1, h2, h3, h4, h5, h6, h7, h8, h9, h10, h11, h12⟩ := h
  refine ⟨a, n, c, h1.other (wh_ne h1 h5 (by decide)) pl _, ⟨ownsRow_setCell_below h2.1 (a := ⟨gm, pl, none⟩) h10 _, h2.2⟩, World.rowIs.setOther h3 (a := ⟨gm, pl, none⟩) (row_ne h3 h5 (by decide)) _, World.rowIs.setOther h4 (a := ⟨gm, pl, none⟩) (row_ne h4 h5 (by decide)) _, (h5.set pl _).congr fun j hj => ?_, by simpa using h6, h7, h8, h9, h10, h11, by simpa using h12⟩
  by_cases e : j = pl
  · subst e; rw [if_pos rfl]; simp [h6, hj]
  · rw [if_neg e]
    rw [List.getD_eq_getElem?_getD, List.getD_eq_getElem?_getD, List.getElem?_set_ne (by omega)]

theorem Wk.push (h : Wk w B img m gs gd gm nb ns ms sc dt) (hb : Below nb w w') {a : Option Addr} {n c : Nat} {l : List Int} (hO : Wv.Ov (Value.int .i64) 3 nb w' (.slice a n c) l) : Wk (w'.setCell ⟨B, 2, none⟩ (.slice a n c)) B img m gs gd gm nb l ms sc dt := by
  obtain ⟨a', n', c', h1, h2, h3, h4, h5, h6, h7, h8, h9, h10, h11, h12⟩ := h
  have k1 : Wh w' B img m (.slice a' n' c') (.slice (some ⟨gs, 0, none⟩) m m) (.slice (some ⟨gd, 0, none⟩) m m) (.slice (some ⟨gm, 0, none⟩) 512 512) true := by unfold Wh; rw [hb.block B h7]; exact h1
  have k3 : Marks w' gs m ms := h3.of_block (hb.block gs h8)
  have k4 : Marks w' gd m dt := h4.of_block (hb.block gd h9)
  have k5 := h5.of_block (hb.block gm h10)
  refine ⟨a, n, c, k1.setN _, ⟨ownsRow_setCell_below hO.1 (a := ⟨B, 2, none⟩) h7 _, hO.2⟩, World.rowIs.setOther k3 (a := ⟨B, 2, none⟩) (fun e => wh_ne k1 k3 (by decide) e.symm) _, World.rowIs.setOther k4 (a := ⟨B, 2, none⟩) (fun e => wh_ne k1 k4 (by decide) e.symm) _, k5.setOther (a := ⟨B, 2, none⟩) (fun e => wh_ne k1 k5 (by decide) e.symm) _, h6, h7, h8, h9, h10, h11, ?_⟩
  have := hb.size
  simp; omega

/-- What one may look at. -/
theorem Wk.cells (h : Wk w B img m gs gd gm nb ns ms sc dt) : ∃ a n c, (w.cell? ⟨B, 0, none⟩ = some img ∧ w.cell? ⟨B, 1, none⟩ = some (.int .i64 m) ∧ w.cell? ⟨B, 2, none⟩ = some (.slice a n c) ∧ w.cell? ⟨B, 3, none⟩ = some (.slice (some ⟨gs, 0, none⟩) m m) ∧ w.cell? ⟨B, 4, none⟩ = some (.slice (some ⟨gd, 0, none⟩) m m) ∧ w.cell? ⟨B, 5, none⟩ = some (.slice (some ⟨gm, 0, none⟩) 512 512) ∧ w.cell? ⟨B, 6, none⟩ = some (.bool true)) ∧ (∀ i, w.frozen? ⟨B, i, none⟩ = false) ∧ Wv.Ov (Value.int .i64) 3 nb w (.slice a n c) ns := by
  obtain ⟨a, n, c, h1, h2, -⟩ := h
  exact ⟨a, n, c, ⟨h1.c0, h1.c1, h1.c2, h1.c3, h1.c4, h1.c5, h1.c6⟩, h1.fr, h2⟩

theorem Wk.rows (h : Wk w B img m gs gd gm nb ns ms sc dt) : Marks w gs m ms ∧ Marks w gd m dt ∧ w.rowIs gm 3 512 (fun j => .int .i64 (sc.getD j 0)) ∧ sc.length = 512 ∧ B < nb ∧ nb ≤ w.heap.size ∧ (∃ cs, w.heap[B]? = some (.cells cs 69 (0, 0))) := by
  obtain ⟨a, n, c, h1, h2, h3, h4, h5, h6, h7, h8, h9, h10, h11, h12⟩ := h
  exact ⟨h3, h4, h5, h6, h7, h12, _, h1⟩
end

theorem rdR_at {xs : List Int} {q : Nat} (hd : Wd.devB xs.length = true) (hq : q < xs.length / 64) : Wd.rdR xs (q : Int) = (xs.drop (q * 64)).take 64 := by
  have h1 : Wd.rdE xs.length (q : Int) = 0 := by
    unfold Wd.rdE
    rw [if_pos hd, if_pos (by omega)]
  unfold Wd.rdR
  rw [if_pos h1]; rfl

set_option maxHeartbeats 400000 in
theorem refIn10_any (n lo hi : Int) (w : World) :
    Calls Try.prog 44 #[.int .i64 n, .int .i64 lo, .int .i64 hi] w fun e w' => e = .returned (.bool (decide (lo ≤ n) && decide (n ≤ hi))) ∧ w = w' := by
  go_enter Try.func44, Try.ntmps44
  go_wp2
  all_goals go_ret
  all_goals (refine ⟨ret_bool ?_, rfl⟩; rw [Bool.eq_iff_iff]; simp; try omega)

end Go.Proofs.Ytifjbmknghjohaa
