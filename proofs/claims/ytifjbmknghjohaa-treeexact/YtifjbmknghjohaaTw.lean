/-
  What found.meet and found.follow do, for every device and every way.
-/
import Derived.Test.YtifjbmknghjohaaTf
namespace Go.Proofs.Ytifjbmknghjohaa
open Go.RowKit

/-- The block B is what has been met so far: its nodes lie in memory of the call's own from the block nb on, its sectors in the block g. -/
def Fo (w : World) (B g nb : Nat) (s : Wt.St) : Prop :=
  ∃ a n c, w.heap[B]? = some (.cells #[.slice a n c, .slice (some ⟨g, 0, none⟩) 512 512] 62 (0, 0)) ∧ Wv.Ov (Value.int .i64) 3 nb w (.slice a n c) s.nodes ∧ w.rowIs g 3 512 (fun j => .int .i64 (s.sec.getD j 0)) ∧ s.sec.length = 512 ∧ B < nb ∧ g < nb ∧ B ≠ g ∧ nb ≤ w.heap.size

theorem Fo.keep {w w' : World} {B g nb : Nat} {s : Wt.St} (h : Fo w B g nb s) (hb : Below w.heap.size w w') : Fo w' B g nb s := by
  obtain ⟨a, n, c, h1, h2, h3, h4, h5, h6, h7, h8⟩ := h
  exact ⟨a, n, c, by rw [hb.block B (by omega)]; exact h1, h2.keep hb, h3.of_block (hb.block g (by omega)), h4, h5, h6, h7, Nat.le_trans h8 hb.size⟩

/-- A sector's block is laid down. -/
theorem Fo.sec {w : World} {B g nb : Nat} {s : Wt.St} (h : Fo w B g nb s) (pl : Nat) (p : Int) (d : List Int) : Fo (w.setCell ⟨g, pl, none⟩ (.int .i64 p)) B g nb ⟨s.nodes, s.sec.set pl p, d⟩ := by
  obtain ⟨a, n, c, h1, h2, h3, h4, h5, h6, h7, h8⟩ := h
  refine ⟨a, n, c, by rw [heap_setCell_other _ _ _ _ h7]; exact h1, ⟨ownsRow_setCell_below h2.1 h6 _, h2.2⟩, (h3.set pl _).congr fun j hj => ?_, by simpa using h4, h5, h6, h7, by simpa using h8⟩
  by_cases e : j = pl
  · subst e; rw [if_pos rfl]; simp [h4, hj]
  · rw [if_neg e]
    rw [List.getD_eq_getElem?_getD, List.getD_eq_getElem?_getD, List.getElem?_set_ne (by omega)]

theorem heap_two {w : World} {B : Nat} {x y : Value} {T : TypeId} (h : w.heap[B]? = some (.cells #[x, y] T (0, 0))) (z : Value) : (w.setCell ⟨B, 0, none⟩ z).heap[B]? = some (.cells #[z, y] T (0, 0)) := by
  have := heap_setCell_same w B 0 _ T z h
  simpa using this

/-- A node is put behind the others. -/
theorem Fo.push {w w' : World} {B g nb : Nat} {s : Wt.St} (h : Fo w B g nb s) (hb : Below nb w w') {a : Option Addr} {n c : Nat} {l : List Int} (hO : Wv.Ov (Value.int .i64) 3 nb w' (.slice a n c) l) (d : List Int) :
    Fo (w'.setCell ⟨B, 0, none⟩ (.slice a n c)) B g nb ⟨l, s.sec, d⟩ := by
  obtain ⟨a', n', c', h1, h2, h3, h4, h5, h6, h7, h8⟩ := h
  refine ⟨a, n, c, heap_two (x := .slice a' n' c') (by rw [hb.block B h5]; exact h1) _, ⟨ownsRow_setCell_below hO.1 h5 _, hO.2⟩, (h3.of_block (hb.block g h6)).setOther (a := ⟨B, 0, none⟩) (fun e => h7 e.symm) _, h4, h5, h6, h7, ?_⟩
  have := hb.size
  simp; omega

theorem Fo.cells {w : World} {B g nb : Nat} {s : Wt.St} (h : Fo w B g nb s) :
    ∃ a n c, w.cell? ⟨B, 0, none⟩ = some (.slice a n c) ∧ w.cell? ⟨B, 1, none⟩ = some (.slice (some ⟨g, 0, none⟩) 512 512) ∧ (∀ i, w.frozen? ⟨B, i, none⟩ = false) ∧ Wv.Ov (Value.int .i64) 3 nb w (.slice a n c) s.nodes := by
  obtain ⟨a, n, c, h1, h2, -⟩ := h
  exact ⟨a, n, c, by simp [World.cell?, h1], by simp [World.cell?, h1], fun i => by simp [World.frozen?, h1], h2⟩

theorem Fo.row {w : World} {B g nb : Nat} {s : Wt.St} (h : Fo w B g nb s) : w.rowIs g 3 512 (fun j => .int .i64 (s.sec.getD j 0)) ∧ s.sec.length = 512 ∧ B < nb ∧ g < nb ∧ B ≠ g ∧ nb ≤ w.heap.size := by
  obtain ⟨a, n, c, h1, h2, h3, h4, h5, h6, h7, h8⟩ := h
  exact ⟨h3, h4, h5, h6, h7, h8⟩

/-- What meet does at a level. -/
def MeetOk (xs : List Int) (v : Value) (w0 : World) (B g nb L : Nat) : Prop :=
  ∀ (p l q : Int) (pl : Nat) (s : Wt.St) (w : World), l = L → q = pl → (pl + 1) * 8 ^ L ≤ 512 → s.nodes.length + Wt.room L ≤ 1000 → Below w0.heap.size w0 w → Fo w B g nb s →
    Calls Try.prog 53 #[.pointer (some ⟨B, 0, none⟩), v, .int .i64 p, .int .i64 l, .int .i64 q] w fun e w' => e = .returned (.bool (Wt.met xs L p pl s).isSome) ∧ Below w0.heap.size w0 w' ∧ ∀ t, Wt.met xs L p pl s = some t → Fo w' B g nb t

/-- What follow does at a level. -/
def FollowOk (xs : List Int) (v : Value) (w0 : World) (B g nb L : Nat) : Prop :=
  ∀ (p l q : Int) (pl : Nat) (s : Wt.St) (w : World), l = L → q = pl → (pl + 1) * 8 ^ (L + 1) ≤ 512 → s.nodes.length + Wt.room (L + 1) ≤ 1000 → Below w0.heap.size w0 w → Fo w B g nb s →
    Calls Try.prog 42 #[.pointer (some ⟨B, 0, none⟩), v, .int .i64 p, .int .i64 l, .int .i64 q] w fun e w' => e = .returned (.bool (Wt.met xs (L + 1) p pl s).isSome) ∧ Below w0.heap.size w0 w' ∧ ∀ t, Wt.met xs (L + 1) p pl s = some t → Fo w' B g nb t

set_option maxHeartbeats 1600000 in
theorem meet_zero (xs : List Int) (v : Value) (w0 : World) (B g nb : Nat) (hg : w0.heap.size ≤ g) : MeetOk xs v w0 B g nb 0 := by
  intro p l q pl s w hl hq hpl hr hb hF
  subst hq
  have hl0 : l = 0 := by simpa using hl
  subst hl0
  have hp5 : pl < 512 := by rw [Nat.pow_zero] at hpl; omega
  obtain ⟨a, n, c, c0, c1, cf, -⟩ := hF.cells
  have hc := (hF.row.1).cell hp5
  have hf := (hF.row.1).frozen pl
  have HF := Wc.hid hF
  have HB := Wc.hid hb
  clear hF hb hr hpl hl
  rw [Wt.met_zero]
  go_enter Try.func53, Try.ntmps53
  go_wp2_with fail
  go_ret
  refine ⟨rfl, HB.out.setCell hg _, fun t ht => ?_⟩
  cases ht
  exact HF.out.sec pl p _

set_option maxHeartbeats 1600000 in
theorem meet_succ (xs : List Int) (v : Value) (w0 : World) (B g nb L : Nat) (hL : L ≤ 2) (hF : FollowOk xs v w0 B g nb L) : MeetOk xs v w0 B g nb (L + 1) := by
  intro p l q pl s w hl hq hpl hr hb hFo
  have HF := Wc.hid hF
  have h1 : 0 < l := by omega
  have h2 : l ≤ 3 := by omega
  have HL : Hid (l - 1 = (L : Int)) := Wc.hid (by omega)
  have HB := Wc.hid hb
  have HO := Wc.hid hFo
  have HQ := Wc.hid hq
  clear hF hb hFo hl hq
  go_enter Try.func53, Try.ntmps53
  go_wp2_with fail
  refine (HF.out p (l - 1) q pl s w HL.out HQ.out hpl hr HB.out HO.out).mono ?_
  rintro e w' ⟨rfl, hb', hK⟩
  have HK := Wc.hid hK
  clear hK
  go_wp2_with fail
  go_ret
  exact ⟨rfl, hb', HK.out⟩

end Go.Proofs.Ytifjbmknghjohaa
