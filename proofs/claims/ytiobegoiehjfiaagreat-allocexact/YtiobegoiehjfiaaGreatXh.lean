/-
  What the page's Open returns, for every right device: its memory, its post.
-/
import Derived.Test.YtiobegoiehjfiaaGreatXg
namespace Go.Proofs.YtiobegoiehjfiaaGreat
open Go.RowKit

def imv (s : Ws.Sup) (t : Int) (r b m n : Value) : Value := .agg #[.int .i64 s.gen, .int .i64 s.blocks, .int .i64 s.root, .int .i64 s.size, .int .i64 s.first, .int .i64 t, r, b, m, n]
theorem Ih.new (w : World) (s : Ws.Sup) (t : Int) (r b m n : Value) : Ih (w.alloc (.cells #[.int .i64 s.gen, .int .i64 s.blocks, .int .i64 s.root, .int .i64 s.size, .int .i64 s.first, .int .i64 t, r, b, m, n] 41)) w.heap.size s t r b m n := by
  show (w.heap.push _)[w.heap.size]? = _; simp
theorem Ih.lt {w : World} {P : Nat} {s : Ws.Sup} {t : Int} {r b m n : Value} (h : Ih w P s t r b m n) : P < w.heap.size := (Array.getElem?_eq_some_iff.1 h).1
theorem Ih.keep {w w' : World} {P : Nat} {s : Ws.Sup} {t : Int} {r b m n : Value} (h : Ih w P s t r b m n) (hb : Below w.heap.size w w') : Ih w' P s t r b m n := (hb.block P h.lt).trans h
theorem Ih.frozen {w : World} {P : Nat} {s : Ws.Sup} {t : Int} {r b m n : Value} (h : Ih w P s t r b m n) (i : Nat) : w.frozen? ⟨P, i, none⟩ = false := by
  unfold Ih at h; simp [World.frozen?, h]
def Ic (w : World) (P : Nat) (s : Ws.Sup) (t : Int) (r b m n : Value) : Prop :=
  w.cell? ⟨P, 0, none⟩ = some (.int .i64 s.gen) ∧ w.cell? ⟨P, 1, none⟩ = some (.int .i64 s.blocks) ∧ w.cell? ⟨P, 2, none⟩ = some (.int .i64 s.root) ∧ w.cell? ⟨P, 3, none⟩ = some (.int .i64 s.size) ∧ w.cell? ⟨P, 4, none⟩ = some (.int .i64 s.first) ∧
  w.cell? ⟨P, 5, none⟩ = some (.int .i64 t) ∧ w.cell? ⟨P, 6, none⟩ = some r ∧ w.cell? ⟨P, 7, none⟩ = some b ∧ w.cell? ⟨P, 8, none⟩ = some m ∧ w.cell? ⟨P, 9, none⟩ = some n
theorem Ih.ic {w : World} {P : Nat} {s : Ws.Sup} {t : Int} {r b m n : Value} (h : Ih w P s t r b m n) : Ic w P s t r b m n := by
  unfold Ih at h
  refine ⟨?_, ?_, ?_, ?_, ?_, ?_, ?_, ?_, ?_, ?_⟩ <;> simp [World.cell?, h]
/-- A fault's own cells. -/
def Fh (w : World) (P : Nat) (k e : Int) : Prop := w.heap[P]? = some (.cells #[.int .i64 k, .int .i64 e] 43 (0, 0))
theorem Fh.new (w : World) (k e : Int) : Fh (w.alloc (.cells #[.int .i64 k, .int .i64 e] 43)) w.heap.size k e := by
  show (w.heap.push _)[w.heap.size]? = _; simp
theorem Fh.lt {w : World} {P : Nat} {k e : Int} (h : Fh w P k e) : P < w.heap.size := (Array.getElem?_eq_some_iff.1 h).1
theorem Fh.keep {w w' : World} {P : Nat} {k e : Int} (h : Fh w P k e) (hb : Below w.heap.size w w') : Fh w' P k e := (hb.block P h.lt).trans h
theorem Fh.fc {w : World} {P : Nat} {k e : Int} (h : Fh w P k e) : w.cell? ⟨P, 0, none⟩ = some (.int .i64 k) ∧ w.cell? ⟨P, 1, none⟩ = some (.int .i64 e) ∧ ∀ i, w.frozen? ⟨P, i, none⟩ = false := by
  unfold Fh at h
  refine ⟨?_, ?_, fun i => ?_⟩ <;> simp [World.cell?, World.frozen?, h]
/-- An image's cells written over, and a fault's. -/
def over10 (w : World) (P : Nat) (s : Ws.Sup) (t : Int) (r b m n : Value) : World :=
  (((((((((w.setCell ⟨P, 0, none⟩ (.int .i64 s.gen)).setCell ⟨P, 1, none⟩ (.int .i64 s.blocks)).setCell ⟨P, 2, none⟩ (.int .i64 s.root)).setCell ⟨P, 3, none⟩ (.int .i64 s.size)).setCell ⟨P, 4, none⟩ (.int .i64 s.first)).setCell ⟨P, 5, none⟩ (.int .i64 t)).setCell ⟨P, 6, none⟩ r).setCell ⟨P, 7, none⟩ b).setCell ⟨P, 8, none⟩ m).setCell ⟨P, 9, none⟩ n
def over2 (w : World) (P : Nat) (k e : Int) : World := (w.setCell ⟨P, 0, none⟩ (.int .i64 k)).setCell ⟨P, 1, none⟩ (.int .i64 e)
theorem Ih.over {w : World} {P : Nat} {s : Ws.Sup} {t : Int} {r b m n : Value} (h : Ih w P s t r b m n) (s' : Ws.Sup) (t' : Int) (r' b' m' n' : Value) : Ih (over10 w P s' t' r' b' m' n') P s' t' r' b' m' n' := by
  have h0 := heap_setCell_same w P 0 _ 41 (.int .i64 s'.gen) h
  have h1 := heap_setCell_same _ P 1 _ 41 (.int .i64 s'.blocks) h0
  have h2 := heap_setCell_same _ P 2 _ 41 (.int .i64 s'.root) h1
  have h3 := heap_setCell_same _ P 3 _ 41 (.int .i64 s'.size) h2
  have h4 := heap_setCell_same _ P 4 _ 41 (.int .i64 s'.first) h3
  have h5 := heap_setCell_same _ P 5 _ 41 (.int .i64 t') h4
  have h6 := heap_setCell_same _ P 6 _ 41 r' h5
  have h7 := heap_setCell_same _ P 7 _ 41 b' h6
  have h8 := heap_setCell_same _ P 8 _ 41 m' h7
  have h9 := heap_setCell_same _ P 9 _ 41 n' h8
  unfold Ih over10
  simpa using h9
theorem Fh.over {w : World} {P : Nat} {k e : Int} (h : Fh w P k e) (k' e' : Int) : Fh (over2 w P k' e') P k' e' := by
  have h0 := heap_setCell_same w P 0 _ 43 (.int .i64 k') h
  have h1 := heap_setCell_same _ P 1 _ 43 (.int .i64 e') h0
  unfold Fh over2
  simpa using h1
theorem over10_other (w : World) (P : Nat) (s : Ws.Sup) (t : Int) (r b m n : Value) {g : Nat} (hg : g ≠ P) : (over10 w P s t r b m n).heap[g]? = w.heap[g]? := by
  unfold over10
  rw [heap_setCell_other _ _ _ _ hg, heap_setCell_other _ _ _ _ hg, heap_setCell_other _ _ _ _ hg, heap_setCell_other _ _ _ _ hg, heap_setCell_other _ _ _ _ hg, heap_setCell_other _ _ _ _ hg, heap_setCell_other _ _ _ _ hg, heap_setCell_other _ _ _ _ hg, heap_setCell_other _ _ _ _ hg, heap_setCell_other _ _ _ _ hg]
theorem over2_other (w : World) (P : Nat) (k e : Int) {g : Nat} (hg : g ≠ P) : (over2 w P k e).heap[g]? = w.heap[g]? := by
  unfold over2
  rw [heap_setCell_other _ _ _ _ hg, heap_setCell_other _ _ _ _ hg]
theorem over10_below {b0 P : Nat} {a w : World} (h : Below b0 a w) (hP : b0 ≤ P) (s : Ws.Sup) (t : Int) (r b m n : Value) : Below b0 a (over10 w P s t r b m n) :=
  (((((((((h.setCell (p := ⟨P, 0, none⟩) hP _).setCell (p := ⟨P, 1, none⟩) hP _).setCell (p := ⟨P, 2, none⟩) hP _).setCell (p := ⟨P, 3, none⟩) hP _).setCell (p := ⟨P, 4, none⟩) hP _).setCell (p := ⟨P, 5, none⟩) hP _).setCell (p := ⟨P, 6, none⟩) hP _).setCell (p := ⟨P, 7, none⟩) hP _).setCell (p := ⟨P, 8, none⟩) hP _).setCell (p := ⟨P, 9, none⟩) hP _
theorem over2_below {b0 P : Nat} {a w : World} (h : Below b0 a w) (hP : b0 ≤ P) (k e : Int) : Below b0 a (over2 w P k e) := (h.setCell (p := ⟨P, 0, none⟩) hP _).setCell (p := ⟨P, 1, none⟩) hP _
theorem ret_img {fn : Func} {tmps : Array Value} {w : World} {P2 P3 : Nat} {s : Ws.Sup} {t k e : Int} {a a' m' n' : Option Addr} {n c nb cb nm cm nn cn : Nat} (hr : fn.results = #[.cell 2 41, .cell 3 43]) (h2 : tmps.getD 2 undef = .pointer (some ⟨P2, 0, none⟩)) (h3 : tmps.getD 3 undef = .pointer (some ⟨P3, 0, none⟩))
    (h : Ic w P2 s t (.slice a n c) (.slice a' nb cb) (.slice m' nm cm) (.slice n' nn cn)) (hF : w.cell? ⟨P3, 0, none⟩ = some (.int .i64 k) ∧ w.cell? ⟨P3, 1, none⟩ = some (.int .i64 e)) :
    (results fn tmps).run Tryz.prog w = .ok (.tuple #[imv s t (.slice a n c) (.slice a' nb cb) (.slice m' nm cm) (.slice n' nn cn), .agg #[.int .i64 k, .int .i64 e]]) w := by
  obtain ⟨c0, c1, c2, c3, c4, c5, c6, c7, c8, c9⟩ := h
  obtain ⟨d0, d1⟩ := hF
  have e2 : tmps[2]?.getD undef = .pointer (some ⟨P2, 0, none⟩) := by rw [← h2]; simp
  have e3 : tmps[3]?.getD undef = .pointer (some ⟨P3, 0, none⟩) := by rw [← h3]; simp
  simp [results, hr, e2, e3, go_sem, c0, c1, c2, c3, c4, c5, c6, c7, c8, c9, d0, d1, imv]
end Go.Proofs.YtiobegoiehjfiaaGreat
