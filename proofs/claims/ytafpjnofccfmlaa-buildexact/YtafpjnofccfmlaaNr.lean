/-
  What it says that a slice holds a list of nodes, that it goes on holding it where nothing old has turned, and append to memory of the call's own. It speaks of no program.
-/
import Derived.Test.YtafpjnofccfmlaaJB
import Derived.Test.YtafpjnofccfmlaaJE
namespace Wb
open Go Go.RowKit

def cells9 (r : Wn.Nod) : List Value := [.int .i64 r.level, .int .i64 r.p0, .int .i64 r.p1, .int .i64 r.p2, .int .i64 r.p3, .int .i64 r.p4, .int .i64 r.p5, .int .i64 r.p6, .int .i64 r.p7]

/-- At the offset o of the block b lies the node r. -/
def Na (w : World) (b o : Nat) (r : Wn.Nod) : Prop :=
  w.cell? ⟨b, o, none⟩ = some (.int .i64 r.level) ∧ w.cell? ⟨b, o + 1, none⟩ = some (.int .i64 r.p0) ∧ w.cell? ⟨b, o + 2, none⟩ = some (.int .i64 r.p1) ∧ w.cell? ⟨b, o + 3, none⟩ = some (.int .i64 r.p2) ∧ w.cell? ⟨b, o + 4, none⟩ = some (.int .i64 r.p3) ∧ w.cell? ⟨b, o + 5, none⟩ = some (.int .i64 r.p4) ∧ w.cell? ⟨b, o + 6, none⟩ = some (.int .i64 r.p5) ∧ w.cell? ⟨b, o + 7, none⟩ = some (.int .i64 r.p6) ∧ w.cell? ⟨b, o + 8, none⟩ = some (.int .i64 r.p7)

/-- The slice value v holds the nodes l in the world w. -/
def Ns (w : World) (v : Value) (l : List Wn.Nod) : Prop :=
  ∃ a n cap, v = .slice a n cap ∧ l.length = n ∧ n ≤ cap ∧ cap ≤ 9223372036854775807 ∧ n ≤ 1099511627776 ∧
    (0 < n → ∃ b off, a = some ⟨b, off, none⟩ ∧ b < w.heap.size ∧ ∀ i, i < n → Na w b (off + i * 9) (l.getD i Wn.n0))

theorem Na.lt {w : World} {b o : Nat} {r : Wn.Nod} (h : Na w b o r) : b < w.heap.size := Wc.cell_lt h.1
theorem Na.keep {w w' : World} {b o : Nat} {r : Wn.Nod} (h : Na w b o r) (hb : Below w.heap.size w w') : Na w' b o r := by
  have hl := h.lt
  obtain ⟨h0, h1, h2, h3, h4, h5, h6, h7, h8⟩ := h
  exact ⟨(hb.cell (p := ⟨b, o, none⟩) hl).trans h0, (hb.cell (p := ⟨b, o + 1, none⟩) hl).trans h1, (hb.cell (p := ⟨b, o + 2, none⟩) hl).trans h2, (hb.cell (p := ⟨b, o + 3, none⟩) hl).trans h3,
    (hb.cell (p := ⟨b, o + 4, none⟩) hl).trans h4, (hb.cell (p := ⟨b, o + 5, none⟩) hl).trans h5, (hb.cell (p := ⟨b, o + 6, none⟩) hl).trans h6, (hb.cell (p := ⟨b, o + 7, none⟩) hl).trans h7, (hb.cell (p := ⟨b, o + 8, none⟩) hl).trans h8⟩

theorem Ns.keep {w w' : World} {v : Value} {l : List Wn.Nod} (h : Ns w v l) (hb : Below w.heap.size w w') : Ns w' v l := by
  obtain ⟨a, n, cap, h1, h2, h3, h4, h5, h6⟩ := h
  refine ⟨a, n, cap, h1, h2, h3, h4, h5, fun hn => ?_⟩
  obtain ⟨b, off, k1, k2, k3⟩ := h6 hn
  exact ⟨b, off, k1, Nat.lt_of_lt_of_le k2 hb.size, fun i hi => (k3 i hi).keep hb⟩
theorem Ns.nil (w : World) : Ns w (.slice none 0 0) [] := ⟨none, 0, 0, rfl, rfl, Nat.le_refl _, by omega, by omega, fun h => by omega⟩
theorem Ns.open {w : World} {v : Value} {l : List Wn.Nod} (h : Ns w v l) :
    (l = [] ∧ ∃ a cap, v = .slice a 0 cap ∧ cap ≤ 9223372036854775807) ∨
    ∃ b off n cap, v = .slice (some ⟨b, off, none⟩) n cap ∧ 0 < n ∧ l.length = n ∧ n ≤ cap ∧ cap ≤ 9223372036854775807 ∧ n ≤ 1099511627776 ∧ b < w.heap.size ∧
      ∀ i, i < n → Na w b (off + i * 9) (l.getD i Wn.n0) := by
  obtain ⟨a, n, cap, rfl, h2, h3, h4, h5, h6⟩ := h
  by_cases hn : 0 < n
  · obtain ⟨b, off, rfl, k2, k3⟩ := h6 hn
    exact .inr ⟨b, off, n, cap, rfl, hn, h2, h3, h4, h5, k2, k3⟩
  · obtain rfl : n = 0 := by omega
    exact .inl ⟨List.eq_nil_of_length_eq_zero h2, a, cap, rfl, h4⟩
theorem ns_len {w : World} {a : Option Addr} {n cap : Nat} {l : List Wn.Nod} (h : Ns w (.slice a n cap) l) : l.length = n := by
  obtain ⟨_, _, _, h1, h2, _⟩ := h; cases h1; exact h2
theorem ns_drewN {w : World} {v : Value} {l : List Wn.Nod} (h : Ns w v l) (n : Nat) : Ns (w.drewN n) v l := h.keep (below_drewN (Below.refl _ _) n)

theorem flat9_length : ∀ l : List Wn.Nod, (l.flatMap cells9).length = l.length * 9
  | [] => rfl
  | q :: l => by simp [List.flatMap_cons, flat9_length l, cells9]; omega
theorem flat9_get : ∀ (l : List Wn.Nod) (i j : Nat) (hi : i < l.length), j < 9 → (l.flatMap cells9)[i * 9 + j]? = (cells9 l[i])[j]?
  | [], i, _, hi, _ => by simp at hi
  | q :: l, 0, j, _, hj => by
    rw [List.flatMap_cons, List.getElem?_append_left (by simp [cells9]; omega)]
    simp
  | q :: l, i + 1, j, hi, hj => by
    rw [List.flatMap_cons, List.getElem?_append_right (by simp [cells9]; omega)]
    have := flat9_get l i j (by simpa using hi) hj
    have e : (i + 1) * 9 + j - (cells9 q).length = i * 9 + j := by simp [cells9]; omega
    rw [e, this]
    simp

theorem na_of_cells {w : World} {b o : Nat} {r : Wn.Nod} (h : ∀ j u, (cells9 r)[j]? = some u → w.cell? ⟨b, o + j, none⟩ = some u) : Na w b o r :=
  ⟨by simpa using h 0 _ rfl, h 1 _ rfl, h 2 _ rfl, h 3 _ rfl, h 4 _ rfl, h 5 _ rfl, h 6 _ rfl, h 7 _ rfl, h 8 _ rfl⟩

/-- Memory of the call's own, from the block base on, that holds nodes: e is the number of their type. -/
def No (e base : Nat) (w : World) (v : Value) (l : List Wn.Nod) : Prop := w.ownsRow base e 9 v l.length (l.flatMap cells9) ∧ l.length ≤ 1048576

theorem No.nil (e base : Nat) (w : World) : No e base w (.slice none 0 0) [] := ⟨World.ownsRow_nil _ _ _ _, by simp⟩
theorem No.keep {e base : Nat} {w w' : World} {v : Value} {l : List Wn.Nod} (h : No e base w v l) (hb : Below w.heap.size w w') : No e base w' v l := by
  obtain ⟨h2, h3⟩ := h
  refine ⟨⟨h2.1, ?_⟩, h3⟩
  rcases h2.2 with hn | ⟨g, cap, cur, hv, hbg, hg, rest⟩
  · exact .inl hn
  · refine .inr ⟨g, cap, cur, hv, hbg, ?_, rest⟩
    rw [hb.block g (Array.getElem?_eq_some_iff.1 hg).1]
    exact hg
theorem No.ns {e base : Nat} {w : World} {v : Value} {l : List Wn.Nod} (h : No e base w v l) : Ns w v l := by
  obtain ⟨h2, h3⟩ := h
  rcases h2.2 with ⟨rfl, h0⟩ | ⟨g, cap, cur, rfl, hg, hh, k1, k2, k3, k4⟩
  · obtain rfl := List.eq_nil_of_length_eq_zero h0
    exact Ns.nil w
  · refine ⟨_, l.length, cap, rfl, rfl, k1, by unfold maxLen at k2; omega, by omega, fun h0 => ⟨g, 0, rfl, (Array.getElem?_eq_some_iff.1 hh).1, fun i hi => ?_⟩⟩
    rw [show l.getD i Wn.n0 = l[i] by simp [hi]]
    refine na_of_cells (fun j u hu => ?_)
    have hj : j < 9 := by have := (List.getElem?_eq_some_iff.1 hu).1; simpa [cells9] using this
    have := h2.cells (g := g) rfl (i * 9 + j) u (by rw [flat9_get l i j hi hj]; exact hu)
    rw [Wc.add_none] at this
    rw [Nat.zero_add] at this ⊢
    exact this
theorem No.slice {e base : Nat} {w : World} {v : Value} {l : List Wn.Nod} (h : No e base w v l) : ∃ a c, v = .slice a l.length c := by
  obtain ⟨h2, h3⟩ := h
  rcases h2.2 with ⟨rfl, h0⟩ | ⟨g, cap, cur, rfl, hg, hh, k1, k2, k3, k4⟩
  · exact ⟨none, 0, by simp [h0]⟩
  · exact ⟨some ⟨g, 0, none⟩, cap, rfl⟩

/-- It stays where blocks of its type stay. -/
theorem No.types {e base : Nat} {w w' : World} {v : Value} {l : List Wn.Nod} (h : No e base w v l) (hb : ∀ (b : Nat) (cs : Array Value) (fr : Nat × Nat), w.heap[b]? = some (.cells cs e fr) → w'.heap[b]? = some (.cells cs e fr)) : No e base w' v l := by
  obtain ⟨h2, h3⟩ := h
  refine ⟨⟨h2.1, ?_⟩, h3⟩
  rcases h2.2 with hn | ⟨g, cap, cur, hv, hbg, hg, rest⟩
  · exact .inl hn
  · exact .inr ⟨g, cap, cur, hv, hbg, hb _ _ _ hg, rest⟩
theorem ov_types {α : Type} {val : α → Value} {e base : Nat} {w w' : World} {v : Value} {l : List α} (h : Wv.Ov val e base w v l) (hb : ∀ (b : Nat) (cs : Array Value) (fr : Nat × Nat), w.heap[b]? = some (.cells cs e fr) → w'.heap[b]? = some (.cells cs e fr)) : Wv.Ov val e base w' v l := by
  obtain ⟨h2, h3⟩ := h
  refine ⟨⟨h2.1, ?_⟩, h3⟩
  rcases h2.2 with hn | ⟨g, cap, cur, hv, hbg, hg, rest⟩
  · exact .inl hn
  · exact .inr ⟨g, cap, cur, hv, hbg, hb _ _ _ hg, rest⟩

/-- A node is put behind memory of the call's own; blocks of other things, and younger ones, stay. -/
theorem append_nod {P : Program} {e t ty base bytes : Nat} {i : TypeInfo} {z : Value} {w0 w : World} {v : Value} {ad : Addr} {c : Nat} {l : List Wn.Nod} {r : Wn.Nod} (ht : P.underlying t = some (.slice e)) (hi : P.info? e = some i) (hz : i.zero = some z) (hsz : i.size = 9) (hby : i.bytes = bytes)
    (hzs : z.cells.size = 9) (h8 : bytes ≤ 80) (hv0 : No e base w0 v l) (hk : Below w0.heap.size w0 w) (hu : ∀ j x, (cells9 r)[j]? = some x → w.cell? (ad.add j) = some x) (hl : l.length + 1 ≤ 1048576) (hbase : base ≤ w.heap.size) :
    ∃ a n c' w', Sem.run P (Builtin.append_ #[t, t] ty #[v, .slice (some ad) 1 c]) w = .ok (.slice a n c') w' ∧ No e base w' (.slice a n c') (l ++ [r]) ∧ Below base w w' ∧
      (∀ (b : Nat) (cs : Array Value) (T : TypeId) (fr : Nat × Nat), w.heap[b]? = some (.cells cs T fr) → T ≠ e ∨ w0.heap.size ≤ b → w'.heap[b]? = some (.cells cs T fr)) := by
  have hv := hv0.keep hk
  obtain ⟨h2, h3⟩ := hv
  obtain ⟨v', w', k1, k2, k3, -⟩ := run_append_own (P := P) w base t ty e i z 9 bytes ht hi hz hsz hby hzs (by decide) v _ _ h2 ad 1 c (cells9 r) rfl hu (by
      intro x hx; simp only [cells9, List.mem_cons, List.not_mem_nil, or_false] at hx; rcases hx with rfl | rfl | rfl | rfl | rfl | rfl | rfl | rfl | rfl <;> rfl) (by unfold maxLen; omega) (by
        have := Nat.mul_le_mul_left (l.length + 1) h8
        omega) hbase
  have hO : No e base w' v' (l ++ [r]) := by
    refine ⟨?_, by simpa using hl⟩
    have : (l ++ [r]).flatMap cells9 = l.flatMap cells9 ++ cells9 r := by simp
    rw [this]; simpa using k2
  obtain ⟨a, c', rfl⟩ := hO.slice
  refine ⟨a, _, c', w', k1, hO, (Below.refl _ _).grown k3 hbase (fun g hg => (h2.lt g hg).1), fun b cs T fr hb hT => ?_⟩
  refine (k3.block b (Array.getElem?_eq_some_iff.1 hb).1 (fun ee => ?_)).trans hb
  rcases hT with hT | hT
  · rcases h2.2 with ⟨rfl, _⟩ | ⟨g2, c2, cur2, rfl, _, hg2, _⟩
    · cases ee
    · have : b = g2 := by simpa [Value.ownBlock] using ee
      subst this
      rw [hb] at hg2
      cases hg2
      exact hT rfl
  · have := (hv0.1.lt b (by rw [ee])).2
    omega

/-- A node's cells, laid. -/
theorem lit9 (w : World) (r : Wn.Nod) (e g : Nat) (hg : g = w.heap.size) : ∀ j u, (cells9 r)[j]? = some u →
    (w.alloc (.cells #[.int .i64 r.level, .int .i64 r.p0, .int .i64 r.p1, .int .i64 r.p2, .int .i64 r.p3, .int .i64 r.p4, .int .i64 r.p5, .int .i64 r.p6, .int .i64 r.p7] e)).cell? ((⟨g, 0, none⟩ : Addr).add j) = some u := by
  subst hg
  intro j u hu
  have hr := World.rowIs_alloc w (cells9 r).toArray e (fun i => (cells9 r).getD i .nilFunc) (fun i hi => by
    have : i < (cells9 r).length := by simpa using hi
    simp [this])
  have hj : j < 9 := by have := (List.getElem?_eq_some_iff.1 hu).1; simpa [cells9] using this
  have h1 := hr.cell (i := j) (by simpa [cells9] using hj)
  rw [Wc.add_none, Nat.zero_add]
  refine h1.trans ?_
  rw [List.getD_eq_getElem?_getD, hu]; rfl

end Wb
