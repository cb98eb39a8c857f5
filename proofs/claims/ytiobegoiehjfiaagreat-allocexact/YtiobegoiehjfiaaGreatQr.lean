/-
  What it says that a slice holds a list of records, that it goes on holding it where nothing old has turned, and append to memory of the call's own. It speaks of no program.
-/
import Derived.Test.YtiobegoiehjfiaaGreatJF
import Derived.Test.YtiobegoiehjfiaaGreatJB
namespace Wi
open Go Go.RowKit

def cells8 (r : Wr.Rec) : List Value := [.int .i64 r.next, .int .i64 r.id, .int .i64 r.parent, .int .i64 r.root, .int .i64 r.size, .int .i64 r.kind, .int .i64 r.frames, .int .i64 r.digest]

/-- At the offset o of the block b lies the record r. -/
def Ra (w : World) (b o : Nat) (r : Wr.Rec) : Prop :=
  w.cell? ⟨b, o, none⟩ = some (.int .i64 r.next) ∧ w.cell? ⟨b, o + 1, none⟩ = some (.int .i64 r.id) ∧ w.cell? ⟨b, o + 2, none⟩ = some (.int .i64 r.parent) ∧ w.cell? ⟨b, o + 3, none⟩ = some (.int .i64 r.root) ∧
  w.cell? ⟨b, o + 4, none⟩ = some (.int .i64 r.size) ∧ w.cell? ⟨b, o + 5, none⟩ = some (.int .i64 r.kind) ∧ w.cell? ⟨b, o + 6, none⟩ = some (.int .i64 r.frames) ∧ w.cell? ⟨b, o + 7, none⟩ = some (.int .i64 r.digest)

/-- The slice value v holds the records l in the world w. -/
def Rs (w : World) (v : Value) (l : List Wr.Rec) : Prop :=
  ∃ a n cap, v = .slice a n cap ∧ l.length = n ∧ n ≤ cap ∧ cap ≤ 9223372036854775807 ∧ n ≤ 1099511627776 ∧
    (0 < n → ∃ b off, a = some ⟨b, off, none⟩ ∧ b < w.heap.size ∧ ∀ i, i < n → Ra w b (off + i * 8) (l.getD i Wr.r0))

theorem Ra.lt {w : World} {b o : Nat} {r : Wr.Rec} (h : Ra w b o r) : b < w.heap.size := Wc.cell_lt h.1
theorem Ra.keep {w w' : World} {b o : Nat} {r : Wr.Rec} (h : Ra w b o r) (hb : Below w.heap.size w w') : Ra w' b o r := by
  have hl := h.lt
  obtain ⟨h0, h1, h2, h3, h4, h5, h6, h7⟩ := h
  exact ⟨(hb.cell (p := ⟨b, o, none⟩) hl).trans h0, (hb.cell (p := ⟨b, o + 1, none⟩) hl).trans h1, (hb.cell (p := ⟨b, o + 2, none⟩) hl).trans h2, (hb.cell (p := ⟨b, o + 3, none⟩) hl).trans h3,
    (hb.cell (p := ⟨b, o + 4, none⟩) hl).trans h4, (hb.cell (p := ⟨b, o + 5, none⟩) hl).trans h5, (hb.cell (p := ⟨b, o + 6, none⟩) hl).trans h6, (hb.cell (p := ⟨b, o + 7, none⟩) hl).trans h7⟩

theorem Rs.keep {w w' : World} {v : Value} {l : List Wr.Rec} (h : Rs w v l) (hb : Below w.heap.size w w') : Rs w' v l := by
  obtain ⟨a, n, cap, h1, h2, h3, h4, h5, h6⟩ := h
  refine ⟨a, n, cap, h1, h2, h3, h4, h5, fun hn => ?_⟩
  obtain ⟨b, off, k1, k2, k3⟩ := h6 hn
  exact ⟨b, off, k1, Nat.lt_of_lt_of_le k2 hb.size, fun i hi => (k3 i hi).keep hb⟩
theorem Rs.nil (w : World) : Rs w (.slice none 0 0) [] := ⟨none, 0, 0, rfl, rfl, Nat.le_refl _, by omega, by omega, fun h => by omega⟩
theorem Rs.open {w : World} {v : Value} {l : List Wr.Rec} (h : Rs w v l) :
    (l = [] ∧ ∃ a cap, v = .slice a 0 cap ∧ cap ≤ 9223372036854775807) ∨
    ∃ b off n cap, v = .slice (some ⟨b, off, none⟩) n cap ∧ 0 < n ∧ l.length = n ∧ n ≤ cap ∧ cap ≤ 9223372036854775807 ∧ n ≤ 1099511627776 ∧ b < w.heap.size ∧
      ∀ i, i < n → Ra w b (off + i * 8) (l.getD i Wr.r0) := by
  obtain ⟨a, n, cap, rfl, h2, h3, h4, h5, h6⟩ := h
  by_cases hn : 0 < n
  · obtain ⟨b, off, rfl, k2, k3⟩ := h6 hn
    exact .inr ⟨b, off, n, cap, rfl, hn, h2, h3, h4, h5, k2, k3⟩
  · obtain rfl : n = 0 := by omega
    exact .inl ⟨List.eq_nil_of_length_eq_zero h2, a, cap, rfl, h4⟩
theorem rs_len {w : World} {a : Option Addr} {n cap : Nat} {l : List Wr.Rec} (h : Rs w (.slice a n cap) l) : l.length = n := by
  obtain ⟨_, _, _, h1, h2, _⟩ := h; cases h1; exact h2
theorem rs_drewN {w : World} {v : Value} {l : List Wr.Rec} (h : Rs w v l) (n : Nat) : Rs (w.drewN n) v l := h.keep (below_drewN (Below.refl _ _) n)

theorem flat8_length : ∀ l : List Wr.Rec, (l.flatMap cells8).length = l.length * 8
  | [] => rfl
  | q :: l => by simp [List.flatMap_cons, flat8_length l, cells8]; omega
theorem flat8_get : ∀ (l : List Wr.Rec) (i j : Nat) (hi : i < l.length), j < 8 → (l.flatMap cells8)[i * 8 + j]? = (cells8 l[i])[j]?
  | [], i, _, hi, _ => by simp at hi
  | q :: l, 0, j, _, hj => by
    rw [List.flatMap_cons, List.getElem?_append_left (by simp [cells8]; omega)]
    simp
  | q :: l, i + 1, j, hi, hj => by
    rw [List.flatMap_cons, List.getElem?_append_right (by simp [cells8]; omega)]
    have := flat8_get l i j (by simpa using hi) hj
    have e : (i + 1) * 8 + j - (cells8 q).length = i * 8 + j := by simp [cells8]; omega
    rw [e, this]
    simp

theorem ra_of_cells {w : World} {b o : Nat} {r : Wr.Rec} (h : ∀ j u, (cells8 r)[j]? = some u → w.cell? ⟨b, o + j, none⟩ = some u) : Ra w b o r :=
  ⟨by simpa using h 0 _ rfl, h 1 _ rfl, h 2 _ rfl, h 3 _ rfl, h 4 _ rfl, h 5 _ rfl, h 6 _ rfl, h 7 _ rfl⟩

/-- Memory of the call's own, from the block base on, that holds records: e is the number of their type. -/
def Or (e base : Nat) (w : World) (v : Value) (l : List Wr.Rec) : Prop := w.ownsRow base e 8 v l.length (l.flatMap cells8) ∧ l.length ≤ 1048576

theorem Or.nil (e base : Nat) (w : World) : Or e base w (.slice none 0 0) [] := ⟨World.ownsRow_nil _ _ _ _, by simp⟩
theorem Or.keep {e base : Nat} {w w' : World} {v : Value} {l : List Wr.Rec} (h : Or e base w v l) (hb : Below w.heap.size w w') : Or e base w' v l := by
  obtain ⟨h2, h3⟩ := h
  refine ⟨⟨h2.1, ?_⟩, h3⟩
  rcases h2.2 with hn | ⟨g, cap, cur, hv, hbg, hg, rest⟩
  · exact .inl hn
  · refine .inr ⟨g, cap, cur, hv, hbg, ?_, rest⟩
    rw [hb.block g (Array.getElem?_eq_some_iff.1 hg).1]
    exact hg
theorem Or.rs {e base : Nat} {w : World} {v : Value} {l : List Wr.Rec} (h : Or e base w v l) : Rs w v l := by
  obtain ⟨h2, h3⟩ := h
  rcases h2.2 with ⟨rfl, h0⟩ | ⟨g, cap, cur, rfl, hg, hh, k1, k2, k3, k4⟩
  · obtain rfl := List.eq_nil_of_length_eq_zero h0
    exact Rs.nil w
  · refine ⟨_, l.length, cap, rfl, rfl, k1, by unfold maxLen at k2; omega, by omega, fun h0 => ⟨g, 0, rfl, (Array.getElem?_eq_some_iff.1 hh).1, fun i hi => ?_⟩⟩
    rw [show l.getD i Wr.r0 = l[i] by simp [hi]]
    refine ra_of_cells (fun j u hu => ?_)
    have hj : j < 8 := by have := (List.getElem?_eq_some_iff.1 hu).1; simpa [cells8] using this
    have := h2.cells (g := g) rfl (i * 8 + j) u (by rw [flat8_get l i j hi hj]; exact hu)
    rw [Wc.add_none] at this
    rw [Nat.zero_add] at this ⊢
    exact this
theorem Or.slice {e base : Nat} {w : World} {v : Value} {l : List Wr.Rec} (h : Or e base w v l) : ∃ a c, v = .slice a l.length c := by
  obtain ⟨h2, h3⟩ := h
  rcases h2.2 with ⟨rfl, h0⟩ | ⟨g, cap, cur, rfl, hg, hh, k1, k2, k3, k4⟩
  · exact ⟨none, 0, by simp [h0]⟩
  · exact ⟨some ⟨g, 0, none⟩, cap, rfl⟩

/-- It stays where blocks of its type stay. -/
theorem Or.types {e base : Nat} {w w' : World} {v : Value} {l : List Wr.Rec} (h : Or e base w v l) (hb : ∀ (b : Nat) (cs : Array Value) (fr : Nat × Nat), w.heap[b]? = some (.cells cs e fr) → w'.heap[b]? = some (.cells cs e fr)) : Or e base w' v l := by
  obtain ⟨h2, h3⟩ := h
  refine ⟨⟨h2.1, ?_⟩, h3⟩
  rcases h2.2 with hn | ⟨g, cap, cur, hv, hbg, hg, rest⟩
  · exact .inl hn
  · exact .inr ⟨g, cap, cur, hv, hbg, hb _ _ _ hg, rest⟩
theorem ov_types {α : Type} {val : α → Value} {e base : Nat} {w w' : World} {v : Value} {l : List α} (h : Wv.Ov val e base w v l) (hb : ∀ (b : Nat) (cs : Array Value) (fr : Nat × Nat), w.heap[b]? = some (.cells cs e fr) → w'.heap[b]? = some (.cells cs e fr)) : Wv.Ov val e base w' v l := by
  obtain ⟨h2, h3⟩ := h
  refine ⟨⟨h2.1, ?_⟩, h3⟩
  rcases h2.2 with hn | ⟨g, cap, cur, hv, hbg, hg, rest⟩
  · exact .inl hn
  · exact .inr ⟨g, cap, cur, hv, hbg, hb _ _ _ hg, rest⟩

/-- A record is put behind memory of the call's own; blocks of other things, and younger ones, stay. -/
theorem append_rec {P : Program} {e t ty base bytes : Nat} {i : TypeInfo} {z : Value} {w0 w : World} {v : Value} {ad : Addr} {c : Nat} {l : List Wr.Rec} {r : Wr.Rec} (ht : P.underlying t = some (.slice e)) (hi : P.info? e = some i) (hz : i.zero = some z) (hsz : i.size = 8) (hby : i.bytes = bytes)
    (hzs : z.cells.size = 8) (h8 : bytes ≤ 64) (hv0 : Or e base w0 v l) (hk : Below w0.heap.size w0 w) (hu : ∀ j x, (cells8 r)[j]? = some x → w.cell? (ad.add j) = some x) (hl : l.length + 1 ≤ 1048576) (hbase : base ≤ w.heap.size) :
    ∃ a n c' w', Sem.run P (Builtin.append_ #[t, t] ty #[v, .slice (some ad) 1 c]) w = .ok (.slice a n c') w' ∧ Or e base w' (.slice a n c') (l ++ [r]) ∧ Below base w w' ∧
      (∀ (b : Nat) (cs : Array Value) (T : TypeId) (fr : Nat × Nat), w.heap[b]? = some (.cells cs T fr) → T ≠ e ∨ w0.heap.size ≤ b → w'.heap[b]? = some (.cells cs T fr)) := by
  have hv := hv0.keep hk
  obtain ⟨h2, h3⟩ := hv
  obtain ⟨v', w', k1, k2, k3, -⟩ := run_append_own (P := P) w base t ty e i z 8 bytes ht hi hz hsz hby hzs (by decide) v _ _ h2 ad 1 c (cells8 r) rfl hu (by
      intro x hx; simp only [cells8, List.mem_cons, List.not_mem_nil, or_false] at hx; rcases hx with rfl | rfl | rfl | rfl | rfl | rfl | rfl | rfl <;> rfl) (by unfold maxLen; omega) (by
        have := Nat.mul_le_mul_left (l.length + 1) h8
        omega) hbase
  have hO : Or e base w' v' (l ++ [r]) := by
    refine ⟨?_, by simpa using hl⟩
    have : (l ++ [r]).flatMap cells8 = l.flatMap cells8 ++ cells8 r := by simp
    rw [this]; simpa using k2
  obtain ⟨a, c', rfl⟩ := hO.slice
  refine ⟨a, _, c', w', k1, hO, (Below.refl _ _).grown k3 hbase (fun g hg => (h2.lt g hg).1), fun b cs T fr hb hT => ?_⟩
  refine (k3.block b (Array.getElem?_eq_some_iff.1 hb).1 (fun ee => ?_)).trans hb
  rcases hT with hT | hT
  · rcases h2.2 with ⟨rfl, _⟩ | ⟨g2, c2, cur2, rfl, _, hg2, _⟩
    · cases ee
    · have : b = g2 := by simpa [Value.ownBlock] using ee
      subst this
      rw [hb] at hg2
      cases hg2
      exact hT rfl
  · have := (hv0.1.lt b (by rw [ee])).2
    omega

/-- A record's cells, laid. -/
theorem lit8 (w : World) (r : Wr.Rec) (e g : Nat) (hg : g = w.heap.size) : ∀ j u, (cells8 r)[j]? = some u →
    (w.alloc (.cells #[.int .i64 r.next, .int .i64 r.id, .int .i64 r.parent, .int .i64 r.root, .int .i64 r.size, .int .i64 r.kind, .int .i64 r.frames, .int .i64 r.digest] e)).cell? ((⟨g, 0, none⟩ : Addr).add j) = some u := by
  subst hg
  intro j u hu
  have hr := World.rowIs_alloc w (cells8 r).toArray e (fun i => (cells8 r).getD i .nilFunc) (fun i hi => by
    have : i < (cells8 r).length := by simpa using hi
    simp [this])
  have hj : j < 8 := by have := (List.getElem?_eq_some_iff.1 hu).1; simpa [cells8] using this
  have h1 := hr.cell (i := j) (by simpa [cells8] using hj)
  rw [Wc.add_none, Nat.zero_add]
  refine h1.trans ?_
  rw [List.getD_eq_getElem?_getD, hu]; rfl

end Wi
