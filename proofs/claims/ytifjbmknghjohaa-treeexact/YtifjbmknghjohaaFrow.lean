/-
  What it says that a slice holds a list of things of one cell each, that it goes on holding it where nothing old has turned, and append to memory of the call's own. It speaks of no program.
-/
import Derived.WalkKit
import Derived.WalkSpells
import Derived.WalkLawsBesides
import Derived.Deep.OwnRows
import Derived.Deep.Slices
import Derived.OpenShut
import Derived.Laws.IdiomStrings
import Derived.Laws.FloatArith
namespace Wv
open Go Go.RowKit

theorem hid {p : Prop} (h : p) : Hid p := h

theorem add_none (g o j : Nat) : (⟨g, o, none⟩ : Addr).add j = ⟨g, o + j, none⟩ := by
  unfold Addr.add; split <;> simp_all

section
variable {α : Type} {val : α → Value} {d : α}

/-- The slice value v holds the things xs in the world w: val tells the cell of a thing. -/
def Rv (val : α → Value) (d : α) (w : World) (v : Value) (xs : List α) : Prop :=
  ∃ a n cap, v = .slice a n cap ∧ xs.length = n ∧ n ≤ cap ∧ cap ≤ 9223372036854775807 ∧ n ≤ 17592186044416 ∧
    (0 < n → ∃ b off, a = some ⟨b, off, none⟩ ∧ b < w.heap.size ∧ ∀ i, i < n → w.cell? ⟨b, off + i, none⟩ = some (val (xs.getD i d)))

theorem Rv.keep {w w' : World} {v : Value} {xs : List α} (h : Rv val d w v xs) (hb : Below w.heap.size w w') : Rv val d w' v xs := by
  obtain ⟨a, n, cap, h1, h2, h3, h4, h5, h7⟩ := h
  refine ⟨a, n, cap, h1, h2, h3, h4, h5, fun hn => ?_⟩
  obtain ⟨b, off, ha, hlt, hc⟩ := h7 hn
  exact ⟨b, off, ha, Nat.lt_of_lt_of_le hlt hb.size, fun i hi => (hb.cell (p := ⟨b, off + i, none⟩) hlt).trans (hc i hi)⟩

theorem Rv.nil (w : World) : Rv val d w (.slice none 0 0) [] := ⟨none, 0, 0, rfl, rfl, Nat.le_refl _, by omega, by omega, by omega⟩

theorem Rv.open {w : World} {v : Value} {xs : List α} (h : Rv val d w v xs) :
    (xs = [] ∧ ∃ a cap, v = .slice a 0 cap ∧ cap ≤ 9223372036854775807) ∨
    ∃ b off n cap, v = .slice (some ⟨b, off, none⟩) n cap ∧ 0 < n ∧ xs.length = n ∧ n ≤ cap ∧ cap ≤ 9223372036854775807 ∧ n ≤ 17592186044416 ∧ b < w.heap.size ∧
      ∀ i, i < n → w.cell? ⟨b, off + i, none⟩ = some (val (xs.getD i d)) := by
  obtain ⟨a, n, cap, h1, h2, h3, h4, h5, h7⟩ := h
  rcases Nat.eq_zero_or_pos n with h0 | h0
  · subst h0
    exact .inl ⟨List.eq_nil_of_length_eq_zero h2, a, cap, h1, h4⟩
  · obtain ⟨b, off, ha, hlt, hc⟩ := h7 h0
    subst ha
    exact .inr ⟨b, off, n, cap, h1, h0, h2, h3, h4, h5, hlt, hc⟩

/-- A row of the call's own holds things. -/
theorem Rv.own {w : World} {base e : Nat} {v : Value} {n : Nat} {xs : List α} (h : w.ownsRow base e 1 v n (xs.map val)) (hn : n ≤ 17592186044416) : Rv val d w v xs := by
  have hl : xs.length = n := by have := h.1; simpa using this
  rcases h.2 with ⟨rfl, h0⟩ | ⟨g, cap, cur, rfl, hg, hh, h1, h2, h3, h4⟩
  · subst h0
    obtain rfl := List.eq_nil_of_length_eq_zero hl
    exact Rv.nil w
  · refine ⟨_, n, cap, rfl, hl, h1, by unfold maxLen at h2; omega, hn, fun h0 => ⟨g, 0, rfl, (Array.getElem?_eq_some_iff.1 hh).1, fun i hi => ?_⟩⟩
    have := h.cells (g := g) rfl i (val (xs.getD i d)) (by simp [hl, hi])
    rw [add_none] at this
    simpa using this

/-- New cells hold things. -/
theorem Rv.lit (w : World) (cs : Array Value) (e n : Nat) (xs : List α) (hn : xs.length = n) (hm : n ≤ 17592186044416) (hc : cs.toList = xs.map val) :
    Rv val d (w.alloc (.cells cs e)) (.slice (some ⟨w.heap.size, 0, none⟩) n n) xs := by
  refine ⟨_, n, n, rfl, hn, Nat.le_refl _, by omega, hm, fun _ => ⟨w.heap.size, 0, rfl, by simp, fun i hi => ?_⟩⟩
  have hsz : cs.size = n := by rw [← Array.length_toList, hc]; simpa using hn
  have hr := World.rowIs_alloc w cs e (fun i => val (xs.getD i d)) (fun i hi => by
    rw [← Array.getElem?_toList, hc]; simp [hn, ← hsz, hi])
  rw [Nat.zero_add]
  exact hr.cell (by omega)

theorem cell_lt {w : World} {b o : Nat} {u : Value} (h : w.cell? ⟨b, o, none⟩ = some u) : b < w.heap.size := by
  rcases Nat.lt_or_ge b w.heap.size with h1 | h1
  · exact h1
  · have : w.heap[b]? = none := Array.getElem?_eq_none h1
    simp [World.cell?, this] at h

/-- A slice that came in: nil, or a row whose first cells are known. -/
def IsRowV (val : α → Value) (d : α) (w : World) (a : Option Addr) (len cap : Nat) (zs : List α) : Prop :=
  (a = none ∧ len = 0 ∧ cap = 0 ∧ zs = []) ∨
  ∃ x, a = some x ∧ len ≤ cap ∧ cap ≤ maxLen ∧ zs.length = len ∧ ∀ i, i < len → w.cell? (x.add i) = some (val (zs.getD i d))

theorem Rv.of_row {w : World} {a : Option Addr} {len cap : Nat} {zs : List α} (hlen : len ≤ 17592186044416) (h : IsRowV val d w a len cap zs) : Rv val d w (.slice a len cap) zs := by
  rcases h with ⟨rfl, rfl, rfl, rfl⟩ | ⟨⟨b, off, spot⟩, rfl, h1, h2, h3, h4⟩
  · exact Rv.nil w
  · refine ⟨_, len, cap, rfl, h3, h1, by unfold maxLen at h2; omega, hlen, fun h0 => ?_⟩
    have hspot : spot = none := by simpa [Addr.add] using World.cell?_spot (h4 0 h0)
    subst hspot
    refine ⟨b, off, rfl, ?_, fun i hi => ?_⟩
    · have := h4 0 h0
      rw [add_none] at this
      exact cell_lt this
    · rw [← add_none]; exact h4 i hi

theorem rv_len {w : World} {a : Option Addr} {n cap : Nat} {xs : List α} (h : Rv val d w (.slice a n cap) xs) : xs.length = n := by
  obtain ⟨a, n', cap', h1, h2, _⟩ := h
  cases h1
  exact h2

theorem rv_cells {w : World} {b off n cap : Nat} {xs : List α} (h : Rv val d w (.slice (some ⟨b, off, none⟩) n cap) xs) (h0 : 0 < n) : xs.length = n ∧ ∀ i, i < n → w.cell? ⟨b, off + i, none⟩ = some (val (xs.getD i d)) := by
  obtain ⟨a, n', cap', h1, h2, h3, h4, h5, h7⟩ := h
  cases h1
  obtain ⟨b', off', ha, hb, hc⟩ := h7 h0
  cases ha
  exact ⟨h2, hc⟩

theorem rv_mid {w : World} {b off n cap : Nat} {xs : List α} (h : Rv val d w (.slice (some ⟨b, off, none⟩) n cap) xs) (j t c : Nat) (hk : j + t ≤ n) (hc : t ≤ c) (hc2 : c ≤ 9223372036854775807) : Rv val d w (.slice (some ⟨b, off + j, none⟩) t c) ((xs.drop j).take t) := by
  obtain ⟨a, n', cap', h1, h2, h3, h4, h5, h7⟩ := h
  cases h1
  refine ⟨_, t, c, rfl, by simp; omega, hc, hc2, by omega, fun h0 => ?_⟩
  obtain ⟨b', off', ha, hb, hc⟩ := h7 (by omega)
  cases ha
  refine ⟨b, off + j, rfl, hb, fun i hi => ?_⟩
  rw [Nat.add_assoc, hc (j + i) (by omega)]
  simp [hi]

theorem rv_drewN {w : World} {v : Value} {xs : List α} (h : Rv val d w v xs) (n : Nat) : Rv val d (w.drewN n) v xs := h.keep (below_drewN (Below.refl _ _) n)

/-- A slice that is nil, or has an address. -/
def Shaped (v : Value) : Prop := v = .slice none 0 0 ∨ ∃ ad n cap, v = .slice (some ad) n cap

theorem Shaped.of_row {w : World} {a : Option Addr} {len cap : Nat} {zs : List α} (h : IsRowV val d w a len cap zs) : Shaped (.slice a len cap) := by
  rcases h with ⟨rfl, rfl, rfl, -⟩ | ⟨x, rfl, -⟩
  · exact .inl rfl
  · exact .inr ⟨x, len, cap, rfl⟩

/-- Memory of the call's own, from the block base on, that holds things: e is the number of their type, z their nought. -/
def Ov (val : α → Value) (e base : Nat) (w : World) (v : Value) (xs : List α) : Prop :=
  w.ownsRow base e 1 v xs.length (xs.map val) ∧ xs.length ≤ 17592186044416

theorem Ov.nil (e base : Nat) (w : World) : Ov val e base w (.slice none 0 0) [] := ⟨World.ownsRow_nil _ _ _ _, by simp⟩

theorem Ov.rv {e base : Nat} {w : World} {v : Value} {xs : List α} (h : Ov val e base w v xs) : Rv val d w v xs := Rv.own h.1 h.2

theorem Ov.shaped {e base : Nat} {w : World} {v : Value} {xs : List α} (h : Ov val e base w v xs) : Shaped v := by
  rcases h.1.2 with ⟨rfl, _⟩ | ⟨g, cap, cur, rfl, _⟩
  · exact .inl rfl
  · exact .inr ⟨_, _, _, rfl⟩

/-- It stays where nothing that was there has turned. -/
theorem Ov.keep {e base : Nat} {w w' : World} {v : Value} {xs : List α} (h : Ov val e base w v xs) (hb : Below w.heap.size w w') : Ov val e base w' v xs := by
  refine ⟨⟨h.1.1, ?_⟩, h.2⟩
  rcases h.1.2 with hn | ⟨g, cap, cur, hv, hbg, hg, rest⟩
  · exact .inl hn
  · refine .inr ⟨g, cap, cur, hv, hbg, ?_, rest⟩
    rw [hb.block g (Array.getElem?_eq_some_iff.1 hg).1]
    exact hg

/-- Things are put behind memory of the call's own. -/
theorem append_run {P : Program} {e t ty base bytes : Nat} {i : TypeInfo} {z : Value} {w : World} {v u : Value} {xs ys : List α} (ht : P.underlying t = some (.slice e)) (hi : P.info? e = some i) (hz : i.zero = some z) (hsz : i.size = 1) (hby : i.bytes = bytes)
    (hzs : z.cells.size = 1) (h8 : bytes ≤ 8) (h1 : ∀ x : α, (val x).oneCell' = true)
    (hv : Ov val e base w v xs) (hu : Rv val d w u ys) (hs : Shaped u) (hl : xs.length + ys.length ≤ 17592186044416) (hbase : base ≤ w.heap.size) :
    ∃ v' w', Sem.run P (Builtin.append_ #[t, t] ty #[v, u]) w = .ok v' w' ∧ Ov val e base w' v' (xs ++ ys) ∧ Below base w w' := by
  rcases hs with rfl | ⟨ad, n, cap, rfl⟩
  · have hr := run_append_owned_none (P := P) w base t ty e i 1 ht hi v _ _ hv.1
    have h0 := rv_len hu
    obtain rfl := List.eq_nil_of_length_eq_zero h0
    exact ⟨_, _, hr, by rw [List.append_nil]; exact hv, Below.refl _ _⟩
  · have h0 := rv_len hu
    obtain ⟨v', w', k1, k2, k3, k4⟩ := run_append_own (P := P) w base t ty e i z 1 bytes ht hi hz hsz hby hzs (by decide) v _ _ hv.1 ad n cap (ys.map val) (by simpa using h0) (by
        intro j c hj
        have hjn : j < n := by have := (List.getElem?_eq_some_iff.1 hj).1; simpa [h0] using this
        rcases hu.open with ⟨_, a', cap', h, _⟩ | ⟨b, off, n', cap', h, _, _, _, _, _, _, hc⟩
        · cases h; omega
        · cases h
          rw [add_none, hc j hjn]; simpa [h0, hjn] using hj) (by
        intro c hc; obtain ⟨x, _, rfl⟩ := List.mem_map.1 hc; exact h1 x) (by unfold maxLen; omega) (by
          have := Nat.mul_le_mul_left (xs.length + n) h8
          omega) hbase
    refine ⟨v', w', k1, ⟨by simpa [h0] using k2, by simpa using hl⟩, ?_⟩
    exact (Below.refl _ _).grown k3 hbase (fun g hg => (hv.1.lt g hg).1)
end

/-- The walk over an append whose run is known; it may stand behind a guard that is met. -/
theorem wp_append {P : Program} {w w' : World} {ops : Array Oper} {rest : List Oper} {o : Oper} {a : Act} {Q : Exit → Act → World → Prop} {s x : Operand} {t : TypeId} {v u v' : Value}
    (hrun : Sem.run P (Builtin.append_ #[t, t] o.type #[v, u]) w = .ok v' w') (hw : Region.wanted o (yielded ops a.tmps) = true)
    (ho : o.op = .call { callee := .builtin .append, args := #[s, x], argTypes := #[t, t] }) (hs : a.eval s = v) (hx : a.eval x = u)
    (h : wpList P ops Q rest (a.put o.dst v') w') : wpList P ops Q (o :: rest) a w := by
  refine wpList_step fun K hK => ?_
  rw [if_pos hw]
  unfold Oper.wp
  simp [execOp, ho, resolve, invoke, builtin, hs, hx, hrun, Result.andThen]
  exact hK _ _ h

/-- A call behind what has been done so far. -/
theorem step {B : Nat} {a b c : World} (h : Below B a b) (hB : B ≤ a.heap.size) (k : Below b.heap.size b c) : Below B a c :=
  h.trans (k.mono (Nat.le_trans hB h.size))

/-- The cell of a float64. -/
def fl (x : Nat) : Value := .float .f64 x

/-- A slice of floats that came in. -/
theorem open_floats {H : Type} {enc : TypeId × Value → H} {P : Program} {w : World} {base : Nat} {spare : Nat → Bool} {held : Bool} {t e : TypeId} {fuel : Nat} {a : Option Addr} {len cap : Nat} {x : DataW H × List MemPlace}
    (ht : P.underlying t = some (.slice e)) (he : P.underlying e = some (.float .f64)) (hc : P.cellsOf e = 1) (h : DataW.trod enc P w base spare held fuel t [.slice a len cap] = some x) :
    ∃ zs : List Nat, IsRowV fl 0 w a len cap zs ∧ ∀ z ∈ zs, z < 18446744073709551616 := by
  rcases Deep.open_slice1 ht hc h with ⟨h0, _⟩ | ⟨ad, len', cap', m, n, V, D, Pl, h0, hb, hl, hm, hmm, -, hx⟩
  · simp at h0
    obtain ⟨rfl, rfl, rfl⟩ := h0
    exact ⟨[], .inl ⟨rfl, rfl, rfl, rfl⟩, by simp⟩
  · simp at h0
    obtain ⟨rfl, rfl, rfl⟩ := h0
    have hlm : len ≤ m := by rw [hmm]; split <;> omega
    have each : ∀ i, i < len → ∃ z : Nat, V i = fl z ∧ z < 18446744073709551616 := fun i hi => by
      have h2 := (hx i (by omega)).2
      cases n with
      | zero => simp [DataW.trod] at h2
      | succ n =>
        cases hV : V i <;> rw [hV] at h2 <;> simp [DataW.trod, he] at h2
        rename_i k b
        obtain ⟨⟨rfl, hw⟩, -⟩ := h2
        exact ⟨b, rfl, by simpa [Lit.wf] using hw⟩
    obtain ⟨Z, hZ⟩ := Deep.choose_lt each
    refine ⟨(List.range len).map Z, .inr ⟨ad, rfl, hl, hm, by simp, fun i hi => ?_⟩, ?_⟩
    · rw [(hx i (by omega)).1, (hZ i hi).1]
      simp [hi]
    · intro z hz
      obtain ⟨i, hi, rfl⟩ := List.mem_map.1 hz
      exact (hZ i (List.mem_range.1 hi)).2

end Wv
