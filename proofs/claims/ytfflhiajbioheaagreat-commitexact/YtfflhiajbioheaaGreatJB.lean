/-
  What it says that a slice holds a list of things of one cell each, that it goes on holding it where nothing old has turned, and append to memory of the call's own. It speaks of no program.
  What it says that a slice of steps holds a list of them, and that it goes on holding it where nothing old has turned; what a device is. It speaks of no program.
  What the small functions of package dev, of the page and of keep return, for every input.
  What dev.flushed returns, for every list of steps: the place behind the last flush. It ranges over slices.Backward.
  What dev.flushed returns, for every list of steps: the place behind the last flush.
  What dev.Steps, the page's Steps and the statements' Heavy return, for every device and every list of steps.
  What the page's Steps returns, for every device and every list of steps.
  Copying into memory of the call's own: what dev.copied, dev.write, dev.writeAll leave.
  What dev.writeAll leaves of a device; parts of slices of steps.
  What dev.Apply, dev.Read, the page's Block return, for every input.
  Devices, steps and bools that came in, whatever their length. It speaks of no program.
  What the statements' Heavy returns, whatever came in.
  What keep.Ints, keep.Ios, keep.TwinIos and dev.Flushes return, for every input.
  Memory of the call's own that holds steps, and append to it; what keep.TwinIos and keep.Ios return.
  What keep.Ios returns of two slices that hold the same steps.
  What dev.Crash returns, for every input.
  What dev.Crash returns, for every input, errors and all.
-/
import Derived.WalkKit
import Derived.WalkSpells
import Derived.WalkLawsBesides
import Derived.Deep.OwnRows
import Derived.Deep.Slices
import Derived.OpenShut
import Derived.Laws.IdiomStrings
import Derived.Laws.FloatArith
import Derived.Test.YtfflhiajbioheaaGreatJA
import Derived.Test.YtfflhiajbioheaaGreatRows
import Derived.Deep.QuietTactic
import Derived.BigQuiet
import Derived.RangeFuncNested
import Derived.RangeFuncLeaves
import Derived.Shelf.Abstract
import Derived.OwnWalkIn
import Derived.TacticsInMore
import Derived.LoopNIn
import Derived.LoopIn
import Derived.Laws.CopyOwn
import Derived.Deep.RegionHeld3
import Derived.Deep.Strs
namespace Wv
open Go Go.RowKit

theorem hid {p : Prop} (h : p) : Hid p := h

theorem add_none (g o j : Nat) : (⟨g, o, none⟩ : Addr).add j = ⟨g, o + j, none⟩ := by
  unfold Addr.add; split <;> simp_all

section
variable {α : Type} {val : α → Value} {d : α}

/-- The slice value v holds the things xs in the world w: val tells the cell of a thing. -/
def Rv (val : α → Value) (d : α) (w : World) (v : Value) (xs : List α) : Prop :=
  ∃ a n cap, v = .slice a n cap ∧ xs.length = n ∧ n ≤ cap ∧ cap ≤ 9223372036854775807 ∧ n ≤ 17592186044416 ∧
    (0 < n → ∃ b off, a = some ⟨b, off, none⟩ ∧ b < w.heap.size ∧ ∀ i, i < n → w.cell? ⟨b, off + i, none⟩ = some (val (xs.getD i d)))

theorem Rv.keep {w w' : World} {v : Value} {xs : List α} (h : Rv val d w v xs) (hb : Below w.heap.size w w') : Rv val d w' v xs := by
  obtain ⟨a, n, cap, h1, h2, h3, h4, h5, h7⟩ := h
  refine ⟨a, n, cap, h1, h2, h3, h4, h5, fun hn => ?_⟩
  obtain ⟨b, off, ha, hlt, hc⟩ := h7 hn
  exact ⟨b, off, ha, Nat.lt_of_lt_of_le hlt hb.size, fun i hi => (hb.cell (p := ⟨b, off + i, none⟩) hlt).trans (hc i hi)⟩

theorem Rv.nil (w : World) : Rv val d w (.slice none 0 0) [] := ⟨none, 0, 0, rfl, rfl, Nat.le_refl _, by omega, by omega, by omega⟩

theorem Rv.open {w : World} {v : Value} {xs : List α} (h : Rv val d w v xs) :
    (xs = [] ∧ ∃ a cap, v = .slice a 0 cap ∧ cap ≤ 9223372036854775807) ∨
    ∃ b off n cap, v = .slice (some ⟨b, off, none⟩) n cap ∧ 0 < n ∧ xs.length = n ∧ n ≤ cap ∧ cap ≤ 9223372036854775807 ∧ n ≤ 17592186044416 ∧ b < w.heap.size ∧
      ∀ i, i < n → w.cell? ⟨b, off + i, none⟩ = some (val (xs.getD i d)) := by
  obtain ⟨a, n, cap, h1, h2, h3, h4, h5, h7⟩ := h
  rcases Nat.eq_zero_or_pos n with h0 | h0
  · subst h0
    exact .inl ⟨List.eq_nil_of_length_eq_zero h2, a, cap, h1, h4⟩
  · obtain ⟨b, off, ha, hlt, hc⟩ := h7 h0
    subst ha
    exact .inr ⟨b, off, n, cap, h1, h0, h2, h3, h4, h5, hlt, hc⟩

/-- A row of the call's own holds things. -/
theorem Rv.own {w : World} {base e : Nat} {v : Value} {n : Nat} {xs : List α} (h : w.ownsRow base e 1 v n (xs.map val)) (hn : n ≤ 17592186044416) : Rv val d w v xs := by
  have hl : xs.length = n := by have := h.1; simpa using this
  rcases h.2 with ⟨rfl, h0⟩ | ⟨g, cap, cur, rfl, hg, hh, h1, h2, h3, h4⟩
  · subst h0
    obtain rfl := List.eq_nil_of_length_eq_zero hl
    exact Rv.nil w
  · refine ⟨_, n, cap, rfl, hl, h1, by unfold maxLen at h2; omega, hn, fun h0 => ⟨g, 0, rfl, (Array.getElem?_eq_some_iff.1 hh).1, fun i hi => ?_⟩⟩
    have := h.cells (g := g) rfl i (val (xs.getD i d)) (by simp [hl, hi])
    rw [add_none] at this
    simpa using this

/-- New cells hold things. -/
theorem Rv.lit (w : World) (cs : Array Value) (e n : Nat) (xs : List α) (hn : xs.length = n) (hm : n ≤ 17592186044416) (hc : cs.toList = xs.map val) :
    Rv val d (w.alloc (.cells cs e)) (.slice (some ⟨w.heap.size, 0, none⟩) n n) xs := by
  refine ⟨_, n, n, rfl, hn, Nat.le_refl _, by omega, hm, fun _ => ⟨w.heap.size, 0, rfl, by simp, fun i hi => ?_⟩⟩
  have hsz : cs.size = n := by rw [← Array.length_toList, hc]; simpa using hn
  have hr := World.rowIs_alloc w cs e (fun i => val (xs.getD i d)) (fun i hi => by
    rw [← Array.getElem?_toList, hc]; simp [hn, ← hsz, hi])
  rw [Nat.zero_add]
  exact hr.cell (by omega)

theorem cell_lt {w : World} {b o : Nat} {u : Value} (h : w.cell? ⟨b, o, none⟩ = some u) : b < w.heap.size := by
  rcases Nat.lt_or_ge b w.heap.size with h1 | h1
  · exact h1
  · have : w.heap[b]? = none := Array.getElem?_eq_none h1
    simp [World.cell?, this] at h

/-- A slice that came in: nil, or a row whose first cells are known. -/
def IsRowV (val : α → Value) (d : α) (w : World) (a : Option Addr) (len cap : Nat) (zs : List α) : Prop :=
  (a = none ∧ len = 0 ∧ cap = 0 ∧ zs = []) ∨
  ∃ x, a = some x ∧ len ≤ cap ∧ cap ≤ maxLen ∧ zs.length = len ∧ ∀ i, i < len → w.cell? (x.add i) = some (val (zs.getD i d))

theorem Rv.of_row {w : World} {a : Option Addr} {len cap : Nat} {zs : List α} (hlen : len ≤ 17592186044416) (h : IsRowV val d w a len cap zs) : Rv val d w (.slice a len cap) zs := by
  rcases h with ⟨rfl, rfl, rfl, rfl⟩ | ⟨⟨b, off, spot⟩, rfl, h1, h2, h3, h4⟩
  · exact Rv.nil w
  · refine ⟨_, len, cap, rfl, h3, h1, by unfold maxLen at h2; omega, hlen, fun h0 => ?_⟩
    have hspot : spot = none := by simpa [Addr.add] using World.cell?_spot (h4 0 h0)
    subst hspot
    refine ⟨b, off, rfl, ?_, fun i hi => ?_⟩
    · have := h4 0 h0
      rw [add_none] at this
      exact cell_lt this
    · rw [← add_none]; exact h4 i hi

theorem rv_len {w : World} {a : Option Addr} {n cap : Nat} {xs : List α} (h : Rv val d w (.slice a n cap) xs) : xs.length = n := by
  obtain ⟨a, n', cap', h1, h2, _⟩ := h
  cases h1
  exact h2

theorem rv_cells {w : World} {b off n cap : Nat} {xs : List α} (h : Rv val d w (.slice (some ⟨b, off, none⟩) n cap) xs) (h0 : 0 < n) : xs.length = n ∧ ∀ i, i < n → w.cell? ⟨b, off + i, none⟩ = some (val (xs.getD i d)) := by
  obtain ⟨a, n', cap', h1, h2, h3, h4, h5, h7⟩ := h
  cases h1
  obtain ⟨b', off', ha, hb, hc⟩ := h7 h0
  cases ha
  exact ⟨h2, hc⟩

theorem rv_mid {w : World} {b off n cap : Nat} {xs : List α} (h : Rv val d w (.slice (some ⟨b, off, none⟩) n cap) xs) (j t c : Nat) (hk : j + t ≤ n) (hc : t ≤ c) (hc2 : c ≤ 9223372036854775807) : Rv val d w (.slice (some ⟨b, off + j, none⟩) t c) ((xs.drop j).take t) := by
  obtain ⟨a, n', cap', h1, h2, h3, h4, h5, h7⟩ := h
  cases h1
  refine ⟨_, t, c, rfl, by simp; omega, hc, hc2, by omega, fun h0 => ?_⟩
  obtain ⟨b', off', ha, hb, hc⟩ := h7 (by omega)
  cases ha
  refine ⟨b, off + j, rfl, hb, fun i hi => ?_⟩
  rw [Nat.add_assoc, hc (j + i) (by omega)]
  simp [hi]

theorem rv_drewN {w : World} {v : Value} {xs : List α} (h : Rv val d w v xs) (n : Nat) : Rv val d (w.drewN n) v xs := h.keep (below_drewN (Below.refl _ _) n)

/-- A slice that is nil, or has an address. -/
def Shaped (v : Value) : Prop := v = .slice none 0 0 ∨ ∃ ad n cap, v = .slice (some ad) n cap

theorem Shaped.of_row {w : World} {a : Option Addr} {len cap : Nat} {zs : List α} (h : IsRowV val d w a len cap zs) : Shaped (.slice a len cap) := by
  rcases h with ⟨rfl, rfl, rfl, -⟩ | ⟨x, rfl, -⟩
  · exact .inl rfl
  · exact .inr ⟨x, len, cap, rfl⟩

/-- Memory of the call's own, from the block base on, that holds things: e is the number of their type, z their nought. -/
def Ov (val : α → Value) (e base : Nat) (w : World) (v : Value) (xs : List α) : Prop :=
  w.ownsRow base e 1 v xs.length (xs.map val) ∧ xs.length ≤ 17592186044416

theorem Ov.nil (e base : Nat) (w : World) : Ov val e base w (.slice none 0 0) [] := ⟨World.ownsRow_nil _ _ _ _, by simp⟩

theorem Ov.rv {e base : Nat} {w : World} {v : Value} {xs : List α} (h : Ov val e base w v xs) : Rv val d w v xs := Rv.own h.1 h.2

theorem Ov.shaped {e base : Nat} {w : World} {v : Value} {xs : List α} (h : Ov val e base w v xs) : Shaped v := by
  rcases h.1.2 with ⟨rfl, _⟩ | ⟨g, cap, cur, rfl, _⟩
  · exact .inl rfl
  · exact .inr ⟨_, _, _, rfl⟩

/-- It stays where nothing that was there has turned. -/
theorem Ov.keep {e base : Nat} {w w' : World} {v : Value} {xs : List α} (h : Ov val e base w v xs) (hb : Below w.heap.size w w') : Ov val e base w' v xs := by
  refine ⟨⟨h.1.1, ?_⟩, h.2⟩
  rcases h.1.2 with hn | ⟨g, cap, cur, hv, hbg, hg, rest⟩
  · exact .inl hn
  · refine .inr ⟨g, cap, cur, hv, hbg, ?_, rest⟩
    rw [hb.block g (Array.getElem?_eq_some_iff.1 hg).1]
    exact hg

/-- Things are put behind memory of the call's own. -/
theorem append_run {P : Program} {e t ty base bytes : Nat} {i : TypeInfo} {z : Value} {w : World} {v u : Value} {xs ys : List α} (ht : P.underlying t = some (.slice e)) (hi : P.info? e = some i) (hz : i.zero = some z) (hsz : i.size = 1) (hby : i.bytes = bytes)
    (hzs : z.cells.size = 1) (h8 : bytes ≤ 8) (h1 : ∀ x : α, (val x).oneCell' = true)
    (hv : Ov val e base w v xs) (hu : Rv val d w u ys) (hs : Shaped u) (hl : xs.length + ys.length ≤ 17592186044416) (hbase : base ≤ w.heap.size) :
    ∃ v' w', Sem.run P (Builtin.append_ #[t, t] ty #[v, u]) w = .ok v' w' ∧ Ov val e base w' v' (xs ++ ys) ∧ Below base w w' := by
  rcases hs with rfl | ⟨ad, n, cap, rfl⟩
  · have hr := run_append_owned_none (P := P) w base t ty e i 1 ht hi v _ _ hv.1
    have h0 := rv_len hu
    obtain rfl := List.eq_nil_of_length_eq_zero h0
    exact ⟨_, _, hr, by rw [List.append_nil]; exact hv, Below.refl _ _⟩
  · have h0 := rv_len hu
    obtain ⟨v', w', k1, k2, k3, k4⟩ := run_append_own (P := P) w base t ty e i z 1 bytes ht hi hz hsz hby hzs (by decide) v _ _ hv.1 ad n cap (ys.map val) (by simpa using h0) (by
        intro j c hj
        have hjn : j < n := by have := (List.getElem?_eq_some_iff.1 hj).1; simpa [h0] using this
        rcases hu.open with ⟨_, a', cap', h, _⟩ | ⟨b, off, n', cap', h, _, _, _, _, _, _, hc⟩
        · cases h; omega
        · cases h
          rw [add_none, hc j hjn]; simpa [h0, hjn] using hj) (by
        intro c hc; obtain ⟨x, _, rfl⟩ := List.mem_map.1 hc; exact h1 x) (by unfold maxLen; omega) (by
          have := Nat.mul_le_mul_left (xs.length + n) h8
          omega) hbase
    refine ⟨v', w', k1, ⟨by simpa [h0] using k2, by simpa using hl⟩, ?_⟩
    exact (Below.refl _ _).grown k3 hbase (fun g hg => (hv.1.lt g hg).1)
end

/-- The walk over an append whose run is known; it may stand behind a guard that is met. -/
theorem wp_append {P : Program} {w w' : World} {ops : Array Oper} {rest : List Oper} {o : Oper} {a : Act} {Q : Exit → Act → World → Prop} {s x : Operand} {t : TypeId} {v u v' : Value}
    (hrun : Sem.run P (Builtin.append_ #[t, t] o.type #[v, u]) w = .ok v' w') (hw : Region.wanted o (yielded ops a.tmps) = true)
    (ho : o.op = .call { callee := .builtin .append, args := #[s, x], argTypes := #[t, t] }) (hs : a.eval s = v) (hx : a.eval x = u)
    (h : wpList P ops Q rest (a.put o.dst v') w') : wpList P ops Q (o :: rest) a w := by
  refine wpList_step fun K hK => ?_
  rw [if_pos hw]
  unfold Oper.wp
  simp [execOp, ho, resolve, invoke, builtin, hs, hx, hrun, Result.andThen]
  exact hK _ _ h

/-- A call behind what has been done so far. -/
theorem step {B : Nat} {a b c : World} (h : Below B a b) (hB : B ≤ a.heap.size) (k : Below b.heap.size b c) : Below B a c :=
  h.trans (k.mono (Nat.le_trans hB h.size))

/-- The cell of a float64. -/
def fl (x : Nat) : Value := .float .f64 x

/-- A slice of floats that came in. -/
theorem open_floats {H : Type} {enc : TypeId × Value → H} {P : Program} {w : World} {base : Nat} {spare : Nat → Bool} {held : Bool} {t e : TypeId} {fuel : Nat} {a : Option Addr} {len cap : Nat} {x : DataW H × List MemPlace}
    (ht : P.underlying t = some (.slice e)) (he : P.underlying e = some (.float .f64)) (hc : P.cellsOf e = 1) (h : DataW.trod enc P w base spare held fuel t [.slice a len cap] = some x) :
    ∃ zs : List Nat, IsRowV fl 0 w a len cap zs ∧ ∀ z ∈ zs, z < 18446744073709551616 := by
  rcases Deep.open_slice1 ht hc h with ⟨h0, _⟩ | ⟨ad, len', cap', m, n, V, D, Pl, h0, hb, hl, hm, hmm, -, hx⟩
  · simp at h0
    obtain ⟨rfl, rfl, rfl⟩ := h0
    exact ⟨[], .inl ⟨rfl, rfl, rfl, rfl⟩, by simp⟩
  · simp at h0
    obtain ⟨rfl, rfl, rfl⟩ := h0
    have hlm : len ≤ m := by rw [hmm]; split <;> omega
    have each : ∀ i, i < len → ∃ z : Nat, V i = fl z ∧ z < 18446744073709551616 := fun i hi => by
      have h2 := (hx i (by omega)).2
      cases n with
      | zero => simp [DataW.trod] at h2
      | succ n =>
        cases hV : V i <;> rw [hV] at h2 <;> simp [DataW.trod, he] at h2
        rename_i k b
        obtain ⟨⟨rfl, hw⟩, -⟩ := h2
        exact ⟨b, rfl, by simpa [Lit.wf] using hw⟩
    obtain ⟨Z, hZ⟩ := Deep.choose_lt each
    refine ⟨(List.range len).map Z, .inr ⟨ad, rfl, hl, hm, by simp, fun i hi => ?_⟩, ?_⟩
    · rw [(hx i (by omega)).1, (hZ i hi).1]
      simp [hi]
    · intro z hz
      obtain ⟨i, hi, rfl⟩ := List.mem_map.1 hz
      exact (hZ i (List.mem_range.1 hi)).2

end Wv
namespace Wd
open Go Go.RowKit

/-- A step of a device: its kind, its block, its bytes. -/
structure Io where
  kind : Int
  pos : Int
  data : List Int

def d0 : Io := ⟨0, 0, []⟩

/-- At the offset o of the block b lies the step x: its bytes are the slice a, c. -/
def At (w : World) (b o : Nat) (x : Io) (a : Option Addr) (c : Nat) : Prop :=
  w.cell? ⟨b, o, none⟩ = some (.int .i64 x.kind) ∧ w.cell? ⟨b, o + 1, none⟩ = some (.int .i64 x.pos) ∧ w.cell? ⟨b, o + 2, none⟩ = some (.slice a x.data.length c) ∧
    Wc.Bs w (.slice a x.data.length c) x.data ∧ Wc.Shaped (.slice a x.data.length c)

/-- The slice value v holds the steps l in the world w. -/
def Is (w : World) (v : Value) (l : List Io) : Prop :=
  ∃ a n cap, v = .slice a n cap ∧ l.length = n ∧ n ≤ cap ∧ cap ≤ 9223372036854775807 ∧ n ≤ 1099511627776 ∧
    (0 < n → ∃ b off, a = some ⟨b, off, none⟩ ∧ b < w.heap.size ∧ ∀ i, i < n → ∃ a' c', At w b (off + i * 3) (l.getD i d0) a' c')

theorem At.lt {w : World} {b o c : Nat} {x : Io} {a : Option Addr} (h : At w b o x a c) : b < w.heap.size := Wc.cell_lt h.1

theorem At.keep {w w' : World} {b o c : Nat} {x : Io} {a : Option Addr} (h : At w b o x a c) (hb : Below w.heap.size w w') : At w' b o x a c := by
  have hlt := h.lt
  exact ⟨(hb.cell (p := ⟨b, o, none⟩) hlt).trans h.1, (hb.cell (p := ⟨b, o + 1, none⟩) hlt).trans h.2.1, (hb.cell (p := ⟨b, o + 2, none⟩) hlt).trans h.2.2.1, h.2.2.2.1.keep hb, h.2.2.2.2⟩

theorem Is.keep {w w' : World} {v : Value} {l : List Io} (h : Is w v l) (hb : Below w.heap.size w w') : Is w' v l := by
  obtain ⟨a, n, cap, h1, h2, h3, h4, h5, h7⟩ := h
  refine ⟨a, n, cap, h1, h2, h3, h4, h5, fun hn => ?_⟩
  obtain ⟨b, off, ha, hlt, hc⟩ := h7 hn
  exact ⟨b, off, ha, Nat.lt_of_lt_of_le hlt hb.size, fun i hi => by obtain ⟨a', c', hi'⟩ := hc i hi; exact ⟨a', c', hi'.keep hb⟩⟩

theorem Is.nil (w : World) : Is w (.slice none 0 0) [] := ⟨none, 0, 0, rfl, rfl, Nat.le_refl _, by omega, by omega, by omega⟩

theorem Is.open {w : World} {v : Value} {l : List Io} (h : Is w v l) :
    (l = [] ∧ ∃ a cap, v = .slice a 0 cap ∧ cap ≤ 9223372036854775807) ∨
    ∃ b off n cap, v = .slice (some ⟨b, off, none⟩) n cap ∧ 0 < n ∧ l.length = n ∧ n ≤ cap ∧ cap ≤ 9223372036854775807 ∧ n ≤ 1099511627776 ∧ b < w.heap.size ∧
      ∀ i, i < n → ∃ a' c', At w b (off + i * 3) (l.getD i d0) a' c' := by
  obtain ⟨a, n, cap, h1, h2, h3, h4, h5, h7⟩ := h
  rcases Nat.eq_zero_or_pos n with h0 | h0
  · subst h0
    exact .inl ⟨List.eq_nil_of_length_eq_zero h2, a, cap, h1, h4⟩
  · obtain ⟨b, off, ha, hlt, hc⟩ := h7 h0
    subst ha
    exact .inr ⟨b, off, n, cap, h1, h0, h2, h3, h4, h5, hlt, hc⟩

theorem is_len {w : World} {a : Option Addr} {n cap : Nat} {l : List Io} (h : Is w (.slice a n cap) l) : l.length = n := by
  obtain ⟨a, n', cap', h1, h2, _⟩ := h
  cases h1
  exact h2

theorem is_cap {w : World} {a : Option Addr} {n cap : Nat} {l : List Io} (h : Is w (.slice a n cap) l) : n ≤ cap ∧ cap ≤ 9223372036854775807 ∧ n ≤ 1099511627776 := by
  obtain ⟨a, n', cap', h1, h2, h3, h4, h5, _⟩ := h
  cases h1
  exact ⟨h3, h4, h5⟩

theorem is_cells {w : World} {b off n cap : Nat} {l : List Io} (h : Is w (.slice (some ⟨b, off, none⟩) n cap) l) (i : Nat) (hi : i < n) : ∃ a' c', At w b (off + i * 3) (l.getD i d0) a' c' := by
  obtain ⟨a, n', cap', h1, h2, h3, h4, h5, h7⟩ := h
  cases h1
  obtain ⟨b', off', ha, hb, hc⟩ := h7 (by omega)
  cases ha
  exact hc i hi

/-- A part of a slice of steps. -/
theorem is_mid {w : World} {b off n cap : Nat} {l : List Io} (h : Is w (.slice (some ⟨b, off, none⟩) n cap) l) (j t c : Nat) (hk : j + t ≤ n) (hc : t ≤ c) (hc2 : c ≤ 9223372036854775807) : Is w (.slice (some ⟨b, off + j * 3, none⟩) t c) ((l.drop j).take t) := by
  obtain ⟨a, n', cap', h1, h2, h3, h4, h5, h7⟩ := h
  cases h1
  refine ⟨_, t, c, rfl, by simp; omega, hc, hc2, by omega, fun h0 => ?_⟩
  obtain ⟨b', off', ha, hb, hc⟩ := h7 (by omega)
  cases ha
  refine ⟨b, off + j * 3, rfl, hb, fun i hi => ?_⟩
  obtain ⟨a', c', hx⟩ := hc (j + i) (by omega)
  refine ⟨a', c', ?_⟩
  have e : ((l.drop j).take t).getD i d0 = l.getD (j + i) d0 := by simp [hi]
  rw [e, show off + j * 3 + i * 3 = off + (j + i) * 3 by omega]
  exact hx

theorem is_take {w : World} {b off n cap : Nat} {l : List Io} (h : Is w (.slice (some ⟨b, off, none⟩) n cap) l) (t c : Nat) (hk : t ≤ n) (hc : t ≤ c) (hc2 : c ≤ 9223372036854775807) : Is w (.slice (some ⟨b, off, none⟩) t c) (l.take t) := by
  have := is_mid h 0 t c (by omega) hc hc2
  simpa using this

theorem is_drewN {w : World} {v : Value} {l : List Io} (h : Is w v l) (n : Nat) : Is (w.drewN n) v l := h.keep (below_drewN (Below.refl _ _) n)

/-- A device of n bytes is right. -/
def devB (n : Nat) : Bool := decide (n % 64 = 0) && (decide (256 ≤ n) && decide (n ≤ 262144))
/-- What Check tells: how many blocks, the error. -/
def chkN (n : Nat) : Int := if devB n then ((n / 64 : Nat) : Int) else 0
def chkE (n : Nat) : Int := if devB n then 0 else 2

/-- A step is right for a device of m blocks. -/
def rightB (k p : Int) (len : Nat) (m : Int) : Bool := (k == 1 && (decide (0 ≤ p) && decide (p < m)) && len == 64) || (k == 2 && p == 0 && len == 0)
def okIo (m : Int) (x : Io) : Bool := rightB x.kind x.pos x.data.length m
/-- What Steps tells. -/
def stepsE (n : Nat) (l : List Io) : Int := if devB n then (if l.length ≤ 1048576 then (if l.all (okIo (chkN n)) then 0 else 1) else 2) else 2

theorem devB_iff {n : Nat} : devB n = true ↔ n % 64 = 0 ∧ 256 ≤ n ∧ n ≤ 262144 := by simp [devB]

theorem chk_yes {n : Nat} (h : n % 64 = 0 ∧ 256 ≤ n ∧ n ≤ 262144) : ((n : Int) / 64 = chkN n) ∧ (0 = chkE n) := by
  have := devB_iff.2 h
  simp [chkN, chkE, this]

theorem chk_no {n : Nat} (h : ¬ (n % 64 = 0 ∧ 256 ≤ n ∧ n ≤ 262144)) : (0 = chkN n) ∧ (2 = chkE n) := by
  have : devB n = false := by
    cases hd : devB n
    · rfl
    · exact absurd (devB_iff.1 hd) h
  simp [chkN, chkE, this]

end Wd
namespace Go.Proofs.YtfflhiajbioheaaGreat
open Go.RowKit

theorem tup2 {a b c d : Int} (h : a = c) (k : b = d) : Ending.returned (.tuple #[.int .i64 a, .int .i64 b]) = .returned (.tuple #[.int .i64 c, .int .i64 d]) := by rw [h, k]
theorem tupb {a c : Int} {b d : Bool} (h : a = c) (k : b = d) : Ending.returned (.tuple #[.int .i64 a, .bool b]) = .returned (.tuple #[.int .i64 c, .bool d]) := by rw [h, k]

theorem Tryz.infoI64 : (Tryz.prog.info? 3).map (fun i => (i.zero, i.size, i.bytes)) = some (some (.int .i64 0), 1, 8) := by kernel_rfl

set_option maxHeartbeats 400000 in
theorem among_any (p m : Int) (w : World) :
    Calls Tryz.prog 93 #[.int .i64 p, .int .i64 m] w fun e w' => e = .returned (.bool (decide (0 ≤ p) && decide (p < m))) ∧ w = w' := by
  go_enter Tryz.func93, Tryz.ntmps93
  go_wp2
  all_goals go_ret
  · exact ⟨ret_bool (by simp [*]), rfl⟩
  · exact ⟨ret_bool (by symm; rw [Bool.eq_false_iff]; simp; omega), rfl⟩

set_option maxHeartbeats 1600000 in
theorem right_any (k p : Int) (a : Option Addr) (n c : Nat) (m : Int) (w : World) :
    Calls Tryz.prog 76 #[.agg #[.int .i64 k, .int .i64 p, .slice a n c], .int .i64 m] w fun e w' => e = .returned (.bool (Wd.rightB k p n m)) ∧ Below w.heap.size w w' := by
  go_enter Tryz.func76, Tryz.ntmps76
  go_wp2_with (go_at_call 93; refine (among_any _ _ _).mono ?_; rintro e w' ⟨rfl, rfl⟩)
  all_goals go_ret
  all_goals (refine ⟨ret_bool ?_, (Below.refl _ _).alloc (Nat.le_refl _) _⟩; rw [Bool.eq_iff_iff]; simp [Wd.rightB, *] <;> simp_all <;> omega)

set_option maxHeartbeats 1600000 in
theorem check_any (a : Option Addr) (n c : Nat) (w : World) (hn : n ≤ 140737488355328) :
    Calls Tryz.prog 70 #[.slice a n c] w fun e w' => e = .returned (.tuple #[.int .i64 (Wd.chkN n), .int .i64 (Wd.chkE n)]) ∧ w = w' := by
  go_enter Tryz.func70, Tryz.ntmps70
  go_wp2
  all_goals go_ret2
  all_goals first
    | exact ⟨tup2 (Wd.chk_yes (n := n) (by omega)).1 (Wd.chk_yes (n := n) (by omega)).2, rfl⟩
    | exact ⟨tup2 (Wd.chk_no (n := n) (by omega)).1 (Wd.chk_no (n := n) (by omega)).2, rfl⟩


end Go.Proofs.YtfflhiajbioheaaGreat
namespace Wd
open Go Go.RowKit

/-- How many of the first k steps end with their last flush. -/
def safeN (l : List Io) : Nat → Nat
  | 0 => 0
  | k + 1 => if (l.getD k d0).kind = 2 then k + 1 else safeN l k

/-- What comes out of an iterator over steps. -/
structure El where
  i : Nat
  k : Int
  p : Int
  a : Option Addr
  n : Nat
  c : Nat

def El.enc (x : El) : Array Value := #[.int .i64 (x.i : Int), .agg #[.int .i64 x.k, .int .i64 x.p, .slice x.a x.n x.c]]
def upto {α : Type} (f : Nat → α) (k : Nat) : List α := (List.range k).map f
theorem upto_succ {α : Type} (f : Nat → α) (k : Nat) : upto f (k + 1) = upto f k ++ [f k] := by simp [upto, List.range_succ]
theorem upto_length {α : Type} (f : Nat → α) (k : Nat) : (upto f k).length = k := by simp [upto]

/-- The round k of a walk from behind. -/
def back (n : Nat) (l : List Io) (A : Nat → Option Addr × Nat) (j : Nat) : El :=
  ⟨n - 1 - j, (l.getD (n - 1 - j) d0).kind, (l.getD (n - 1 - j) d0).pos, (A (n - 1 - j)).1, (l.getD (n - 1 - j) d0).data.length, (A (n - 1 - j)).2⟩

theorem safe_none (l : List Io) (n : Nat) (A : Nat → Option Addr × Nat) : ∀ k, k ≤ n → (∀ x ∈ upto (back n l A) k, ¬ x.k = 2) → safeN l n = safeN l (n - k)
  | 0, _, _ => rfl
  | k + 1, hk, h => by
    rw [upto_succ] at h
    rw [safe_none l n A k (by omega) (fun x hx => h x (List.mem_append.2 (.inl hx)))]
    have h1 := h (back n l A k) (by simp)
    obtain ⟨m, hm⟩ : ∃ m, n - k = m + 1 := ⟨n - k - 1, by omega⟩
    have e : n - (k + 1) = m := by omega
    have e2 : n - 1 - k = m := by omega
    simp only [back, e2] at h1
    rw [hm, e]
    simp only [safeN]
    rw [if_neg h1]

theorem safe_hit (l : List Io) (n : Nat) (A : Nat → Option Addr × Nat) (k : Nat) (hk : k < n) (h : ∀ x ∈ upto (back n l A) k, ¬ x.k = 2) (h2 : (back n l A k).k = 2) : safeN l n = (back n l A k).i + 1 := by
  rw [safe_none l n A k (by omega) h]
  obtain ⟨m, hm⟩ : ∃ m, n - k = m + 1 := ⟨n - k - 1, by omega⟩
  have e2 : n - 1 - k = m := by omega
  simp only [back, e2] at h2 ⊢
  rw [hm]
  simp only [safeN]
  rw [if_pos h2]

theorem safe_le (l : List Io) : ∀ k, safeN l k ≤ k
  | 0 => Nat.le_refl _
  | k + 1 => by
    have := safe_le l k
    simp only [safeN]
    split <;> omega

end Wd
namespace Go.Proofs.YtfflhiajbioheaaGreat
open Go.RowKit Go.Shelf

end Go.Proofs.YtfflhiajbioheaaGreat
namespace Go.Proofs.YtfflhiajbioheaaGreat
open Go.RowKit Go.Shelf

end Go.Proofs.YtfflhiajbioheaaGreat
namespace Wd
open Go Go.RowKit

theorem all_true {l : List Io} {f : Io → Bool} (h : ∀ j, j < l.length → f (l.getD j d0) = true) : l.all f = true := by
  rw [List.all_eq_true]
  intro x hx
  obtain ⟨i, hi, rfl⟩ := List.mem_iff_getElem.1 hx
  have := h i hi
  simpa [hi] using this

theorem all_false {l : List Io} {f : Io → Bool} (k : Nat) (hk : k < l.length) (h : f (l.getD k d0) = false) : l.all f = false := by
  rw [List.all_eq_false]
  refine ⟨l[k], List.getElem_mem hk, ?_⟩
  have e : l.getD k d0 = l[k] := by simp [hk]
  rw [e] at h
  simp [h]

theorem all_at {l : List Io} {f : Io → Bool} (h : l.all f = true) (k : Nat) (hk : k < l.length) : f (l.getD k d0) = true := by
  have e : l.getD k d0 = l[k] := by simp [hk]
  rw [e]
  exact List.all_eq_true.1 h _ (List.getElem_mem hk)

/-- More than is played? -/
def lightIo (x : Io) : Bool := decide (x.data.length ≤ 300)
def heavyB (n : Nat) (l : List Io) : Bool := !(decide (n ≤ 19200) && (decide (l.length ≤ 400) && l.all lightIo))

theorem stepsE_dev {n : Nat} {l : List Io} (h : devB n = false) : stepsE n l = 2 := by simp [stepsE, h]
theorem stepsE_long {n : Nat} {l : List Io} (h : ¬ l.length ≤ 1048576) : stepsE n l = 2 := by simp [stepsE, h]
theorem stepsE_ok {n : Nat} {l : List Io} (h : devB n = true) (h1 : l.length ≤ 1048576) (h2 : l.all (okIo ((n : Int) / 64)) = true) : stepsE n l = 0 := by
  have : chkN n = (n : Int) / 64 := by simp [chkN, h]
  rw [stepsE, if_pos h, if_pos h1, this, if_pos h2]
theorem stepsE_bad {n : Nat} {l : List Io} (h : devB n = true) (h1 : l.length ≤ 1048576) (h2 : l.all (okIo ((n : Int) / 64)) = false) : stepsE n l = 1 := by
  have : chkN n = (n : Int) / 64 := by simp [chkN, h]
  rw [stepsE, if_pos h, if_pos h1, this, h2]; simp

end Wd
namespace Go.Proofs.YtfflhiajbioheaaGreat
open Go.RowKit

set_option maxHeartbeats 1600000 in
theorem steps_any (ai : Option Addr) (ni ci : Nat) (a : Option Addr) (n cap : Nat) (l : List Wd.Io) (w : World) (hni : ni ≤ 140737488355328) (hI : Wd.Is w (.slice a n cap) l) :
    Calls Tryz.prog 55 #[.slice ai ni ci, .slice a n cap] w fun e w' => e = .returned (.int .i64 (Wd.stepsE ni l)) ∧ Below w.heap.size w w' := by
  by_cases hd : Wd.devB ni = true
  · obtain ⟨a', n', cap', h1, hl, hcap, hcap2, hn, hpos⟩ := hI
    cases h1
    have hN := (Wd.chk_yes (Wd.devB_iff.1 hd)).1.symm
    have hE := (Wd.chk_yes (Wd.devB_iff.1 hd)).2.symm
    have HD := Wc.hid hd
    have HP := Wc.hid hpos
    have HL := Wc.hid hl
    clear hd hpos hl
    obtain ⟨m, hm⟩ : ∃ m : Int, (ni : Int) / 64 = m := ⟨_, rfl⟩
    have HM := Wc.hid hm
    rw [hm] at hN
    clear hm
    go_enter Tryz.func55, Tryz.ntmps55
    go_wp2_with (go_at_call 70; refine (check_any _ _ _ _ hni).mono ?_; rintro e w' ⟨rfl, rfl⟩; rw [hN, hE])
    · go_ret
      refine ⟨ret_int (Wd.stepsE_long ?_).symm, Below.refl _ _⟩
      rw [HL.out]; omega
    · clear hN hE
      go_loopw [22] (fun i wr => ∃ k : Nat, i = .int .i64 k ∧ k ≤ n ∧ Below w.heap.size w wr ∧ Hid (∀ j, j < k → Wd.okIo m (l.getD j Wd.d0) = true)) (fun i _ => n - (intOf i).toNat)
      case atStart => exact ⟨0, rfl, by omega, Below.refl _ _, fun j h => by omega⟩
      case round =>
        obtain ⟨k, rfl, hk, hb, HZ⟩ := hrel
        by_cases hlt : k < n
        · obtain ⟨b, off, rfl, hblt, hcs⟩ := HP.out (by omega)
          obtain ⟨a', c', hx⟩ := hcs k hlt
          obtain ⟨c0, c1, c2, -, -⟩ := hx.keep hb
          clear hcs hx
          obtain ⟨x, hx⟩ : ∃ x, l.getD k Wd.d0 = x := ⟨_, rfl⟩
          rw [hx] at c0 c1 c2
          have HX := Wc.hid hx
          clear hx
          cases hok : Wd.okIo m x
          · have HOK := Wc.hid hok
            unfold Wd.okIo at hok
            go_wp2_with (go_at_call 76; refine (right_any _ _ _ _ _ _ _).mono ?_; rintro e w' ⟨rfl, hb2⟩; rw [hok])
            go_ret
            refine ⟨ret_int (Wd.stepsE_bad HD.out (by rw [HL.out]; omega) (Wd.all_false k (by rw [HL.out]; exact hlt) ?_)).symm, ?_⟩
            · rw [HM.out, HX.out]; exact HOK.out
            · exact Wc.step (hb.alloc hb.size _) (Nat.le_refl _) hb2
          · have HOK := Wc.hid hok
            unfold Wd.okIo at hok
            go_wp2_with (go_at_call 76; refine (right_any _ _ _ _ _ _ _).mono ?_; rintro e w' ⟨rfl, hb2⟩; rw [hok])
            go_roundw
            case rel =>
              refine ⟨k + 1, by go_num, by omega, Wc.step (hb.alloc hb.size _) (Nat.le_refl _) hb2, fun j hj => ?_⟩
              by_cases hjk : j = k
              · subst hjk; rw [HX.out]; exact HOK.out
              · exact HZ.out j (by omega)
            case measure => simp only [intOf]; omega
        · go_wp2
          go_ret
          refine ⟨ret_int (Wd.stepsE_ok HD.out (by rw [HL.out]; omega) (Wd.all_true fun j hj => ?_)).symm, hb⟩
          rw [HM.out]
          exact HZ.out j (by rw [HL.out] at hj; omega)
  · have hd' : Wd.devB ni = false := by simpa using hd
    have hE := (Wd.chk_no (fun h => hd (Wd.devB_iff.2 h))).2.symm
    have HD := Wc.hid hd'
    clear hd hd' hI
    go_enter Tryz.func55, Tryz.ntmps55
    go_wp2_with (go_at_call 70; refine (check_any _ _ _ _ hni).mono ?_; rintro e w' ⟨rfl, rfl⟩; rw [hE])
    go_ret
    exact ⟨ret_int (Wd.stepsE_dev HD.out).symm, Below.refl _ _⟩

set_option maxHeartbeats 1600000 in
theorem heavy_any (ai : Option Addr) (ni ci : Nat) (a : Option Addr) (n cap : Nat) (l : List Wd.Io) (w : World) (hni : ni ≤ 140737488355328) (hI : Wd.Is w (.slice a n cap) l) :
    Calls Tryz.prog 4 #[.slice ai ni ci, .slice a n cap] w fun e w' => e = .returned (.bool (Wd.heavyB ni l)) ∧ w = w' := by
  obtain ⟨a', n', cap', h1, hl, hcap, hcap2, hn, hpos⟩ := hI
  cases h1
  have HP := Wc.hid hpos
  have HL := Wc.hid hl
  clear hpos hl
  by_cases hg : ni ≤ 19200 ∧ n ≤ 400
  · have g1 : decide ((19200 : Int) < (ni : Int)) = false := by simp; omega
    have g2 : decide ((400 : Int) < (n : Int)) = false := by simp; omega
    have HG := Wc.hid hg
    clear hg
    go_enter Tryz.func4, Tryz.ntmps4
    go_wp2
    clear g1 g2
    go_loopw [5] (fun i wr => ∃ k : Nat, i = .int .i64 k ∧ k ≤ n ∧ w = wr ∧ Hid (∀ j, j < k → Wd.lightIo (l.getD j Wd.d0) = true)) (fun i _ => n - (intOf i).toNat)
    case atStart => exact ⟨0, rfl, by omega, rfl, fun j h => by omega⟩
    case round =>
      obtain ⟨k, rfl, hk, rfl, HZ⟩ := hrel
      by_cases hlt : k < n
      · obtain ⟨b, off, rfl, hblt, hcs⟩ := HP.out (by omega)
        obtain ⟨a', c', c0, c1, c2, -, -⟩ := hcs k hlt
        clear hcs
        obtain ⟨x, hx⟩ : ∃ x, l.getD k Wd.d0 = x := ⟨_, rfl⟩
        rw [hx] at c0 c1 c2
        have HX := Wc.hid hx
        clear hx
        by_cases hli : x.data.length ≤ 300
        · have g3 : decide ((300 : Int) < (x.data.length : Int)) = false := by simp; omega
          have HH := Wc.hid hli
          clear hli
          go_wp2
          go_roundw
          case rel =>
            refine ⟨k + 1, by go_num, by omega, (by trivial), fun j hj => ?_⟩
            by_cases hjk : j = k
            · subst hjk; rw [HX.out]; exact decide_eq_true HH.out
            · exact HZ.out j (by omega)
          case measure => simp only [intOf]; omega
        · have g3 : decide ((300 : Int) < (x.data.length : Int)) = true := by simp; omega
          have HH := Wc.hid hli
          clear hli
          go_wp2
          go_ret
          refine ⟨ret_bool ?_, rfl⟩
          have := Wd.all_false (l := l) (f := Wd.lightIo) k (by rw [HL.out]; exact hlt) (by rw [HX.out]; exact decide_eq_false HH.out)
          simp [Wd.heavyB, this]
      · go_wp2
        go_ret
        refine ⟨ret_bool ?_, rfl⟩
        have := Wd.all_true (l := l) (f := Wd.lightIo) (fun j hj => HZ.out j (by rw [HL.out] at hj; omega))
        have h1 := HG.out.1
        have h2 : l.length ≤ 400 := by rw [HL.out]; exact HG.out.2
        simp [Wd.heavyB, this, h1, h2]
  · clear HP
    have HG := Wc.hid hg
    have hh : Wd.heavyB ni l = true := by
      unfold Wd.heavyB
      rw [HL.out]
      by_cases h1 : ni ≤ 19200
      · have h2 : ¬ n ≤ 400 := fun h => hg ⟨h1, h⟩
        simp [h2]
      · simp [h1]
    rw [hh]
    clear hh
    go_enter Tryz.func4, Tryz.ntmps4
    by_cases h1 : ni ≤ 19200
    · have g1 : decide ((19200 : Int) < (ni : Int)) = false := by simp; omega
      have g2 : decide ((400 : Int) < (n : Int)) = true := by simp; omega
      clear hg
      go_wp2
      go_ret
      exact ⟨rfl, rfl⟩
    · have g1 : decide ((19200 : Int) < (ni : Int)) = true := by simp; omega
      clear hg
      go_wp2
      go_ret
      exact ⟨rfl, rfl⟩

end Go.Proofs.YtfflhiajbioheaaGreat
namespace Wd
open Go Go.RowKit

theorem rightB_iff {k p : Int} {n : Nat} {m : Int} : rightB k p n m = true ↔ (k = 1 ∧ 0 ≤ p ∧ p < m ∧ n = 64) ∨ (k = 2 ∧ p = 0 ∧ n = 0) := by
  simp [rightB, and_assoc]

theorem rightB_no {k p : Int} {n : Nat} {m : Int} (h : ¬ ((k = 1 ∧ 0 ≤ p ∧ p < m ∧ n = 64) ∨ (k = 2 ∧ p = 0 ∧ n = 0))) : rightB k p n m = false := by
  rw [Bool.eq_false_iff]
  exact fun e => h (rightB_iff.1 e)

end Wd
namespace Go.Proofs.YtfflhiajbioheaaGreat
open Go.RowKit

end Go.Proofs.YtfflhiajbioheaaGreat
namespace Wd
open Go Go.RowKit

/-- Bytes laid over bytes, from k on. -/
def lay (xs : List Int) (k : Nat) (ys : List Int) : List Int := xs.take k ++ (ys ++ xs.drop (k + ys.length))

theorem lay_length (xs : List Int) (k : Nat) (ys : List Int) (h : k + ys.length ≤ xs.length) : (lay xs k ys).length = xs.length := by
  simp [lay]; omega

theorem lay_bytes {xs : List Int} {k : Nat} {ys : List Int} (hx : ∀ x ∈ xs, 0 ≤ x ∧ x < 256) (hy : ∀ x ∈ ys, 0 ≤ x ∧ x < 256) : ∀ x ∈ lay xs k ys, 0 ≤ x ∧ x < 256 := by
  intro x h
  simp only [lay, List.mem_append] at h
  rcases h with h | h | h
  · exact hx x (List.mem_of_mem_take h)
  · exact hy x h
  · exact hx x (List.mem_of_mem_drop h)

theorem lay_nil (xs : List Int) (k : Nat) : lay xs k [] = xs := by simp [lay]

theorem take_lay {α : Type} (A R ys : List α) (k n : Nat) (hA : A.length = n) (hk : k + ys.length ≤ n) :
    ((A ++ R).take k ++ ys ++ (A ++ R).drop (k + ys.length)).take n = A.take k ++ (ys ++ A.drop (k + ys.length)) := by
  have e1 : (A ++ R).take k = A.take k := List.take_append_of_le_length (by omega)
  have e2 : (A ++ R).drop (k + ys.length) = A.drop (k + ys.length) ++ R := List.drop_append_of_le_length (by omega)
  rw [e1, e2, ← List.append_assoc (A.take k ++ ys), List.take_append_of_le_length (by simp; omega), List.take_of_length_le (by simp; omega), List.append_assoc]

/-- What a copy into memory of the call's own leaves. -/
theorem copy_run {P : Program} {e t ty base : Nat} {w : World} {g n cap k sn sc : Nat} {sp : Option Addr} {xs ys : List Int} (ht : P.underlying t = some (.slice e)) (hsz : (P.info? e).map (·.size) = some 1)
    (hv : Wc.Ob e base w (.slice (some ⟨g, 0, none⟩) n cap) xs) (hu : Wc.Bs w (.slice sp sn sc) ys) (hk : k + ys.length ≤ n) :
    ∃ w', Sem.run P (Builtin.copy_ #[t, t] ty #[.slice (some ⟨g, k, none⟩) (n - k) (cap - k), .slice sp sn sc]) w = .ok (goInt ys.length) w' ∧ Wc.Ob e base w' (.slice (some ⟨g, 0, none⟩) n cap) (lay xs k ys) ∧ Below base w w' ∧
      ∀ q : Addr, q.block ≠ g → w'.cell? q = w.cell? q := by
  have h0 := Wc.bs_len hu
  have hxl := Wc.bs_len hv.bs
  have hO := hv
  obtain ⟨⟨h1, h2⟩, h3, h4⟩ := hv
  rcases h2 with ⟨h, _⟩ | ⟨g', cap', cur, he, hbg, hg, hle, hmx, hcs, htk⟩
  · cases h
  cases he
  by_cases hy : ys.length = 0
  · obtain rfl := List.eq_nil_of_length_eq_zero hy
    have hrun := run_copy_none (P := P) w t t ty e (some ⟨g, k, none⟩) sp (xs.length - k) (cap - k) sn sc ht hsz (by simp at h0; subst h0; exact Nat.zero_min _)
    exact ⟨w, hrun, by rw [lay_nil]; exact hO, Below.refl _ _, fun _ _ => rfl⟩
  · rcases hu.open with ⟨rfl, _⟩ | ⟨b, off, n', c', hsl, _, _, _, _, _, hyb, _, hc⟩
    · exact absurd rfl hy
    · cases hsl
      have hrun := run_copy_row (P := P) w t t ty e g k (xs.length - k) (cap - k) ⟨b, off, none⟩ sn sc cur e (ys.map (Value.int .u8)) ht hsz hg (by
          rw [List.length_map, h0]; exact (Nat.min_eq_left (by omega)).symm) (by
          intro j v hj
          have hjn : j < sn := by have := (List.getElem?_eq_some_iff.1 hj).1; simpa [h0] using this
          rw [Wc.add_none, hc j hjn]; simpa [h0, hjn] using hj) (by rw [List.length_map]; omega) (by
          intro v hv; obtain ⟨x, _, rfl⟩ := List.mem_map.1 hv; rfl)
      rw [List.length_map] at hrun
      refine ⟨_, hrun, ⟨⟨by simp, .inr ⟨g, cap, (cur.toList.take k ++ ys.map (Value.int .u8) ++ cur.toList.drop (k + ys.length)).toArray, ?_, hbg, ?_, ?_, hmx, ?_, ?_⟩⟩, ?_, lay_bytes h4 hyb⟩, below_setRow (Below.refl _ _) hbg _, ?_⟩
      · rw [lay_length _ _ _ (by omega)]
      · exact setRow_heap w g _ _ e _ hg
      · rw [lay_length _ _ _ (by omega)]; exact hle
      · simp [hcs]; omega
      · rw [lay_length _ _ _ (by omega)]
        have e1 : cur.toList = xs.map (Value.int .u8) ++ cur.toList.drop xs.length := by
          rw [Nat.mul_one] at htk
          rw [← htk, List.take_append_drop]
        have := take_lay (xs.map (Value.int .u8)) (cur.toList.drop xs.length) (ys.map (Value.int .u8)) k xs.length (by simp) (by simpa using hk)
        rw [← e1, List.length_map] at this
        rw [Nat.mul_one]
        simpa [lay] using this
      · rw [lay_length _ _ _ (by omega)]; exact h3
      · intro q hq
        have := setRow_other w g q.block (cur.toList.take k ++ ys.map (Value.int .u8) ++ cur.toList.drop (k + ys.length)).toArray hq
        simp only [World.cell?, this]

end Wd
namespace Go.Proofs.YtfflhiajbioheaaGreat
open Go.RowKit

/-- A copy in a region that draws. -/
theorem step_copy_ob {ops : Array Oper} {o : Oper} {a : Act} {w : World} {K : Act → World → Prop} {Q : Exit → Act → World → Prop} {E : Prop} {d s : Operand} {g n cap k sn sc : Nat} {sp : Option Addr} {xs ys : List Int} (base : Nat)
    (hgd : o.guard = none) (ho : o.op = .call { callee := .builtin .copy, args := #[d, s], argTypes := #[48, 48] }) (hd : a.eval d = .slice (some ⟨g, k, none⟩) (n - k) (cap - k)) (hs : a.eval s = .slice sp sn sc)
    (hv : Wc.Ob 5 base w (.slice (some ⟨g, 0, none⟩) n cap) xs) (hu : Wc.Bs w (.slice sp sn sc) ys) (hk : k + ys.length ≤ n)
    (h : ∀ w', Wc.Ob 5 base w' (.slice (some ⟨g, 0, none⟩) n cap) (Wd.lay xs k ys) → Below base w w' → (∀ q : Addr, q.block ≠ g → w'.cell? q = w.cell? q) → K (a.put o.dst (goInt ys.length)) w') :
    if Region.wanted o (yielded ops a.tmps) = true then Oper.wp Tryz.prog o a w K Q else E := by
  obtain ⟨w', hrun, hO, hb, hq⟩ := Wd.copy_run (P := Tryz.prog) (ty := o.type) Tryz.underlying48 Tryz.sizeU8 hv hu hk
  have hw : Region.wanted o (yielded ops a.tmps) = true := by simp [Region.wanted, hgd]
  rw [if_pos hw]
  unfold Oper.wp
  simp [execOp, ho, resolve, invoke, builtin, hd, hs, hrun, Result.andThen]
  exact h w' hO hb hq

set_option maxHeartbeats 1600000 in
theorem copied_any (a : Option Addr) (n cap : Nat) (xs : List Int) (w : World) (hv : Wc.Bs w (.slice a n cap) xs) :
    Calls Tryz.prog 56 #[.slice a n cap] w fun e w' => ∃ g, e = .returned (.slice (some ⟨g, 0, none⟩) n n) ∧ w.heap.size ≤ g ∧ Wc.Ob 5 w.heap.size w' (.slice (some ⟨g, 0, none⟩) n n) xs ∧ Below w.heap.size w w' := by
  have hn : n ≤ 140737488355328 := by obtain ⟨_, _, _, h1, _, _, _, h5, _⟩ := hv; cases h1; exact h5
  have hl := Wc.bs_len hv
  have hbd := Wc.bs_bytes hv
  have hmk := fun w => run_make_row' (P := Tryz.prog) 48 5 (.int .u8 0) 1 Tryz.underlying48 Tryz.infoU8 rfl .i64 .i64 n (by omega) (by omega) w
  have hO : Wc.Ob 5 w.heap.size (w.alloc (.cells (madeCells #[Value.int .u8 0] n) 5)) (.slice (some ⟨w.heap.size, 0, none⟩) n n) (List.replicate n 0) := by
    refine ⟨⟨by simp, .inr ⟨w.heap.size, n, madeCells #[Value.int .u8 0] n, by simp, Nat.le_refl _, (by show (w.heap.push _)[_]? = _; simp), by simp, by unfold maxLen; omega, ?_, ?_⟩⟩, by simpa using hn, by intro x hx; rw [List.mem_replicate] at hx; omega⟩
    · rw [← Array.length_toList, Wc.made_zero]; simp
    · rw [Wc.made_zero]; simp
  have hbA := (Below.refl w.heap.size w).alloc (Nat.le_refl _) (.cells (madeCells #[Value.int .u8 0] n) 5)
  obtain ⟨w2, hrun, hO2, hb2, -⟩ := Wd.copy_run (P := Tryz.prog) (ty := 3) (k := 0) Tryz.underlying48 Tryz.sizeU8 hO (hv.keep hbA) (by omega)
  have e : Wd.lay (List.replicate n 0) 0 xs = xs := by
    unfold Wd.lay
    rw [List.take_zero, List.nil_append, List.drop_eq_nil_of_le (by simp; omega), List.append_nil]
  rw [e] at hO2
  simp only [Nat.sub_zero] at hrun
  rw [hl] at hrun
  have HO := Wc.hid hO2
  have HB := Wc.hid (hbA.trans hb2)
  clear hO2 hb2 hO hbA hv e hl hbd
  go_enter Tryz.func56, Tryz.ntmps56
  go_wp2
  go_ret
  exact ⟨_, rfl, Nat.le_refl _, HO.out, HB.out⟩

theorem slice_from (a : Option Addr) (n cap q : Nat) (h : q ≤ n) (h2 : ¬ cap = q) (w : World) :
    (Instr.slice 48 (.slice a n cap) (some (.int .i64 (q : Int))) none none).run Tryz.prog w = .ok (.slice (a.map (·.add q)) (n - q) (cap - q)) w := by
  have h0 : ((Tryz.prog.info? 5).map (·.size)) = some 1 := Tryz.sizeU8
  cases hq : Tryz.prog.info? 5 with
  | none => rw [hq] at h0; cases h0
  | some i =>
    rw [hq] at h0
    have hi : i.size = 1 := by simpa using h0
    simp [Instr.slice, run_underlying Tryz.underlying48, Instr.sliceBounds, run_sliceBound, sizeOf, typeInfo, hq, hi, h, h2]

set_option maxHeartbeats 1600000 in
theorem write_any (base g n cap p dn dc : Nat) (kk : Int) (a : Option Addr) (xs ys : List Int) (w : World) (hv : Wc.Ob 5 base w (.slice (some ⟨g, 0, none⟩) n cap) xs) (hu : Wc.Bs w (.slice a dn dc) ys)
    (hk : p * 64 + ys.length ≤ n) (hk2 : p * 64 < n) (hbase : base ≤ w.heap.size) :
    Calls Tryz.prog 77 #[.slice (some ⟨g, 0, none⟩) n cap, .agg #[.int .i64 kk, .int .i64 p, .slice a dn dc]] w fun e w' => e = .returned (.tuple #[]) ∧ Wc.Ob 5 base w' (.slice (some ⟨g, 0, none⟩) n cap) (Wd.lay xs (p * 64) ys) ∧ Below base w w' := by
  have hn := hv.2.1
  have hxl := Wc.bs_len hv.bs
  have hcap := Wc.bs_cap hv.bs
  have hglt : g < w.heap.size := (hv.1.lt g rfl).2
  rw [hxl] at hn
  clear hxl
  have hbA := (Below.refl w.heap.size w).alloc (Nat.le_refl _) (.cells #[.int .i64 kk, .int .i64 p, .slice a dn dc] 50)
  have HO := Wc.hid (hv.keep hbA)
  have HU := Wc.hid (hu.keep hbA)
  have HA := Wc.hid (hbA.mono hbase)
  have HK := Wc.hid hk
  clear hv hu hbA hk
  obtain ⟨hc1, hc2⟩ := hcap
  have k1 : p * 64 ≤ cap := by omega
  have k2 : ¬ cap = p * 64 := by omega
  have k3 : p * 64 ≤ n := by omega
  have k4 : wrap64 ((p : Int) * 64) = ((p * 64 : Nat) : Int) := by unfold wrap64; omega
  obtain ⟨q, hq⟩ : ∃ q, p * 64 = q := ⟨_, rfl⟩
  rw [hq] at k1 k2 k3 k4 HK ⊢
  clear hq hk2 hn
  have k7 : IntKind.i64.wrap ((p : Int) * 64) = (q : Int) := by rw [IntKind.wrap_i64]; have := k4; unfold wrap64 at this; omega
  have hsl := slice_from (some ⟨g, 0, none⟩) n cap q k3 k2
  go_enter Tryz.func77, Tryz.ntmps77
  go_wp2
  have c1 : (w.alloc (.cells #[.int .i64 kk, .int .i64 p, .slice a dn dc] 50)).cell? ⟨w.heap.size, 1, none⟩ = some (.int .i64 p) := by simp
  have c2 : (w.alloc (.cells #[.int .i64 kk, .int .i64 p, .slice a dn dc] 50)).cell? ⟨w.heap.size, 2, none⟩ = some (.slice a dn dc) := by simp
  obtain ⟨W1, hW1⟩ : ∃ W1, w.alloc (.cells #[.int .i64 kk, .int .i64 p, .slice a dn dc] 50) = W1 := ⟨_, rfl⟩
  rw [hW1] at HO HU HA c1 c2 ⊢
  clear hW1
  have hne : ¬ w.heap.size = g := by omega
  obtain ⟨B, hB⟩ : ∃ B, w.heap.size = B := ⟨_, rfl⟩
  rw [hB] at c1 c2 hne ⊢
  go_region_held3 (fun w' => w'.cell? ⟨B, 1, none⟩ = some (.int .i64 p) ∧ w'.cell? ⟨B, 2, none⟩ = some (.slice a dn dc)) (go_keep) (first | (refine step_copy_ob base rfl rfl rfl rfl (by exact HO.out) (by exact HU.out) HK.out ?_; intro w2 hO2 hb2 hq2; have k5 := hq2 ⟨B, 1, none⟩ hne; have k6 := hq2 ⟨B, 2, none⟩ hne) | fail)
  have HB := Wc.hid (HA.out.drew.trans hb2)
  have HO2 := Wc.hid hO2
  clear HO HU HA hb2 hO2 hq2 k5 k6 hsl c1 c2 hB
  go_wp2
  go_end0
  exact ⟨rfl, HO2.out, HB.out⟩

end Go.Proofs.YtfflhiajbioheaaGreat
namespace Wd
open Go Go.RowKit

/-- One step, laid upon a device. -/
def one (xs : List Int) (x : Io) : List Int := lay xs (x.pos.toNat * 64) x.data
/-- All steps, in order. -/
def app (xs : List Int) (l : List Io) : List Int := l.foldl one xs

theorem app_nil (xs : List Int) : app xs [] = xs := rfl
theorem app_append (xs : List Int) (l k : List Io) : app xs (l ++ k) = app (app xs l) k := by simp [app]
theorem app_snoc (xs : List Int) (l : List Io) (x : Io) : app xs (l ++ [x]) = one (app xs l) x := by simp [app]

theorem take_succ (l : List Io) (k : Nat) (hk : k < l.length) : l.take (k + 1) = l.take k ++ [l.getD k d0] := by
  rw [List.take_add_one]; simp [hk]

theorem ok_fits {m : Nat} {x : Io} (h : okIo m x = true) (hm : 0 < m) : ∃ p : Nat, x.pos = p ∧ p * 64 + x.data.length ≤ m * 64 ∧ p * 64 < m * 64 := by
  rcases rightB_iff.1 h with ⟨-, h1, h2, h3⟩ | ⟨-, h1, h2⟩
  · exact ⟨x.pos.toNat, by omega, by omega, by omega⟩
  · exact ⟨0, by omega, by omega, by omega⟩

theorem one_pos {xs : List Int} {x : Io} {p : Nat} (h : x.pos = p) : one xs x = lay xs (p * 64) x.data := by
  unfold one; rw [h]; rfl

theorem add_zero (a : Addr) : a.add 0 = a := by
  unfold Addr.add; split <;> simp_all

end Wd
namespace Go.Proofs.YtfflhiajbioheaaGreat
open Go.RowKit

theorem Tryz.size38 : (Tryz.prog.info? 50).map (·.size) = some 3 := by kernel_rfl

theorem map_zero (a : Option Addr) : a.map (·.add (0 * 3)) = a := by
  cases a with
  | none => rfl
  | some x => simp [Wd.add_zero]

/-- The first t steps. -/
theorem slice_to (a : Option Addr) (n cap t : Nat) (h : t ≤ n) (hc : n ≤ cap) (w : World) :
    (Instr.slice 27 (.slice a n cap) none (some (.int .i64 (t : Int))) none).run Tryz.prog w = .ok (.slice a t cap) w := by
  have h0 := Tryz.size38
  have hm := map_zero a
  cases hq : Tryz.prog.info? 50 with
  | none => rw [hq] at h0; cases h0
  | some i =>
    have htc : t ≤ cap := by omega
    simp [Instr.slice, run_underlying Tryz.underlying27, Instr.sliceBounds, run_sliceBound, sizeOf, typeInfo, hq, htc]
    exact fun _ => by simpa using hm

/-- The steps from q on, up to t. -/
theorem slice_mid (a : Option Addr) (n cap q t : Nat) (h : q ≤ t) (ht : t ≤ n) (hc : n ≤ cap) (w : World) :
    (Instr.slice 27 (.slice a n cap) (some (.int .i64 (q : Int))) (some (.int .i64 (t : Int))) none).run Tryz.prog w = .ok (.slice (if cap = q then a else a.map (·.add (q * 3))) (t - q) (cap - q)) w := by
  have h0 := Tryz.size38
  cases hq : Tryz.prog.info? 50 with
  | none => rw [hq] at h0; cases h0
  | some i =>
    rw [hq] at h0
    have hi : i.size = 3 := by simpa using h0
    have htc : t ≤ cap := by omega
    have hqc : q ≤ cap := by omega
    simp [Instr.slice, run_underlying Tryz.underlying27, Instr.sliceBounds, run_sliceBound, sizeOf, typeInfo, hq, hi, htc, h]

theorem is_to {w : World} {a : Option Addr} {n cap : Nat} {l : List Wd.Io} (h : Wd.Is w (.slice a n cap) l) (t : Nat) (ht : t ≤ n) : Wd.Is w (.slice a t cap) (l.take t) := by
  obtain ⟨a', n', cap', h1, h2, h3, h4, h5, h7⟩ := h
  cases h1
  refine ⟨a, t, cap, rfl, by simp; omega, by omega, h4, by omega, fun h0 => ?_⟩
  obtain ⟨b, off, ha, hb, hc⟩ := h7 (by omega)
  refine ⟨b, off, ha, hb, fun i hi => ?_⟩
  have e : (l.take t).getD i Wd.d0 = l.getD i Wd.d0 := by simp [hi]
  rw [e]
  exact hc i (by omega)

theorem is_part {w : World} {a : Option Addr} {n cap : Nat} {l : List Wd.Io} (h : Wd.Is w (.slice a n cap) l) (q t : Nat) (hq : q ≤ t) (ht : t ≤ n) :
    Wd.Is w (.slice (if cap = q then a else a.map (·.add (q * 3))) (t - q) (cap - q)) ((l.drop q).take (t - q)) := by
  obtain ⟨a', n', cap', h1, h2, h3, h4, h5, h7⟩ := h
  cases h1
  refine ⟨_, t - q, cap - q, rfl, by simp; omega, by omega, by omega, by omega, fun h0 => ?_⟩
  obtain ⟨b, off, rfl, hb, hc⟩ := h7 (by omega)
  rw [if_neg (by omega)]
  refine ⟨b, off + q * 3, by simp [Wc.add_none], hb, fun i hi => ?_⟩
  have e : ((l.drop q).take (t - q)).getD i Wd.d0 = l.getD (q + i) Wd.d0 := by simp [hi]
  rw [e, show off + q * 3 + i * 3 = off + (q + i) * 3 by omega]
  exact hc (q + i) (by omega)

set_option maxHeartbeats 1600000 in
theorem writeAll_any (w0 w : World) (g n cap m : Nat) (a : Option Addr) (ln lcap : Nat) (xs : List Int) (l : List Wd.Io) (hm : 0 < m) (hn : n = m * 64) (hb : Below w0.heap.size w0 w)
    (hv : Wc.Ob 5 w0.heap.size w (.slice (some ⟨g, 0, none⟩) n cap) xs) (hI : Wd.Is w0 (.slice a ln lcap) l) (hok : l.all (Wd.okIo m) = true) :
    Calls Tryz.prog 57 #[.slice (some ⟨g, 0, none⟩) n cap, .slice a ln lcap] w fun e w' => e = .returned (.tuple #[]) ∧ Wc.Ob 5 w0.heap.size w' (.slice (some ⟨g, 0, none⟩) n cap) (Wd.app xs l) ∧ Below w0.heap.size w0 w' := by
  obtain ⟨a', n', cap', h1, hl, hcap, hcap2, hln, hpos⟩ := hI
  cases h1
  have HP := Wc.hid hpos
  have HL := Wc.hid hl
  have HV := Wc.hid hv
  have HOK := Wc.hid hok
  have HN := Wc.hid hn
  have HM := Wc.hid hm
  clear hpos hl hv hok hn hm
  go_enter Tryz.func57, Tryz.ntmps57
  go_wp2
  go_loopw [8] (fun i wr => ∃ k : Nat, i = .int .i64 k ∧ k ≤ ln ∧ Below w0.heap.size w0 wr ∧ Hid (Wc.Ob 5 w0.heap.size wr (.slice (some ⟨g, 0, none⟩) n cap) (Wd.app xs (l.take k)))) (fun i _ => ln - (intOf i).toNat)
  case atStart => exact ⟨0, rfl, by omega, hb, by simpa [Wd.app] using HV⟩
  case round =>
    obtain ⟨k, rfl, hk, hbr, HO⟩ := hrel
    by_cases hlt : k < ln
    · obtain ⟨b, off, rfl, hblt, hcs⟩ := HP.out (by omega)
      obtain ⟨a', c', hx⟩ := hcs k hlt
      have hkl : k < l.length := by rw [HL.out]; exact hlt
      have hts := Wd.take_succ l k hkl
      have hxok := Wd.all_at HOK.out k hkl
      obtain ⟨x, hxe⟩ : ∃ x, l.getD k Wd.d0 = x := ⟨_, rfl⟩
      rw [hxe] at hx hts hxok
      obtain ⟨c0, c1, c2, c3, -⟩ := hx.keep hbr
      obtain ⟨p, hp, hp1, hp2⟩ := Wd.ok_fits hxok HM.out
      rw [hp] at c1
      have E1 := Wc.hid (Wd.one_pos (xs := Wd.app xs (l.take k)) hp)
      rw [← HN.out] at hp1 hp2
      have HTS := Wc.hid hts
      have C3 := Wc.hid c3
      have HP1 := Wc.hid hp1
      have HP2 := Wc.hid hp2
      clear hcs hx hts hxok hxe hp c3 hp1 hp2
      obtain ⟨dn, hdn⟩ : ∃ dn, x.data.length = dn := ⟨_, rfl⟩
      rw [hdn] at c2 C3
      clear hdn
      go_wp2_with (go_at_call 77; refine (write_any w0.heap.size g n cap p dn c' x.kind a' _ _ _ (HO.out.keep ((Below.refl _ _).alloc (Nat.le_refl _) _)) (C3.out.keep ((Below.refl _ _).alloc (Nat.le_refl _) _)) HP1.out HP2.out (by have := hbr.size; simp; omega)).mono ?_; rintro e w2 ⟨rfl, hO2, hb2⟩)
      go_roundw
      case rel =>
        refine ⟨k + 1, by go_num, by omega, (hbr.alloc hbr.size _).trans hb2, ?_⟩
        have := HTS.out
        refine Wc.hid ?_
        rw [this, Wd.app_snoc, E1.out]
        exact hO2
      case measure => simp only [intOf]; omega
    · obtain rfl : k = ln := by omega
      go_wp2
      go_end0
      refine ⟨rfl, ?_, hbr⟩
      have := HO.out
      rw [List.take_of_length_le (by rw [HL.out]; exact Nat.le_refl _)] at this
      exact this

end Go.Proofs.YtfflhiajbioheaaGreat
namespace Wd
open Go Go.RowKit

/-- What Apply tells. -/
def appR (xs : List Int) (l : List Io) : List Int := if stepsE xs.length l = 0 then app xs l else []
/-- What Read tells. -/
def rdE (n : Nat) (p : Int) : Int := if devB n then (if 0 ≤ p ∧ p < (n : Int) / 64 then 0 else 3) else 2
def rdR (xs : List Int) (p : Int) : List Int := if rdE xs.length p = 0 then (xs.drop (p.toNat * 64)).take 64 else []

theorem stepsE_zero {n : Nat} {l : List Io} (h : stepsE n l = 0) : devB n = true ∧ l.length ≤ 1048576 ∧ l.all (okIo ((n / 64 : Nat) : Int)) = true := by
  unfold stepsE at h
  by_cases h1 : devB n = true
  · rw [if_pos h1] at h
    by_cases h2 : l.length ≤ 1048576
    · rw [if_pos h2] at h
      have : chkN n = ((n / 64 : Nat) : Int) := by simp [chkN, h1]
      rw [this] at h
      by_cases h3 : l.all (okIo ((n / 64 : Nat) : Int)) = true
      · exact ⟨h1, h2, h3⟩
      · rw [if_neg h3] at h; exact absurd h (by decide)
    · rw [if_neg h2] at h; exact absurd h (by decide)
  · rw [if_neg h1] at h; exact absurd h (by decide)

theorem one_length {m : Nat} {xs : List Int} {x : Io} (hm : 0 < m) (hx : xs.length = m * 64) (h : okIo m x = true) : (one xs x).length = xs.length := by
  obtain ⟨p, hp, h1, -⟩ := ok_fits h hm
  rw [one_pos hp]
  exact lay_length _ _ _ (by omega)

theorem app_length {m : Nat} (hm : 0 < m) : ∀ (l : List Io) (xs : List Int), xs.length = m * 64 → l.all (okIo m) = true → (app xs l).length = xs.length
  | [], _, _, _ => rfl
  | x :: l, xs, hx, h => by
    have h1 : okIo m x = true ∧ l.all (okIo m) = true := by simpa using h
    have e := one_length hm hx h1.1
    show (app (one xs x) l).length = _
    rw [app_length hm l (one xs x) (by omega) h1.2, e]

end Wd
namespace Go.Proofs.YtfflhiajbioheaaGreat
open Go.RowKit

theorem tuple2 {a : Option Addr} {n c : Nat} {i j : Int} (h : i = j) : Ending.returned (.tuple #[.slice a n c, .int .i64 i]) = .returned (.tuple #[.slice a n c, .int .i64 j]) := by rw [h]

set_option maxHeartbeats 1600000 in
theorem apply_any (ai : Option Addr) (ni ci : Nat) (a : Option Addr) (n cap : Nat) (xs : List Int) (l : List Wd.Io) (w : World) (hv : Wc.Bs w (.slice ai ni ci) xs) (hI : Wd.Is w (.slice a n cap) l) :
    Calls Tryz.prog 39 #[.slice ai ni ci, .slice a n cap] w fun e w' => ∃ ax cx, e = .returned (.tuple #[.slice ax (Wd.appR xs l).length cx, .int .i64 (Wd.stepsE xs.length l)]) ∧ Wc.Bs w' (.slice ax (Wd.appR xs l).length cx) (Wd.appR xs l) ∧ Below w.heap.size w w' := by
  have hni : ni ≤ 140737488355328 := by obtain ⟨_, _, _, h1, _, _, _, h5, _⟩ := hv; cases h1; exact h5
  have hl := Wc.bs_len hv
  have HV := Wc.hid hv
  have HI := Wc.hid hI
  clear hv hI
  by_cases hz : Wd.stepsE xs.length l = 0
  · have HZ := Wc.hid hz
    have HL := Wc.hid hl
    rw [hl] at hz
    clear hl
    go_enter Tryz.func39, Tryz.ntmps39
    go_wp2_with fail
    refine (steps_any _ _ _ _ _ _ l _ hni HI.out).mono ?_
    rintro e w1 ⟨rfl, hb1⟩
    rw [hz]
    go_wp2_with fail
    refine (copied_any _ _ _ xs _ (HV.out.keep hb1)).mono ?_
    rintro e w2 ⟨g, rfl, hg, hO, hb2⟩
    have HO := Wc.hid hO
    have hst := Wd.stepsE_zero HZ.out
    have hd := Wd.devB_iff.1 hst.1
    rw [HL.out] at hd hst
    have HB2 := Wc.hid (Wc.step hb1 (Nat.le_refl _) hb2)
    have HI1 := Wc.hid (HI.out.keep hb1)
    have HST := Wc.hid hst.2.2
    have HD := Wc.hid hd
    have HB1 := Wc.hid hb1
    have HBB := Wc.hid hb2
    clear hO hst hd hb2 hb1 HZ
    go_wp2_with fail
    refine (writeAll_any w1 w2 g ni ni (ni / 64) a n cap xs l (by have := HD.out; omega) (by have := HD.out; omega) HBB.out HO.out HI1.out HST.out).mono ?_
    rintro e w3 ⟨rfl, hO3, hb3⟩
    go_wp2_with fail
    go_ret2
    have e1 : Wd.appR xs l = Wd.app xs l := by unfold Wd.appR; rw [HL.out, if_pos hz]
    have e2 : (Wd.app xs l).length = ni := Wc.bs_len hO3.bs
    rw [e1, e2, HL.out]
    exact ⟨_, _, tuple2 hz.symm, hO3.bs, Wc.step HB1.out (Nat.le_refl _) hb3⟩
  · have HZ := Wc.hid hz
    have HL := Wc.hid hl
    rw [hl] at hz
    obtain ⟨E, hE⟩ : ∃ E, Wd.stepsE ni l = E := ⟨_, rfl⟩
    rw [hE] at hz
    have HE := Wc.hid hE
    clear hl hE
    go_enter Tryz.func39, Tryz.ntmps39
    go_wp2_with fail
    refine (steps_any _ _ _ _ _ _ l _ hni HI.out).mono ?_
    rintro e w1 ⟨rfl, hb1⟩
    rw [HE.out]
    have hz' : (E != 0) = true := by simpa using hz
    go_wp2_with fail
    go_ret2
    have e1 : Wd.appR xs l = [] := by unfold Wd.appR; rw [if_neg HZ.out]
    rw [e1, HL.out, HE.out]
    exact ⟨_, _, rfl, Wc.Bs.nil _, hb1⟩

theorem slice_bytes (a : Option Addr) (n cap q t : Nat) (i j : Int) (hi : i = q) (hj : j = t) (h : q ≤ t) (ht : t ≤ cap) (w : World) :
    (Instr.slice 48 (.slice a n cap) (some (.int .i64 i)) (some (.int .i64 j)) none).run Tryz.prog w = .ok (.slice (if cap = q then a else a.map (·.add q)) (t - q) (cap - q)) w := by
  subst hi hj
  have h0 := Tryz.sizeU8
  cases hq : Tryz.prog.info? 5 with
  | none => rw [hq] at h0; cases h0
  | some i =>
    rw [hq] at h0
    have hi : i.size = 1 := by simpa using h0
    have hqc : q ≤ cap := by omega
    simp [Instr.slice, run_underlying Tryz.underlying48, Instr.sliceBounds, run_sliceBound, sizeOf, typeInfo, hq, hi, ht, h]

theorem bs_part {w : World} {a : Option Addr} {n cap : Nat} {xs : List Int} (h : Wc.Bs w (.slice a n cap) xs) (q t : Nat) (hq : q ≤ t) (ht : t ≤ n) :
    Wc.Bs w (.slice (if cap = q then a else a.map (·.add q)) (t - q) (cap - q)) ((xs.drop q).take (t - q)) := by
  have hb := Wc.bs_bytes h
  obtain ⟨a', n', cap', h1, h2, h3, h4, h5, h6, h7⟩ := h
  cases h1
  refine ⟨_, t - q, cap - q, rfl, by simp; omega, by omega, by omega, by omega, fun x hx => hb x (List.mem_of_mem_drop (List.mem_of_mem_take hx)), fun h0 => ?_⟩
  obtain ⟨b, off, rfl, hb', hc⟩ := h7 (by omega)
  rw [if_neg (by omega)]
  refine ⟨b, off + q, by simp [Wc.add_none], hb', fun i hi => ?_⟩
  rw [Nat.add_assoc, hc (q + i) (by omega)]
  simp [hi]

set_option maxHeartbeats 1600000 in
theorem read_any (ai : Option Addr) (ni ci : Nat) (p : Int) (xs : List Int) (w : World) (hv : Wc.Bs w (.slice ai ni ci) xs) :
    Calls Tryz.prog 83 #[.slice ai ni ci, .int .i64 p] w fun e w' => ∃ ax cx, e = .returned (.tuple #[.slice ax (Wd.rdR xs p).length cx, .int .i64 (Wd.rdE xs.length p)]) ∧ Wc.Bs w' (.slice ax (Wd.rdR xs p).length cx) (Wd.rdR xs p) ∧ Below w.heap.size w w' := by
  have hni : ni ≤ 140737488355328 := by obtain ⟨_, _, _, h1, _, _, _, h5, _⟩ := hv; cases h1; exact h5
  have hl := Wc.bs_len hv
  have hcap := (Wc.bs_cap hv).1
  have HV := Wc.hid hv
  have HL := Wc.hid hl
  rw [hl]
  clear hv hl
  by_cases hd : Wd.devB ni = true
  · have hN := (Wd.chk_yes (Wd.devB_iff.1 hd)).1.symm
    have hE := (Wd.chk_yes (Wd.devB_iff.1 hd)).2.symm
    have hdd := Wd.devB_iff.1 hd
    obtain ⟨m, hm⟩ : ∃ m : Nat, ni / 64 = m := ⟨_, rfl⟩
    have hmi : (ni : Int) / 64 = (m : Int) := by omega
    rw [hmi] at hN
    by_cases hp : 0 ≤ p ∧ p < (m : Int)
    · obtain ⟨q, rfl⟩ : ∃ q : Nat, p = q := ⟨p.toNat, by omega⟩
      have e0 : Wd.rdE ni q = 0 := by unfold Wd.rdE; rw [if_pos hd, hmi, if_pos hp]
      have e1 : Wd.rdR xs q = (xs.drop (q * 64)).take 64 := by unfold Wd.rdR; rw [HL.out, if_pos e0]; rfl
      have e2 : ((xs.drop (q * 64)).take 64).length = 64 := by have := HL.out; simp; omega
      have ham : (decide ((0 : Int) ≤ (q : Int)) && decide ((q : Int) < (m : Int))) = true := by simp; omega
      have hs := slice_bytes ai ni ci (q * 64) (q * 64 + 64) ((q : Int) * 64) (((q : Int) + 1) * 64) (by omega) (by omega) (by omega) (by omega)
      have HP := Wc.hid (bs_part HV.out (q * 64) (q * 64 + 64) (by omega) (by omega))
      rw [show q * 64 + 64 - q * 64 = 64 by omega] at hs HP
      have hq : (q : Int) < 4096 := by omega
      rw [e1, e2, e0]
      clear e0 e1 e2 HV HL hp hmi hm hdd hd
      generalize (if ci = q * 64 then ai else Option.map (fun x => x.add (q * 64)) ai) = ap at hs HP
      go_enter Tryz.func83, Tryz.ntmps83
      go_wp2_with (first | (go_at_call 70; refine (check_any _ _ _ _ hni).mono ?_; rintro e w' ⟨rfl, rfl⟩; rw [hN, hE]) | (go_at_call 93; refine (among_any _ _ _).mono ?_; rintro e w' ⟨rfl, rfl⟩; rw [ham]) | (go_at_call 56; refine (copied_any _ _ _ _ _ HP.out).mono ?_; rintro e w2 ⟨g, rfl, hg, hO, hb2⟩))
      go_ret2
      exact ⟨_, _, rfl, hO.bs, hb2⟩
    · have e0 : Wd.rdE ni p = 3 := by unfold Wd.rdE; rw [if_pos hd, hmi, if_neg hp]
      have e1 : Wd.rdR xs p = [] := by unfold Wd.rdR; rw [HL.out, if_neg (by rw [e0]; decide)]
      have ham : (decide ((0 : Int) ≤ p) && decide (p < (m : Int))) = false := by rw [Bool.eq_false_iff]; simp; omega
      rw [e1, e0]
      clear e0 e1 HV HL hp hmi hm hdd hd
      go_enter Tryz.func83, Tryz.ntmps83
      go_wp2_with (first | (go_at_call 70; refine (check_any _ _ _ _ hni).mono ?_; rintro e w' ⟨rfl, rfl⟩; rw [hN, hE]) | (go_at_call 93; refine (among_any _ _ _).mono ?_; rintro e w' ⟨rfl, rfl⟩; rw [ham]))
      go_ret2
      exact ⟨_, _, rfl, Wc.Bs.nil _, Below.refl _ _⟩
  · have hE := (Wd.chk_no (fun h => hd (Wd.devB_iff.2 h))).2.symm
    have e0 : Wd.rdE ni p = 2 := by unfold Wd.rdE; rw [if_neg hd]
    have e1 : Wd.rdR xs p = [] := by unfold Wd.rdR; rw [HL.out, if_neg (by rw [e0]; decide)]
    rw [e1, e0]
    clear e0 e1 HV HL hd
    go_enter Tryz.func83, Tryz.ntmps83
    go_wp2_with (go_at_call 70; refine (check_any _ _ _ _ hni).mono ?_; rintro e w' ⟨rfl, rfl⟩; rw [hE])
    go_ret2
    exact ⟨_, _, rfl, Wc.Bs.nil _, Below.refl _ _⟩

end Go.Proofs.YtfflhiajbioheaaGreat
namespace Wd
open Go Go.RowKit Go.ChangeShapes Go.WideShapes

/-- Bytes that came in. -/
def RawB (w : World) (a : Option Addr) (n cap : Nat) (zs : List Int) : Prop :=
  zs.length = n ∧ n ≤ cap ∧ cap ≤ 9223372036854775807 ∧ (∀ x ∈ zs, 0 ≤ x ∧ x < 256) ∧ Wc.Shaped (.slice a n cap) ∧
    (0 < n → ∃ b off, a = some ⟨b, off, none⟩ ∧ b < w.heap.size ∧ ∀ i, i < n → w.cell? ⟨b, off + i, none⟩ = some (.int .u8 (zs.getD i 0)))

theorem RawB.bs {w : World} {a : Option Addr} {n cap : Nat} {zs : List Int} (h : RawB w a n cap zs) (hn : n ≤ 140737488355328) : Wc.Bs w (.slice a n cap) zs :=
  ⟨a, n, cap, rfl, h.1, h.2.1, h.2.2.1, hn, h.2.2.2.1, h.2.2.2.2.2⟩

/-- Steps that came in. -/
def Raw (w : World) (a : Option Addr) (n cap : Nat) (l : List Io) : Prop :=
  l.length = n ∧ n ≤ cap ∧ cap ≤ 9223372036854775807 ∧
    (0 < n → ∃ b off, a = some ⟨b, off, none⟩ ∧ b < w.heap.size ∧ ∀ i, i < n → ∃ a' c', w.cell? ⟨b, off + i * 3, none⟩ = some (.int .i64 (l.getD i d0).kind) ∧ w.cell? ⟨b, off + i * 3 + 1, none⟩ = some (.int .i64 (l.getD i d0).pos) ∧
      w.cell? ⟨b, off + i * 3 + 2, none⟩ = some (.slice a' (l.getD i d0).data.length c') ∧ RawB w a' (l.getD i d0).data.length c' (l.getD i d0).data)

theorem Raw.is {w : World} {a : Option Addr} {n cap : Nat} {l : List Io} (h : Raw w a n cap l) (hn : n ≤ 1099511627776) (hd : ∀ x ∈ l, x.data.length ≤ 140737488355328) : Is w (.slice a n cap) l := by
  obtain ⟨h1, h2, h3, h4⟩ := h
  refine ⟨a, n, cap, rfl, h1, h2, h3, hn, fun h0 => ?_⟩
  obtain ⟨b, off, ha, hb, hc⟩ := h4 h0
  refine ⟨b, off, ha, hb, fun i hi => ?_⟩
  obtain ⟨a', c', k0, k1, k2, k3⟩ := hc i hi
  have hm : l.getD i d0 ∈ l := by
    have : i < l.length := by omega
    have e : l.getD i d0 = l[i] := by simp [this]
    rw [e]; exact List.getElem_mem this
  exact ⟨a', c', k0, k1, k2, k3.bs (hd _ hm), k3.2.2.2.2.1⟩

section
variable {H : Type} {enc : TypeId × Value → H} {P : Program} {w : World} {base : Nat} {spare : Nat → Bool} {held : Bool} {x : DataW H × List MemPlace} {fuel : Nat}

theorem open_bytes {t e : TypeId} {a : Option Addr} {len cap : Nat} (ht : P.underlying t = some (.slice e)) (he : P.underlying e = some (.int .u8)) (hc : P.cellsOf e = 1) (h : DataW.trod enc P w base spare held fuel t [.slice a len cap] = some x) :
    ∃ zs, RawB w a len cap zs := by
  rcases open_ints ht he hc h with ⟨h0, _⟩ | ⟨ad, len', cap', zs, h0, _, hl, hm, hz, _, hcell, hwz⟩
  · simp at h0
    obtain ⟨rfl, rfl, rfl⟩ := h0
    exact ⟨[], rfl, Nat.le_refl _, by omega, by simp, .inl rfl, by omega⟩
  · simp at h0
    obtain ⟨rfl, rfl, rfl⟩ := h0
    have hlz : len ≤ zs.length := by rw [hz]; split <;> omega
    refine ⟨zs.take len, by simp; omega, hl, by unfold maxLen at hm; omega, fun y hy => Wc.byte_wf (hwz y (List.mem_of_mem_take hy)), .inr ⟨_, _, _, rfl⟩, fun h0 => ?_⟩
    obtain ⟨b, off, rfl, hc⟩ := ints_at hcell (by omega)
    refine ⟨b, off, rfl, Wc.cell_lt (hc 0 (by omega)), fun i hi => ?_⟩
    rw [hc i (by omega)]
    simp [hi]

theorem open_bools {t e : TypeId} {a : Option Addr} {len cap : Nat} (ht : P.underlying t = some (.slice e)) (he : P.underlying e = some .bool) (hc : P.cellsOf e = 1) (h : DataW.trod enc P w base spare held fuel t [.slice a len cap] = some x) :
    ∃ ks, Wv.IsRowV Value.bool false w a len cap ks := by
  rcases Deep.open_slice1 ht hc h with ⟨h0, _⟩ | ⟨ad, len', cap', m, n, V, D, Pl, h0, hb, hl, hm, hmm, -, hx⟩
  · simp at h0
    obtain ⟨rfl, rfl, rfl⟩ := h0
    exact ⟨[], .inl ⟨rfl, rfl, rfl, rfl⟩⟩
  · simp at h0
    obtain ⟨rfl, rfl, rfl⟩ := h0
    have hlm : len ≤ m := by rw [hmm]; split <;> omega
    have each : ∀ i, i < len → ∃ z : Bool, V i = .bool z := fun i hi => by
      obtain ⟨z, hz, -⟩ := DataW.trod_bool he (hx i (by omega)).2
      exact ⟨z, by simpa using hz⟩
    obtain ⟨Z, hZ⟩ := Deep.choose_lt each
    refine ⟨(List.range len).map Z, .inr ⟨ad, rfl, hl, hm, by simp, fun i hi => ?_⟩⟩
    rw [(hx i (by omega)).1, hZ i hi]
    simp [hi]

theorem open_ios {t e it bt ut : TypeId} {f0 f1 f2 : Field} {a : Option Addr} {len cap : Nat} (ht : P.underlying t = some (.slice e)) (he : P.underlying e = some (.struct #[f0, f1, f2])) (hc : P.cellsOf e = 3)
    (t0 : f0.type = it) (t1 : f1.type = it) (t2 : f2.type = bt) (o0 : f0.offset = 0) (o1 : f1.offset = 1) (o2 : f2.offset = 2) (hi : P.underlying it = some (.int .i64)) (hci : P.cellsOf it = 1)
    (hbt : P.underlying bt = some (.slice ut)) (hcb : P.cellsOf bt = 1) (hut : P.underlying ut = some (.int .u8)) (hcu : P.cellsOf ut = 1) (h : DataW.trod enc P w base spare held fuel t [.slice a len cap] = some x) :
    ∃ l, Raw w a len cap l := by
  rcases Deep.open_slice ht h with ⟨h0, _⟩ | ⟨ad, len', cap', m, n, D, Pl, h0, hb, hl, hm, hmm, -, hx⟩
  · simp at h0
    obtain ⟨rfl, rfl, rfl⟩ := h0
    exact ⟨[], rfl, Nat.le_refl _, by omega, by omega⟩
  · simp at h0
    obtain ⟨rfl, rfl, rfl⟩ := h0
    have hlm : len ≤ m := by rw [hmm]; split <;> omega
    rw [hc] at hx
    have each : ∀ i, i < len → ∃ q : Io, ∃ a' c', w.cell? (ad.add (i * 3)) = some (.int .i64 q.kind) ∧ w.cell? (ad.add (i * 3 + 1)) = some (.int .i64 q.pos) ∧ w.cell? (ad.add (i * 3 + 2)) = some (.slice a' q.data.length c') ∧ RawB w a' q.data.length c' q.data := fun i hi' => by
      obtain ⟨cs, h1, h2⟩ := hx i (by omega)
      obtain ⟨-, hlen, hcell⟩ := World.cells?_some h1
      obtain ⟨y0, y1, y2, n', -, -, k0, k1, k2⟩ := Deep.trod_struct3 he h2
      rw [t0, o0, hci] at k0
      rw [t1, o1, hci] at k1
      rw [t2, o2, hcb] at k2
      match cs, hlen with
      | [v0, v1, v2], _ =>
        simp at k0 k1 k2
        obtain ⟨z0, e0, -⟩ := DataW.trod_int hi k0
        obtain ⟨z1, e1, -⟩ := DataW.trod_int hi k1
        simp at e0 e1
        subst e0 e1
        have g0 := hcell 0 (by omega)
        have g1 := hcell 1 (by omega)
        have g2 := hcell 2 (by omega)
        simp only [Deep.add_add] at g0 g1 g2
        have hsl : ∃ a' n' c', v2 = .slice a' n' c' := by
          rcases open_ints hbt hut hcu k2 with ⟨h0, _⟩ | ⟨ad, len', cap', zs, h0, _⟩
          · simp at h0; exact ⟨_, _, _, h0⟩
          · simp at h0; exact ⟨_, _, _, h0⟩
        obtain ⟨a', n', c', rfl⟩ := hsl
        obtain ⟨zs, hz⟩ := open_bytes hbt hut hcu k2
        refine ⟨⟨z0, z1, zs⟩, a', c', by simpa using g0, by simpa using g1, ?_, ?_⟩
        · rw [hz.1]; simpa using g2
        · rw [hz.1]; exact hz
    haveI : Inhabited Io := ⟨d0⟩
    obtain ⟨Z, hZ⟩ := Deep.choose_lt each
    refine ⟨(List.range len).map Z, by simp, hl, by unfold maxLen at hm; omega, fun h0 => ?_⟩
    obtain ⟨b, off, spot⟩ := ad
    have hspot : spot = none := by
      obtain ⟨a', c', k0, -⟩ := hZ 0 h0
      simpa [Addr.add] using World.cell?_spot k0
    subst hspot
    refine ⟨b, off, rfl, ?_, fun i hi => ?_⟩
    · obtain ⟨a', c', k0, -⟩ := hZ 0 h0
      rw [Wc.add_none] at k0
      exact Wc.cell_lt k0
    · obtain ⟨a', c', k0, k1, k2, k3⟩ := hZ i hi
      rw [Wc.add_none] at k0 k1 k2
      have e : ((List.range len).map Z).getD i d0 = Z i := by simp [hi]
      rw [e]
      exact ⟨a', c', k0, by rw [Nat.add_assoc]; exact k1, by rw [Nat.add_assoc]; exact k2, k3⟩

end
end Wd
namespace Wd
open Go Go.RowKit

theorem heavy_no {n : Nat} {l : List Io} (h : heavyB n l = false) : n ≤ 19200 ∧ l.length ≤ 400 ∧ ∀ x ∈ l, x.data.length ≤ 300 := by
  simp only [heavyB, Bool.not_eq_false', Bool.and_eq_true, decide_eq_true_eq, List.all_eq_true, lightIo] at h
  exact ⟨h.1, h.2.1, h.2.2⟩

theorem Raw.light {w : World} {a : Option Addr} {n cap : Nat} {l : List Io} {ni : Nat} (h : Raw w a n cap l) (hh : heavyB ni l = false) : Is w (.slice a n cap) l := by
  obtain ⟨-, h2, h3⟩ := heavy_no hh
  refine h.is (by have := h.1; omega) fun x hx => ?_
  have := h3 x hx
  omega

end Wd
namespace Go.Proofs.YtfflhiajbioheaaGreat
open Go.RowKit

set_option maxHeartbeats 1600000 in
theorem heavy_raw (ai : Option Addr) (ni ci : Nat) (a : Option Addr) (n cap : Nat) (l : List Wd.Io) (w : World) (hR : Wd.Raw w a n cap l) :
    Calls Tryz.prog 4 #[.slice ai ni ci, .slice a n cap] w fun e w' => e = .returned (.bool (Wd.heavyB ni l)) ∧ w = w' := by
  obtain ⟨hl, hcap, hcap2, hpos⟩ := hR
  have HP := Wc.hid hpos
  have HL := Wc.hid hl
  clear hpos hl
  by_cases hg : ni ≤ 19200 ∧ n ≤ 400
  · have g1 : decide ((19200 : Int) < (ni : Int)) = false := by simp; omega
    have g2 : decide ((400 : Int) < (n : Int)) = false := by simp; omega
    have HG := Wc.hid hg
    clear hg
    go_enter Tryz.func4, Tryz.ntmps4
    go_wp2
    clear g1 g2
    go_loopw [5] (fun i wr => ∃ k : Nat, i = .int .i64 k ∧ k ≤ n ∧ w = wr ∧ Hid (∀ j, j < k → Wd.lightIo (l.getD j Wd.d0) = true)) (fun i _ => n - (intOf i).toNat)
    case atStart => exact ⟨0, rfl, by omega, rfl, fun j h => by omega⟩
    case round =>
      obtain ⟨k, rfl, hk, rfl, HZ⟩ := hrel
      by_cases hlt : k < n
      · obtain ⟨b, off, rfl, hblt, hcs⟩ := HP.out (by omega)
        obtain ⟨a', c', c0, c1, c2, -⟩ := hcs k hlt
        clear hcs
        obtain ⟨x, hx⟩ : ∃ x, l.getD k Wd.d0 = x := ⟨_, rfl⟩
        rw [hx] at c0 c1 c2
        have HX := Wc.hid hx
        clear hx
        by_cases hli : x.data.length ≤ 300
        · have g3 : decide ((300 : Int) < (x.data.length : Int)) = false := by simp; omega
          have HH := Wc.hid hli
          clear hli
          go_wp2
          go_roundw
          case rel =>
            refine ⟨k + 1, by go_num, by omega, (by trivial), fun j hj => ?_⟩
            by_cases hjk : j = k
            · subst hjk; rw [HX.out]; exact decide_eq_true HH.out
            · exact HZ.out j (by omega)
          case measure => simp only [intOf]; omega
        · have g3 : decide ((300 : Int) < (x.data.length : Int)) = true := by simp; omega
          have HH := Wc.hid hli
          clear hli
          go_wp2
          go_ret
          refine ⟨ret_bool ?_, rfl⟩
          have := Wd.all_false (l := l) (f := Wd.lightIo) k (by rw [HL.out]; exact hlt) (by rw [HX.out]; exact decide_eq_false HH.out)
          simp [Wd.heavyB, this]
      · go_wp2
        go_ret
        refine ⟨ret_bool ?_, rfl⟩
        have := Wd.all_true (l := l) (f := Wd.lightIo) (fun j hj => HZ.out j (by rw [HL.out] at hj; omega))
        have h1 := HG.out.1
        have h2 : l.length ≤ 400 := by rw [HL.out]; exact HG.out.2
        simp [Wd.heavyB, this, h1, h2]
  · clear HP
    have HG := Wc.hid hg
    have hh : Wd.heavyB ni l = true := by
      unfold Wd.heavyB
      rw [HL.out]
      by_cases h1 : ni ≤ 19200
      · have h2 : ¬ n ≤ 400 := fun h => hg ⟨h1, h⟩
        simp [h2]
      · simp [h1]
    rw [hh]
    clear hh
    go_enter Tryz.func4, Tryz.ntmps4
    by_cases h1 : ni ≤ 19200
    · have g1 : decide ((19200 : Int) < (ni : Int)) = false := by simp; omega
      have g2 : decide ((400 : Int) < (n : Int)) = true := by simp; omega
      clear hg
      go_wp2
      go_ret
      exact ⟨rfl, rfl⟩
    · have g1 : decide ((19200 : Int) < (ni : Int)) = true := by simp; omega
      clear hg
      go_wp2
      go_ret
      exact ⟨rfl, rfl⟩

end Go.Proofs.YtfflhiajbioheaaGreat
namespace Wd
open Go Go.RowKit

abbrev In (w : World) (v : Value) (xs : List Int) : Prop := Wv.Rv (Value.int .i64) 0 w v xs

/-- The places of flushes among the first k. -/
def flN (l : List Io) : Nat → List Int
  | 0 => []
  | k + 1 => if (l.getD k d0).kind = 2 then flN l k ++ [(k : Int)] else flN l k

theorem flN_length (l : List Io) : ∀ k, (flN l k).length ≤ k
  | 0 => Nat.le_refl _
  | k + 1 => by
    have := flN_length l k
    simp only [flN]
    split
    · simp; omega
    · omega

end Wd
namespace Go.Proofs.YtfflhiajbioheaaGreat
open Go.RowKit

set_option maxHeartbeats 400000 in
theorem ints_pos (b off n cap b' off' cap' : Nat) (xs ys : List Int) (w : World) (hn : n ≤ 17592186044416) (hl : xs.length = n) (hl' : ys.length = n)
   (hc : ∀ i, i < n → w.cell? ⟨b, off + i, none⟩ = some (.int .i64 (xs.getD i 0)))
   (hc' : ∀ i, i < n → w.cell? ⟨b', off' + i, none⟩ = some (.int .i64 (ys.getD i 0))) :
    Calls Tryz.prog 12 #[.slice (some ⟨b, off, none⟩) n cap, .slice (some ⟨b', off', none⟩) n cap'] w fun e w' => e = .returned (.bool (xs == ys)) ∧ Below w.heap.size w w' := by
  have HL := Wc.hid hl
  have HL' := Wc.hid hl'
  clear hl hl'
  go_enter Tryz.func12, Tryz.ntmps12
  go_wp2
  go_loopw [5] (fun i wr => ∃ k : Nat, i = .int .i64 k ∧ k ≤ n ∧ Below w.heap.size w wr ∧ Hid (∀ a, wr.cell? a = w.cell? a) ∧ Hid (∀ j, j < k → xs.getD j 0 = ys.getD j 0)) (fun i _ => n - (intOf i).toNat)
  case atStart => exact ⟨0, rfl, by omega, Below.refl _ _, fun _ => rfl, fun j h => by omega⟩
  case round =>
    obtain ⟨k, rfl, hk, hb, hcc, HZ⟩ := hrel
    by_cases hlt : k < n
    · have h1 : wr.cell? ⟨b, off + k, none⟩ = some (.int .i64 (xs.getD k 0)) := by rw [hcc.out]; exact hc k hlt
      have h2 : wr.cell? ⟨b', off' + k, none⟩ = some (.int .i64 (ys.getD k 0)) := by rw [hcc.out]; exact hc' k hlt
      by_cases hz : xs.getD k 0 = ys.getD k 0
      · have hzb : (xs[k]?.getD 0 != ys[k]?.getD 0) = false := by rw [getD_get, getD_get, hz]; simp
        have HZ0 := Wc.hid hz
        clear hz
        go_wp2
        go_quiet (fail)
        go_wp2
        go_roundw
        case rel =>
          refine ⟨k + 1, by go_num, by omega, below_drewN hb _, hcc, fun j hj => ?_⟩
          by_cases hjk : j = k
          · subst hjk; exact HZ0.out
          · exact HZ.out j (by omega)
        case measure => simp [intOf]; omega
      · have hzb : (xs[k]?.getD 0 != ys[k]?.getD 0) = true := by rw [getD_get, getD_get]; simpa using hz
        have HZ0 := Wc.hid hz
        clear hz
        go_wp2
        go_quiet (fail)
        go_wp2
        go_ret
        exact ⟨ret_bool (Wc.list_ne k HZ0.out).symm, below_drewN hb _⟩
    · go_wp2
      go_ret
      exact ⟨ret_bool (Wc.list_eq (by rw [HL.out, HL'.out]) (fun j hj => HZ.out j (by rw [HL.out] at hj; omega))).symm, hb⟩

set_option maxHeartbeats 400000 in
theorem ints_nil (a a' : Option Addr) (cap cap' : Nat) (w : World) :
    Calls Tryz.prog 12 #[.slice a 0 cap, .slice a' 0 cap'] w fun e w' => e = .returned (.bool true) ∧ Below w.heap.size w w' := by
  go_enter Tryz.func12, Tryz.ntmps12
  go_wp2
  go_loopw [5] (fun i wr => i = .int .i64 0 ∧ Below w.heap.size w wr) (fun _ _ => 0)
  case atStart => exact ⟨rfl, Below.refl _ _⟩
  case round =>
    obtain ⟨rfl, hb⟩ := hrel
    go_wp2
    go_ret
    exact ⟨rfl, hb⟩

set_option maxHeartbeats 400000 in
theorem ints_len (a a' : Option Addr) (n n' cap cap' : Nat) (w : World) (h : ((n : Int) != (n' : Int)) = true) :
    Calls Tryz.prog 12 #[.slice a n cap, .slice a' n' cap'] w fun e w' => e = .returned (.bool false) ∧ Below w.heap.size w w' := by
  go_enter Tryz.func12, Tryz.ntmps12
  go_wp2
  go_ret
  exact ⟨rfl, Below.refl _ _⟩

theorem ints_any (v v' : Value) (xs ys : List Int) (w : World) (hv : Wd.In w v xs) (hv' : Wd.In w v' ys) :
    Calls Tryz.prog 12 #[v, v'] w fun e w' => e = .returned (.bool (xs == ys)) ∧ Below w.heap.size w w' := by
  by_cases hlen : xs.length = ys.length
  · rcases hv.open with ⟨rfl, a, cap, rfl, _⟩ | ⟨b, off, n, cap, rfl, h0, hl, _, _, hn, _, hc⟩
    · obtain rfl : ys = [] := List.eq_nil_of_length_eq_zero hlen.symm
      rcases hv'.open with ⟨_, a', cap', rfl, _⟩ | ⟨b, off, n, cap, rfl, h0, hl, _⟩
      · exact ints_nil a a' cap cap' w
      · simp at hl; omega
    · rcases hv'.open with ⟨rfl, a', cap', rfl, _⟩ | ⟨b', off', n', cap', rfl, h0', hl', _, _, _, _, hc'⟩
      · simp at hlen; subst hlen; simp at hl; omega
      · obtain rfl : n = n' := by omega
        exact ints_pos b off n cap b' off' cap' xs ys w hn hl hl' hc hc'
  · rw [Wc.list_ne_len hlen]
    obtain ⟨a, n, cap, rfl, hl, -⟩ := hv
    obtain ⟨a', n', cap', rfl, hl', -⟩ := hv'
    exact ints_len a a' n n' cap cap' w (by rw [bne_iff_ne]; omega)

end Go.Proofs.YtfflhiajbioheaaGreat
namespace Wd
open Go Go.RowKit

/-- A step and where its bytes lie. -/
abbrev Pl : Type := Io × (Option Addr × Nat)
def cells3 (q : Pl) : List Value := [.int .i64 q.1.kind, .int .i64 q.1.pos, .slice q.2.1 q.1.data.length q.2.2]
def Held (w : World) (q : Pl) : Prop := Wc.Bs w (.slice q.2.1 q.1.data.length q.2.2) q.1.data ∧ Wc.Shaped (.slice q.2.1 q.1.data.length q.2.2)

theorem Held.keep {w w' : World} {q : Pl} (h : Held w q) (hb : Below w.heap.size w w') : Held w' q := ⟨h.1.keep hb, h.2⟩

theorem flat_length : ∀ P : List Pl, (P.flatMap cells3).length = P.length * 3
  | [] => rfl
  | q :: P => by simp [List.flatMap_cons, flat_length P, cells3]; omega

theorem flat_get : ∀ (P : List Pl) (i j : Nat) (hi : i < P.length), j < 3 → (P.flatMap cells3)[i * 3 + j]? = (cells3 P[i])[j]?
  | [], i, _, hi, _ => by simp at hi
  | q :: P, 0, j, _, hj => by
    rw [List.flatMap_cons, List.getElem?_append_left (by simp [cells3]; omega)]
    simp
  | q :: P, i + 1, j, hi, hj => by
    rw [List.flatMap_cons, List.getElem?_append_right (by simp [cells3]; omega)]
    have := flat_get P i j (by simpa using hi) hj
    have e : (i + 1) * 3 + j - (cells3 q).length = i * 3 + j := by simp [cells3]; omega
    rw [e, this]
    simp

theorem getD_map (P : List Pl) (i : Nat) (hi : i < P.length) : (P.map Prod.fst).getD i d0 = P[i].1 := by simp [hi]

/-- Cells that lie one behind the other are steps. -/
theorem at_of_cells {w : World} {b o : Nat} {q : Pl} (h : ∀ j u, (cells3 q)[j]? = some u → w.cell? ⟨b, o + j, none⟩ = some u) (hq : Held w q) : At w b o q.1 q.2.1 q.2.2 := by
  have h0 := h 0 _ rfl
  have h1 := h 1 _ rfl
  have h2 := h 2 _ rfl
  exact ⟨by simpa using h0, h1, h2, hq.1, hq.2⟩

/-- Memory of the call's own, from the block base on, that holds steps, their bytes in blocks of their own: e, u are the numbers of the types. -/
def Oi (e u base : Nat) (w : World) (v : Value) (l : List Io) : Prop :=
  ∃ P : List Pl, P.map Prod.fst = l ∧ w.ownsRow base e 3 v P.length (P.flatMap cells3) ∧ P.length ≤ 1048576 ∧ ∀ q ∈ P, Wc.Ob u base w (.slice q.2.1 q.1.data.length q.2.2) q.1.data

theorem Oi.nil (e u base : Nat) (w : World) : Oi e u base w (.slice none 0 0) [] := ⟨[], rfl, World.ownsRow_nil _ _ _ _, by simp, by simp⟩

theorem Oi.keep {e u base : Nat} {w w' : World} {v : Value} {l : List Io} (h : Oi e u base w v l) (hb : Below w.heap.size w w') : Oi e u base w' v l := by
  obtain ⟨P, h1, h2, h3, h4⟩ := h
  refine ⟨P, h1, ⟨h2.1, ?_⟩, h3, fun q hq => (h4 q hq).keep hb⟩
  rcases h2.2 with hn | ⟨g, cap, cur, hv, hbg, hg, rest⟩
  · exact .inl hn
  · refine .inr ⟨g, cap, cur, hv, hbg, ?_, rest⟩
    rw [hb.block g (Array.getElem?_eq_some_iff.1 hg).1]
    exact hg

theorem Oi.is {e u base : Nat} {w : World} {v : Value} {l : List Io} (h : Oi e u base w v l) : Is w v l := by
  obtain ⟨P, rfl, h2, h3, h4⟩ := h
  rcases h2.2 with ⟨rfl, h0⟩ | ⟨g, cap, cur, rfl, hg, hh, k1, k2, k3, k4⟩
  · obtain rfl := List.eq_nil_of_length_eq_zero h0
    exact Is.nil w
  · refine ⟨_, P.length, cap, rfl, by simp, k1, by unfold maxLen at k2; omega, by omega, fun h0 => ⟨g, 0, rfl, (Array.getElem?_eq_some_iff.1 hh).1, fun i hi => ?_⟩⟩
    rw [getD_map P i hi]
    refine ⟨P[i].2.1, P[i].2.2, at_of_cells (fun j u hu => ?_) ⟨(h4 _ (List.getElem_mem hi)).bs, (h4 _ (List.getElem_mem hi)).shaped⟩⟩
    have hj : j < 3 := by have := (List.getElem?_eq_some_iff.1 hu).1; simpa [cells3] using this
    have := h2.cells (g := g) rfl (i * 3 + j) u (by rw [flat_get P i j hi hj]; exact hu)
    rw [Wc.add_none] at this
    rw [Nat.zero_add] at this ⊢
    exact this

theorem Oi.slice {e u base : Nat} {w : World} {v : Value} {l : List Io} (h : Oi e u base w v l) : ∃ a c, v = .slice a l.length c := by
  obtain ⟨P, rfl, h2, h3, h4⟩ := h
  rcases h2.2 with ⟨rfl, h0⟩ | ⟨g, cap, cur, rfl, hg, hh, k1, k2, k3, k4⟩
  · exact ⟨none, 0, by simp [h0]⟩
  · refine ⟨some ⟨g, 0, none⟩, cap, by simp⟩

/-- New cells hold steps. -/
theorem Is.lit (w : World) (cs : Array Value) (e n : Nat) (P : List Pl) (hn : P.length = n) (hm : n ≤ 1099511627776) (hc : cs.toList = P.flatMap cells3) (hq : ∀ q ∈ P, Held w q) :
    Is (w.alloc (.cells cs e)) (.slice (some ⟨w.heap.size, 0, none⟩) n n) (P.map Prod.fst) := by
  refine ⟨_, n, n, rfl, by simpa using hn, Nat.le_refl _, by omega, hm, fun _ => ⟨w.heap.size, 0, rfl, by simp, fun i hi => ?_⟩⟩
  rw [getD_map P i (by omega)]
  refine ⟨P[i].2.1, P[i].2.2, at_of_cells (fun j u hu => ?_) ((hq _ (List.getElem_mem (by omega))).keep ((Below.refl _ _).alloc (Nat.le_refl _) _))⟩
  have hj : j < 3 := by have := (List.getElem?_eq_some_iff.1 hu).1; simpa [cells3] using this
  have hsz : cs.size = n * 3 := by rw [← Array.length_toList, hc, flat_length]; omega
  have hr := World.rowIs_alloc w cs e (fun i => cs.toList.getD i .nilFunc) (fun i hi => by
    rw [← Array.getElem?_toList]; simp [hi])
  have hce := hr.cell (i := i * 3 + j) (by omega)
  rw [Nat.zero_add, hce, hc]
  rw [List.getD_eq_getElem?_getD, flat_get P i j (by omega) hj, hu]; rfl

theorem ob_grown {e u base : Nat} {w w' : World} {v s : Value} {n : Nat} {cs : List Value} {xs : List Int} (hne : e ≠ u) (hv : w.ownsRow base e 3 v n cs) (hg : w.grownBy w' v.ownBlock) (h : Wc.Ob u base w s xs) : Wc.Ob u base w' s xs := by
  refine ⟨⟨h.1.1, ?_⟩, h.2⟩
  rcases h.1.2 with hn | ⟨g, cap, cur, hs, hbg, hgh, rest⟩
  · exact .inl hn
  · refine .inr ⟨g, cap, cur, hs, hbg, ?_, rest⟩
    refine (hg.block g (Array.getElem?_eq_some_iff.1 hgh).1 (fun ee => ?_)).trans hgh
    rcases hv.2 with ⟨rfl, _⟩ | ⟨g2, c2, cur2, rfl, _, hg2, _⟩
    · cases ee
    · have : g = g2 := by simpa [Value.ownBlock] using ee
      subst this
      rw [hgh] at hg2
      cases hg2
      exact hne rfl

/-- A step is put behind memory of the call's own. -/
theorem append_io {P : Program} {e u t ty base bytes : Nat} {i : TypeInfo} {z : Value} {w : World} {v : Value} {ad : Addr} {c : Nat} {l : List Io} {q : Pl} (ht : P.underlying t = some (.slice e)) (hi : P.info? e = some i) (hz : i.zero = some z) (hsz : i.size = 3) (hby : i.bytes = bytes)
    (hzs : z.cells.size = 3) (h8 : bytes ≤ 64) (hne : e ≠ u) (hv : Oi e u base w v l) (hu : ∀ j x, (cells3 q)[j]? = some x → w.cell? (ad.add j) = some x) (hq : Wc.Ob u base w (.slice q.2.1 q.1.data.length q.2.2) q.1.data) (hl : l.length + 1 ≤ 1048576) (hbase : base ≤ w.heap.size) :
    ∃ v' w', Sem.run P (Builtin.append_ #[t, t] ty #[v, .slice (some ad) 1 c]) w = .ok v' w' ∧ Oi e u base w' v' (l ++ [q.1]) ∧ Below base w w' := by
  obtain ⟨Q, rfl, h2, h3, h4⟩ := hv
  have hlq : Q.length + 1 ≤ 1048576 := by simpa using hl
  obtain ⟨v', w', k1, k2, k3, -⟩ := run_append_own (P := P) w base t ty e i z 3 bytes ht hi hz hsz hby hzs (by decide) v _ _ h2 ad 1 c (cells3 q) rfl hu (by
      intro x hx; simp only [cells3, List.mem_cons, List.not_mem_nil, or_false] at hx; rcases hx with rfl | rfl | rfl <;> rfl) (by unfold maxLen; omega) (by
        have := Nat.mul_le_mul_left (Q.length + 1) h8
        omega) hbase
  refine ⟨v', w', k1, ⟨Q ++ [q], by simp, ?_, by simpa using hlq, fun x hx => ?_⟩, (Below.refl _ _).grown k3 hbase (fun g hg => (h2.lt g hg).1)⟩
  · have : (Q ++ [q]).flatMap cells3 = Q.flatMap cells3 ++ cells3 q := by simp
    rw [this]; simpa using k2
  · rcases List.mem_append.1 hx with hx | hx
    · exact ob_grown hne h2 k3 (h4 x hx)
    · simp at hx; subst hx; exact ob_grown hne h2 k3 hq

end Wd
namespace Go.Proofs.YtfflhiajbioheaaGreat
open Go.RowKit

theorem lit_cells (w : World) (q : Wd.Pl) (e : Nat) : ∀ j u, (Wd.cells3 q)[j]? = some u → (w.alloc (.cells (Wd.cells3 q).toArray e)).cell? ((⟨w.heap.size, 0, none⟩ : Addr).add j) = some u := by
  intro j u hu
  have hr := World.rowIs_alloc w (Wd.cells3 q).toArray e (fun i => (Wd.cells3 q).getD i .nilFunc) (fun i hi => by
    have : i < (Wd.cells3 q).length := by simpa using hi
    simp [this])
  have hj : j < 3 := by have := (List.getElem?_eq_some_iff.1 hu).1; simpa [Wd.cells3] using this
  rw [Wc.add_none, Nat.zero_add, hr.cell (by simpa [Wd.cells3] using hj), List.getD_eq_getElem?_getD, hu]; rfl

theorem Tryz.info38 : (Tryz.prog.info? 50).map (fun i => (i.zero, i.size, i.bytes)) = some (some (.agg #[.int .i64 0, .int .i64 0, .slice none 0 0]), 3, 40) := by kernel_rfl

/-- An append of one step in a region that draws. -/
theorem step_append_io {ops : Array Oper} {o : Oper} {a : Act} {w : World} {K : Act → World → Prop} {Q : Exit → Act → World → Prop} {E : Prop} {s x : Operand} {v u : Value} {ad : Addr} {c : Nat} {l : List Wd.Io} (q : Wd.Pl) (base : Nat)
    (hgd : o.guard = none) (ho : o.op = .call { callee := .builtin .append, args := #[s, x], argTypes := #[27, 27] }) (hs : a.eval s = v) (hx : a.eval x = u) (hue : u = .slice (some ad) 1 c)
    (hv : Wd.Oi 50 5 base w v l) (hu : ∀ j x, (Wd.cells3 q)[j]? = some x → w.cell? (ad.add j) = some x) (hq : Wc.Ob 5 base w (.slice q.2.1 q.1.data.length q.2.2) q.1.data) (hl : l.length + 1 ≤ 1048576) (hbase : base ≤ w.heap.size)
    (h : ∀ v' w', Wd.Oi 50 5 base w' v' (l ++ [q.1]) → Below base w w' → K (a.put o.dst v') w') :
    if Region.wanted o (yielded ops a.tmps) = true then Oper.wp Tryz.prog o a w K Q else E := by
  obtain ⟨i0, hi, hz0, hz1, hz2⟩ := info_parts Tryz.info38
  obtain ⟨v', w1, hrun, hO, hb1⟩ := Wd.append_io (P := Tryz.prog) (ty := o.type) Tryz.underlying27 hi hz0 hz1 hz2 rfl (by omega) (by decide) hv hu hq hl hbase (c := c)
  rw [← hue] at hrun
  clear hue
  have hw : Region.wanted o (yielded ops a.tmps) = true := by simp [Region.wanted, hgd]
  rw [if_pos hw]
  unfold Oper.wp
  simp [execOp, ho, resolve, invoke, builtin, hs, hx, hrun, Result.andThen]
  exact h v' w1 hO hb1

set_option maxHeartbeats 400000 in
theorem twin_iob (a : Option Addr) (n c : Nat) (xs : List Int) (w : World) (hv : Wc.Bs w (.slice a n c) xs) (hs : Wc.Shaped (.slice a n c)) :
    Calls Tryz.prog 16 #[.slice a n c] w fun e w' => ∃ xa xc, e = .returned (.slice xa n xc) ∧ Wc.Ob 5 w.heap.size w' (.slice xa n xc) xs ∧ Below w.heap.size w w' := by
  obtain ⟨i0, hi, hz0, hz1, hz2⟩ := info_parts Tryz.infoU8
  have hxl := Wc.bs_len hv
  have hlen : xs.length ≤ 140737488355328 := by obtain ⟨_, n, _, _, h, _, _, h5, _⟩ := hv; omega
  obtain ⟨v', w', hrun, hO, hb⟩ := Wc.append_run (P := Tryz.prog) (ty := 48) Tryz.underlying48 hi hz0 hz1 hz2 (Wc.Ob.nil 5 w.heap.size w) hv hs (by simpa using hlen) (Nat.le_refl _)
  rw [List.nil_append] at hO
  have HO := Wc.hid hO
  have HB := Wc.hid hb
  have HX := Wc.hid hxl
  clear hO hb hv hs hxl
  go_enter Tryz.func16, Tryz.ntmps16
  go_wp2_with (at_builtin; refine Wc.wp_append hrun rfl rfl rfl rfl ?_)
  go_ret
  obtain ⟨xa, xn, xc, rfl, hl, -⟩ := HO.out.bs
  have := HX.out
  obtain rfl : xn = n := by omega
  exact ⟨xa, xc, rfl, HO.out, HB.out⟩

set_option maxRecDepth 100000 in
set_option maxHeartbeats 3200000 in
theorem twinIos_any (a : Option Addr) (n cap : Nat) (l : List Wd.Io) (w : World) (hI : Wd.Is w (.slice a n cap) l) (hn : n ≤ 1048576) :
    Calls Tryz.prog 5 #[.slice a n cap] w fun e w' => ∃ xa xc, e = .returned (.slice xa n xc) ∧ Wd.Oi 50 5 w.heap.size w' (.slice xa n xc) l ∧ Below w.heap.size w w' := by
  obtain ⟨a', n', cap', h1, hl, hcap, hcap2, hln, hpos⟩ := hI
  cases h1
  have HP := Wc.hid hpos
  have HL := Wc.hid hl
  clear hpos hl
  go_enter Tryz.func5, Tryz.ntmps5
  go_wp2
  go_loopw [3, 4] (fun v i wr => ∃ k : Nat, i = .int .i64 k ∧ k ≤ n ∧ Below w.heap.size w wr ∧ Hid (Wd.Oi 50 5 w.heap.size wr v (l.take k))) (fun _ i _ => n - (intOf i).toNat)
  case atStart => exact ⟨0, rfl, by omega, Below.refl _ _, by simpa using Wc.hid (Wd.Oi.nil 50 5 w.heap.size w)⟩
  case round =>
    obtain ⟨k, rfl, hk, hbr, HO⟩ := hrel
    by_cases hlt : k < n
    · obtain ⟨b, off, rfl, hblt, hcs⟩ := HP.out (by omega)
      obtain ⟨a', c', hx⟩ := hcs k hlt
      have hkl : k < l.length := by rw [HL.out]; exact hlt
      have hts : l.take (k + 1) = l.take k ++ [l.getD k Wd.d0] := by rw [List.take_add_one]; simp [hkl]
      obtain ⟨x, hxe⟩ : ∃ x, l.getD k Wd.d0 = x := ⟨_, rfl⟩
      rw [hxe] at hx hts
      obtain ⟨c0, c1, c2, c3, c4⟩ := hx.keep hbr
      have HTS := Wc.hid hts
      have C3 := Wc.hid c3
      have C4 := Wc.hid c4
      have HBR := Wc.hid hbr
      have hbl : b < wr.heap.size := Nat.lt_of_lt_of_le hblt hbr.size
      have hki : ((k : Int) < (n : Int)) := by omega
      obtain ⟨va, vc, hvs⟩ := HO.out.slice
      generalize (l.take k).length = vn at hvs
      subst hvs
      have HLT := Wc.hid (show (l.take k).length + 1 ≤ 1048576 by simp; omega)
      clear hcs hx hts hxe c3 c4 hbr hkl
      go_wp2
      go_region_held3 (fun w' => w'.cell? ⟨b, off + k * 3, none⟩ = some (.int .i64 x.kind) ∧ w'.cell? ⟨b, off + k * 3 + 1, none⟩ = some (.int .i64 x.pos) ∧ w'.cell? ⟨b, off + k * 3 + 2, none⟩ = some (.slice a' x.data.length c')) (go_keep) (first | (refine step_append_io ⟨x, (xa, xc)⟩ w.heap.size rfl rfl rfl rfl (by rfl) (by exact (HO.out.keep hb3).keep ((Below.refl _ _).alloc (Nat.le_refl _) _)) (by exact lit_cells w2 ⟨x, (xa, xc)⟩ 50) (by exact (hO2.base HBR.out.size).keep ((Below.refl _ _).alloc (Nat.le_refl _) _)) HLT.out (by have h1 := HBR.out.size; have h2 := hb3.size; simp; omega) ?_; intro v4 w4 hO4 hb4; have k0 := hb4.cell (p := ⟨b, off + k * 3, none⟩) hblt; have k1 := hb4.cell (p := ⟨b, off + k * 3 + 1, none⟩) hblt; have k2 := hb4.cell (p := ⟨b, off + k * 3 + 2, none⟩) hblt) | (go_at_call 16; refine (twin_iob _ _ _ _ _ (by exact C3.out) (by exact C4.out)).mono ?_; rintro e w2 ⟨xa, xc, rfl, hO2, hb2⟩; have hb3 := ((Below.refl wr.heap.size wr).drew).trans hb2; have k0 := hb2.cell (p := ⟨b, off + k * 3, none⟩) hbl; have k1 := hb2.cell (p := ⟨b, off + k * 3 + 1, none⟩) hbl; have k2 := hb2.cell (p := ⟨b, off + k * 3 + 2, none⟩) hbl) | fail)
      have hb5 := Wc.step HBR.out (Nat.le_refl _) hb3
      have HB4 := Wc.hid ((hb5.alloc hb5.size _).trans hb4)
      have HO4 := Wc.hid hO4
      clear hb5 hb4 hO4 k0 k1 k2 hb3 hb2 hO2 HO c0 c1 c2
      go_wp2
      go_roundw
      case rel => exact ⟨k + 1, by go_num, by omega, HB4.out, by rw [HTS.out]; exact HO4⟩
      case measure => simp only [intOf]; omega
    · obtain rfl : k = n := by omega
      go_wp2
      go_ret
      have := HO.out
      rw [List.take_of_length_le (by rw [HL.out]; exact Nat.le_refl _)] at this
      obtain ⟨va, vc, rfl⟩ := this.slice
      rw [HL.out] at this ⊢
      exact ⟨_, _, rfl, this, hbr⟩

end Go.Proofs.YtfflhiajbioheaaGreat
namespace Go.Proofs.YtfflhiajbioheaaGreat
open Go.RowKit

theorem drewN_drewN (w : World) (m n : Nat) : (w.drewN m).drewN n = w.drewN (m + n) := by simp [World.drewN, Nat.add_assoc]

theorem quiet_draws {P : Program} {f : FuncId} {args : Array Value} {w : World} {n : Nat} {v : Value}
    (h : Calls P f args (w.drewN n) fun e w' => e = .returned v ∧ ∃ m, w' = (w.drewN n).drewN m) : Calls P f args (w.drewN n) fun e w'' => e = .returned v ∧ ∃ m, w'' = w.drewN m :=
  h.mono fun _ _ ⟨he, m, hm⟩ => ⟨he, n + m, by rw [hm, drewN_drewN]⟩

set_option maxHeartbeats 400000 in
theorem bytesQ_pos (b off n cap b' off' cap' : Nat) (xs : List Int) (w : World) (hn : n ≤ 140737488355328)
   (hc : ∀ i, i < n → w.cell? ⟨b, off + i, none⟩ = some (.int .u8 (xs.getD i 0)))
   (hc' : ∀ i, i < n → w.cell? ⟨b', off' + i, none⟩ = some (.int .u8 (xs.getD i 0))) :
    Calls Tryz.prog 24 #[.slice (some ⟨b, off, none⟩) n cap, .slice (some ⟨b', off', none⟩) n cap'] w fun e w' => e = .returned (.bool true) ∧ ∃ m, w' = w.drewN m := by
  have HC := Wc.hid hc
  have HC' := Wc.hid hc'
  clear hc hc'
  go_enter Tryz.func24, Tryz.ntmps24
  go_wp2
  go_loopw [5] (fun i wr => ∃ k m : Nat, i = .int .i64 k ∧ k ≤ n ∧ wr = w.drewN m) (fun i _ => n - (intOf i).toNat)
  case atStart => exact ⟨0, 0, rfl, by omega, rfl⟩
  case round =>
    obtain ⟨k, m, rfl, hk, rfl⟩ := hrel
    by_cases hlt : k < n
    · have h1 : (w.drewN m).cell? ⟨b, off + k, none⟩ = some (.int .u8 (xs.getD k 0)) := HC.out k hlt
      have h2 : (w.drewN m).cell? ⟨b', off' + k, none⟩ = some (.int .u8 (xs.getD k 0)) := HC'.out k hlt
      obtain ⟨z, hz⟩ : ∃ z, xs.getD k 0 = z := ⟨_, rfl⟩
      rw [hz] at h1 h2
      clear hz
      obtain ⟨W, hW⟩ : ∃ W, w.drewN m = W := ⟨_, rfl⟩
      rw [hW] at h1 h2 ⊢
      have HW := Wc.hid hW
      clear hW
      go_wp2
      go_quiet (fail)
      go_wp2
      go_roundw
      case rel => exact ⟨k + 1, m + nq, by go_num, by omega, by rw [← HW.out, drewN_drewN]⟩
      case measure => simp [intOf]; omega
    · go_wp2
      go_ret
      exact ⟨rfl, m, rfl⟩

set_option maxHeartbeats 400000 in
theorem bytesQ_nil (a a' : Option Addr) (cap cap' : Nat) (w : World) :
    Calls Tryz.prog 24 #[.slice a 0 cap, .slice a' 0 cap'] w fun e w' => e = .returned (.bool true) ∧ ∃ m, w' = w.drewN m := by
  go_enter Tryz.func24, Tryz.ntmps24
  go_wp2
  go_loopw [5] (fun i wr => i = .int .i64 0 ∧ w = wr) (fun _ _ => 0)
  case atStart => exact ⟨rfl, rfl⟩
  case round =>
    obtain ⟨rfl, rfl⟩ := hrel
    go_wp2
    go_ret
    exact ⟨rfl, 0, rfl⟩

/-- keep.Bytes of two slices that hold the same bytes only reads. -/
theorem bytesQ (v v' : Value) (xs : List Int) (w : World) (hv : Wc.Bs w v xs) (hv' : Wc.Bs w v' xs) :
    Calls Tryz.prog 24 #[v, v'] w fun e w' => e = .returned (.bool true) ∧ ∃ m, w' = w.drewN m := by
  rcases hv.open with ⟨rfl, a, cap, rfl, _⟩ | ⟨b, off, n, cap, rfl, h0, hl, _, _, hn, hx, _, hc⟩
  · rcases hv'.open with ⟨_, a', cap', rfl, _⟩ | ⟨b, off, n, cap, rfl, h0, hl, _⟩
    · exact bytesQ_nil a a' cap cap' w
    · simp at hl; omega
  · rcases hv'.open with ⟨rfl, a', cap', rfl, _⟩ | ⟨b', off', n', cap', rfl, h0', hl', _, _, _, _, _, hc'⟩
    · simp at hl; omega
    · obtain rfl : n = n' := by omega
      exact bytesQ_pos b off n cap b' off' cap' xs w hn hc hc'

set_option maxRecDepth 100000 in
set_option maxHeartbeats 3200000 in
theorem ios_same (a : Option Addr) (n cap : Nat) (a2 : Option Addr) (cap2 : Nat) (l : List Wd.Io) (w : World) (hI : Wd.Is w (.slice a n cap) l) (hJ : Wd.Is w (.slice a2 n cap2) l) :
    Calls Tryz.prog 8 #[.slice a n cap, .slice a2 n cap2] w fun e w' => e = .returned (.bool true) ∧ Below w.heap.size w w' := by
  obtain ⟨a', n', cap', h1, hl, hcap, -, hln, hpos⟩ := hI
  cases h1
  obtain ⟨a', n', cap', h1, hl2, -, -, -, hpos2⟩ := hJ
  cases h1
  have HP := Wc.hid hpos
  have HP2 := Wc.hid hpos2
  clear hpos hl hpos2 hl2
  go_enter Tryz.func8, Tryz.ntmps8
  go_wp2
  go_loopw [5] (fun i wr => ∃ k : Nat, i = .int .i64 k ∧ k ≤ n ∧ Below w.heap.size w wr) (fun i _ => n - (intOf i).toNat)
  case atStart => exact ⟨0, rfl, by omega, Below.refl _ _⟩
  case round =>
    obtain ⟨k, rfl, hk, hbr⟩ := hrel
    by_cases hlt : k < n
    · obtain ⟨b, off, rfl, hblt, hcs⟩ := HP.out (by omega)
      obtain ⟨b2, off2, rfl, hblt2, hcs2⟩ := HP2.out (by omega)
      obtain ⟨a', c', hx⟩ := hcs k hlt
      obtain ⟨a2', c2', hx2⟩ := hcs2 k hlt
      obtain ⟨x, hxe⟩ : ∃ x, l.getD k Wd.d0 = x := ⟨_, rfl⟩
      rw [hxe] at hx hx2
      obtain ⟨c0, c1, c2, c3, -⟩ := hx.keep hbr
      obtain ⟨e0, e1, e2, e3, -⟩ := hx2.keep hbr
      have C3 := Wc.hid c3
      have E3 := Wc.hid e3
      have hki : ((k : Int) < (n : Int)) := by omega
      clear hcs hcs2 hx hx2 hxe c3 e3
      obtain ⟨dn, hdn⟩ : ∃ dn, x.data.length = dn := ⟨_, rfl⟩
      rw [hdn] at c2 C3 e2 E3
      clear hdn
      have f1 : (x.kind != x.kind) = false := by simp
      have f2 : (x.pos != x.pos) = false := by simp
      go_wp2
      go_quiet (first | (go_at_call 24; refine quiet_draws (bytesQ _ _ x.data _ (by exact C3.out) (by exact E3.out))) | fail)
      go_wp2
      go_roundw
      case rel => exact ⟨k + 1, by go_num, by omega, below_drewN hbr _⟩
      case measure => simp only [intOf]; omega
    · go_wp2
      go_ret
      exact ⟨rfl, hbr⟩

end Go.Proofs.YtfflhiajbioheaaGreat
namespace Wd
open Go Go.RowKit

/-- Of the steps from s on, the first k: those that are kept. -/
def crA (keep : List Bool) (l : List Io) (s : Nat) (xs : List Int) : Nat → List Int
  | 0 => xs
  | k + 1 => if keep.getD k false = true then one (crA keep l s xs k) (l.getD (s + k) d0) else crA keep l s xs k

/-- What a crash leaves. -/
def crashL (xs : List Int) (l : List Io) (cut : Nat) (keep : List Bool) : List Int :=
  crA keep l (safeN l cut) (app xs (l.take (safeN l cut))) (cut - safeN l cut)

def crE (n : Nat) (l : List Io) (cut : Int) : Int := if stepsE n l = 0 then (if 0 ≤ cut ∧ cut ≤ (l.length : Int) then 0 else 1) else stepsE n l
def crR (xs : List Int) (l : List Io) (cut : Int) (keep : List Bool) : List Int := if crE xs.length l cut = 0 then crashL xs l cut.toNat keep else []

theorem safe_take (l : List Io) (cut : Nat) : ∀ k, k ≤ cut → safeN (l.take cut) k = safeN l k
  | 0, _ => rfl
  | k + 1, h => by
    have e : (l.take cut).getD k d0 = l.getD k d0 := by
      have : k < cut := by omega
      simp [this]
    simp only [safeN]
    rw [e, safe_take l cut k (by omega)]

theorem all_take {l : List Io} {f : Io → Bool} (h : l.all f = true) (t : Nat) : (l.take t).all f = true := by
  rw [List.all_eq_true] at h ⊢
  exact fun x hx => h x (List.mem_of_mem_take hx)

theorem mid_getD (l : List Io) (s t k : Nat) (h : k < t - s) : ((l.drop s).take (t - s)).getD k d0 = l.getD (s + k) d0 := by simp [h]

end Wd
namespace Go.Proofs.YtfflhiajbioheaaGreat
open Go.RowKit

/-- A slice of bools. -/
abbrev Kp (w : World) (v : Value) (ks : List Bool) : Prop := Wv.Rv Value.bool false w v ks

end Go.Proofs.YtfflhiajbioheaaGreat
namespace Go.Proofs.YtfflhiajbioheaaGreat
open Go.RowKit

end Go.Proofs.YtfflhiajbioheaaGreat
