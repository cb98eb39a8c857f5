/-
  What it says that a slice of bytes holds a list of numbers, and that it goes on holding it where nothing old has turned. It speaks of no program.
-/
import Derived.WalkKit
import Derived.WalkSpells
import Derived.WalkLawsBesides
import Derived.Deep.OwnRows
import Derived.OpenShut
import Derived.Laws.BitsAllLaws
namespace Wc
open Go Go.RowKit

/-- The slice value v holds the bytes xs in the world w. -/
def Bs (w : World) (v : Value) (xs : List Int) : Prop :=
  ∃ a n cap, v = .slice a n cap ∧ xs.length = n ∧ n ≤ cap ∧ cap ≤ 9223372036854775807 ∧ n ≤ 140737488355328 ∧ (∀ x ∈ xs, 0 ≤ x ∧ x < 256) ∧
    (0 < n → ∃ b off, a = some ⟨b, off, none⟩ ∧ b < w.heap.size ∧ ∀ i, i < n → w.cell? ⟨b, off + i, none⟩ = some (.int .u8 (xs.getD i 0)))

theorem Bs.keep {w w' : World} {v : Value} {xs : List Int} (h : Bs w v xs) (hb : Below w.heap.size w w') : Bs w' v xs := by
  obtain ⟨a, n, cap, h1, h2, h3, h4, h5, h6, h7⟩ := h
  refine ⟨a, n, cap, h1, h2, h3, h4, h5, h6, fun hn => ?_⟩
  obtain ⟨b, off, ha, hlt, hc⟩ := h7 hn
  exact ⟨b, off, ha, Nat.lt_of_lt_of_le hlt hb.size, fun i hi => (hb.cell (p := ⟨b, off + i, none⟩) hlt).trans (hc i hi)⟩

theorem Bs.nil (w : World) : Bs w (.slice none 0 0) [] := ⟨none, 0, 0, rfl, rfl, Nat.le_refl _, by omega, by omega, by simp, by omega⟩

/-- Either nothing is held, or the first cell is known. -/
theorem Bs.open {w : World} {v : Value} {xs : List Int} (h : Bs w v xs) :
    (xs = [] ∧ ∃ a cap, v = .slice a 0 cap ∧ cap ≤ 9223372036854775807) ∨
    ∃ b off n cap, v = .slice (some ⟨b, off, none⟩) n cap ∧ 0 < n ∧ xs.length = n ∧ n ≤ cap ∧ cap ≤ 9223372036854775807 ∧ n ≤ 140737488355328 ∧ (∀ x ∈ xs, 0 ≤ x ∧ x < 256) ∧ b < w.heap.size ∧
      ∀ i, i < n → w.cell? ⟨b, off + i, none⟩ = some (.int .u8 (xs.getD i 0)) := by
  obtain ⟨a, n, cap, h1, h2, h3, h4, h5, h6, h7⟩ := h
  rcases Nat.eq_zero_or_pos n with h0 | h0
  · subst h0
    exact .inl ⟨List.eq_nil_of_length_eq_zero h2, a, cap, h1, h4⟩
  · obtain ⟨b, off, ha, hlt, hc⟩ := h7 h0
    subst ha
    exact .inr ⟨b, off, n, cap, h1, h0, h2, h3, h4, h5, h6, hlt, hc⟩

theorem hid {p : Prop} (h : p) : Hid p := h

theorem add_none (g o j : Nat) : (⟨g, o, none⟩ : Addr).add j = ⟨g, o + j, none⟩ := by
  unfold Addr.add; split <;> simp_all

/-- A row of the call's own holds bytes. -/
theorem Bs.own {w : World} {base e : Nat} {v : Value} {n : Nat} {xs : List Int} (h : w.ownsRow base e 1 v n (xs.map (Value.int .u8))) (hn : n ≤ 140737488355328) (hx : ∀ x ∈ xs, 0 ≤ x ∧ x < 256) : Bs w v xs := by
  have hl : xs.length = n := by have := h.1; simpa using this
  rcases h.2 with ⟨rfl, h0⟩ | ⟨g, cap, cur, rfl, hg, hh, h1, h2, h3, h4⟩
  · subst h0
    obtain rfl := List.eq_nil_of_length_eq_zero hl
    exact Bs.nil w
  · refine ⟨_, n, cap, rfl, hl, h1, by unfold maxLen at h2; omega, hn, hx, fun h0 => ⟨g, 0, rfl, (Array.getElem?_eq_some_iff.1 hh).1, fun i hi => ?_⟩⟩
    have := h.cells (g := g) rfl i (.int .u8 (xs.getD i 0)) (by simp [hl, hi])
    rw [add_none] at this
    simpa using this

/-- New cells hold bytes. -/
theorem Bs.lit (w : World) (cs : Array Value) (e n : Nat) (xs : List Int) (hn : xs.length = n) (hm : n ≤ 140737488355328) (hc : cs.toList = xs.map (Value.int .u8)) (hx : ∀ x ∈ xs, 0 ≤ x ∧ x < 256) :
    Bs (w.alloc (.cells cs e)) (.slice (some ⟨w.heap.size, 0, none⟩) n n) xs := by
  refine ⟨_, n, n, rfl, hn, Nat.le_refl _, by omega, hm, hx, fun _ => ⟨w.heap.size, 0, rfl, by simp, fun i hi => ?_⟩⟩
  have hsz : cs.size = n := by rw [← Array.length_toList, hc]; simpa using hn
  have hr := World.rowIs_alloc w cs e (fun i => .int .u8 (xs.getD i 0)) (fun i hi => by
    rw [← Array.getElem?_toList, hc]; simp [hn, ← hsz, hi])
  rw [Nat.zero_add]
  exact hr.cell (by omega)

theorem Bs.litAt (w : World) (cs : Array Value) (e n g : Nat) (hg : g = w.heap.size) (xs : List Int) (hn : xs.length = n) (hm : n ≤ 140737488355328) (hc : cs.toList = xs.map (Value.int .u8)) (hx : ∀ x ∈ xs, 0 ≤ x ∧ x < 256) :
    Bs (w.alloc (.cells cs e)) (.slice (some ⟨g, 0, none⟩) n n) xs := by
  subst hg; exact Bs.lit w cs e n xs hn hm hc hx

/-- A row that is known cell by cell holds bytes. -/
theorem Bs.row {w : World} {g e n : Nat} {xs : List Int} (hl : xs.length = n) (hn : n ≤ 140737488355328) (hx : ∀ x ∈ xs, 0 ≤ x ∧ x < 256) (h : w.rowIs g e n (fun j => .int .u8 (xs.getD j 0))) :
    Bs w (.slice (some ⟨g, 0, none⟩) n n) xs := by
  refine ⟨_, n, n, rfl, hl, Nat.le_refl _, by omega, hn, hx, fun _ => ⟨g, 0, rfl, h.lt, fun i hi => ?_⟩⟩
  rw [Nat.zero_add]; exact h.cell hi

/-- A new block turns nothing. -/
theorem Bs.alloc {w : World} {v : Value} {xs : List Int} (h : Bs w v xs) (o : Obj) : Bs (w.alloc o) v xs := h.keep ((Below.refl _ _).alloc (Nat.le_refl _) o)

/-- A call behind what has been done so far. -/
theorem step {B : Nat} {a b c : World} (h : Below B a b) (hB : B ≤ a.heap.size) (k : Below b.heap.size b c) : Below B a c :=
  h.trans (k.mono (Nat.le_trans hB h.size))

theorem cell_lt {w : World} {b o : Nat} {u : Value} (h : w.cell? ⟨b, o, none⟩ = some u) : b < w.heap.size := by
  rcases Nat.lt_or_ge b w.heap.size with h1 | h1
  · exact h1
  · have : w.heap[b]? = none := Array.getElem?_eq_none h1
    simp [World.cell?, this] at h

theorem byte_wf {x : Int} (h : (Lit.int .u8 x).wf = true) : 0 ≤ x ∧ x < 256 := by
  have := bounds_u8 h
  omega

/-- A slice of bytes that came in. -/
theorem Bs.of_row {w : World} {a : Option Addr} {len cap : Nat} {zs : List Int} (hlen : len ≤ 140737488355328)
    (h : (a = none ∧ len = 0 ∧ cap = 0 ∧ zs = []) ∨
      ∃ x, a = some x ∧ len ≤ cap ∧ cap ≤ maxLen ∧ zs.length = cap ∧ (∀ i, i < zs.length → w.cell? (x.add i) = some (.int .u8 (zs.getD i 0))) ∧ ∀ n ∈ zs, (Lit.int .u8 n).wf = true) :
    Bs w (.slice a len cap) (zs.take len) := by
  rcases h with ⟨rfl, rfl, rfl, rfl⟩ | ⟨x, rfl, h1, h2, h3, h4, h5⟩
  · exact Bs.nil w
  · refine ⟨_, len, cap, rfl, by simp; omega, h1, by unfold maxLen at h2; omega, hlen, fun y hy => byte_wf (h5 y (List.mem_of_mem_take hy)), fun h0 => ?_⟩
    obtain ⟨b, off, rfl, hc⟩ := ints_at h4 (by omega)
    refine ⟨b, off, rfl, cell_lt (hc 0 (by omega)), fun i hi => ?_⟩
    rw [hc i (by omega)]
    simp [hi]

theorem pow256 (k : Nat) : (256 : Int) ^ k = ((256 ^ k : Nat) : Int) := by rw [Int.natCast_pow]; rfl

/-- A byte laid on top of a smaller number. -/
theorem or_shift (m z : Int) (k : Nat) (hk : k < 8) (h0 : 0 ≤ m) (h1 : m < 256 ^ k) (h2 : 0 ≤ z) (h3 : z < 256) :
    bits BinOp.or IntKind.u64 m (IntKind.u64.wrap (IntKind.u64.wrap z * 2 ^ (8 * k))) = m + z * 256 ^ k := by
  obtain ⟨a, rfl⟩ := Int.eq_ofNat_of_zero_le h0
  obtain ⟨b, rfl⟩ := Int.eq_ofNat_of_zero_le h2
  have e : (2 : Int) ^ (8 * k) = 256 ^ k := by rw [Int.pow_mul]; rfl
  have hp : (256 : Nat) ^ k ≤ 256 ^ 7 := Nat.pow_le_pow_right (by omega) (by omega)
  have hb : b * 256 ^ k < 256 * 256 ^ 7 := by
    have : b * 256 ^ k ≤ b * 256 ^ 7 := Nat.mul_le_mul_left b hp
    have : b * 256 ^ 7 < 256 * 256 ^ 7 := by omega
    omega
  rw [pow256] at h1
  have ha : a < 256 ^ k := by omega
  rw [e, pow256, IntKind.wrap_u64, IntKind.wrap_u64, Int.emod_eq_of_lt h2 (by omega), ← Int.natCast_mul, Int.emod_eq_of_lt (by omega) (by omega), u64_or_nat a (b * 256 ^ k) (by omega) (by omega)]
  have h4 : a ||| b * 256 ^ k = b * 256 ^ k + a := by
    rw [show (256 : Nat) ^ k = 2 ^ (8 * k) by rw [Nat.pow_mul]] at *
    rw [Nat.or_comm, ← Nat.shiftLeft_eq, Nat.shiftLeft_add_eq_or_of_lt ha]
  rw [h4, Int.natCast_add, Int.add_comm]

end Wc
