/-
  Pairs of ints that came in, whatever their number. It speaks of no program.
-/
import Derived.Test.YtafpjnofccfmlaaCo
namespace Wb
open Go Go.RowKit Go.ChangeShapes Go.WideShapes

/-- Pairs that came in. -/
def PrR (w : World) (a : Option Addr) (n cap : Nat) (l : List (Int × Int)) : Prop :=
  l.length = n ∧ n ≤ cap ∧ cap ≤ 9223372036854775807 ∧
    (0 < n → ∃ b off, a = some ⟨b, off, none⟩ ∧ b < w.heap.size ∧ ∀ i, i < n → w.cell? ⟨b, off + i * 2, none⟩ = some (.int .i64 (l.getD i (0, 0)).1) ∧ w.cell? ⟨b, off + i * 2 + 1, none⟩ = some (.int .i64 (l.getD i (0, 0)).2))
theorem PrR.pr {w : World} {a : Option Addr} {n cap : Nat} {l : List (Int × Int)} (h : PrR w a n cap l) (hn : n ≤ 1099511627776) : Pr w (.slice a n cap) l := ⟨a, n, cap, rfl, h.1, h.2.1, h.2.2.1, hn, h.2.2.2⟩

section
variable {H : Type} {enc : TypeId × Value → H} {P : Program} {w : World} {base : Nat} {spare : Nat → Bool} {held : Bool}

/-- An array of two ints. -/
theorem trod_two {t it : TypeId} {n : Nat} {cs : List Value} {x : DataW H × List MemPlace} (hu : P.underlying t = some (.array 2 it)) (hi : P.underlying it = some (.int .i64)) (h1 : P.cellsOf it = 1) (hc : P.cellsOf t = 2) (hl : cs.length = 2)
   (h : DataW.trod enc P w base spare held n t cs = some x) : ∃ y z : Int, cs = [.int .i64 y, .int .i64 z] := by
  cases n with
  | zero => simp [DataW.trod] at h
  | succ m =>
    rw [DataW.trod_step] at h
    unfold DataW.trodStep at h
    simp only [hu] at h
    rw [if_pos (by rw [hc]; simpa using hl)] at h
    simp only [Option.map_eq_some_iff] at h
    obtain ⟨ys, hy, -⟩ := h
    have hall : ∀ i, i < 2 → ∃ z, cs[i]? = some (.int .i64 z) := by
      intro i hi2
      obtain ⟨y, hy'⟩ := Wc.mapM_some _ _ hy i (by simpa using hi2)
      obtain ⟨z, hz, -, -⟩ := DataW.trod_int hi hy'
      rw [h1, Nat.mul_one] at hz
      refine ⟨z, ?_⟩
      have : ((cs.drop i).take 1)[0]? = some (.int .i64 z) := by rw [hz]; rfl
      simpa using this
    obtain ⟨y, e0⟩ := hall 0 (by decide)
    obtain ⟨z, e1⟩ := hall 1 (by decide)
    obtain ⟨v0, v1, rfl⟩ : ∃ v0 v1, cs = [v0, v1] := by
      match cs, hl with
      | [v0, v1], _ => exact ⟨v0, v1, rfl⟩
    simp at e0 e1
    exact ⟨y, z, by rw [e0, e1]⟩

theorem open_pairs {t e it : TypeId} {fuel : Nat} {a : Option Addr} {len cap : Nat} {x : DataW H × List MemPlace} (ht : P.underlying t = some (.slice e)) (he : P.underlying e = some (.array 2 it)) (hc : P.cellsOf e = 2)
    (hi : P.underlying it = some (.int .i64)) (hci : P.cellsOf it = 1) (h : DataW.trod enc P w base spare held fuel t [.slice a len cap] = some x) :
    ∃ l, PrR w a len cap l := by
  rcases Deep.open_slice ht h with ⟨h0, _⟩ | ⟨ad, len', cap', m, n, D, Pl, h0, hb, hl, hm, hmm, -, hx⟩
  · simp at h0
    obtain ⟨rfl, rfl, rfl⟩ := h0
    exact ⟨[], rfl, Nat.le_refl _, by omega, by omega⟩
  · simp at h0
    obtain ⟨rfl, rfl, rfl⟩ := h0
    have hlm : len ≤ m := by rw [hmm]; split <;> omega
    rw [hc] at hx
    have each : ∀ i, i < len → ∃ q : Int × Int, w.cell? (ad.add (i * 2)) = some (.int .i64 q.1) ∧ w.cell? (ad.add (i * 2 + 1)) = some (.int .i64 q.2) := fun i hi' => by
      obtain ⟨cs, h1, h2⟩ := hx i (by omega)
      obtain ⟨-, hlen, hcell⟩ := World.cells?_some h1
      obtain ⟨y, z, rfl⟩ := trod_two he hi hci hc hlen h2
      have g0 := hcell 0 (by omega)
      have g1 := hcell 1 (by omega)
      simp only [Deep.add_add] at g0 g1
      exact ⟨(y, z), by simpa using g0, by simpa using g1⟩
    obtain ⟨Z, hZ⟩ := Deep.choose_lt each
    refine ⟨(List.range len).map Z, by simp, hl, by unfold maxLen at hm; omega, fun h0 => ?_⟩
    obtain ⟨b, off, spot⟩ := ad
    have hspot : spot = none := by
      have k0 := (hZ 0 h0).1
      simpa [Addr.add] using World.cell?_spot k0
    subst hspot
    refine ⟨b, off, rfl, ?_, fun i hi => ?_⟩
    · have k0 := (hZ 0 h0).1
      rw [Wc.add_none] at k0
      exact Wc.cell_lt k0
    · obtain ⟨k0, k1⟩ := hZ i hi
      rw [Wc.add_none] at k0 k1
      have e : ((List.range len).map Z).getD i (0, 0) = Z i := by simp [hi]
      rw [e]
      exact ⟨k0, by rw [Nat.add_assoc]; exact k1⟩
end
end Wb
