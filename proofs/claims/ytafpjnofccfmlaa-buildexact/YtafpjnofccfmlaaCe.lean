/-
  What build.grow returns: the new nodes in their order, and the new root.
-/
import Derived.Test.YtafpjnofccfmlaaCd
import Derived.Test.YtafpjnofccfmlaaNr
namespace Go.Proofs.Ytafpjnofccfmlaa
open Go.RowKit

/-- Blocks of things that are no nodes stay, old ones all. -/
def Kp (hs bl : Nat) (w w' : World) : Prop := w.heap.size ≤ w'.heap.size ∧ ∀ b, b < bl → (b < hs ∨ ∃ cs T fr, w.heap[b]? = some (.cells cs T fr) ∧ T ≠ 83) → w'.heap[b]? = w.heap[b]?
theorem Kp.refl (hs bl : Nat) (w : World) : Kp hs bl w w := ⟨Nat.le_refl _, fun _ _ _ => rfl⟩
theorem Kp.trans {hs bl : Nat} {a b c : World} (h : Kp hs bl a b) (k : Kp hs bl b c) : Kp hs bl a c :=
  ⟨Nat.le_trans h.1 k.1, fun i hi hc => by
    have e := h.2 i hi hc
    refine (k.2 i hi ?_).trans e
    rcases hc with hc | ⟨cs, T, fr, h1, h2⟩
    · exact .inl hc
    · exact .inr ⟨cs, T, fr, e.trans h1, h2⟩⟩
theorem Kp.below {hs bl : Nat} {w w' : World} (h : Below bl w w') : Kp hs bl w w' := ⟨h.size, fun b hb _ => h.block b hb⟩
theorem Kp.types {hs bl : Nat} {w w' : World} (h : Below hs w w') (k : ∀ (b : Nat) (cs : Array Value) (T : TypeId) (fr : Nat × Nat), w.heap[b]? = some (.cells cs T fr) → T ≠ 83 → w'.heap[b]? = some (.cells cs T fr)) : Kp hs bl w w' :=
  ⟨h.size, fun b _ hc => by
    rcases hc with hc | ⟨cs, T, fr, h1, h2⟩
    · exact h.block b hc
    · rw [k b cs T fr h1 h2, h1]⟩
/-- A row of ints in old memory, or in a block of ints. -/
def Ro (hs : Nat) (w : World) (v : Value) (xs : List Int) : Prop := Wd.In w v xs ∧ ∀ g o t n c, v = .slice (some ⟨g, o, t⟩) n c → g < hs ∨ ∃ cs fr, w.heap[g]? = some (.cells cs 3 fr)
theorem Ro.kp {hs : Nat} {w w' : World} {v : Value} {xs : List Int} (h : Ro hs w v xs) (hk : Kp hs w.heap.size w w') : Ro hs w' v xs := by
  obtain ⟨⟨a, n, cap, rfl, h1, h2, h3, h4, h5⟩, h6⟩ := h
  have hb : ∀ g o t, a = some ⟨g, o, t⟩ → g < w.heap.size → w'.heap[g]? = w.heap[g]? := fun g o t e hg => by
    refine hk.2 g hg ?_
    rcases h6 g o t n cap (by rw [e]) with h | ⟨cs, fr, h⟩
    · exact .inl h
    · exact .inr ⟨cs, _, fr, h, by decide⟩
  refine ⟨⟨a, n, cap, rfl, h1, h2, h3, h4, fun h0 => ?_⟩, fun g o t n c e => ?_⟩
  · obtain ⟨b, off, rfl, k1, k2⟩ := h5 h0
    refine ⟨b, off, rfl, Nat.lt_of_lt_of_le k1 hk.1, fun i hi => ?_⟩
    rw [← k2 i hi]
    unfold World.cell?
    rw [hb b off none rfl k1]
  · rcases h6 g o t n c e with h | ⟨cs, fr, h⟩
    · exact .inl h
    · cases e
      exact .inr ⟨cs, fr, (hb g o t rfl (Array.getElem?_eq_some_iff.1 h).1).trans h⟩
theorem Ro.of {hs base : Nat} {w : World} {v : Value} {xs : List Int} (h : Wv.Ov (Value.int .i64) 3 base w v xs) : Ro hs w v xs := by
  refine ⟨h.rv, fun g o t n c e => ?_⟩
  rcases h.1.2 with ⟨hn, _⟩ | ⟨g', cap, cur, hv, hbg, hh, _⟩
  · rw [hn] at e; cases e
  · rw [hv] at e; cases e; exact .inr ⟨_, _, hh⟩

/-- A row that is not empty, opened. -/
theorem in_open {w : World} {v : Value} {xs : List Int} (h : Wd.In w v xs) (h0 : 0 < xs.length) : ∃ b off cap, v = .slice (some ⟨b, off, none⟩) xs.length cap ∧ b < w.heap.size ∧ ∀ i, i < xs.length → w.cell? ⟨b, off + i, none⟩ = some (.int .i64 (xs.getD i 0)) := by
  rcases h.open with ⟨hn, -⟩ | ⟨b, off, n, cap, h1, -, h3, -, -, -, h7, h8⟩
  · rw [hn] at h0; exact absurd h0 (by decide)
  · subst h3
    exact ⟨b, off, cap, h1, h7, h8⟩

theorem Try.infoN : (Try.prog.info? 83).map (fun i => (i.zero, i.size, i.bytes)) = some (some (.agg #[.int .i64 0, .int .i64 0, .int .i64 0, .int .i64 0, .int .i64 0, .int .i64 0, .int .i64 0, .int .i64 0, .int .i64 0]), 9, 72) := by kernel_rfl
end Go.Proofs.Ytafpjnofccfmlaa
