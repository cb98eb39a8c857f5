/-
  What the page's Build keeps while it writes its nodes: old memory, and blocks of things that are no steps.
-/
import Derived.Test.YtafpjnofccfmlaaDa2
import Derived.Test.YtafpjnofccfmlaaCe
import Derived.Test.YtafpjnofccfmlaaPk
namespace Go.Proofs.Ytafpjnofccfmlaa
open Go.RowKit

/-- Blocks of things that are no steps stay, old ones all. -/
def K5 (ps bl : Nat) (w w' : World) : Prop := w.heap.size ≤ w'.heap.size ∧ ∀ b, b < bl → (b < ps ∨ ∃ cs T fr, w.heap[b]? = some (.cells cs T fr) ∧ T ≠ 54) → w'.heap[b]? = w.heap[b]?
theorem K5.refl (ps bl : Nat) (w : World) : K5 ps bl w w := ⟨Nat.le_refl _, fun _ _ _ => rfl⟩
theorem K5.trans {ps bl : Nat} {a b c : World} (h : K5 ps bl a b) (k : K5 ps bl b c) : K5 ps bl a c :=
  ⟨Nat.le_trans h.1 k.1, fun i hi hc => by
    have e := h.2 i hi hc
    refine (k.2 i hi ?_).trans e
    rcases hc with hc | ⟨cs, T, fr, h1, h2⟩
    · exact .inl hc
    · exact .inr ⟨cs, T, fr, e.trans h1, h2⟩⟩
theorem K5.below {ps bl : Nat} {w w' : World} (h : Below bl w w') : K5 ps bl w w' := ⟨h.size, fun b hb _ => h.block b hb⟩
theorem K5.types {ps bl : Nat} {w w' : World} (h : Below ps w w') (k : ∀ (b : Nat) (cs : Array Value) (T : TypeId) (fr : Nat × Nat), w.heap[b]? = some (.cells cs T fr) → T ≠ 54 → w'.heap[b]? = some (.cells cs T fr)) : K5 ps bl w w' :=
  ⟨h.size, fun b _ hc => by
    rcases hc with hc | ⟨cs, T, fr, h1, h2⟩
    · exact h.block b hc
    · rw [k b cs T fr h1 h2, h1]⟩
theorem Ro.k5 {hs : Nat} {w w' : World} {v : Value} {xs : List Int} (h : Ro hs w v xs) (hk : K5 hs w.heap.size w w') : Ro hs w' v xs := by
  obtain ⟨⟨a, n, cap, rfl, h1, h2, h3, h4, h5⟩, h6⟩ := h
  have hb : ∀ g o t, a = some ⟨g, o, t⟩ → g < w.heap.size → w'.heap[g]? = w.heap[g]? := fun g o t e hg => by
    refine hk.2 g hg ?_
    rcases h6 g o t n cap (by rw [e]) with h | ⟨cs, fr, h⟩
    · exact .inl h
    · exact .inr ⟨cs, _, fr, h, by decide⟩
  refine ⟨⟨a, n, cap, rfl, h1, h2, h3, h4, fun h0 => ?_⟩, fun g o t n c e => ?_⟩
  · obtain ⟨b, off, rfl, k1, k2⟩ := h5 h0
    refine ⟨b, off, rfl, Nat.lt_of_lt_of_le k1 hk.1, fun i hi => ?_⟩
    rw [← k2 i hi]
    unfold World.cell?
    rw [hb b off none rfl k1]
  · rcases h6 g o t n c e with h | ⟨cs, fr, h⟩
    · exact .inl h
    · cases e
      exact .inr ⟨cs, fr, (hb g o t rfl (Array.getElem?_eq_some_iff.1 h).1).trans h⟩
/-- A row of bools in a block of bools. -/
def R4 (w : World) (v : Value) (xs : List Bool) : Prop := Wv.Rv Value.bool false w v xs ∧ ∀ g o t n c, v = .slice (some ⟨g, o, t⟩) n c → ∃ cs fr, w.heap[g]? = some (.cells cs 4 fr)
theorem R4.k5 {hs : Nat} {w w' : World} {v : Value} {xs : List Bool} (h : R4 w v xs) (hk : K5 hs w.heap.size w w') : R4 w' v xs := by
  obtain ⟨⟨a, n, cap, rfl, h1, h2, h3, h4, h5⟩, h6⟩ := h
  have hb : ∀ g o t, a = some ⟨g, o, t⟩ → g < w.heap.size → w'.heap[g]? = w.heap[g]? := fun g o t e hg => by
    refine hk.2 g hg ?_
    obtain ⟨cs, fr, h⟩ := h6 g o t n cap (by rw [e])
    exact .inr ⟨cs, _, fr, h, by decide⟩
  refine ⟨⟨a, n, cap, rfl, h1, h2, h3, h4, fun h0 => ?_⟩, fun g o t n c e => ?_⟩
  · obtain ⟨b, off, rfl, k1, k2⟩ := h5 h0
    refine ⟨b, off, rfl, Nat.lt_of_lt_of_le k1 hk.1, fun i hi => ?_⟩
    rw [← k2 i hi]
    unfold World.cell?
    rw [hb b off none rfl k1]
  · obtain ⟨cs, fr, h⟩ := h6 g o t n c e
    cases e
    exact ⟨cs, fr, (hb g o t rfl (Array.getElem?_eq_some_iff.1 h).1).trans h⟩
theorem R4.of {base : Nat} {w : World} {v : Value} {xs : List Bool} (h : Wv.Ov Value.bool 4 base w v xs) : R4 w v xs := by
  refine ⟨h.rv, fun g o t n c e => ?_⟩
  rcases h.1.2 with ⟨hn, _⟩ | ⟨g', cap, cur, hv, hbg, hh, _⟩
  · rw [hn] at e; cases e
  · rw [hv] at e; cases e; exact ⟨_, _, hh⟩
/-- A row of bools that is not empty, opened. -/
theorem bools_open {w : World} {v : Value} {xs : List Bool} (h : Wv.Rv Value.bool false w v xs) (h0 : 0 < xs.length) : ∃ b off cap, v = .slice (some ⟨b, off, none⟩) xs.length cap ∧ b < w.heap.size ∧ ∀ i, i < xs.length → w.cell? ⟨b, off + i, none⟩ = some (.bool (xs.getD i false)) := by
  rcases h.open with ⟨hn, -⟩ | ⟨b, off, n, cap, h1, -, h3, -, -, -, h7, h8⟩
  · rw [hn] at h0; exact absurd h0 (by decide)
  · subst h3
    exact ⟨b, off, cap, h1, h7, h8⟩
/-- What is left of a list of ints, in a new place. -/
theorem rest_any (a : Option Addr) (n cap q : Nat) (F : List Int) (w : World) (h : Wd.In w (.slice a n cap) F) (hq : q ≤ n) :
    ∃ ax, (∀ w, (Instr.slice 23 (.slice a n cap) (some (.int .i64 (q : Int))) none none).run Try.prog w = .ok (.slice ax (n - q) (cap - q)) w) ∧
      ∃ ar cr w', Sem.run Try.prog (Builtin.append_ #[23, 23] 23 #[.slice none 0 0, .slice ax (n - q) (cap - q)]) w = .ok (.slice ar (n - q) cr) w' ∧ Wd.In w' (.slice ar (n - q) cr) (F.drop q) ∧ Below w.heap.size w w' := by
  refine ⟨_, fun w => slice_ints a n cap q hq w, ?_⟩
  have hd := in_drop h q hq
  obtain ⟨ax, hax⟩ : ∃ ax, (if cap = q then a else a.map (·.add q)) = ax := ⟨_, rfl⟩
  rw [hax] at hd ⊢
  obtain ⟨i, hi, hzz⟩ := Option.map_eq_some_iff.1 Try.infoI
  simp only [Prod.mk.injEq] at hzz
  obtain ⟨hz, hs, hby⟩ := hzz
  have hl := Wv.rv_len hd
  by_cases h0 : n - q = 0
  · have hnil := List.eq_nil_of_length_eq_zero (hl.trans h0)
    rw [hnil, h0]
    refine ⟨none, 0, w, ?_, Wv.Rv.nil w, Below.refl _ _⟩
    simp [Builtin.append_, run_underlying Try.underlying23, sizeOf, typeInfo, hi, Builtin.lenOf, Builtin.firstCells]
    cases ax <;> simp [loadCells, loadCellsFrom]
  · obtain ⟨b, off, c, he, hb, hc⟩ := in_open hd (by omega)
    rw [hl] at he hc
    have hnn : n ≤ 17592186044416 := by obtain ⟨_, _, _, h1, _, _, _, h5, _⟩ := h; cases h1; exact h5
    rw [he]
    obtain ⟨v', w', k1, k2, k3, k4⟩ := run_append_own (P := Try.prog) w w.heap.size 23 23 3 i (.int .i64 0) 1 8 Try.underlying23 hi hz hs hby rfl (by decide) (.slice none 0 0) 0 [] (World.ownsRow_nil _ _ _ _) ⟨b, off, none⟩ (n - q) c ((F.drop q).map (Value.int .i64)) (by rw [List.length_map, hl, Nat.mul_one]) (by
      intro j u hj
      have hjn : j < n - q := by have := (List.getElem?_eq_some_iff.1 hj).1; rw [List.length_map, hl] at this; exact this
      rw [Wc.add_none, hc j hjn]
      rw [List.getElem?_map] at hj
      obtain ⟨x, hx, rfl⟩ := Option.map_eq_some_iff.1 hj
      rw [List.getD_eq_getElem?_getD, hx]; rfl) (by intro u hu; obtain ⟨x, _, rfl⟩ := List.mem_map.1 hu; rfl) (by unfold maxLen; omega) (by omega) (Nat.le_refl _)
    have hO : Wv.Ov (Value.int .i64) 3 w.heap.size w' v' (F.drop q) := ⟨by rw [hl]; simpa using k2, by omega⟩
    have hB : Below w.heap.size w w' := (Below.refl _ _).grown k3 (Nat.le_refl _) (fun g hg => by simp [Value.ownBlock] at hg)
    have hR : Wd.In w' v' (F.drop q) := hO.rv
    obtain ⟨ar, nr, cr, rfl, hn2, -⟩ := id hR
    rw [hl] at hn2
    rw [← hn2] at hR k1
    exact ⟨ar, cr, w', k1, hR, hB⟩
end Go.Proofs.Ytafpjnofccfmlaa
