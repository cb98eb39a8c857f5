/-
  Memory of the call's own that holds slices of ints, and append to it; two such rows side by side, filled in any order.
-/
import Derived.Test.YtiobegoiehjfiaaGreatXc
import Derived.Deep.AppendLies
namespace Go.Proofs.YtiobegoiehjfiaaGreat
open Go.RowKit

/-- All blocks but P and those of slices of ints stay. -/
def Gp (P : Nat) (w w' : World) : Prop := ∀ (b : Nat) (cs : Array Value) (T : TypeId) (fr : Nat × Nat), w.heap[b]? = some (.cells cs T fr) → T ≠ 22 → b ≠ P → w'.heap[b]? = some (.cells cs T fr)
theorem Gp.refl (P : Nat) (w : World) : Gp P w w := fun _ _ _ _ h _ _ => h
theorem Gp.trans {P : Nat} {a b c : World} (h : Gp P a b) (k : Gp P b c) : Gp P a c := fun g cs T fr h1 h2 h3 => k g cs T fr (h g cs T fr h1 h2 h3) h2 h3
theorem Gp.below {P : Nat} {w w' : World} (h : Below w.heap.size w w') : Gp P w w' := fun _ _ _ _ h1 _ _ => (h.block _ (Array.getElem?_eq_some_iff.1 h1).1).trans h1
theorem Gp.set (P o : Nat) (w : World) (u : Value) : Gp P w (w.setCell ⟨P, o, none⟩ u) := fun _ _ _ _ h1 _ h3 => (heap_setCell_other _ _ _ _ h3).trans h1

/-- Ints in a block of ints. -/
def Nt (w : World) (v : Value) (l : List Int) : Prop := Wd.In w v l ∧ Tb w v
theorem Nt.keep {w w' : World} {v : Value} {l : List Int} (h : Nt w v l) (hb : Below w.heap.size w w') : Nt w' v l := ⟨h.1.keep hb, h.2.keep hb⟩
theorem Nt.stay {w w' : World} {v : Value} {l : List Int} (h : Nt w v l) (hs : w.heap.size ≤ w'.heap.size) (hb : ∀ (b : Nat) (cs : Array Value) (fr : Nat × Nat), w.heap[b]? = some (.cells cs 3 fr) → w'.heap[b]? = some (.cells cs 3 fr)) : Nt w' v l := by
  obtain ⟨⟨a, n, cap, rfl, h2, h3, h4, h5, h6⟩, ht⟩ := h
  refine ⟨⟨a, n, cap, rfl, h2, h3, h4, h5, fun hn => ?_⟩, fun b o n' c' e => ?_⟩
  · obtain ⟨b, off, rfl, k2, k3⟩ := h6 hn
    obtain ⟨cs, fr, hc⟩ := ht b off n cap rfl
    have := hb b cs fr hc
    exact ⟨b, off, rfl, by omega, fun i hi => (World.cell?_of_block (a := ⟨b, off + i, none⟩) (this.trans hc.symm)).trans (k3 i hi)⟩
  · obtain ⟨cs, fr, hc⟩ := ht b o n' c' e
    exact ⟨cs, fr, hb b cs fr hc⟩

/-- Memory of the call's own, from the block base on, that holds slices of ints. -/
def Ol (base : Nat) (w : World) (v : Value) (L : List (List Int)) : Prop :=
  ∃ Q : List (Value × List Int), Q.map Prod.snd = L ∧ w.ownsRow base 22 1 v Q.length (Q.map Prod.fst) ∧ Q.length ≤ 1000 ∧ ∀ q ∈ Q, Nt w q.1 q.2 ∧ ∃ a n c, q.1 = .slice a n c
theorem Ol.nil (base : Nat) (w : World) : Ol base w (.slice none 0 0) [] := ⟨[], rfl, World.ownsRow_nil _ _ _ _, by simp, by simp⟩
theorem Ol.slice {base : Nat} {w : World} {v : Value} {L : List (List Int)} (h : Ol base w v L) : ∃ a c, v = .slice a L.length c := by
  obtain ⟨Q, rfl, h2, -, -⟩ := h
  rcases h2.2 with ⟨rfl, h0⟩ | ⟨g, cap, cur, rfl, -⟩
  · exact ⟨none, 0, by simp [h0]⟩
  · exact ⟨some ⟨g, 0, none⟩, cap, by simp⟩
theorem Ol.len {base : Nat} {w : World} {v : Value} {L : List (List Int)} (h : Ol base w v L) : L.length ≤ 1000 := by
  obtain ⟨Q, rfl, -, h3, -⟩ := h
  simpa using h3
/-- Its block holds slices of ints. -/
theorem Ol.own {base : Nat} {w : World} {v : Value} {L : List (List Int)} (h : Ol base w v L) {g : Nat} (hg : v.ownBlock = some g) : base ≤ g ∧ ∃ cs fr, w.heap[g]? = some (.cells cs 22 fr) := by
  obtain ⟨Q, rfl, h2, -, -⟩ := h
  rcases h2.2 with ⟨rfl, _⟩ | ⟨g2, cap, cur, rfl, hb, hg2, _⟩
  · cases hg
  · have : g2 = g := by simpa [Value.ownBlock] using hg
    subst this
    exact ⟨hb, cur, _, hg2⟩
theorem Ol.stay {base : Nat} {w w' : World} {v : Value} {L : List (List Int)} (h : Ol base w v L) (hs : w.heap.size ≤ w'.heap.size) (hb : ∀ (b : Nat) (cs : Array Value) (fr : Nat × Nat), w.heap[b]? = some (.cells cs 3 fr) → w'.heap[b]? = some (.cells cs 3 fr))
    (ho : ∀ g, v.ownBlock = some g → w'.heap[g]? = w.heap[g]?) : Ol base w' v L := by
  obtain ⟨Q, h1, h2, h3, h4⟩ := h
  refine ⟨Q, h1, ⟨h2.1, ?_⟩, h3, fun q hq => ⟨(h4 q hq).1.stay hs hb, (h4 q hq).2⟩⟩
  rcases h2.2 with hn | ⟨g, cap, cur, hv, hbg, hg, rest⟩
  · exact .inl hn
  · exact .inr ⟨g, cap, cur, hv, hbg, by rw [ho g (by rw [hv]; rfl)]; exact hg, rest⟩
theorem Ol.keep {base : Nat} {w w' : World} {v : Value} {L : List (List Int)} (h : Ol base w v L) (hb : Below w.heap.size w w') : Ol base w' v L :=
  h.stay hb.size (fun b _ _ hc => (hb.block b (Array.getElem?_eq_some_iff.1 hc).1).trans hc) (fun _ hg => hb.block _ (by obtain ⟨-, cs, fr, hc⟩ := h.own hg; exact (Array.getElem?_eq_some_iff.1 hc).1))
theorem Ol.set {base P o : Nat} {w : World} {v u : Value} {L : List (List Int)} (h : Ol base w v L) {cs : Array Value} {fr : Nat × Nat} (hP : w.heap[P]? = some (.cells cs 41 fr)) : Ol base (w.setCell ⟨P, o, none⟩ u) v L := by
  have hne : ∀ (b : Nat) (c : Array Value) (T : TypeId) (f : Nat × Nat), w.heap[b]? = some (.cells c T f) → T ≠ 41 → b ≠ P := fun b c T f hb hT e => by
    subst e; rw [hP] at hb; cases hb; exact hT rfl
  refine h.stay (((Below.refl 0 w).setCell (p := ⟨P, o, none⟩) (Nat.zero_le _) u).size) (fun b c f hb => (heap_setCell_other _ _ _ _ (hne b c 3 f hb (by decide))).trans hb) (fun g hg => ?_)
  obtain ⟨-, c, f, hb⟩ := h.own hg
  exact heap_setCell_other _ _ _ _ (hne g c 22 f hb (by decide))
/-- What a row of slices holds. -/
theorem Ol.at {base : Nat} {w : World} {v : Value} {L : List (List Int)} (h : Ol base w v L) {i : Nat} (hi : i < L.length) : ∃ g c, v = .slice (some ⟨g, 0, none⟩) L.length c ∧ L.length ≤ c ∧ g < w.heap.size ∧ ∃ a n q, w.cell? ⟨g, i, none⟩ = some (.slice a n q) ∧ Nt w (.slice a n q) (L.getD i []) := by
  obtain ⟨Q, rfl, h2, h3, h4⟩ := h
  have hi' : i < Q.length := by simpa using hi
  rcases h2.2 with ⟨_, h0⟩ | ⟨g, cap, cur, rfl, hb, hg, k1, k2, k3, k4⟩
  · omega
  · obtain ⟨hN, a, n, q, hq⟩ := h4 Q[i] (List.getElem_mem hi')
    refine ⟨g, cap, by simp, by simpa using k1, (Array.getElem?_eq_some_iff.1 hg).1, a, n, q, ?_, ?_⟩
    · have := h2.cells (g := g) rfl i (.slice a n q) (by rw [← hq]; simp [hi'])
      rw [Wc.add_none, Nat.zero_add] at this
      exact this
    · rw [← hq]
      have e : (Q.map Prod.snd).getD i [] = Q[i].2 := by simp [hi']
      rw [e]; exact hN

theorem Tryz.info22 : (Tryz.prog.info? 22).map (fun i => (i.zero, i.size, i.bytes)) = some (some (.slice none 0 0), 1, 24) := by kernel_rfl

/-- A slice is put behind such memory; all blocks but the row's own stay. -/
theorem push_ls (w : World) (gb base : Nat) (v : Value) (a : Option Addr) (n c : Nat) (L : List (List Int)) (l : List Int) (hO : Ol base w v L) (hc : w.cell? ⟨gb, 0, none⟩ = some (.slice a n c)) (hN : Nt w (.slice a n c) l) (hl : L.length ≤ 900) (hb : base ≤ w.heap.size) :
    ∃ g k q w', Sem.run Tryz.prog (Builtin.append_ #[39, 39] 39 #[v, .slice (some ⟨gb, 0, none⟩) 1 1]) w = .ok (.slice (some ⟨g, 0, none⟩) k q) w' ∧ Ol base w' (.slice (some ⟨g, 0, none⟩) k q) (L ++ [l]) ∧ Below base w w' ∧ (v.ownBlock = some g ∨ g = w.heap.size) ∧
      (∀ b, b < w.heap.size → v.ownBlock ≠ some b → w'.heap[b]? = w.heap[b]?) := by
  obtain ⟨i, hi, hzz⟩ := Option.map_eq_some_iff.1 Tryz.info22
  simp only [Prod.mk.injEq] at hzz
  obtain ⟨hz, hs, hby⟩ := hzz
  have hown := fun g hg => hO.own (g := g) hg
  obtain ⟨Q, rfl, h2, h3, h4⟩ := hO
  have hlq : Q.length ≤ 900 := by simpa using hl
  obtain ⟨g, q, w', k1, k2, k3, k4, k5⟩ := run_append_lies (P := Tryz.prog) w 39 39 base 22 i (.slice none 0 0) 1 24 Tryz.underlying39 hi hz hs hby rfl (by decide) v _ _ h2 ⟨gb, 0, none⟩ 1 1 [.slice a n c] rfl (by
      intro j u hu
      match j, hu with
      | 0, hu =>
        obtain rfl : Value.slice a n c = u := by simpa using hu
        rw [Wc.add_none]; exact hc) (by
      intro x hx
      obtain rfl : x = Value.slice a n c := by simpa using hx
      rfl) (by decide) (by unfold maxLen; omega) (by omega) hb _ rfl
  have hst : ∀ b, b < w.heap.size → v.ownBlock ≠ some b → w'.heap[b]? = w.heap[b]? := fun b hb hne => k3.block b hb (fun e => hne e.symm)
  have h33 : ∀ (b : Nat) (cs : Array Value) (fr : Nat × Nat), w.heap[b]? = some (.cells cs 3 fr) → w'.heap[b]? = some (.cells cs 3 fr) := fun b cs fr hc => by
    refine (hst b (Array.getElem?_eq_some_iff.1 hc).1 (fun e => ?_)).trans hc
    obtain ⟨-, cs', fr', hc'⟩ := hown b e
    rw [hc] at hc'; cases hc'
  refine ⟨g, _, q, w', k1, ⟨Q ++ [(.slice a n c, l)], by simp, ?_, by simp; omega, fun x hx => ?_⟩, (Below.refl _ _).grown k3 hb (fun g hg => (h2.lt g hg).1), k4, hst⟩
  · simpa using k2
  · rcases List.mem_append.1 hx with hx | hx
    · exact ⟨(h4 x hx).1.stay k3.size h33, (h4 x hx).2⟩
    · obtain rfl : x = (.slice a n c, l) := by simpa using hx
      exact ⟨hN.stay k3.size h33, a, n, c, rfl⟩
end Go.Proofs.YtiobegoiehjfiaaGreat
