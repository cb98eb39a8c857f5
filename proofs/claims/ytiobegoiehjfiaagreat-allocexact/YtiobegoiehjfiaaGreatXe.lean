/-
  The region in which the page's Open puts a tree's map and its nodes behind the elder ones, whatever order it is done in.
-/
import Derived.Test.YtiobegoiehjfiaaGreatXd
namespace Go.Proofs.YtiobegoiehjfiaaGreat
open Go.RowKit

/-- An image's own cells. -/
def Ih (w : World) (P : Nat) (s : Ws.Sup) (t : Int) (r b m n : Value) : Prop := w.heap[P]? = some (.cells #[.int .i64 s.gen, .int .i64 s.blocks, .int .i64 s.root, .int .i64 s.size, .int .i64 s.first, .int .i64 t, r, b, m, n] 41 (0, 0))
def Bld (w : World) (x y VA VB : Value) : Prop := ∃ gb, x = .slice (some ⟨gb, 0, none⟩) 1 1 ∧ w.cell? ⟨gb, 0, none⟩ = some y ∧ VA.ownBlock ≠ some gb ∧ VB.ownBlock ≠ some gb
def Ap (VA VB : Value) : Prop := ∀ g, VA.ownBlock = some g → VB.ownBlock ≠ some g
theorem Bld.keep {w w' : World} {x y VA VB : Value} (h : Bld w x y VA VB) (hb : ∀ b, b < w.heap.size → x.ownBlock = some b → w'.heap[b]? = w.heap[b]?) : Bld w' x y VA VB := by
  obtain ⟨gb, rfl, h2, h3, h4⟩ := h
  exact ⟨gb, rfl, (World.cell?_of_block (a := ⟨gb, 0, none⟩) (hb gb (Wc.cell_lt h2) rfl)).trans h2, h3, h4⟩

/-- Ahead of the stores. -/
def W1 (b0 P : Nat) (W : World) (vm vn : Value) (Ms Ns : List (List Int)) (lm ln : List Int) (vp vq : Value) (A3 A4 A8 A9 : Bool) (x116 x117 x121 x122 : Value) (w : World) : Prop :=
  Below b0 W w ∧ W.heap.size ≤ w.heap.size ∧ Gp P W w ∧ w.heap[P]? = W.heap[P]? ∧
  Ol b0 w (bif A4 then x117 else vm) (bif A4 then Ms ++ [lm] else Ms) ∧ Ol b0 w (bif A9 then x122 else vn) (bif A9 then Ns ++ [ln] else Ns) ∧ Ap (bif A4 then x117 else vm) (bif A9 then x122 else vn) ∧
  (A3 = true → A4 = false → Bld w x116 vp vm (bif A9 then x122 else vn)) ∧ (A8 = true → A9 = false → Bld w x121 vq vn (bif A4 then x117 else vm))
/-- Behind the first store. -/
def W2 (b0 P : Nat) (W : World) (s : Ws.Sup) (t : Int) (r b vn : Value) (Ms Ns : List (List Int)) (lm ln : List Int) (A13 : Bool) (x117 x122 : Value) (w : World) : Prop :=
  Below b0 W w ∧ W.heap.size ≤ w.heap.size ∧ Gp P W w ∧ Ol b0 w x117 (Ms ++ [lm]) ∧ Ol b0 w x122 (Ns ++ [ln]) ∧ Ap x117 x122 ∧ Ih w P s t r b x117 (bif A13 then x122 else vn)

section
variable {b0 P : Nat} {W : World} {vm vn : Value} {Ms Ns : List (List Int)} {lm ln : List Int} {vp vq : Value} {x116 x117 x121 x122 : Value} {w : World}
theorem own_lt {b0 : Nat} {w : World} {v : Value} {L : List (List Int)} (h : Ol b0 w v L) {g : Nat} (hg : v.ownBlock = some g) : g < w.heap.size := by
  obtain ⟨-, cs, fr, hc⟩ := h.own hg
  exact (Array.getElem?_eq_some_iff.1 hc).1
theorem W1.b3 {A8 A9 : Bool} (hb0 : b0 ≤ W.heap.size) (hP : P < W.heap.size) (h : W1 b0 P W vm vn Ms Ns lm ln vp vq false false A8 A9 x116 x117 x121 x122 w) :
    W1 b0 P W vm vn Ms Ns lm ln vp vq true false A8 A9 (.slice (some ⟨w.heap.size, 0, none⟩) 1 1) x117 x121 x122 (w.alloc (.cells #[vp] 22)) := by
  obtain ⟨h1, h2, h3, h4, h5, h6, h7, -, h9⟩ := h
  have al := (Below.refl w.heap.size w).alloc (Nat.le_refl _) (.cells #[vp] 22)
  refine ⟨h1.alloc (by omega) _, Nat.le_trans h2 al.size, h3.trans (Gp.below al), (al.block P (by omega)).trans h4, h5.keep al, h6.keep al, h7, fun _ _ => ⟨_, rfl, ?_, fun e => ?_, fun e => ?_⟩, fun a b => (h9 a b).keep (fun g hg _ => al.block g hg)⟩
  · have hr := World.rowIs_alloc w #[vp] 22 (fun _ => vp) (fun i hi => by have : i = 0 := by simpa using hi
                                                                          subst this; rfl)
    exact hr.cell (i := 0) (by simp)
  · have := own_lt h5 e; omega
  · have := own_lt h6 e; omega
theorem W1.b8 {A3 A4 : Bool} (hb0 : b0 ≤ W.heap.size) (hP : P < W.heap.size) (h : W1 b0 P W vm vn Ms Ns lm ln vp vq A3 A4 false false x116 x117 x121 x122 w) :
    W1 b0 P W vm vn Ms Ns lm ln vp vq A3 A4 true false x116 x117 (.slice (some ⟨w.heap.size, 0, none⟩) 1 1) x122 (w.alloc (.cells #[vq] 22)) := by
  obtain ⟨h1, h2, h3, h4, h5, h6, h7, h8, -⟩ := h
  have al := (Below.refl w.heap.size w).alloc (Nat.le_refl _) (.cells #[vq] 22)
  refine ⟨h1.alloc (by omega) _, Nat.le_trans h2 al.size, h3.trans (Gp.below al), (al.block P (by omega)).trans h4, h5.keep al, h6.keep al, h7, fun a b => (h8 a b).keep (fun g hg _ => al.block g hg), fun _ _ => ⟨_, rfl, ?_, fun e => ?_, fun e => ?_⟩⟩
  · have hr := World.rowIs_alloc w #[vq] 22 (fun _ => vq) (fun i hi => by have : i = 0 := by simpa using hi
                                                                          subst this; rfl)
    exact hr.cell (i := 0) (by simp)
  · have := own_lt h6 e; omega
  · have := own_lt h5 e; omega
/-- What an append leaves be. -/
theorem app_stays {b0 P : Nat} {w w' : World} {v : Value} {L : List (List Int)} (hO : Ol b0 w v L) (hst : ∀ b, b < w.heap.size → v.ownBlock ≠ some b → w'.heap[b]? = w.heap[b]?) :
    (∀ (b : Nat) (cs : Array Value) (T : TypeId) (fr : Nat × Nat), w.heap[b]? = some (.cells cs T fr) → T ≠ 22 → w'.heap[b]? = w.heap[b]?) ∧ Gp P w w' := by
  have h : ∀ (b : Nat) (cs : Array Value) (T : TypeId) (fr : Nat × Nat), w.heap[b]? = some (.cells cs T fr) → T ≠ 22 → w'.heap[b]? = w.heap[b]? := fun b cs T fr hc hT => by
    refine hst b (Array.getElem?_eq_some_iff.1 hc).1 (fun e => ?_)
    obtain ⟨-, cs', fr', hc'⟩ := hO.own e
    rw [hc] at hc'; cases hc'
    exact hT rfl
  exact ⟨h, fun b cs T fr hc hT _ => (h b cs T fr hc hT).trans hc⟩
theorem W1.a4 {am : Option Addr} {nm cm : Nat} {A8 : Bool} {csP : Array Value} (hb0 : b0 ≤ W.heap.size) (hP : W.heap[P]? = some (.cells csP 41 (0, 0))) (hvp : vp = .slice am nm cm) (hN : Nt W vp lm) (hl : Ms.length ≤ 900) (h : W1 b0 P W vm vn Ms Ns lm ln vp vq true false A8 false x116 x117 x121 x122 w) :
    ∃ v w', Sem.run Tryz.prog (Builtin.append_ #[39, 39] 39 #[vm, x116]) w = .ok v w' ∧ W1 b0 P W vm vn Ms Ns lm ln vp vq true true A8 false x116 v x121 x122 w' := by
  obtain ⟨h1, h2, h3, h4, h5, h6, h7, h8, h9⟩ := h
  obtain ⟨gb, rfl, hc, hA, hB⟩ := h8 rfl rfl
  subst hvp
  have hP' : ∀ (b : Nat) (cs : Array Value) (fr : Nat × Nat), W.heap[b]? = some (.cells cs 3 fr) → b ≠ P := fun b cs fr hb e => by subst e; rw [hP] at hb; cases hb
  have hNw : Nt w (.slice am nm cm) lm := hN.stay h2 (fun b cs fr hb => h3 b cs 3 fr hb (by decide) (hP' b cs fr hb))
  have h5' : Ol b0 w vm Ms := h5
  have h6' : Ol b0 w vn Ns := h6
  obtain ⟨g, k, q, w', k1, k2, k3, k4, k5⟩ := push_ls w gb b0 vm am nm cm Ms lm h5' hc hNw hl (by omega)
  obtain ⟨s1, s2⟩ := app_stays (P := P) h5' k5
  have hs : w.heap.size ≤ w'.heap.size := by
    have := k3.size
    rcases Nat.lt_or_ge w'.heap.size w.heap.size with hlt | hge
    · exfalso
      have hx := h4
      rw [hP] at hx
      have := own_lt k2 (g := g) rfl
      rcases k4 with e | e
      · by_cases e2 : w.heap.size - 1 = g
        · omega
        · have := k5 (w.heap.size - 1) (by omega) (by rw [e]; simpa using fun h => e2 h.symm)
          rw [Array.getElem?_eq_none (by omega)] at this
          have h0 : w.heap.size - 1 < w.heap.size := by omega
          rw [Array.getElem?_eq_getElem h0] at this
          cases this
      · omega
    · exact hge
  refine ⟨_, w', k1, h1.trans k3, Nat.le_trans h2 hs, h3.trans s2, (s1 P csP 41 (0, 0) (h4.trans hP) (by decide)).trans h4, k2, ?_, fun g' e => ?_, fun _ e => ?_, fun a b => ?_⟩
  · exact h6'.stay hs (fun b cs fr hb => (s1 b cs 3 fr hb (by decide)).trans hb) (fun g' hg' => k5 g' (own_lt h6' hg') (fun e => h7 g' e hg'))
  · have e' : g = g' := by simpa [Value.ownBlock] using e
    subst e'
    intro hn
    rcases k4 with k4 | k4
    · exact h7 g k4 hn
    · have := own_lt h6' hn; omega
  · cases e
  · obtain ⟨gc, rfl, hc2, hA2, hB2⟩ := h9 a b
    have hlt := Wc.cell_lt hc2
    refine ⟨gc, rfl, (World.cell?_of_block (a := ⟨gc, 0, none⟩) (k5 gc hlt hB2)).trans hc2, hA2, fun e => ?_⟩
    have e' : g = gc := by simpa [Value.ownBlock] using e
    subst e'
    rcases k4 with k4 | k4
    · exact hB2 k4
    · omega
theorem grown_size {base : Nat} {w w' : World} {v : Value} {g : Nat} {x : Value} {L : List (List Int)} (hpos : 0 < w.heap.size) (hx : x.ownBlock = some g) (k2 : Ol base w' x L) (k4 : v.ownBlock = some g ∨ g = w.heap.size) (k5 : ∀ b, b < w.heap.size → v.ownBlock ≠ some b → w'.heap[b]? = w.heap[b]?) : w.heap.size ≤ w'.heap.size := by
  rcases Nat.lt_or_ge w'.heap.size w.heap.size with hlt | hge
  · exfalso
    have := own_lt k2 hx
    rcases k4 with e | e
    · by_cases e2 : w.heap.size - 1 = g
      · omega
      · have := k5 (w.heap.size - 1) (by omega) (by rw [e]; simpa using fun h => e2 h.symm)
        rw [Array.getElem?_eq_none (by omega), Array.getElem?_eq_getElem (by omega)] at this
        cases this
    · omega
  · exact hge
theorem W1.a9 {an : Option Addr} {nn cn : Nat} {csP : Array Value} (hb0 : b0 ≤ W.heap.size) (hP : W.heap[P]? = some (.cells csP 41 (0, 0))) (hvq : vq = .slice an nn cn) (hN : Nt W vq ln) (hl : Ns.length ≤ 900) (h : W1 b0 P W vm vn Ms Ns lm ln vp vq true true true false x116 x117 x121 x122 w) :
    ∃ v w', Sem.run Tryz.prog (Builtin.append_ #[39, 39] 39 #[vn, x121]) w = .ok v w' ∧ W1 b0 P W vm vn Ms Ns lm ln vp vq true true true true x116 x117 x121 v w' := by
  obtain ⟨h1, h2, h3, h4, h5, h6, h7, h8, h9⟩ := h
  obtain ⟨gb, rfl, hc, hA, hB⟩ := h9 rfl rfl
  subst hvq
  have hP' : ∀ (b : Nat) (cs : Array Value) (fr : Nat × Nat), W.heap[b]? = some (.cells cs 3 fr) → b ≠ P := fun b cs fr hb e => by subst e; rw [hP] at hb; cases hb
  have hNw : Nt w (.slice an nn cn) ln := hN.stay h2 (fun b cs fr hb => h3 b cs 3 fr hb (by decide) (hP' b cs fr hb))
  have h5' : Ol b0 w x117 (Ms ++ [lm]) := h5
  have h6' : Ol b0 w vn Ns := h6
  obtain ⟨g, k, q, w', k1, k2, k3, k4, k5⟩ := push_ls w gb b0 vn an nn cn Ns ln h6' hc hNw hl (by omega)
  obtain ⟨s1, s2⟩ := app_stays (P := P) h6' k5
  have hs := grown_size (by have := Wc.cell_lt hc; omega) (g := g) rfl k2 k4 k5
  refine ⟨_, w', k1, h1.trans k3, Nat.le_trans h2 hs, h3.trans s2, (s1 P csP 41 (0, 0) (h4.trans hP) (by decide)).trans h4, ?_, k2, fun g' e hn => ?_, fun _ e => ?_, fun _ e => ?_⟩
  · exact h5'.stay hs (fun b cs fr hb => (s1 b cs 3 fr hb (by decide)).trans hb) (fun g' hg' => k5 g' (own_lt h5' hg') (fun e => h7 g' hg' e))
  · have e' : g = g' := by simpa [Value.ownBlock] using hn
    subst e'
    rcases k4 with k4 | k4
    · exact h7 g e k4
    · have := own_lt h5' e; omega
  · cases e
  · cases e
theorem W1.s11 {s : Ws.Sup} {t : Int} {r b : Value} (hP : Ih W P s t r b vm vn) (hb : b0 ≤ P) (h : W1 b0 P W vm vn Ms Ns lm ln vp vq true true true true x116 x117 x121 x122 w) :
    W2 b0 P W s t r b vn Ms Ns lm ln false x117 x122 (w.setCell ⟨P, 8, none⟩ x117) := by
  obtain ⟨h1, h2, h3, h4, h5, h6, h7, -, -⟩ := h
  have hI : Ih w P s t r b vm vn := h4.trans hP
  have h5' : Ol b0 w x117 (Ms ++ [lm]) := h5
  have h6' : Ol b0 w x122 (Ns ++ [ln]) := h6
  refine ⟨h1.setCell (p := ⟨P, 8, none⟩) hb _, Nat.le_trans h2 (((Below.refl 0 w).setCell (p := ⟨P, 8, none⟩) (Nat.zero_le _) x117).size), h3.trans (Gp.set P 8 w x117), h5'.set hI, h6'.set hI, h7, ?_⟩
  have := heap_setCell_same w P 8 _ 41 x117 hI
  unfold Ih
  simpa using this
theorem W2.s13 {s : Ws.Sup} {t : Int} {r b : Value} (hb : b0 ≤ P) (h : W2 b0 P W s t r b vn Ms Ns lm ln false x117 x122 w) :
    W2 b0 P W s t r b vn Ms Ns lm ln true x117 x122 (w.setCell ⟨P, 9, none⟩ x122) := by
  obtain ⟨h1, h2, h3, h5, h6, h7, hI⟩ := h
  have hI' : Ih w P s t r b x117 vn := hI
  refine ⟨h1.setCell (p := ⟨P, 9, none⟩) hb _, Nat.le_trans h2 (((Below.refl 0 w).setCell (p := ⟨P, 9, none⟩) (Nat.zero_le _) x122).size), h3.trans (Gp.set P 9 w x122), h5.set hI', h6.set hI', h7, ?_⟩
  have := heap_setCell_same w P 9 _ 41 x122 hI'
  unfold Ih
  simpa using this
end
end Go.Proofs.YtiobegoiehjfiaaGreat
