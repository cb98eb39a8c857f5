/-
  The page's Open: what its first loop has laid down; which trees are none.
-/
import Derived.Test.YtiobegoiehjfiaaGreatXj
namespace Wi
theorem trees_length (s : Ws.Sup) (l : List Wr.Rec) : (trees s l).length = l.length + 1 := by simp [trees]
theorem trees_zero (s : Ws.Sup) (l : List Wr.Rec) : (trees s l).getD 0 (0, 0) = (s.root, s.size) := rfl
theorem trees_succ (s : Ws.Sup) (l : List Wr.Rec) {j : Nat} (h : j < l.length) : (trees s l).getD (j + 1) (0, 0) = ((l.getD j Wr.r0).root, (l.getD j Wr.r0).size) := by
  simp [trees, h]
theorem take_getD {α : Type} (l : List α) (d : α) {k : Nat} (h : k < l.length) : l.take (k + 1) = l.take k ++ [l.getD k d] := by
  rw [List.take_add_one]; simp [h]
/-- A tree that is none is not sound. -/
theorem unsound_at {xs : List Int} {s : Ws.Sup} {b : List Int} (hb : ∀ p ∈ b, ¬ p = 0) {k : Nat} {t : Int × Int} (hk : k < (trees s (b.map (recAt xs))).length) (ht : (trees s (b.map (recAt xs))).getD k (0, 0) = t) (h : szB xs t = false) : sndB xs s b = false := by
  cases e : sndB xs s b with
  | false => rfl
  | true =>
    have := ((sndB_iff hb).1 e).1
    rw [List.all_eq_true] at this
    have h2 := this t (by rw [← ht, List.getD_eq_getElem?_getD, List.getElem?_eq_getElem hk]; exact List.getElem_mem hk)
    rw [h] at h2; cases h2
theorem iv_pos {xs : List Int} {b : List Int} (h : Iv xs b) : ∀ p ∈ b, ¬ p = 0 := fun p hp => by
  have := (recOk_in (h.2.2 p hp)).1
  omega
theorem all_snoc {α : Type} (l : List α) (d : α) (f : α → Bool) {k : Nat} (h : k < l.length) : (l.take (k + 1)).all f = ((l.take k).all f && f (l.getD k d)) := by
  rw [take_getD l d h]; simp
theorem szB_none {xs : List Int} {t : Int × Int} (h : Wt.tre xs t.1 = none) : szB xs t = false := by unfold szB; rw [h]; rfl
theorem szB_bad {xs : List Int} {t : Int × Int} {z j : Nat} (hz : t.2 = (z : Int)) (h : (((Wt.treS xs t.1).drop z).take j).all (· == 0) = false) : szB xs t = false := by
  unfold szB
  rw [hz, Int.toNat_natCast, Bool.and_eq_false_iff]
  right
  cases e : ((Wt.treS xs t.1).drop z).all (· == 0) with
  | false => rfl
  | true =>
    rw [List.all_eq_true] at e
    have : (((Wt.treS xs t.1).drop z).take j).all (· == 0) = true := by
      rw [List.all_eq_true]; exact fun x hx => e x (List.mem_of_mem_take hx)
    rw [h] at this; cases this
theorem szB_good {xs : List Int} {t : Int × Int} {z j : Nat} (ht : (Wt.tre xs t.1).isSome = true) (hz : t.2 = (z : Int)) (hj : (Wt.treS xs t.1).length ≤ z + j) (h : (((Wt.treS xs t.1).drop z).take j).all (· == 0) = true) : szB xs t = true := by
  unfold szB
  rw [ht, hz, Int.toNat_natCast, Bool.true_and]
  rw [List.take_of_length_le (by rw [List.length_drop]; omega)] at h
  exact h
theorem drop_snoc {S : List Int} {z j : Nat} (h1 : z ≤ j) (h2 : j < S.length) : ((S.drop z).take (j + 1 - z)).all (· == 0) = (((S.drop z).take (j - z)).all (· == 0) && (S.getD j 0 == 0)) := by
  have h := all_snoc (S.drop z) 0 (· == (0 : Int)) (k := j - z) (by rw [List.length_drop]; omega)
  rw [show j + 1 - z = j - z + 1 by omega, h]
  congr 2
  simp [show z + (j - z) = j by omega]
end Wi
namespace Go.Proofs.YtiobegoiehjfiaaGreat
open Go.RowKit
/-- The state of the first loop. -/
def Lp (xs : List Int) (b0 P P2 P3 P7 : Nat) (s : Ws.Sup) (t : Int) (r b : Value) (L : List Wr.Rec) (B : List Int) (w : World) (vm vn : Value) (k : Nat) : Prop :=
  Frm P2 P3 P7 s r b L B w ∧ Ih w P s t r b vm vn ∧ Ol b0 w vm (((Wi.trees s L).take k).map fun t => Wt.treS xs t.1) ∧ Ol b0 w vn (((Wi.trees s L).take k).map fun t => Wt.treN xs t.1) ∧ Ap vm vn ∧ ((Wi.trees s L).take k).all (Wi.szB xs) = true
theorem Lp.keep {xs : List Int} {b0 P P2 P3 P7 : Nat} {s : Ws.Sup} {t : Int} {r b : Value} {L : List Wr.Rec} {B : List Int} {w w' : World} {vm vn : Value} {k : Nat} (h : Lp xs b0 P P2 P3 P7 s t r b L B w vm vn k) (hb : Below w.heap.size w w') : Lp xs b0 P P2 P3 P7 s t r b L B w' vm vn k :=
  ⟨h.1.keep hb, h.2.1.keep hb, h.2.2.1.keep hb, h.2.2.2.1.keep hb, h.2.2.2.2⟩
theorem Lp.start {xs : List Int} {b0 P P2 P3 P7 : Nat} {s : Ws.Sup} {t : Int} {r b : Value} {L : List Wr.Rec} {B : List Int} {w : World} (h1 : Ih w P2 Ws.s0 0 (.slice none 0 0) (.slice none 0 0) (.slice none 0 0) (.slice none 0 0)) (h2 : Fh w P3 0 0) (h3 : Sh w P7 s) (h4 : Rt w r L) (h5 : Nt w b B)
    {s' : Ws.Sup} {t' : Int} {r' b' : Value} (hI : Ih w P s' t' r' b' (.slice none 0 0) (.slice none 0 0)) (hne : P2 ≠ P) : Lp xs b0 P P2 P3 P7 s t r b L B (over8 w P s t r b) (.slice none 0 0) (.slice none 0 0) 0 := by
  have hg : Gp P w (over8 w P s t r b) := fun g cs T fr hc _ hgP => (over8_other w P s t r b hgP).trans hc
  exact ⟨Frm.gp ⟨h1, h2, h3, h4, h5⟩ (by rw [over8_size]; exact Nat.le_refl _) hg hne hI, hI.eight s t r b, Ol.nil _ _, Ol.nil _ _, (fun _ e => by cases e), rfl⟩
/-- Behind the region of two appends. -/
theorem Lp.next {xs : List Int} {b0 P P2 P3 P7 : Nat} {s : Ws.Sup} {t : Int} {r b : Value} {L : List Wr.Rec} {B : List Int} {w w' : World} {vm vn vm' vn' : Value} {k : Nat} {tk : Int × Int} (h : Lp xs b0 P P2 P3 P7 s t r b L B w vm vn k) (hne : P2 ≠ P) (hk : k < (Wi.trees s L).length) (htk : (Wi.trees s L).getD k (0, 0) = tk) (hz : Wi.szB xs tk = true)
    (hW : W2 b0 P w s t r b vn (((Wi.trees s L).take k).map fun t => Wt.treS xs t.1) (((Wi.trees s L).take k).map fun t => Wt.treN xs t.1) (Wt.treS xs tk.1) (Wt.treN xs tk.1) true vm' vn' w') : Lp xs b0 P P2 P3 P7 s t r b L B w' vm' vn' (k + 1) := by
  obtain ⟨h1, h2, h3, h4, h5, h6⟩ := h
  obtain ⟨g1, g2, g3, g4, g5, g6, g7⟩ := hW
  subst htk
  refine ⟨h1.gp g2 g3 hne h2, g7, ?_, ?_, g6, ?_⟩
  · rw [Wi.take_getD _ (0, 0) hk, List.map_append]; exact g4
  · rw [Wi.take_getD _ (0, 0) hk, List.map_append]; exact g5
  · rw [Wi.all_snoc _ (0, 0) _ hk, h6, hz]; rfl
end Go.Proofs.YtiobegoiehjfiaaGreat
