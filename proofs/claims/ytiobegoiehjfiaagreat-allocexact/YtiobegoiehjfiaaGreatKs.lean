/-
  The plain mathematics of the page's counts: in another order, the same pointers are met. It speaks of no program but for what Open tells.
-/
import Derived.Test.YtiobegoiehjfiaaGreatKd
namespace Wj
open Wt Wn
/-- Each once, as they come. -/
def ded (l : List Int) : List Int := l.foldl (fun M a => if a ∈ M then M else M ++ [a]) []
theorem ded_nil : ded [] = [] := rfl
theorem ded_snoc (l : List Int) (a : Int) : ded (l ++ [a]) = if a ∈ ded l then ded l else ded l ++ [a] := by
  unfold ded; rw [List.foldl_append]; rfl
theorem ded_old {l : List Int} {a : Int} (h : a ∈ ded l) : ded (l ++ [a]) = ded l := by rw [ded_snoc, if_pos h]
theorem ded_new {l : List Int} {a : Int} (h : ¬ a ∈ ded l) : ded (l ++ [a]) = ded l ++ [a] := by rw [ded_snoc, if_neg h]
theorem snoc_ind {P : List Int → Prop} (h0 : P []) (hs : ∀ l a, P l → P (l ++ [a])) (l : List Int) : P l := by
  have gen : ∀ k, k ≤ l.length → P (l.take k) := by
    intro k
    induction k with
    | zero => intro _; rw [List.take_zero]; exact h0
    | succ k ih =>
      intro hk
      rw [List.take_succ_eq_append_getElem (by omega)]
      exact hs _ _ (ih (by omega))
  have := gen l.length (Nat.le_refl _)
  rwa [List.take_length] at this
theorem ded_mem (a : Int) (l : List Int) : a ∈ ded l ↔ a ∈ l := by
  refine snoc_ind (P := fun l => a ∈ ded l ↔ a ∈ l) (by simp [ded_nil]) (fun l b ih => ?_) l
  rw [ded_snoc]
  by_cases h : b ∈ ded l
  · rw [if_pos h, ih, List.mem_append]
    constructor
    · exact .inl
    · rintro (h1 | h1)
      · exact h1
      · have : a = b := by simpa using h1
        subst this; exact ih.1 h
  · rw [if_neg h, List.mem_append, List.mem_append, ih]
theorem ded_nodup (l : List Int) : (ded l).Nodup := by
  refine snoc_ind (P := fun l => (ded l).Nodup) (by simp [ded_nil]) (fun l b ih => ?_) l
  rw [ded_snoc]
  by_cases h : b ∈ ded l
  · rw [if_pos h]; exact ih
  · rw [if_neg h, List.nodup_append]
    refine ⟨ih, by simp, fun x hx y hy e => ?_⟩
    have : y = b := by simpa using hy
    subst this; subst e
    exact h hx
/-- The slots, the head's root, then each record's block and root. -/
def bse (s : Ws.Sup) (L : List Wr.Rec) (B : List Int) : Nat → List Int
  | 0 => led [0, 1] s.root
  | j + 1 => led (bse s L B j ++ [B.getD j 0]) (L.getD j Wr.r0).root
theorem bse_count (s : Ws.Sup) (L : List Wr.Rec) (B : List Int) (b : Int) : ∀ j, j ≤ L.length → j ≤ B.length → (bse s L B j).count b = ([0, 1] : List Int).count b + (led [] s.root).count b + (B.take j).count b + ((L.take j).flatMap fun r => led [] r.root).count b
  | 0, _, _ => by
    show (led [0, 1] s.root).count b = _
    rw [led_count]; simp
  | j + 1, h1, h2 => by
    show (led (bse s L B j ++ [B.getD j 0]) (L.getD j Wr.r0).root).count b = _
    have e1 : B.take (j + 1) = B.take j ++ [B.getD j 0] := by rw [List.take_add_one]; simp [show j < B.length by omega]
    have e2 : L.take (j + 1) = L.take j ++ [L.getD j Wr.r0] := by rw [List.take_add_one]; simp [show j < L.length by omega]
    rw [led_count, List.count_append, bse_count s L B b j (by omega) (by omega), e1, e2, List.count_append, List.flatMap_append, List.count_append]
    simp only [List.flatMap_cons, List.flatMap_nil, List.append_nil]
    omega
theorem flat_two (l : List Wr.Rec) (f g : Wr.Rec → List Int) (b : Int) : (l.flatMap fun r => f r ++ g r).count b = (l.flatMap f).count b + (l.flatMap g).count b := by
  induction l with
  | nil => rfl
  | cons r l ih =>
    rw [List.flatMap_cons, List.flatMap_cons, List.flatMap_cons, List.count_append, List.count_append, List.count_append, List.count_append, ih]
    omega
theorem nps_perm {xs D E : List Int} (h : D.Perm E) (b : Int) : (nps xs D).count b = (nps xs E).count b := by
  unfold nps
  exact (h.flatMap_right _).count_eq b
theorem nps_len (xs : List Int) : ∀ D : List Int, (nps xs D).length ≤ 8 * D.length
  | [] => by simp [nps]
  | p :: D => by
    have h1 := nps_len xs D
    have h2 : ∀ k, (ptrK (nd xs p) k).length ≤ k := by
      intro k
      induction k with
      | zero => exact Nat.le_refl _
      | succ k ih =>
        show (ptrK (nd xs p) k ++ _).length ≤ _
        rw [List.length_append]
        split <;> simp <;> omega
    have h3 := h2 8
    rw [nps_cons, List.length_append, List.length_cons]
    omega
theorem bse_len (s : Ws.Sup) (L : List Wr.Rec) (B : List Int) : ∀ j, (bse s L B j).length ≤ 3 + 2 * j
  | 0 => by show (led [0, 1] s.root).length ≤ _; unfold led; split <;> simp
  | j + 1 => by
    have := bse_len s L B j
    show (led (bse s L B j ++ [B.getD j 0]) (L.getD j Wr.r0).root).length ≤ _
    unfold led; split <;> simp <;> omega
end Wj
namespace Go.Proofs.YtiobegoiehjfiaaGreat
open Go.RowKit Wj

/-- All that the page counts. -/
def rAll (xs : List Int) : List Int := bse (opnS xs) (opnL xs) (opnB xs) (opnL xs).length ++ nps xs (ded (Wi.allN xs (Wi.trees (opnS xs) (opnL xs))))
theorem rAll_count {xs : List Int} (H : Img xs) (b : Int) : (rAll xs).count b = (cnt xs).count b := by
  obtain ⟨D, hD, hm, hc⟩ := cnt_told H
  have hl : (opnL xs).length = (opnB xs).length := by unfold opnL; simp
  have hp : (ded (Wi.allN xs (Wi.trees (opnS xs) (opnL xs)))).Perm D := (List.perm_ext_iff_of_nodup (ded_nodup _) hD).2 fun a => by
    rw [ded_mem, hm]; rfl
  have h1 := bse_count (opnS xs) (opnL xs) (opnB xs) b (opnL xs).length (Nat.le_refl _) (by omega)
  have h2 := lnk_ptrs _ _ H.lnk
  have h3 : (led [] (opnS xs).first ++ (opnL xs).flatMap (fun r => led [] r.next)).count b = (opnB xs).count b := congrArg (fun l => List.count b l) h2
  rw [List.count_append] at h3
  unfold rAll
  rw [List.count_append, h1, hc b, nps_perm hp b]
  unfold base
  rw [List.count_append, List.count_append, flat_two, List.take_length, List.take_of_length_le (by omega)]
  omega
end Go.Proofs.YtiobegoiehjfiaaGreat
