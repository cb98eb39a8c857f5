/-
  The plain mathematics of BuildSame: the same map, a map without blocks, a map that was changed.
-/
import Derived.Test.YtafpjnofccfmlaaCp
namespace Wb
open Wt Wn
def zs : List Int := List.replicate 512 0
def zb : List Int := List.replicate 19200 0
def fr : List Int := rng 2 198
theorem zb_len : zb.length = 19200 := List.length_replicate
theorem fr_len : fr.length = 198 := rng_length 2 198
theorem zs_mp (lo hi : Int) : Mp zs lo hi := Mp.zeros lo hi
theorem mp_not {m : List Int} {lo hi f : Int} (h : Mp m lo hi) (h2 : 2 ≤ f) (hf : f < lo) : ¬ f ∈ m := fun hm => by
  obtain ⟨i, _, e⟩ := in_getD hm
  have := h.2 i
  omega
/-- The first tree: beside none, on an empty device of 300 blocks. -/
theorem first_laid {m : List Int} (hm : Mp m 202 300) : Laid zb 0 m fr s0 := by
  refine laid_zeros (n := 19200) (by decide) hm (by decide) (by decide) (rng_rises 2 198) (fun f hf => ?_) (by rw [fr_len]; exact Nat.le_trans (needN_most _ _ _) (by decide))
  have h := rng_mem hf
  refine ⟨by omega, by show f < 300; omega, mp_not hm (by omega) (by omega)⟩
/-- What is known of a device with that tree. -/
structure Fst (m X : List Int) (r : Int) (K : Nat) (u : St) : Prop where
  len : X.length = 19200
  dev : Wd.devB X.length = true
  tre : tre X r = some u
  sec : u.sec = m
  nod : ∀ q ∈ u.nodes, ∃ j : Nat, j < K ∧ q = ((2 + j : Nat) : Int)
  most : K ≤ 73
theorem first_fst {m : List Int} (hm : Mp m 202 300) : ∃ u, Fst m (Wd.app zb (ios fr (new zb 0 m (treS zb 0) fr) (needN zb 0 m))) (root zb 0 m (treS zb 0) fr) (needN zb 0 m) u := by
  have h := first_laid hm
  obtain ⟨u, u1, u2, u3, -⟩ := h.is
  refine ⟨u, by rw [h.len, zb_len], h.dev, u1, u2, fun q hq => ?_, needN_most _ _ _⟩
  rcases u3 q hq with h0 | ⟨j, hj, h0⟩
  · cases h0
  · have hk := needN_most zb 0 m
    refine ⟨j, hj, ?_⟩
    rw [← h0]
    exact rng_at (by omega) 2
section
variable {m X : List Int} {r : Int} {K : Nat} {u : St}
theorem Fst.treS (h : Fst m X r K u) : treS X r = m := (tre_some h.dev h.tre).2.2.trans h.sec
theorem Fst.treN (h : Fst m X r K u) : treN X r = u.nodes := (tre_some h.dev h.tre).2.1
theorem Fst.hold (h : Fst m X r K u) : Ld X 3 r (fun i => m.getD i 0) := by have := (Ld_of_tre h.tre).1; rwa [h.sec] at this
theorem Fst.root (h : Fst m X r K u) : r = 0 ∨ 2 ≤ r ∧ r < 4096 := by
  have := (Ld_of_tre h.tre).2.2.2.1
  rw [h.len] at this
  have e : ((19200 / 64 : Nat) : Int) = 300 := rfl
  rw [e] at this
  omega
theorem Fst.beg (h : Fst m X r K u) {c : List Int} {lo hi : Int} (hc : Mp c lo hi) (h1 : 2 ≤ lo) (h2 : hi ≤ 300) : begE X r c = 0 :=
  begE_ok h.dev h.tre hc.1 fun i => by
    rw [h.len]
    have e : ((19200 / 64 : Nat) : Int) = 300 := rfl
    rw [e]
    have := hc.2 i
    omega
theorem Fst.rest (h : Fst m X r K u) (hm : Mp m 202 300) {c : List Int} {hi : Int} (hc : Mp c 202 hi) : usB (fr.drop K) (treN' X r c) (X.length / 64) = true := by
  refine usB_ok ((rng_rises 2 198).sublist (List.drop_sublist _ _)) fun f hf => ?_
  obtain ⟨i, hi', e⟩ := List.mem_iff_getElem.1 hf
  rw [List.getElem_drop] at e
  have hl : K + i < 198 := by rw [List.length_drop, fr_len] at hi'; omega
  have e2 : fr.getD (K + i) 0 = f := by rw [List.getD_eq_getElem?_getD, List.getElem?_eq_getElem (by rw [fr_len]; exact hl)]; exact e
  have e3 : fr.getD (K + i) 0 = ((2 + (K + i) : Nat) : Int) := rng_at hl 0
  rw [e3] at e2
  refine ⟨by omega, by rw [h.len]; show f < 300; omega, fun hmem => ?_⟩
  unfold treN' at hmem
  rw [h.treN, h.treS] at hmem
  rcases List.mem_append.1 hmem with hmem | hmem
  · rcases List.mem_append.1 hmem with hmem | hmem
    · obtain ⟨j, hj, e4⟩ := h.nod f hmem
      omega
    · exact mp_not hm (by omega) (by omega) hmem
  · exact mp_not hc (by omega) (by omega) hmem
theorem Fst.same (h : Fst m X r K u) (hm : Mp m 202 300) : begE X r m = 0 ∧ needN X r m = 0 ∧ treE' X r m (fr.drop K) = 0 ∧ Wb.root X r m (Wt.treS X r) (fr.drop K) = r := by
  have h0 := h.beg hm (by decide) (by decide)
  have h1 : needN X r m = 0 := by unfold needN; rw [h.treS]; exact need_same fun _ _ => rfl
  refine ⟨h0, h1, ?_, ?_⟩
  · unfold treE'
    rw [if_pos h0, if_pos (h.rest hm hm), if_pos (by rw [h1]; exact Nat.zero_le _)]
  · rw [h.treS]
    exact root_same (fun _ _ => rfl) h.hold h.root (fun i => by have := hm.2 i; omega)
theorem Fst.none (h : Fst m X r K u) : begE X r zs = 0 ∧ needN X r zs = 0 ∧ treE' X r zs [] = 0 ∧ Wb.root X r zs (Wt.treS X r) [] = 0 := by
  have h0 := h.beg (zs_mp 2 300) (by decide) (by decide)
  have hz : ∀ i, zs.getD i 0 = 0 := fun i => by
    unfold zs; rw [List.getD_eq_getElem?_getD, List.getElem?_replicate]; split <;> rfl
  refine ⟨h0, (need_zero hz).1, ?_, (need_zero hz).2⟩
  unfold treE'
  rw [if_pos h0, if_pos (show usB [] _ _ = true from rfl), if_pos (by show needN X r zs ≤ 0; unfold needN; rw [(need_zero hz).1]; exact Nat.le_refl _)]
theorem chg_same {c m : List Int} (h : ∀ i, i < 512 → c.getD i 0 = m.getD i 0) : ∀ n, n ≤ 512 → chg c m n = 0
  | 0, _ => rfl
  | n + 1, hn => by rw [chg_succ, chg_same h n (by omega), if_pos (h n (by omega))]
theorem Fst.chgd (h : Fst m X r K u) {c : List Int} (hc : Mp c 202 300) (hb : ∀ i, c.getD i 0 = m.getD i 0 ∨ 260 ≤ c.getD i 0) :
    begE X r c = 0 ∧ needN X r c ≤ 3 * chg c m 512 ∧ needN X r c ≤ 73 ∧ (chg c m 512 = 0 ↔ needN X r c = 0) := by
  have e : needN X r c = need X r c m [] := by unfold needN; rw [h.treS]
  refine ⟨h.beg hc (by decide) (by decide), by rw [e]; exact need_chg, needN_most _ _ _, fun h0 => ?_, fun h0 => ?_⟩
  · rw [e]; exact need_same (chg_none h0)
  · rw [e] at h0
    rcases map_kept h0 h.hold h.root (fun i => by have := hc.2 i; omega) with h1 | h1
    · refine chg_same (fun i hi => ?_) 512 (Nat.le_refl _)
      rcases hb i with h2 | h2
      · exact h2
      · rw [h1 i hi] at h2; omega
    · exact chg_same h1 512 (Nat.le_refl _)
/-- One place of a list is changed. -/
theorem chg_set {c m : List Int} {A : Nat} {y : Int} (hl : A < c.length) (hA : A < 512) (hy : ¬ y = m.getD A 0) : chg (c.set A y) m 512 = chg c m 512 + (if c.getD A 0 = m.getD A 0 then 1 else 0) := by
  have hs : ∀ n, chg (c.set A y) m n = chg c m n + (if A < n ∧ c.getD A 0 = m.getD A 0 then 1 else 0) := by
    intro n
    induction n with
    | zero => rw [if_neg (by omega)]; rfl
    | succ n ih =>
      rw [chg_succ, chg_succ, ih]
      by_cases hn : n = A
      · subst hn
        have e : (c.set n y).getD n 0 = y := by rw [List.getD_eq_getElem?_getD, List.getElem?_set_self hl]; rfl
        rw [e, if_neg hy, if_neg (by omega)]
        by_cases hq : c.getD n 0 = m.getD n 0
        · rw [if_pos hq, if_pos ⟨by omega, hq⟩]
        · rw [if_neg hq, if_neg (fun h => hq h.2)]
      · have e : (c.set A y).getD n 0 = c.getD n 0 := by
          rw [List.getD_eq_getElem?_getD, List.getElem?_set_ne (by omega), ← List.getD_eq_getElem?_getD]
        rw [e]
        have e2 : (A < n ∧ c.getD A 0 = m.getD A 0) ↔ (A < n + 1 ∧ c.getD A 0 = m.getD A 0) := ⟨fun h => ⟨by omega, h.2⟩, fun h => ⟨by omega, h.2⟩⟩
        simp only [e2]
        omega
  rw [hs 512]
  congr 1
  by_cases hq : c.getD A 0 = m.getD A 0
  · rw [if_pos ⟨hA, hq⟩, if_pos hq]
  · rw [if_neg (fun h => hq h.2), if_neg hq]
end
end Wb
