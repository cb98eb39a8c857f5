/-
  Blocks of a device behind steps. It speaks of no program.
-/
import Derived.Test.YtiobegoiehjfiaaGreatJB
namespace Wd
open Go Go.RowKit

/-- Block q of a device. -/
def blk (xs : List Int) (q : Nat) : List Int := (xs.drop (q * 64)).take 64

theorem blk_get (xs : List Int) (q i : Nat) : (blk xs q)[i]? = if i < 64 then xs[q * 64 + i]? else none := by
  unfold blk
  by_cases h : i < 64
  · simp [h]
  · rw [if_neg h, List.getElem?_eq_none]
    simp; omega

theorem lay_get (xs : List Int) (k : Nat) (ys : List Int) (h : k + ys.length ≤ xs.length) (i : Nat) : (lay xs k ys)[i]? = if i < k then xs[i]? else if i < k + ys.length then ys[i - k]? else xs[i]? := by
  have e : (xs.take k).length = k := by simp; omega
  unfold lay
  by_cases h1 : i < k
  · rw [if_pos h1, List.getElem?_append_left (by omega)]; simp [h1]
  · rw [if_neg h1, List.getElem?_append_right (by omega), e]
    by_cases h2 : i < k + ys.length
    · rw [if_pos h2, List.getElem?_append_left (by omega)]
    · rw [if_neg h2, List.getElem?_append_right (by omega), List.getElem?_drop]
      congr 1; omega

theorem blk_lay (xs ys : List Int) (p q : Nat) (hy : ys.length = 64) (h : p * 64 + 64 ≤ xs.length) : blk (lay xs (p * 64) ys) q = if p = q then ys else blk xs q := by
  apply List.ext_getElem?
  intro i
  rw [blk_get]
  by_cases hi : i < 64
  · rw [if_pos hi, lay_get _ _ _ (by omega)]
    by_cases hpq : p = q
    · subst hpq
      rw [if_neg (by omega), if_pos (by omega), if_pos rfl]
      congr 1; omega
    · rw [if_neg hpq, blk_get, if_pos hi]
      by_cases h1 : q * 64 + i < p * 64
      · rw [if_pos h1]
      · rw [if_neg h1, if_neg (by omega)]
  · rw [if_neg hi]
    by_cases hpq : p = q
    · rw [if_pos hpq, List.getElem?_eq_none (by omega)]
    · rw [if_neg hpq, blk_get, if_neg hi]

theorem rdR_blk {xs : List Int} {q : Nat} (hd : devB xs.length = true) (hq : q < xs.length / 64) : rdE xs.length q = 0 ∧ rdR xs q = blk xs q := by
  have e : rdE xs.length q = 0 := by unfold rdE; rw [if_pos hd, if_pos (by omega)]
  refine ⟨e, ?_⟩
  unfold rdR
  rw [if_pos e]; rfl

end Wd
