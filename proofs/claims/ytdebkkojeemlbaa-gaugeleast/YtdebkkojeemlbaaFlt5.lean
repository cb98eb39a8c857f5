/-
  Words of float64: noughts, infinities, signs, numbers that stand in the text; what a share and a percent come to. It speaks of no program; no conditions beyond those that each theorem names.
-/
import Derived.Test.YtdebkkojeemlbaaFlt4
namespace Wf
open Ieee

abbrev ONE : Nat := 4607182418800017408
abbrev HALF : Nat := 4602678819172646912
abbrev HUND : Nat := 4636737291354636288
abbrev HH : Nat := 4636772475726725120

theorem V_ONE : V ONE = U := by decide +kernel
theorem V_HALF : 2 * V HALF = U := by decide +kernel
theorem V_HUND : V HUND = 100 * U := by decide +kernel
theorem V_HH : V HH = 100 * U + V HALF := by decide +kernel

theorem key_pos_iff (x : Nat) : 0 < key x ↔ sg x = false ∧ 0 < rg x := by unfold key; cases sg x <;> simp <;> omega
theorem key_neg_iff (x : Nat) : key x < 0 ↔ sg x = true ∧ 0 < rg x := by unfold key; cases sg x <;> simp <;> omega
theorem key_zero_iff (x : Nat) : key x = 0 ↔ rg x = 0 := by unfold key; cases sg x <;> simp

/-- 1 by a nought. -/
theorem one_div_zero {x : Nat} (h : rg x = 0) : double.div ONE x = some (double.word (sg x) INF) := by
  unfold Format.div
  rw [read_small (x := ONE) (by decide), read_fin (by rw [h]; decide), h]
  have h1 : mg ONE ≠ 0 := mg_pos (by decide)
  have h2 : mg 0 = 0 := rfl
  simp only [Datum.quotient, h2, if_true, if_neg h1, Bool.false_xor, Option.map_some, Option.some.injEq]
  show double.word _ double.infRung = _
  rw [inf_double]

theorem key_word_inf (s : Bool) : key (double.word s INF) = if s then -(INF : Int) else INF := by cases s <;> decide
theorem nan_word_inf (s : Bool) : nan (double.word s INF) = false := by cases s <;> decide
theorem sg_word_inf (s : Bool) : sg (double.word s INF) = s := by cases s <;> decide

/-- A word below 2^64 is its sign and its rung. -/
theorem word_of {x : Nat} (h : x < 18446744073709551616) : x = if sg x then 9223372036854775808 + rg x else rg x := by
  unfold sg rg
  by_cases h1 : x / 9223372036854775808 % 2 = 1
  · rw [if_pos (by simpa using h1)]; omega
  · rw [if_neg (by simpa using h1)]; omega

theorem pos_small {x : Nat} (h : x < 18446744073709551616) (hn : nan x = false) (hk : 0 < key x) : x ≤ INF ∧ 0 < x ∧ key x = x := by
  obtain ⟨h1, h2⟩ := (key_pos_iff x).1 hk
  have h3 := word_of h
  rw [h1] at h3
  simp at h3
  have h4 : ¬ INF < rg x := by simpa [nan] using hn
  refine ⟨by omega, by omega, ?_⟩
  unfold key; rw [h1]; simp; omega

theorem same_word {x y : Nat} (hx : x < 18446744073709551616) (hy : y < 18446744073709551616) (hk : key x = key y) (hs : sg x = sg y) : x = y := by
  have a := word_of hx
  have b := word_of hy
  unfold key at hk
  rw [hs] at a hk
  cases h : sg y <;> rw [h] at a b hk <;> simp at a b hk <;> omega

/-- Both no number, or the same number with the same sign. -/
def sameB (a b : Nat) : Bool := if nan a || nan b then nan a && nan b else decide (key a = key b) && (sg a == sg b)

/-- Where a word stands among all, -0 below 0. -/
def tk (x : Nat) : Int := if sg x then -(rg x : Int) - 1 else rg x

theorem tk_inj {x y : Nat} (hx : x < 18446744073709551616) (hy : y < 18446744073709551616) (h : tk x = tk y) : x = y := by
  have a := word_of hx
  have b := word_of hy
  unfold tk at h
  cases h1 : sg x <;> cases h2 : sg y <;> rw [h1] at a h <;> rw [h2] at b h <;> simp at a b h <;> omega

theorem sameB_refl (a : Nat) : sameB a a = true := by unfold sameB; cases nan a <;> simp
theorem sameB_nan {a b : Nat} (ha : nan a = true) (hb : nan b = true) : sameB a b = true := by unfold sameB; simp [ha, hb]

theorem tk_lt_iff (a b : Nat) : tk a < tk b ↔ key a < key b ∨ key a = key b ∧ sg a = true ∧ sg b = false := by
  unfold tk key
  cases sg a <;> cases sg b <;> simp <;> omega

theorem tk_key {a b : Nat} (h : tk a ≤ tk b) : key a ≤ key b := by
  unfold tk at h
  unfold key
  cases h1 : sg a <;> cases h2 : sg b <;> rw [h1, h2] at h <;> simp at h ⊢ <;> omega

end Wf
