/-
  The least of a list of words of float64. It speaks of no program; no conditions beyond those that each theorem names.
-/
import Derived.Test.YtdebkkojeemlbaaFlt6
namespace Wf

/-- r is the least of xs that is a number, or none where there is none. -/
def IsLeast (xs : List Nat) (r : Nat) : Prop :=
  r < M64 ∧ ((nan r = true ∧ ∀ x ∈ xs, nan x = true) ∨ (nan r = false ∧ r ∈ xs ∧ ∀ x ∈ xs, nan x = false → tk r ≤ tk x))

theorem least_nil {r : Nat} (h : r < M64) (hn : nan r = true) : IsLeast [] r := ⟨h, .inl ⟨hn, by simp⟩⟩

theorem least_take {ys : List Nat} {r x : Nat} (h : IsLeast ys r) (hx : x < M64) (h1 : nan r = true ∨ nan x = false ∧ tk x ≤ tk r) : IsLeast (ys ++ [x]) x := by
  obtain ⟨hr, h⟩ := h
  refine ⟨hx, ?_⟩
  cases hn : nan x with
  | true =>
    refine .inl ⟨rfl, ?_⟩
    rcases h1 with h1 | h1
    · rcases h with ⟨_, h⟩ | ⟨h, _⟩
      · intro z hz
        rcases List.mem_append.1 hz with hz | hz
        · exact h z hz
        · rw [List.mem_singleton.1 hz]; exact hn
      · rw [h1] at h; cases h
    · rw [h1.1] at hn; cases hn
  | false =>
    refine .inr ⟨rfl, by simp, fun z hz hzn => ?_⟩
    rcases List.mem_append.1 hz with hz | hz
    · rcases h with ⟨_, h⟩ | ⟨h0, _, h⟩
      · rw [h z hz] at hzn; cases hzn
      · rcases h1 with h1 | h1
        · rw [h1] at h0; cases h0
        · have := h z hz hzn; omega
    · rw [List.mem_singleton.1 hz]; exact Int.le_refl _

theorem least_stay {ys : List Nat} {r x : Nat} (h : IsLeast ys r) (h1 : nan x = true ∨ nan r = false ∧ tk r ≤ tk x) : IsLeast (ys ++ [x]) r := by
  obtain ⟨hr, h⟩ := h
  refine ⟨hr, ?_⟩
  rcases h with ⟨h0, h⟩ | ⟨h0, h2, h⟩
  · refine .inl ⟨h0, fun z hz => ?_⟩
    rcases List.mem_append.1 hz with hz | hz
    · exact h z hz
    · rw [List.mem_singleton.1 hz]
      rcases h1 with h1 | h1
      · exact h1
      · rw [h0] at h1; cases h1.1
  · refine .inr ⟨h0, List.mem_append_left _ h2, fun z hz hzn => ?_⟩
    rcases List.mem_append.1 hz with hz | hz
    · exact h z hz hzn
    · rw [List.mem_singleton.1 hz] at hzn ⊢
      rcases h1 with h1 | h1
      · rw [h1] at hzn; cases hzn
      · exact h1.2

/-- The least is one alone, or none; the order is nothing. -/
theorem least_same {xs ys : List Nat} {r s : Nat} (hm : ∀ x, x ∈ xs ↔ x ∈ ys) (hr : IsLeast xs r) (hs : IsLeast ys s) : sameB r s = true := by
  obtain ⟨r0, hr⟩ := hr
  obtain ⟨s0, hs⟩ := hs
  rcases hr with ⟨a, b⟩ | ⟨a, b, c⟩ <;> rcases hs with ⟨a', b'⟩ | ⟨a', b', c'⟩
  · exact sameB_nan a a'
  · rw [b s ((hm s).2 b')] at a'; cases a'
  · rw [b' r ((hm r).1 b)] at a; cases a
  · have h1 := c s ((hm s).2 b') a'
    have h2 := c' r ((hm r).1 b) a
    rw [tk_inj r0 s0 (by omega)]
    exact sameB_refl s

theorem take_succ (xs : List Nat) (k : Nat) (h : k < xs.length) : xs.take (k + 1) = xs.take k ++ [xs.getD k 0] := by
  rw [List.take_succ_eq_append_getElem h]
  simp [List.getD, h]

end Wf
