/-
  The percent of the share of whole numbers. It speaks of no program; no conditions beyond those that each theorem names.
-/
import Derived.Test.YtdebkkojeemlbaaFlt8
namespace Wf
open Ieee

theorem z0 {N u : Nat} (hu : 0 < u) (h : 0 = N * u) : N = 0 := by
  rcases Nat.eq_zero_or_pos N with h' | h'
  · exact h'
  · have := Nat.mul_pos h' hu; omega

theorem word_zero {N f : Nat} (v : V f = N * U) (h : f = 0) : N = 0 := by
  rw [h, V_zero] at v
  exact z0 U_pos v

theorem word_le {N M f g : Nat} (v : V f = N * U) (v' : V g = M * U) (h : f ≤ g) : N ≤ M := by
  have hle := V_le h
  rw [v, v'] at hle
  exact Nat.le_of_mul_le_mul_right hle U_pos

theorem share_whole {N M fn fm : Nat} (h1 : 1 ≤ M) (vn : V fn = N * U) (vm : V fm = M * U) (hm : 0 < fm) : rq (V fn * U) (V fm) = rq (N * U) M := by
  refine rq_eq (V_pos hm) h1 ?_
  rw [vn, vm, Nat.mul_assoc (N * U), Nat.mul_comm U M]

theorem rq_nought {M : Nat} (h1 : 1 ≤ M) : rq (0 * U) M = 0 := by
  rw [Nat.zero_mul]
  exact Nat.le_zero.1 (rq_le (N := 0) (D := M) (r := 0) h1 (Nat.zero_le _))

theorem min_one {q r : Nat} (h : r ≤ ONE) (e : r = min q INF) : r = q := by
  have hO : ONE < INF := by decide
  omega

theorem whole_div {N M r : Nat} (hN : N ≤ M) (h1 : 1 ≤ M) (hle : r ≤ ONE) (e : r = rq (N * U) M) :
    pct r ≤ ((100 * N / M : Nat) : Int) + 2 ∧ ((100 * N / M : Nat) : Int) ≤ pct r + 2 ∧ 0 ≤ pct r ∧ pct r ≤ 100 ∧ (N = 0 → pct r = 0) := by
  have hn := pct_near hN h1 (by rw [← e]; exact hle)
  rw [← e] at hn
  have hOM : ONE < M64 := by decide
  obtain ⟨_, _, _, _, _, p0, p1⟩ := pct_ok (x := r) (Nat.lt_of_le_of_lt hle hOM) (pv_ok hle)
  refine ⟨hn.1, hn.2, p0, p1, fun h => ?_⟩
  rw [e, h, rq_nought h1, pct_zero]

theorem hundred (M : Nat) (h1 : 1 ≤ M) : 100 * M / M = 100 := Nat.mul_div_cancel _ h1

/-- The percent of the share of whole numbers. -/
theorem whole {N M fn fm r : Nat} (hN : N ≤ M) (h1 : 1 ≤ M) (vn : V fn = N * U) (vm : V fm = M * U) (bn : fn ≤ 4845873199050653696) (bm : fm ≤ 4845873199050653696) (hr : IsShare fn fm r) :
    pct r ≤ ((100 * N / M : Nat) : Int) + 2 ∧ ((100 * N / M : Nat) : Int) ≤ pct r + 2 ∧ 0 ≤ pct r ∧ pct r ≤ 100 ∧ (N = 0 → pct r = 0) := by
  have zm := word_zero vm
  have zn := word_zero vn
  have lm := word_le vm vn
  have sw := share_whole h1 vn vm
  clear vn vm
  have hi := INF_eq
  have kn := key_small (x := fn) (by omega)
  have km := key_small (x := fm) (by omega)
  have fm0 : 0 < fm := by
    rcases Nat.eq_zero_or_pos fm with h | h
    · have := zm h; omega
    · exact h
  have sw := sw fm0
  have hbad : bad fn fm = false := by
    unfold bad
    rw [nan_small (x := fn) (by omega), nan_small (x := fm) (by omega), kn, km, decide_eq_false (by omega), decide_eq_false (by omega)]; rfl
  obtain ⟨_, hr⟩ := hr
  rw [hbad] at hr
  simp only [Bool.false_eq_true, if_false] at hr
  rw [kn, km] at hr
  by_cases c1 : (fm : Int) ≤ fn
  · rw [if_pos c1] at hr
    have hMN : M ≤ N := lm (by omega)
    obtain rfl : N = M := Nat.le_antisymm hN hMN
    rw [hr, pct_one, hundred N h1]
    exact ⟨by decide, by decide, by decide, by decide, fun h => by omega⟩
  · rw [if_neg c1] at hr
    by_cases c2 : (fn : Int) = 0
    · rw [if_pos c2] at hr
      have hN0 : N = 0 := zn (by omega)
      rw [hr, pct_zero, hN0, Nat.mul_zero, Nat.zero_div]
      exact ⟨by decide, by decide, by decide, by decide, fun _ => rfl⟩
    · rw [if_neg c2] at hr
      have hd := div_pos (x := fn) (y := fm) (by omega) (by omega) (by omega) fm0
      obtain ⟨r', hr', hle⟩ := div_le_one (a := fn) (b := fm) (by omega) (by omega) (by omega)
      rw [hr] at hd hr'
      rw [← Option.some.inj hr'] at hle
      rw [sw] at hd
      exact whole_div hN h1 hle (min_one hle (Option.some.inj hd))

end Wf
