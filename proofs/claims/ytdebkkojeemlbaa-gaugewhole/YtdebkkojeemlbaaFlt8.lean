/-
  Shares of whole numbers: a share's percent is near that of the numbers. It speaks of no program; no conditions beyond those that each theorem names.
-/
import Derived.Test.YtdebkkojeemlbaaFlt6
namespace Wf
open Ieee

theorem V_big : V 4845873199050653696 = 9007199254740992 * U := by decide +kernel

theorem mulU_le {n m : Nat} (h : n ≤ m) : n * U ≤ m * U := Nat.mul_le_mul_right U h

/-- A whole number up to 2^53 is a word's own value. -/
theorem rq_whole (N : Nat) (h0 : 0 < N) (h : N < 2 ^ 53) : V (rq (N * U) 1) = N * U := by
  obtain ⟨K, hK, hU⟩ := U_pow
  rw [V_rq _ _ (by omega), hU, pw_eq]
  have hl : N.log2 < 53 := (Nat.log2_lt (by omega)).2 h
  have he : ex (N * 2 ^ K) 1 = N.log2 + K - 52 := by
    unfold ex
    rw [Nat.div_one, log2_mul _ _ (by omega)]
  rw [he]
  obtain ⟨j, hj⟩ : ∃ j, K = (N.log2 + K - 52) + j := ⟨52 - N.log2, by omega⟩
  generalize N.log2 + K - 52 = e at *
  rw [hj, Nat.one_mul, Nat.pow_add, Nat.mul_comm (2 ^ e) (2 ^ j), ← Nat.mul_assoc]
  rw [re_eq (c := N * 2 ^ j) (d := 1) (Nat.two_pow_pos _) (by omega) (by rw [Nat.mul_one]), re_one]

theorem ofInt_val (N : Nat) (h : N ≤ 100000) : ∃ r, Go.floatOfInt .f64 (N : Int) = r ∧ r ≤ 4845873199050653696 ∧ V r = N * U ∧ (N = 0 → r = 0) := by
  have hb : rq (N * U) 1 ≤ 4845873199050653696 := by
    refine rq_le (by omega) ?_
    rw [V_big, Nat.mul_one]
    exact mulU_le (by omega)
  refine ⟨rq (N * U) 1, ?_, hb, ?_, ?_⟩
  · rw [ofInt_pos, Nat.min_eq_left]
    have := INF_eq
    omega
  · rcases Nat.eq_zero_or_pos N with h0 | h0
    · subst h0
      rw [Nat.zero_mul]
      have : rq 0 1 = 0 := by decide
      rw [this]; rfl
    · exact rq_whole N h0 (by rw [pow53]; omega)
  · intro h0
    subst h0
    rw [Nat.zero_mul]
    decide

/-- All that rounding may do, at once: x, A, Y are the values of the share, of a hundred times it, of that and a half. -/
theorem near_arith {n m p k x A Y h u : Nat} (hnm : n ≤ m) (hx1 : 4503599627370496 * (x * m) ≤ 4503599627370496 * (n * u) + n * u + 4503599627370496 * m) (hx2 : 4503599627370496 * (n * u) ≤ 4503599627370496 * (x * m) + n * u + 4503599627370496 * m)
    (hA1 : 4503599627370496 * A ≤ 4503599627370496 * (100 * x) + 100 * x + 4503599627370496) (hA2 : 4503599627370496 * (100 * x) ≤ 4503599627370496 * A + 100 * x + 4503599627370496)
    (hY1 : 4503599627370496 * Y ≤ 4503599627370496 * (A + h) + (A + h) + 4503599627370496) (hY2 : 4503599627370496 * (A + h) ≤ 4503599627370496 * Y + (A + h) + 4503599627370496)
    (hh : 2 * h = u) (hp1 : p * u ≤ Y) (hp2 : Y < (p + 1) * u) (hk1 : k * m ≤ 100 * n) (hk2 : 100 * n < (k + 1) * m) (hxu : x ≤ u) (hAu : A ≤ 100 * u) (hu : 1000 ≤ u) (hm : 0 < m) : p ≤ k + 2 ∧ k ≤ p + 2 := by
  -- everything times m
  have a1 := Nat.mul_le_mul_right m hA1
  have a2 := Nat.mul_le_mul_right m hA2
  have y1 := Nat.mul_le_mul_right m hY1
  have y2 := Nat.mul_le_mul_right m hY2
  have p1 := Nat.mul_le_mul_right m hp1
  have p2 := Nat.mul_lt_mul_of_pos_right hp2 hm
  have k1 := Nat.mul_le_mul_right u hk1
  have k2 := Nat.mul_lt_mul_of_pos_right hk2 (show 0 < u by omega)
  have xu := Nat.mul_le_mul_right m hxu
  have Au := Nat.mul_le_mul_right m hAu
  have um := Nat.mul_le_mul_right m hu
  have nu := Nat.mul_le_mul_right u hnm
  have hhm : 2 * (h * m) = u * m := by rw [← hh, Nat.mul_assoc]
  simp only [Nat.add_mul, Nat.mul_add, Nat.mul_assoc, Nat.one_mul] at a1 a2 y1 y2 p1 p2 k1 k2 xu Au um nu
  rw [Nat.mul_comm m u] at k1 k2 nu
  constructor
  · rcases Nat.lt_or_ge (k + 2) p with hlt | hge
    · exfalso
      have h3 := Nat.mul_le_mul_right (u * m) (show k + 3 ≤ p from hlt)
      rw [Nat.add_mul] at h3
      generalize k * (u * m) = K at *
      generalize p * (u * m) = P at *
      generalize u * m = M at *
      generalize x * m = X at *
      generalize A * m = Am at *
      generalize Y * m = Ym at *
      generalize h * m = Hm at *
      generalize n * u = N at *
      omega
    · exact hge
  · rcases Nat.lt_or_ge (p + 2) k with hlt | hge
    · exfalso
      have h3 := Nat.mul_le_mul_right (u * m) (show p + 3 ≤ k from hlt)
      rw [Nat.add_mul] at h3
      generalize k * (u * m) = K at *
      generalize p * (u * m) = P at *
      generalize u * m = M at *
      generalize x * m = X at *
      generalize A * m = Am at *
      generalize Y * m = Ym at *
      generalize h * m = Hm at *
      generalize n * u = N at *
      omega
    · exact hge

theorem U_big : 1000 ≤ U := by decide +kernel

theorem div_spot {Y u : Nat} (hu : 0 < u) : Y / u * u ≤ Y ∧ Y < (Y / u + 1) * u := by
  refine ⟨Nat.div_mul_le_self Y u, ?_⟩
  have := Nat.div_add_mod Y u
  have := Nat.mod_lt Y hu
  rw [Nat.add_mul, Nat.one_mul, Nat.mul_comm]; omega

theorem near1 (N : Nat) : 4503599627370496 * V (rq N 1) ≤ 4503599627370496 * N + N + 4503599627370496 ∧ 4503599627370496 * N ≤ 4503599627370496 * V (rq N 1) + N + 4503599627370496 := by
  have := rq_near N 1 (by omega)
  rw [Nat.mul_one, Nat.mul_one, pow52] at this
  exact this

theorem cast2 {p k : Nat} (h : p ≤ k + 2 ∧ k ≤ p + 2) : (p : Int) ≤ (k : Int) + 2 ∧ (k : Int) ≤ (p : Int) + 2 := by omega

theorem pct_near {N M : Nat} (hN : N ≤ M) (h1 : 1 ≤ M) (h : rq (N * U) M ≤ ONE) :
    pct (rq (N * U) M) ≤ ((100 * N / M : Nat) : Int) + 2 ∧ ((100 * N / M : Nat) : Int) ≤ pct (rq (N * U) M) + 2 := by
  obtain ⟨a, b, -, -, -, ha, hb, hp, hle, -⟩ := pct_val h
  have x1 := rq_near (N * U) M h1
  rw [pow52] at x1
  have a1 := near1 (100 * V (rq (N * U) M))
  rw [← ha] at a1
  have y1 := near1 (V a + V HALF)
  rw [← hb] at y1
  have s1 := div_spot (Y := V b) U_pos
  have s2 := div_spot (Y := 100 * N) h1
  have hx := V_le h
  rw [V_ONE] at hx
  have hA := V_le hle
  rw [V_HUND] at hA
  have := near_arith hN x1.1 x1.2 a1.1 a1.2 y1.1 y1.2 V_HALF s1.1 s1.2 s2.1 s2.2 hx hA U_big h1
  rw [hp]
  exact cast2 this

theorem pct_zero : pct 0 = 0 := by decide +kernel
theorem pct_one : pct ONE = 100 := by decide +kernel

end Wf
