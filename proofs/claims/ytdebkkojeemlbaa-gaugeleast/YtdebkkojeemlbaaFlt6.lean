/-
  Shares and percents by rungs: a share is from 0 to 1, of more it is no less, a percent is from 0 to 100 and near. It speaks of no program; no conditions beyond those that each theorem names.
-/
import Derived.Test.YtdebkkojeemlbaaFlt5
namespace Wf
open Ieee

abbrev TWO : Nat := 4611686018427387904
abbrev M64 : Nat := 18446744073709551616
theorem nums : INF = 9218868437227405312 ∧ ONE = 4607182418800017408 ∧ HUND = 4636737291354636288 ∧ HH = 4636772475726725120 ∧ HALF = 4602678819172646912 ∧ M64 = 18446744073709551616 := ⟨rfl, rfl, rfl, rfl, rfl, rfl⟩
theorem V_TWO : V TWO = 2 * U := by decide +kernel

/-- There is no share to tell. -/
def bad (a b : Nat) : Bool := nan a || nan b || decide (key a < 0) || decide (key b ≤ 0)

/-- r is the share of a in b. -/
def IsShare (a b r : Nat) : Prop :=
  r < M64 ∧ if bad a b = true then nan r = true else if key b ≤ key a then r = ONE else if key a = 0 then r = 0 else double.div a b = some r

theorem V_pos {r : Nat} (h : 0 < r) : 0 < V r := by have := V_lt h; rw [V_zero] at this; exact this

theorem div_le_one {a b : Nat} (ha : 0 < a) (hab : a < b) (hb : b ≤ INF) : ∃ r, double.div a b = some r ∧ r ≤ ONE := by
  rcases Nat.lt_or_ge b INF with h | h
  · refine ⟨_, div_pos (by omega) ha h (by omega), ?_⟩
    refine Nat.le_trans (Nat.min_le_left _ _) (rq_le (V_pos (by omega)) ?_)
    rw [V_ONE, Nat.mul_comm U]
    exact Nat.mul_le_mul_right U (Nat.le_of_lt (V_lt hab))
  · have : b = INF := Nat.le_antisymm hb h
    subst this
    exact ⟨0, div_inf hab, by omega⟩

theorem good_parts {a b : Nat} (ha : a < M64) (hb : b < M64) (h : bad a b = false) : nan a = false ∧ nan b = false ∧ 0 ≤ key a ∧ b ≤ INF ∧ 0 < b ∧ key b = b ∧ (0 < key a → a ≤ INF ∧ 0 < a ∧ key a = a) := by
  unfold bad at h
  simp only [Bool.or_eq_false_iff, decide_eq_false_iff_not] at h
  obtain ⟨⟨⟨h1, h2⟩, h3⟩, h4⟩ := h
  obtain ⟨h5, h6, h7⟩ := pos_small hb h2 (by omega)
  exact ⟨h1, h2, by omega, h5, h6, h7, fun hk => pos_small ha h1 hk⟩

/-- A share is none, or from 0 to 1, and no -0. -/
theorem share_range {a b r : Nat} (ha : a < M64) (hb : b < M64) (h : IsShare a b r) : if bad a b = true then nan r = true else r ≤ ONE := by
  obtain ⟨_, h⟩ := h
  by_cases hbad : bad a b = true
  · rw [if_pos hbad] at h ⊢; exact h
  · rw [if_neg hbad] at h ⊢
    obtain ⟨h1, h2, h3, h4, h5, h6, h7⟩ := good_parts ha hb (by simpa using hbad)
    by_cases c1 : key b ≤ key a
    · rw [if_pos c1] at h; omega
    · rw [if_neg c1] at h
      by_cases c2 : key a = 0
      · rw [if_pos c2] at h; omega
      · rw [if_neg c2] at h
        obtain ⟨k1, k2, k3⟩ := h7 (by omega)
        obtain ⟨r', hr, hle⟩ := div_le_one k2 (by omega : a < b) h4
        rw [h] at hr
        cases hr
        exact hle

theorem div_mono_left {a c b r s : Nat} (ha : 0 < a) (hac : a ≤ c) (hc : c < b) (hb : b ≤ INF) (hr : double.div a b = some r) (hs : double.div c b = some s) : r ≤ s := by
  rcases Nat.lt_or_ge b INF with h | h
  · have h1 := div_pos (x := a) (by omega) (by omega) h (by omega)
    have h2 := div_pos (x := c) (by omega) (by omega) h (by omega)
    rw [h1] at hr
    rw [h2] at hs
    have h3 := Option.some.inj hr
    have h4 := Option.some.inj hs
    clear hr hs h1 h2
    subst h3 h4
    have := rq_mono (a := V a * U) (b := V b) (c := V c * U) (d := V b) (V_pos (by omega)) (V_pos (by omega)) (Nat.mul_le_mul_right _ (Nat.mul_le_mul_right _ (V_le hac)))
    omega
  · have : b = INF := Nat.le_antisymm hb h
    subst this
    rw [div_inf (by omega)] at hr hs
    cases hr; cases hs; omega

/-- Of more the share is no less. -/
theorem share_mono {a b c r s : Nat} (ha : a < M64) (hb : b < M64) (hc : c < M64) (hr : IsShare a b r) (hs : IsShare c b s) (h1 : bad a b = false) (h2 : bad c b = false) (hk : key a ≤ key c) : r ≤ s := by
  have q1 := share_range ha hb hr
  rw [h1] at q1
  simp only [Bool.false_eq_true, if_false] at q1
  obtain ⟨_, hr⟩ := hr
  obtain ⟨_, hs⟩ := hs
  rw [h1] at hr
  rw [h2] at hs
  simp only [Bool.false_eq_true, if_false] at hr hs
  obtain ⟨a1, a2, a3, a4, a5, a6, a7⟩ := good_parts ha hb h1
  obtain ⟨c1, c2, c3, c4, c5, c6, c7⟩ := good_parts hc hb h2
  by_cases d1 : key b ≤ key c
  · rw [if_pos d1] at hs; omega
  · rw [if_neg d1] at hs
    rw [if_neg (by omega)] at hr
    by_cases d2 : key a = 0
    · rw [if_pos d2] at hr; omega
    · rw [if_neg d2] at hr
      rw [if_neg (by omega)] at hs
      obtain ⟨k1, k2, k3⟩ := a7 (by omega)
      obtain ⟨l1, l2, l3⟩ := c7 (by omega)
      exact div_mono_left k2 (by omega) (by omega) a4 hr hs

theorem share_all {b r : Nat} (h : IsShare b b r) (hb : bad b b = false) : r = ONE := by
  obtain ⟨_, h⟩ := h
  rw [hb] at h
  simpa using h

/-- The share is one alone, or none. -/
theorem share_same {a b r s : Nat} (hr : IsShare a b r) (hs : IsShare a b s) : sameB r s = true := by
  obtain ⟨_, hr⟩ := hr
  obtain ⟨_, hs⟩ := hs
  by_cases h : bad a b = true
  · rw [if_pos h] at hr hs; exact sameB_nan hr hs
  · rw [if_neg h] at hr hs
    have : r = s := by
      split at hr
      · rename_i h1; rw [if_pos h1] at hs; omega
      · rename_i h1
        rw [if_neg h1] at hs
        split at hr
        · rename_i h2; rw [if_pos h2] at hs; omega
        · rename_i h2
          rw [if_neg h2] at hs
          rw [hr] at hs
          cases hs; rfl
    rw [this]; exact sameB_refl s

theorem half_lt {b : Nat} (h1 : 9214871658872686752 < b) (h2 : b < INF) : ∃ r, double.div b TWO = some r ∧ nan r = false ∧ key r < key b := by
  refine ⟨_, div_pos h2 (by omega) (by decide) (by decide), ?_⟩
  have hle : rq (V b * U) (V TWO) ≤ b - 2 ^ 52 := by
    refine rq_le (V_pos (by decide)) ?_
    rw [V_TWO]
    have : V b = 2 * V (b - 2 ^ 52) := by
      unfold V
      rw [pow52]
      rw [if_neg (by omega), if_neg (by omega)]
      have e1 : (b - 4503599627370496) % 4503599627370496 = b % 4503599627370496 := by omega
      have e2 : b / 4503599627370496 - 1 = (b - 4503599627370496) / 4503599627370496 - 1 + 1 := by omega
      rw [e1, e2, Nat.pow_succ, Nat.mul_comm (2 ^ ((b - 4503599627370496) / 4503599627370496 - 1)) 2, Nat.mul_left_comm]
    rw [this]
    refine Nat.le_of_eq ?_
    rw [Nat.mul_comm 2 (V _), Nat.mul_assoc]
  rw [pow52] at hle
  have hm : min (rq (V b * U) (V TWO)) INF ≤ b - 4503599627370496 := Nat.le_trans (Nat.min_le_left _ _) hle
  have hi := INF_eq
  generalize min (rq (V b * U) (V TWO)) INF = r at *
  refine ⟨nan_small (by omega), ?_⟩
  rw [key_small (by omega), key_small (by omega)]
  omega

/-- No share: there is no percent. -/
def pctB (x : Nat) : Bool := nan x || decide (key x < 0) || decide ((ONE : Int) < key x)

def pct (x : Nat) : Int :=
  if pctB x then -1 else
  match double.mul HUND x with
  | some a => match double.add a HALF with
    | some b => (Go.floatToIntVal .f64 b .i64).getD 0
    | none => 0
  | none => 0

theorem ar1 {v u : Nat} (h : v ≤ u) : 100 * v ≤ 100 * u * 1 := by omega
theorem ar2 {v u h : Nat} (h1 : v ≤ 100 * u) : v + h ≤ (100 * u + h) * 1 := by omega
theorem ar3 {v u h : Nat} (h1 : v ≤ 100 * u + h) (h2 : 2 * h = u) (h3 : 0 < u) : v / u ≤ 100 := by
  have : v / u < 101 := by rw [Nat.div_lt_iff_lt_mul h3]; omega
  omega
theorem ar4 (q : Nat) (h : q ≤ 100) : Go.IntKind.i64.min ≤ (q : Int) ∧ (q : Int) ≤ Go.IntKind.i64.max := by
  have m1 : Go.IntKind.i64.min = -9223372036854775808 := by decide
  have m2 : Go.IntKind.i64.max = 9223372036854775807 := by decide
  rw [m1, m2]
  omega

theorem pv_mul {x : Nat} (h : x ≤ ONE) : double.mul HUND x = some (rq (100 * V x) 1) ∧ rq (100 * V x) 1 ≤ HUND := by
  obtain ⟨n1, n2, n3, n4, n5, -⟩ := nums
  have a1 : rq (100 * V x) 1 ≤ HUND := by
    refine rq_le (by omega) ?_
    have := V_le h
    rw [V_ONE] at this
    rw [V_HUND]; exact ar1 this
  refine ⟨?_, a1⟩
  have e1 : rq (V HUND * V x) U = rq (100 * V x) 1 := rq_eq U_pos (by omega) (by rw [V_HUND, Nat.mul_one, Nat.mul_right_comm])
  have hmul := mul_pos (x := HUND) (y := x) (by decide) (by omega)
  rw [e1] at hmul
  rw [hmul, Nat.min_eq_left (by omega)]

theorem pv_add {a : Nat} (h : a ≤ HUND) : double.add a HALF = some (rq (V a + V HALF) 1) ∧ rq (V a + V HALF) 1 ≤ HH := by
  obtain ⟨n1, n2, n3, n4, n5, -⟩ := nums
  have b1 : rq (V a + V HALF) 1 ≤ HH := by
    refine rq_le (by omega) ?_
    have := V_le h
    rw [V_HUND] at this
    rw [V_HH]; exact ar2 this
  refine ⟨?_, b1⟩
  have hadd := add_pos (x := a) (y := HALF) (by omega) (by decide)
  rw [hadd, Nat.min_eq_left (by omega)]

theorem pv_le {b : Nat} (h : b ≤ HH) : V b / U ≤ 100 := by
  have := V_le h
  rw [V_HH] at this
  exact ar3 this V_HALF U_pos

theorem pv_int {b : Nat} (h : b ≤ HH) : Go.floatToIntVal .f64 b .i64 = some ((V b / U : Nat) : Int) := by
  obtain ⟨n1, n2, n3, n4, n5, -⟩ := nums
  have h1 : (Go.FloatKind.f64.decode b).toInt .zero = some ((V b / U : Nat) : Int) := toInt_pos (by omega)
  unfold Go.floatToIntVal
  rw [h1]
  simp only
  rw [if_pos (ar4 _ (pv_le h))]

theorem pv_ok {x : Nat} (h : x ≤ ONE) : pctB x = false := by
  obtain ⟨n1, n2, n3, n4, n5, -⟩ := nums
  unfold pctB
  rw [nan_small (by omega), key_small (by omega)]
  simp
  omega

theorem pct_of {x a b : Nat} {p : Int} (h : pctB x = false) (h1 : double.mul HUND x = some a) (h2 : double.add a HALF = some b) (h3 : Go.floatToIntVal .f64 b .i64 = some p) : pct x = p := by
  unfold pct
  rw [h, h1]
  simp only [Bool.false_eq_true, if_false, h2, h3, Option.getD_some]

theorem pct_val {x : Nat} (h : x ≤ ONE) : ∃ a b : Nat, double.mul HUND x = some a ∧ double.add a HALF = some b ∧ Go.floatToIntVal .f64 b .i64 = some (pct x) ∧
    a = rq (100 * V x) 1 ∧ b = rq (V a + V HALF) 1 ∧ pct x = ((V b / U : Nat) : Int) ∧ a ≤ HUND ∧ b ≤ HH := by
  obtain ⟨h1, h2⟩ := pv_mul h
  obtain ⟨h3, h4⟩ := pv_add h2
  have h5 := pv_int h4
  have h6 := pct_of (pv_ok h) h1 h3 h5
  exact ⟨_, _, h1, h3, by rw [h6]; exact h5, rfl, rfl, h6, h2, h4⟩

theorem pct_minus : double.mul HUND 9223372036854775808 = some 9223372036854775808 ∧ double.add 9223372036854775808 HALF = some HALF ∧ Go.floatToIntVal .f64 HALF .i64 = some 0 ∧ pct 9223372036854775808 = 0 := by decide +kernel

theorem pct_ok {x : Nat} (hx : x < M64) (h : pctB x = false) : ∃ a b : Nat, double.mul HUND x = some a ∧ double.add a HALF = some b ∧ Go.floatToIntVal .f64 b .i64 = some (pct x) ∧ 0 ≤ pct x ∧ pct x ≤ 100 := by
  obtain ⟨n1, n2, n3, n4, n5, -⟩ := nums
  unfold pctB at h
  simp only [Bool.or_eq_false_iff, decide_eq_false_iff_not] at h
  obtain ⟨⟨h1, h2⟩, h3⟩ := h
  by_cases hk : 0 < key x
  · obtain ⟨k1, k2, k3⟩ := pos_small hx h1 hk
    obtain ⟨a, b, p1, p2, p3, p4, p5, p6, p7, p8⟩ := pct_val (x := x) (by omega)
    refine ⟨a, b, p1, p2, p3, by rw [p6]; exact Int.natCast_nonneg _, ?_⟩
    rw [p6]
    have := V_le p8
    rw [V_HH] at this
    exact Int.ofNat_le.2 (ar3 this V_HALF U_pos)
  · have h0 : rg x = 0 := (key_zero_iff x).1 (by omega)
    have hw := word_of hx
    rw [h0] at hw
    cases hs : sg x with
    | true =>
      rw [hs] at hw
      simp only [if_true, Nat.add_zero] at hw
      subst hw
      obtain ⟨q1, q2, q3, q4⟩ := pct_minus
      exact ⟨_, _, q1, q2, by rw [q4]; exact q3, by rw [q4]; omega, by rw [q4]; omega⟩
    | false =>
      rw [hs] at hw
      simp only [Bool.false_eq_true, if_false] at hw
      subst hw
      obtain ⟨a, b, p1, p2, p3, p4, p5, p6, p7, p8⟩ := pct_val (x := 0) (by omega)
      have h0 : pct 0 = 0 := by decide +kernel
      exact ⟨a, b, p1, p2, p3, by rw [h0]; omega, by rw [h0]; omega⟩

end Wf
