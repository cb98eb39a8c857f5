/-
  What the words of float64 stand for, how two stand to each other, and what the operations give of words. It speaks of no program; no conditions beyond those that each theorem names.
-/
import Derived.Test.YtdebkkojeemlbaaFlt2
namespace Wf
open Ieee

/-- A word's sign; its rung. -/
def sg (x : Nat) : Bool := x / 9223372036854775808 % 2 == 1
def rg (x : Nat) : Nat := x % 9223372036854775808

/-- No number. -/
def nan (x : Nat) : Bool := decide (INF < rg x)
/-- Where a word stands among all words. -/
def key (x : Nat) : Int := if sg x then -(rg x : Int) else rg x

def mg (r : Nat) : Nat := if r < 2 ^ 52 then r else 2 ^ 52 + r % 2 ^ 52
def pl (r : Nat) : Int := if r < 2 ^ 52 then -1074 else -1074 + (r / 2 ^ 52 - 1 : Nat)

theorem V_eq (r : Nat) : V r = mg r * 2 ^ (pl r + 1074).toNat := by
  unfold V mg pl
  split
  · simp
  · congr 2; omega

theorem read_fin {x : Nat} (h : rg x < INF) : double.read x = .number (sg x) (mg (rg x)) (pl (rg x)) := by
  unfold Format.read
  simp only [sign_double, inf_double, least_double, binade_double]
  change (if rg x < 2 ^ 52 then _ else if rg x < INF then _ else if rg x = INF then _ else _) = _
  unfold mg pl
  by_cases h1 : rg x < 2 ^ 52
  · rw [if_pos h1, if_pos h1, if_pos h1]; rfl
  · rw [if_neg h1, if_neg h1, if_neg h1, if_pos h]; rfl

theorem read_inf {x : Nat} (h : rg x = INF) : double.read x = .infinity (sg x) := by
  unfold Format.read
  simp only [sign_double, inf_double, least_double, binade_double]
  change (if rg x < 2 ^ 52 then _ else if rg x < INF then _ else if rg x = INF then _ else _) = _
  rw [if_neg (by rw [h]; decide), if_neg (by omega), if_pos h]; rfl

theorem read_nan {x : Nat} (h : INF < rg x) : double.read x = .nan (sg x) (rg x - INF) := by
  unfold Format.read
  simp only [sign_double, inf_double, least_double, binade_double]
  change (if rg x < 2 ^ 52 then _ else if rg x < INF then _ else if rg x = INF then _ else _) = _
  have hi : INF = 9218868437227405312 := rfl
  have h2 : ¬ rg x < 2 ^ 52 := by rw [pow52]; omega
  rw [if_neg h2, if_neg (by omega), if_neg (by omega)]; rfl

theorem pl_ge (r : Nat) : -1074 ≤ pl r := by unfold pl; split <;> omega

theorem signed_eq (s : Bool) (m k : Nat) : signed s m k = if s then -((m * 2 ^ k : Nat) : Int) else ((m * 2 ^ k : Nat) : Int) := by
  unfold signed; rw [Nat.shiftLeft_eq]

theorem cmp_int {a b c d : Int} (h1 : a < b ↔ c < d) (h2 : a = b ↔ c = d) : compare a b = compare c d := by
  show compareOfLessAndEq a b = compareOfLessAndEq c d
  unfold compareOfLessAndEq
  by_cases x : a < b
  · rw [if_pos x, if_pos (h1.1 x)]
  · rw [if_neg x, if_neg (fun y => x (h1.2 y))]
    by_cases y : a = b
    · rw [if_pos y, if_pos (h2.1 y)]
    · rw [if_neg y, if_neg (fun z => y (h2.2 z))]

theorem cmp_lt {a b : Int} (h : a < b) : compare a b = .lt := by
  show compareOfLessAndEq a b = _
  unfold compareOfLessAndEq
  rw [if_pos h]

theorem cmp_gt {a b : Int} (h : b < a) : compare a b = .gt := by
  show compareOfLessAndEq a b = _
  unfold compareOfLessAndEq
  rw [if_neg (by omega), if_neg (by omega)]

theorem cmp_eq {a b : Int} (h : a = b) : compare a b = .eq := by
  show compareOfLessAndEq a b = _
  unfold compareOfLessAndEq
  rw [if_neg (by omega), if_pos h]

theorem V_zero : V 0 = 0 := rfl
theorem V_inj {r s : Nat} : V r = V s ↔ r = s := by
  constructor
  · intro h
    rcases Nat.lt_trichotomy r s with h1 | h1 | h1
    · have := V_lt h1; omega
    · exact h1
    · have := V_lt h1; omega
  · rintro rfl; rfl

theorem sV (s t : Bool) (r q : Nat) :
    ((if s then -(V r : Int) else (V r : Int)) < (if t then -(V q : Int) else (V q : Int)) ↔ (if s then -(r : Int) else (r : Int)) < (if t then -(q : Int) else (q : Int))) ∧
    ((if s then -(V r : Int) else (V r : Int)) = (if t then -(V q : Int) else (V q : Int)) ↔ (if s then -(r : Int) else (r : Int)) = (if t then -(q : Int) else (q : Int))) := by
  have a := @V_lt_iff r q
  have b := @V_lt_iff q r
  have c := @V_inj r q
  have d := @V_lt_iff 0 r
  have e := @V_lt_iff 0 q
  rw [V_zero] at d e
  cases s <;> cases t <;> simp <;> omega

theorem scale (s t : Bool) (m n a b k : Nat) :
    ((if s then -((m * 2 ^ a : Nat) : Int) else ((m * 2 ^ a : Nat) : Int)) < (if t then -((n * 2 ^ b : Nat) : Int) else ((n * 2 ^ b : Nat) : Int)) ↔
      (if s then -((m * 2 ^ (a + k) : Nat) : Int) else ((m * 2 ^ (a + k) : Nat) : Int)) < (if t then -((n * 2 ^ (b + k) : Nat) : Int) else ((n * 2 ^ (b + k) : Nat) : Int))) ∧
    ((if s then -((m * 2 ^ a : Nat) : Int) else ((m * 2 ^ a : Nat) : Int)) = (if t then -((n * 2 ^ b : Nat) : Int) else ((n * 2 ^ b : Nat) : Int)) ↔
      (if s then -((m * 2 ^ (a + k) : Nat) : Int) else ((m * 2 ^ (a + k) : Nat) : Int)) = (if t then -((n * 2 ^ (b + k) : Nat) : Int) else ((n * 2 ^ (b + k) : Nat) : Int))) := by
  have hp : 0 < 2 ^ k := Nat.two_pow_pos k
  have e1 : m * 2 ^ (a + k) = m * 2 ^ a * 2 ^ k := by rw [Nat.pow_add, Nat.mul_assoc]
  have e2 : n * 2 ^ (b + k) = n * 2 ^ b * 2 ^ k := by rw [Nat.pow_add, Nat.mul_assoc]
  rw [e1, e2]
  generalize m * 2 ^ a = x
  generalize n * 2 ^ b = y
  generalize 2 ^ k = c at *
  have h1 : x * c < y * c ↔ x < y := Nat.mul_lt_mul_right hp
  have h2 : y * c < x * c ↔ y < x := Nat.mul_lt_mul_right hp
  have h3 : 0 * c < x * c ↔ 0 < x := Nat.mul_lt_mul_right hp
  have h4 : 0 * c < y * c ↔ 0 < y := Nat.mul_lt_mul_right hp
  rw [Nat.zero_mul] at h3 h4
  generalize x * c = u at *
  generalize y * c = v at *
  cases s <;> cases t <;> simp <;> omega

/-- How two words stand to each other. -/
theorem order_key (x y : Nat) : double.order x y = if nan x || nan y then none else some (compare (key x) (key y)) := by
  unfold Format.order nan
  have hi : INF = 9218868437227405312 := rfl
  rcases Nat.lt_trichotomy (rg x) INF with hx | hx | hx
  · rw [read_fin hx]
    rcases Nat.lt_trichotomy (rg y) INF with hy | hy | hy
    · rw [read_fin hy]
      have a : decide (INF < rg x) = false := by simp; omega
      have b : decide (INF < rg y) = false := by simp; omega
      rw [a, b]
      simp only [Datum.order, signed_eq, Bool.or_self, Bool.false_eq_true, if_false, Option.some.injEq]
      have px := pl_ge (rg x)
      have py := pl_ge (rg y)
      obtain ⟨c1, c2⟩ := scale (sg x) (sg y) (mg (rg x)) (mg (rg y)) (pl (rg x) - min (pl (rg x)) (pl (rg y))).toNat (pl (rg y) - min (pl (rg x)) (pl (rg y))).toNat (min (pl (rg x)) (pl (rg y)) + 1074).toNat
      rw [show (pl (rg x) - min (pl (rg x)) (pl (rg y))).toNat + (min (pl (rg x)) (pl (rg y)) + 1074).toNat = (pl (rg x) + 1074).toNat by omega, show (pl (rg y) - min (pl (rg x)) (pl (rg y))).toNat + (min (pl (rg x)) (pl (rg y)) + 1074).toNat = (pl (rg y) + 1074).toNat by omega, ← V_eq, ← V_eq] at c1 c2
      obtain ⟨d1, d2⟩ := sV (sg x) (sg y) (rg x) (rg y)
      exact cmp_int (c1.trans d1) (c2.trans d2)
    · rw [read_inf hy]
      have a : decide (INF < rg x) = false := by simp; omega
      have b : decide (INF < rg y) = false := by simp; omega
      rw [a, b]
      simp only [Datum.order, Bool.or_self, Bool.false_eq_true, if_false, Option.some.injEq]
      unfold key
      rw [hy]
      cases sg x <;> cases sg y <;> simp <;> first
        | (refine (cmp_lt ?_).symm; omega)
        | (refine (cmp_gt ?_).symm; omega)
    · rw [read_nan hy]
      have b : decide (INF < rg y) = true := by simp; omega
      rw [b]; simp [Datum.order]
  · rw [read_inf hx]
    rcases Nat.lt_trichotomy (rg y) INF with hy | hy | hy
    · rw [read_fin hy]
      have a : decide (INF < rg x) = false := by simp; omega
      have b : decide (INF < rg y) = false := by simp; omega
      rw [a, b]
      simp only [Datum.order, Bool.or_self, Bool.false_eq_true, if_false, Option.some.injEq]
      unfold key
      rw [hx]
      cases sg x <;> cases sg y <;> simp <;> first
        | (refine (cmp_lt ?_).symm; omega)
        | (refine (cmp_gt ?_).symm; omega)
    · rw [read_inf hy]
      have a : decide (INF < rg x) = false := by simp; omega
      have b : decide (INF < rg y) = false := by simp; omega
      rw [a, b]
      simp only [Datum.order, Bool.or_self, Bool.false_eq_true, if_false, Option.some.injEq]
      unfold key
      rw [hx, hy]
      cases sg x <;> cases sg y <;> decide
    · rw [read_nan hy]
      have b : decide (INF < rg y) = true := by simp; omega
      rw [b]; simp [Datum.order]
  · rw [read_nan hx]
    have b : decide (INF < rg x) = true := by simp; omega
    rw [b]; simp [Datum.order]

theorem o_lt (x y : Nat) : (double.order x y == some .lt) = (!nan x && !nan y && decide (key x < key y)) := by
  rw [order_key]
  rcases Int.lt_trichotomy (key x) (key y) with h | h | h
  · rw [cmp_lt h]; cases nan x <;> cases nan y <;> simp [h]
  · rw [cmp_eq h]; cases nan x <;> cases nan y <;> simp <;> omega
  · rw [cmp_gt h]; cases nan x <;> cases nan y <;> simp <;> omega

theorem o_gt (x y : Nat) : (double.order x y == some .gt) = (!nan x && !nan y && decide (key y < key x)) := by
  rw [order_key]
  rcases Int.lt_trichotomy (key x) (key y) with h | h | h
  · rw [cmp_lt h]; cases nan x <;> cases nan y <;> simp <;> omega
  · rw [cmp_eq h]; cases nan x <;> cases nan y <;> simp <;> omega
  · rw [cmp_gt h]; cases nan x <;> cases nan y <;> simp [h]

theorem o_eq (x y : Nat) : (double.order x y == some .eq) = (!nan x && !nan y && decide (key x = key y)) := by
  rw [order_key]
  rcases Int.lt_trichotomy (key x) (key y) with h | h | h
  · rw [cmp_lt h]; cases nan x <;> cases nan y <;> simp <;> omega
  · rw [cmp_eq h]; cases nan x <;> cases nan y <;> simp [h]
  · rw [cmp_gt h]; cases nan x <;> cases nan y <;> simp <;> omega

end Wf
