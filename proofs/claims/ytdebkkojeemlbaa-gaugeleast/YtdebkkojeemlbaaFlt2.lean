/-
  What the operations of float64 give, by rungs: writing, adding, multiplying, dividing, cutting to a whole number. It speaks of no program; no conditions beyond those that each theorem names.
-/
import Derived.Test.YtdebkkojeemlbaaFlt
namespace Wf
open Ieee

theorem cut_even (neg : Bool) (n drop : Nat) : Toward.even.cut neg n drop = re n (2 ^ drop) := by
  unfold Toward.cut re
  simp only [Nat.shiftLeft_eq, Nat.one_mul]
  rcases Nat.lt_or_ge (n.log2 + 2) drop with h | h
  · rw [Nat.min_eq_right (by omega)]
    have h1 : n < 2 ^ (n.log2 + 1) := Nat.lt_log2_self
    have e2 : (2 : Nat) ^ (n.log2 + 2) = 2 * 2 ^ (n.log2 + 1) := by rw [Nat.pow_succ, Nat.mul_comm]
    have h2 : (2 : Nat) ^ (n.log2 + 2) ≤ 2 ^ drop := Nat.pow_le_pow_right (by omega) (by omega)
    rw [Nat.div_eq_of_lt (by omega), Nat.mod_eq_of_lt (by omega : n < 2 ^ (n.log2 + 2)), Nat.div_eq_of_lt (by omega), Nat.mod_eq_of_lt (by omega : n < 2 ^ drop)]
    have a : ¬ (2 ^ (n.log2 + 2) < 2 * n) := by omega
    have b : ¬ (2 ^ drop < 2 * n) := by omega
    simp [a, b]
  · rw [Nat.min_eq_left h]

theorem binade_double : double.binade = 2 ^ 52 := rfl
theorem least_double : double.leastPlace = -1074 := by decide
/-- The rung of the infinities. -/
abbrev INF : Nat := 9218868437227405312
theorem inf_double : double.infRung = INF := by decide
theorem sign_double : double.signWeight = 9223372036854775808 := by decide

theorem log2_mul (m k : Nat) (hm : m ≠ 0) : (m * 2 ^ k).log2 = m.log2 + k := by
  refine log2_eq ?_ ?_
  · rw [Nat.pow_add]; exact Nat.mul_le_mul_right _ (Nat.log2_self_le hm)
  · rw [show m.log2 + k + 1 = m.log2 + 1 + k by omega, Nat.pow_add]
    exact Nat.mul_lt_mul_of_pos_right Nat.lt_log2_self (Nat.two_pow_pos _)

theorem log2_div (m d : Nat) (hm : m ≠ 0) : (m / 2 ^ d).log2 = m.log2 - d := by
  rcases Nat.lt_or_ge m.log2 d with h | h
  · have h1 : m < 2 ^ d := (Nat.log2_lt hm).1 h
    rw [Nat.div_eq_of_lt h1]
    simp; omega
  · have h1 := Nat.log2_self_le hm
    have h2 : m < 2 ^ (m.log2 + 1) := Nat.lt_log2_self
    refine log2_eq ?_ ?_
    · rw [Nat.le_div_iff_mul_le (Nat.two_pow_pos _), ← Nat.pow_add, show m.log2 - d + d = m.log2 by omega]
      exact h1
    · rw [Nat.div_lt_iff_lt_mul (Nat.two_pow_pos _), ← Nat.pow_add, show m.log2 - d + 1 + d = m.log2 + 1 by omega]
      exact h2

/-- How many units 'mag * 2 ^ place' is: a whole number by a power of two. -/
def up (mag : Nat) (place : Int) : Nat := mag * 2 ^ (place + 1074).toNat
def dn (place : Int) : Nat := 2 ^ (-1074 - place).toNat

theorem dn_pos (p : Int) : 0 < dn p := Nat.two_pow_pos _

theorem ex_place (mag : Nat) (place : Int) (hm : mag ≠ 0) : ex (up mag place) (dn place) = (place + mag.log2 - 52 + 1074).toNat := by
  unfold ex up dn
  by_cases h : place < -1074
  · rw [show (place + 1074).toNat = 0 by omega, Nat.pow_zero, Nat.mul_one, log2_div _ _ hm]; omega
  · rw [show (-1074 - place).toNat = 0 by omega, Nat.pow_zero, Nat.div_one, log2_mul _ _ hm]; omega

theorem nearest_eq (neg : Bool) (mag : Nat) (place : Int) : double.nearest neg mag place = double.word neg (min (rq (up mag place) (dn place)) INF) := by
  unfold Format.nearest
  by_cases hm : mag = 0
  · subst hm
    rw [if_pos rfl]
    have : rq (up 0 place) (dn place) = 0 := by
      have := rq_le (N := up 0 place) (D := dn place) (r := 0) (dn_pos _) (by unfold up; simp)
      omega
    rw [this]; rfl
  · rw [if_neg hm]
    simp only [cut_even, inf_double, least_double, binade_double]
    have he := ex_place mag place hm
    have hf : (double.fractionBits : Int) = 52 := rfl
    rw [hf]
    have hlast : max (place + (mag.log2 : Int) - 52) (-1074) = (ex (up mag place) (dn place) : Int) - 1074 := by omega
    rw [hlast]
    generalize ex (up mag place) (dn place) = e at *
    unfold rq
    rw [ex_place mag place hm, ← he]
    rw [show ((e : Int) - 1074 - -1074).toNat = e by omega]
    congr 3
    refine re_eq (Nat.two_pow_pos _) (Nat.mul_pos (dn_pos _) (Nat.two_pow_pos _)) ?_
    unfold up dn
    rw [Nat.shiftLeft_eq, Nat.mul_assoc, Nat.mul_assoc, ← Nat.pow_add, ← Nat.pow_add, ← Nat.pow_add]
    congr 2
    omega

/-- A last digit that only tells that something is left over is as good as all that is left over. -/
theorem re_sticky (d n g : Nat) (hn : 0 < n) (hg : 2 ≤ g) : re (2 * (d / n) + (d % n != 0).toNat) (2 ^ g) = re (2 * d) (n * 2 ^ g) := by
  obtain ⟨k, rfl⟩ : ∃ k, g = k + 2 := ⟨g - 2, by omega⟩
  have hp : 0 < 2 ^ k := Nat.two_pow_pos k
  have e4 : (2 : Nat) ^ (k + 2) = 2 * (2 * 2 ^ k) := by rw [Nat.pow_succ, Nat.pow_succ]; omega
  rw [e4, show n * (2 * (2 * 2 ^ k)) = 2 * (n * (2 * 2 ^ k)) by rw [Nat.mul_left_comm]]
  rw [re_eq (a := 2 * d) (b := 2 * (n * (2 * 2 ^ k))) (c := d) (d := n * (2 * 2 ^ k)) (Nat.mul_pos (by omega) (Nat.mul_pos hn (by omega))) (Nat.mul_pos hn (by omega)) (by rw [Nat.mul_comm 2 d, Nat.mul_assoc])]
  generalize 2 ^ k = h at hp
  have hs : (d % n != 0).toNat ≤ 1 := Bool.toNat_le _
  have hq : (2 * (d / n) + (d % n != 0).toNat) / (2 * (2 * h)) = d / n / (2 * h) := by
    rw [← Nat.div_div_eq_div_mul]
    congr 1
    omega
  have hq2 : d / (n * (2 * h)) = d / n / (2 * h) := by rw [Nat.div_div_eq_div_mul]
  have hr : (2 * (d / n) + (d % n != 0).toNat) % (2 * (2 * h)) = 2 * (d / n % (2 * h)) + (d % n != 0).toNat := by
    rw [Nat.mod_mul]
    have : (2 * (d / n) + (d % n != 0).toNat) / 2 = d / n := by omega
    rw [this]; omega
  have hr2 : d % (n * (2 * h)) = d % n + n * (d / n % (2 * h)) := by rw [Nat.mod_mul]
  unfold re
  rw [hq, hq2, hr, hr2]
  generalize d / n % (2 * h) = Q
  generalize d / n / (2 * h) = z
  have ht : d % n < n := Nat.mod_lt _ hn
  generalize d % n = t at *
  have key : ∀ a b : Nat, (a < b → n * a + n ≤ n * b) := fun a b hab => by
    have := Nat.mul_le_mul_left n (show a + 1 ≤ b from hab)
    rwa [Nat.mul_add, Nat.mul_one] at this
  have e5 : n * (2 * h) = 2 * (n * h) := by rw [Nat.mul_left_comm]
  rw [e5]
  congr 2
  rcases Nat.lt_trichotomy h Q with hlt | heq | hgt
  · have := key h Q hlt
    have a : decide (2 * (2 * h) < 2 * (2 * Q + (t != 0).toNat)) = true := by simp; omega
    have b : decide (2 * (n * h) < 2 * (t + n * Q)) = true := by simp; omega
    rw [a, b]; simp
  · subst heq
    by_cases h0 : t = 0
    · subst h0; simp
    · have e : (t != 0) = true := by simpa using h0
      rw [e]
      have a : decide (2 * (2 * h) < 2 * (2 * h + true.toNat)) = true := by simp
      have b : decide (2 * (n * h) < 2 * (t + n * h)) = true := by simp; omega
      rw [a, b]; simp
  · have := key Q h hgt
    have a : decide (2 * (2 * h) < 2 * (2 * Q + (t != 0).toNat)) = false := by simp; omega
    have b : decide (2 * (n * h) < 2 * (t + n * Q)) = false := by simp; omega
    have c : (2 * (2 * h) == 2 * (2 * Q + (t != 0).toNat)) = false := by simp; omega
    have e : (2 * (n * h) == 2 * (t + n * Q)) = false := by simp; omega
    rw [a, b, c, e]

/-- The number of units of a quotient, and what its digits are written to. -/
theorem rq_quotient (m n : Nat) (p : Int) (hn : n ≠ 0) (hd : 2 ^ 53 ≤ m / n) :
    rq (up (2 * (m / n) + (m % n != 0).toNat) p) (dn p) = rq (up (2 * m) p) (n * dn p) := by
  have hn' : 0 < n := by omega
  have hs : (m % n != 0).toNat ≤ 1 := Bool.toNat_le _
  generalize hsd : (m % n != 0).toNat = s at hs
  have hq : m / n ≠ 0 := by have := pow53; omega
  have hl : 53 ≤ (m / n).log2 := (Nat.le_log2 hq).2 hd
  have hmag : 2 * (m / n) + s ≠ 0 := by omega
  have hlm : (2 * (m / n) + s).log2 = (m / n).log2 + 1 := by
    have a := Nat.log2_self_le hq
    have b : m / n < 2 ^ ((m / n).log2 + 1) := Nat.lt_log2_self
    refine log2_eq ?_ ?_ <;> rw [Nat.pow_succ] <;> omega
  have hw : ex (up (2 * m) p) (n * dn p) = ex (up (2 * (m / n) + s) p) (dn p) := by
    unfold ex
    congr 1
    unfold up dn
    by_cases hp : p < -1074
    · rw [show (p + 1074).toNat = 0 by omega, Nat.pow_zero, Nat.mul_one, Nat.mul_one]
      obtain ⟨k, hk⟩ : ∃ k, (-1074 - p).toNat = k + 1 := ⟨(-1074 - p).toNat - 1, by omega⟩
      rw [hk, Nat.pow_succ, Nat.mul_comm (2 ^ k) 2, ← Nat.div_div_eq_div_mul (2 * (m / n) + s) 2, show (2 * (m / n) + s) / 2 = m / n by omega, Nat.div_div_eq_div_mul, Nat.mul_left_comm n 2, Nat.mul_div_mul_left _ _ (by omega)]
    · rw [show (-1074 - p).toNat = 0 by omega, Nat.pow_zero, Nat.mul_one, Nat.div_one, log2_mul _ _ hmag, hlm]
      generalize (p + 1074).toNat = a
      have pa : 0 < 2 ^ a := Nat.two_pow_pos a
      have h1 := Nat.log2_self_le hq
      have h2 : m / n < 2 ^ ((m / n).log2 + 1) := Nat.lt_log2_self
      refine log2_eq ?_ ?_
      · rw [Nat.le_div_iff_mul_le hn', Nat.pow_add, Nat.pow_succ]
        have h3 : 2 ^ (m / n).log2 * n ≤ m := by
          have := Nat.mul_le_mul_right n h1
          have := Nat.div_mul_le_self m n
          omega
        have h4 := Nat.mul_le_mul_right (2 ^ a) (Nat.mul_le_mul_left 2 h3)
        have e : 2 ^ (m / n).log2 * 2 * 2 ^ a * n = 2 * (2 ^ (m / n).log2 * n) * 2 ^ a := by
          rw [Nat.mul_assoc, Nat.mul_comm (2 ^ a) n, ← Nat.mul_assoc, Nat.mul_comm (2 ^ (m / n).log2) 2, Nat.mul_assoc 2]
        rw [e]; exact h4
      · rw [Nat.div_lt_iff_lt_mul hn', show (m / n).log2 + 1 + a + 1 = (m / n).log2 + 1 + 1 + a by omega, Nat.pow_add, Nat.pow_succ _ ((m / n).log2 + 1)]
        have h3 : m < 2 ^ ((m / n).log2 + 1) * n := by
          rw [← Nat.div_lt_iff_lt_mul hn']; exact h2
        have e : 2 ^ ((m / n).log2 + 1) * 2 * 2 ^ a * n = 2 * (2 ^ ((m / n).log2 + 1) * n) * 2 ^ a := by
          rw [Nat.mul_assoc, Nat.mul_comm (2 ^ a) n, ← Nat.mul_assoc, Nat.mul_comm (2 ^ ((m / n).log2 + 1)) 2, Nat.mul_assoc 2]
        rw [e]
        exact Nat.mul_lt_mul_of_pos_right (by omega) pa
  unfold rq
  rw [hw]
  have he := ex_place (2 * (m / n) + s) p hmag
  rw [hlm] at he
  generalize ex (up (2 * (m / n) + s) p) (dn p) = e at *
  congr 1
  obtain ⟨g, hg, hg2⟩ : ∃ g : Nat, 2 ≤ g ∧ e + (-1074 - p).toNat = g + (p + 1074).toNat := ⟨e + (-1074 - p).toNat - (p + 1074).toNat, by omega, by omega⟩
  have hst := re_sticky m n g hn' hg
  rw [hsd] at hst
  unfold up dn
  rw [re_eq (c := 2 * (m / n) + s) (d := 2 ^ g), hst]
  · refine (re_eq ?_ ?_ ?_)
    · exact Nat.mul_pos hn' (Nat.two_pow_pos _)
    · exact Nat.mul_pos (Nat.mul_pos hn' (Nat.two_pow_pos _)) (Nat.two_pow_pos _)
    · have e1 : (2 : Nat) ^ (-1074 - p).toNat * 2 ^ e = 2 ^ g * 2 ^ (p + 1074).toNat := by rw [← Nat.pow_add, ← Nat.pow_add]; congr 1; omega
      rw [Nat.mul_assoc n, e1, Nat.mul_assoc (2 * m)]
      congr 1
      rw [Nat.mul_comm (2 ^ (p + 1074).toNat), Nat.mul_assoc]
  · exact Nat.mul_pos (Nat.two_pow_pos _) (Nat.two_pow_pos _)
  · exact Nat.two_pow_pos _
  · have e1 : (2 : Nat) ^ (-1074 - p).toNat * 2 ^ e = 2 ^ g * 2 ^ (p + 1074).toNat := by rw [← Nat.pow_add, ← Nat.pow_add]; congr 1; omega
    rw [e1, Nat.mul_assoc, Nat.mul_comm (2 ^ (p + 1074).toNat)]

end Wf
