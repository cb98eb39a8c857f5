/-
  Numbers of float64, as whole numbers of the least step: rounding to the nearest is monotone, exact where it can be, and near. It speaks of no program; no conditions beyond those that each theorem names.
-/
import Derived.Laws.FloatArith
namespace Wf
open Ieee

/-- N by D, rounded to the nearest whole number, between two to the even one. -/
def re (N D : Nat) : Nat := N / D + (decide (D < 2 * (N % D)) || (D == 2 * (N % D) && N / D % 2 == 1)).toNat

theorem re_le (N D : Nat) : re N D ≤ N / D + 1 := by
  unfold re
  have := Bool.toNat_le (decide (D < 2 * (N % D)) || (D == 2 * (N % D) && N / D % 2 == 1))
  omega

theorem le_re (N D : Nat) : N / D ≤ re N D := by unfold re; omega

theorem div_mono {a b c d : Nat} (hb : 0 < b) (hd : 0 < d) (h : a * d ≤ c * b) : a / b ≤ c / d := by
  rw [Nat.le_div_iff_mul_le hd]
  have h1 : a / b * b ≤ a := Nat.div_mul_le_self a b
  have h2 : a / b * d * b ≤ c * b := by
    calc a / b * d * b = a / b * b * d := by rw [Nat.mul_assoc, Nat.mul_comm d b, ← Nat.mul_assoc]
      _ ≤ a * d := Nat.mul_le_mul_right d h1
      _ ≤ c * b := h
  exact Nat.le_of_mul_le_mul_right h2 hb

theorem re_mono {a b c d : Nat} (hb : 0 < b) (hd : 0 < d) (h : a * d ≤ c * b) : re a b ≤ re c d := by
  have hq := div_mono hb hd h
  rcases Nat.lt_or_ge (a / b) (c / d) with hlt | hge
  · exact Nat.le_trans (re_le a b) (Nat.le_trans hlt (le_re c d))
  · have e : a / b = c / d := Nat.le_antisymm hq hge
    have ha := Nat.div_add_mod a b
    have hc := Nat.div_add_mod c d
    have hr : a % b * d ≤ c % d * b := by
      have h1 : (b * (a / b) + a % b) * d ≤ (d * (c / d) + c % d) * b := by rw [ha, hc]; exact h
      rw [e, Nat.add_mul, Nat.add_mul] at h1
      have h2 : b * (c / d) * d = d * (c / d) * b := by
        rw [Nat.mul_comm b, Nat.mul_assoc, Nat.mul_comm b d, ← Nat.mul_assoc, Nat.mul_comm (c / d) d]
      omega
    unfold re
    rw [e]
    refine Nat.add_le_add_left ?_ _
    by_cases hu : b < 2 * (a % b)
    · have : d < 2 * (c % d) := by
        have h1 : b * d < 2 * (a % b) * d := Nat.mul_lt_mul_of_pos_right hu hd
        have h2 : 2 * (a % b) * d ≤ 2 * (c % d) * b := by rw [Nat.mul_assoc, Nat.mul_assoc]; omega
        have h3 : d * b < 2 * (c % d) * b := by rw [Nat.mul_comm d b]; omega
        exact Nat.lt_of_mul_lt_mul_right h3
      simp [this, Bool.toNat_le]
    · by_cases hv : b = 2 * (a % b)
      · have h2 : 2 * (a % b) * d ≤ 2 * (c % d) * b := by rw [Nat.mul_assoc, Nat.mul_assoc]; omega
        rw [← hv, Nat.mul_comm b d] at h2
        have h3 : d ≤ 2 * (c % d) := Nat.le_of_mul_le_mul_right h2 hb
        rcases Nat.lt_or_ge d (2 * (c % d)) with h4 | h4
        · simp [h4, Bool.toNat_le]
        · have h5 : d = 2 * (c % d) := Nat.le_antisymm h3 h4
          have e1 : (b == 2 * (a % b)) = true := by simpa using hv
          have e2 : (d == 2 * (c % d)) = true := by simpa using h5
          have e3 : decide (b < 2 * (a % b)) = false := by simpa using hu
          have e4 : decide (d < 2 * (c % d)) = false := by simpa using h4
          rw [e1, e2, e3, e4]
          exact Nat.le_refl _
      · have e1 : (b == 2 * (a % b)) = false := by simpa using hv
        have e3 : decide (b < 2 * (a % b)) = false := by simpa using hu
        rw [e1, e3]
        simp

theorem re_eq {a b c d : Nat} (hb : 0 < b) (hd : 0 < d) (h : a * d = c * b) : re a b = re c d :=
  Nat.le_antisymm (re_mono hb hd (Nat.le_of_eq h)) (re_mono hd hb (Nat.le_of_eq h.symm))

theorem re_one (n : Nat) : re n 1 = n := by unfold re; simp [Nat.mod_one]

/-- 2^52. -/
theorem pow52 : (2 : Nat) ^ 52 = 4503599627370496 := by decide
theorem pow53 : (2 : Nat) ^ 53 = 9007199254740992 := by decide

/-- The rung that stands nearest to N by D, in units of the least step. -/
def ex (N D : Nat) : Nat := (N / D).log2 - 52

def rq (N D : Nat) : Nat := ex N D * 2 ^ 52 + re N (D * 2 ^ ex N D)

theorem log2_mono {a b : Nat} (h : a ≤ b) : a.log2 ≤ b.log2 := by
  rcases Nat.eq_zero_or_pos a with h0 | h0
  · subst h0; simp
  · have hb : b ≠ 0 := by omega
    rw [Nat.le_log2 hb]
    exact Nat.le_trans (Nat.log2_self_le (by omega)) h

theorem ex_mono {a b c d : Nat} (hb : 0 < b) (hd : 0 < d) (h : a * d ≤ c * b) : ex a b ≤ ex c d := by
  unfold ex
  have := log2_mono (div_mono hb hd h)
  omega

theorem lt_pow_ex (N D : Nat) (hD : 0 < D) : N < D * 2 ^ ex N D * 2 ^ 53 := by
  have h1 : N / D < 2 ^ ((N / D).log2 + 1) := Nat.lt_log2_self
  have h2 : (2 : Nat) ^ ((N / D).log2 + 1) ≤ 2 ^ (ex N D + 53) := Nat.pow_le_pow_right (by omega) (by unfold ex; omega)
  have h3 : N < (N / D + 1) * D := by
    have := Nat.div_add_mod N D
    have := Nat.mod_lt N hD
    rw [Nat.add_mul, Nat.one_mul, Nat.mul_comm]; omega
  have h4 : (N / D + 1) * D ≤ 2 ^ (ex N D + 53) * D := Nat.mul_le_mul_right D (by omega)
  rw [Nat.pow_add] at h4
  have e : D * 2 ^ ex N D * 2 ^ 53 = 2 ^ ex N D * 2 ^ 53 * D := by rw [Nat.mul_comm D, Nat.mul_assoc, Nat.mul_comm D, ← Nat.mul_assoc]
  rw [e]
  omega

theorem rq_mono {a b c d : Nat} (hb : 0 < b) (hd : 0 < d) (h : a * d ≤ c * b) : rq a b ≤ rq c d := by
  have he := ex_mono hb hd h
  unfold rq
  have pb : 0 < b * 2 ^ ex a b := Nat.mul_pos hb (Nat.two_pow_pos _)
  have pd : 0 < d * 2 ^ ex c d := Nat.mul_pos hd (Nat.two_pow_pos _)
  rcases Nat.lt_or_ge (ex a b) (ex c d) with hlt | hge
  · have h1 : re a (b * 2 ^ ex a b) ≤ 2 ^ 53 := by
      rw [← re_one (2 ^ 53)]
      refine re_mono pb (by omega) ?_
      have := lt_pow_ex a b hb
      rw [Nat.mul_one, Nat.mul_comm (2 ^ 53)]
      omega
    have h2 : 2 ^ 52 ≤ re c (d * 2 ^ ex c d) := by
      refine Nat.le_trans ?_ (le_re _ _)
      rw [Nat.le_div_iff_mul_le pd]
      have hl : (c / d).log2 = ex c d + 52 := by unfold ex at hlt ⊢; omega
      have hne : c / d ≠ 0 := by
        intro h0; rw [h0] at hl; simp at hl
      have h3 : 2 ^ (c / d).log2 ≤ c / d := Nat.log2_self_le hne
      rw [hl, Nat.pow_add] at h3
      have h4 := Nat.mul_le_mul_right d h3
      have h5 : c / d * d ≤ c := Nat.div_mul_le_self c d
      have e : 2 ^ 52 * (d * 2 ^ ex c d) = 2 ^ ex c d * 2 ^ 52 * d := by
        rw [Nat.mul_comm, Nat.mul_comm d, Nat.mul_assoc, Nat.mul_comm d, ← Nat.mul_assoc]
      rw [e]
      omega
    have h3 : ex c d * 2 ^ 52 ≥ (ex a b + 1) * 2 ^ 52 := Nat.mul_le_mul_right _ hlt
    rw [pow52] at *
    rw [pow53] at h1
    omega
  · have e : ex a b = ex c d := Nat.le_antisymm he hge
    rw [e] at pb ⊢
    refine Nat.add_le_add_left (re_mono pb pd ?_) _
    rw [← Nat.mul_assoc, ← Nat.mul_assoc]
    exact Nat.mul_le_mul_right _ h

theorem rq_eq {a b c d : Nat} (hb : 0 < b) (hd : 0 < d) (h : a * d = c * b) : rq a b = rq c d :=
  Nat.le_antisymm (rq_mono hb hd (Nat.le_of_eq h)) (rq_mono hd hb (Nat.le_of_eq h.symm))

/-- What a rung stands for, in units of the least step. -/
def V (r : Nat) : Nat := if r < 2 ^ 52 then r else (2 ^ 52 + r % 2 ^ 52) * 2 ^ (r / 2 ^ 52 - 1)

theorem log2_eq {n k : Nat} (h1 : 2 ^ k ≤ n) (h2 : n < 2 ^ (k + 1)) : n.log2 = k := by
  have hn : n ≠ 0 := by have := Nat.two_pow_pos k; omega
  have a := (Nat.le_log2 hn).2 h1
  have b := (Nat.log2_lt hn).2 h2
  omega

theorem rq_V (r : Nat) : rq (V r) 1 = r := by
  unfold V
  split
  · rename_i h
    have e : ex r 1 = 0 := by
      unfold ex
      rw [Nat.div_one]
      rcases Nat.eq_zero_or_pos r with h0 | h0
      · subst h0; simp
      · have := (Nat.log2_lt (n := r) (by omega)).2 h
        omega
    unfold rq
    rw [e]
    simp [re_one]
  · rename_i h
    have hm : r % 2 ^ 52 < 2 ^ 52 := Nat.mod_lt _ (Nat.two_pow_pos _)
    have hd : 1 ≤ r / 2 ^ 52 := by
      rw [Nat.le_div_iff_mul_le (Nat.two_pow_pos _)]; omega
    have hdm := Nat.div_add_mod r (2 ^ 52)
    have hp : 0 < 2 ^ (r / 2 ^ 52 - 1) := Nat.two_pow_pos _
    have e : ex ((2 ^ 52 + r % 2 ^ 52) * 2 ^ (r / 2 ^ 52 - 1)) 1 = r / 2 ^ 52 - 1 := by
      unfold ex
      rw [Nat.div_one, log2_eq (k := 52 + (r / 2 ^ 52 - 1))]
      · omega
      · rw [Nat.pow_add]
        exact Nat.mul_le_mul_right _ (by omega)
      · rw [show 52 + (r / 2 ^ 52 - 1) + 1 = 53 + (r / 2 ^ 52 - 1) by omega, Nat.pow_add]
        refine Nat.mul_lt_mul_of_pos_right ?_ hp
        rw [pow53]; rw [pow52] at hm ⊢; omega
    unfold rq
    rw [e, Nat.one_mul, re_eq (c := 2 ^ 52 + r % 2 ^ 52) (d := 1) hp (by omega) (by rw [Nat.mul_one]), re_one]
    have h3 : (r / 2 ^ 52 - 1) * 2 ^ 52 + 2 ^ 52 = 2 ^ 52 * (r / 2 ^ 52) := by
      have : r / 2 ^ 52 = (r / 2 ^ 52 - 1) + 1 := by omega
      conv => rhs; rw [this, Nat.mul_add, Nat.mul_one, Nat.mul_comm]
    omega

theorem V_lt {r s : Nat} (h : r < s) : V r < V s := by
  rcases Nat.lt_or_ge (V r) (V s) with h1 | h1
  · exact h1
  · have := rq_mono (a := V s) (b := 1) (c := V r) (d := 1) (by omega) (by omega) (by omega)
    rw [rq_V, rq_V] at this
    omega

theorem V_lt_iff {r s : Nat} : V r < V s ↔ r < s := by
  constructor
  · intro h
    rcases Nat.lt_trichotomy r s with h1 | h1 | h1
    · exact h1
    · subst h1; omega
    · have := V_lt h1; omega
  · exact V_lt

theorem V_le {r s : Nat} (h : r ≤ s) : V r ≤ V s := by
  rcases Nat.lt_or_ge r s with h1 | h1
  · have := V_lt h1; omega
  · have : r = s := by omega
    rw [this]; exact Nat.le_refl _

/-- A value at or below a rung's is rounded to no greater rung. -/
theorem rq_le {N D r : Nat} (hD : 0 < D) (h : N ≤ V r * D) : rq N D ≤ r := by
  have := rq_mono (a := N) (b := D) (c := V r) (d := 1) hD (by omega) (by omega)
  rwa [rq_V] at this

theorem le_rq {N D r : Nat} (hD : 0 < D) (h : V r * D ≤ N) : r ≤ rq N D := by
  have := rq_mono (a := V r) (b := 1) (c := N) (d := D) (by omega) hD (by omega)
  rwa [rq_V] at this

end Wf
