/-
  What the operations of float64 give of words that are no less than 0. It speaks of no program; no conditions beyond those that each theorem names.
-/
import Derived.Test.YtdebkkojeemlbaaFlt3
namespace Wf
open Ieee

/-- How many of the least steps 1 is. -/
def pw (k : Nat) : Nat := 2 ^ k
def U : Nat := pw 1074
theorem pw_eq (k : Nat) : pw k = 2 ^ k := rfl
theorem U_pow : ∃ K : Nat, K = 1074 ∧ U = pw K := ⟨1074, rfl, rfl⟩
theorem U_pos : 0 < U := by
  obtain ⟨K, -, h⟩ := U_pow
  rw [h, pw_eq]
  exact Nat.two_pow_pos K

theorem mulpow {m a b : Nat} (h : a = b) : m * 2 ^ a = m * 2 ^ b := by rw [h]
theorem powpow {a b : Nat} (h : a = b) : (2 : Nat) ^ a = 2 ^ b := by rw [h]

theorem INF_eq : INF = 9218868437227405312 := rfl

theorem sg_small {x : Nat} (h : x ≤ INF) : sg x = false := by
  have := INF_eq
  unfold sg; rw [Nat.div_eq_of_lt (by omega)]; rfl
theorem rg_small {x : Nat} (h : x ≤ INF) : rg x = x := by
  have := INF_eq
  unfold rg; rw [Nat.mod_eq_of_lt (by omega)]
theorem nan_small {x : Nat} (h : x ≤ INF) : nan x = false := by unfold nan; rw [rg_small h]; simp; exact h
theorem key_small {x : Nat} (h : x ≤ INF) : key x = (x : Int) := by unfold key; rw [sg_small h, rg_small h]; rfl

theorem read_small {x : Nat} (h : x < INF) : double.read x = .number false (mg x) (pl x) := by
  have h1 := rg_small (Nat.le_of_lt h)
  rw [read_fin (by rw [h1]; exact h), h1, sg_small (Nat.le_of_lt h)]

theorem up_word (r : Nat) : up (mg r) (pl r) = V r := by unfold up; rw [V_eq]
theorem mg_pos {r : Nat} (h : 0 < r) : mg r ≠ 0 := by
  unfold mg
  split
  · omega
  · rw [pow52]; omega

theorem word_false (k : Nat) : double.word false k = k := rfl

theorem write_num (mag : Nat) (place : Int) : double.write (.number false mag place) = min (rq (up mag place) (dn place)) INF := by
  show double.nearest false mag place = _
  rw [nearest_eq, word_false]

theorem mul_pos {x y : Nat} (hx : x < INF) (hy : y < INF) : double.mul x y = some (min (rq (V x * V y) U) INF) := by
  unfold Format.mul
  rw [read_small hx, read_small hy]
  show some (double.write (.number false (mg x * mg y) (pl x + pl y))) = _
  rw [write_num, rq_eq (c := V x * V y) (d := U) (dn_pos _) U_pos]
  have hx := pl_ge x
  have hy := pl_ge y
  rw [V_eq, V_eq]
  obtain ⟨K, hK, hU⟩ := U_pow
  rw [hU, pw_eq]
  unfold up dn
  rw [show mg x * 2 ^ (pl x + 1074).toNat * (mg y * 2 ^ (pl y + 1074).toNat) = mg x * mg y * (2 ^ (pl x + 1074).toNat * 2 ^ (pl y + 1074).toNat) by rw [Nat.mul_assoc, Nat.mul_left_comm _ (mg y), ← Nat.mul_assoc], Nat.mul_assoc (mg x * mg y), Nat.mul_assoc (mg x * mg y), ← Nat.pow_add, ← Nat.pow_add, ← Nat.pow_add]
  refine mulpow ?_
  omega

theorem add_pos {x y : Nat} (hx : x < INF) (hy : y < INF) : double.add x y = some (min (rq (V x + V y) 1) INF) := by
  unfold Format.add
  rw [read_small hx, read_small hy]
  simp only [Datum.sum, signed_eq, Bool.false_eq_true, if_false, Option.map_some, Option.some.injEq, Bool.and_self]
  have px := pl_ge x
  have py := pl_ge y
  generalize hb : min (pl x) (pl y) = b
  have hs : (((mg x * 2 ^ (pl x - b).toNat : Nat) : Int) + ((mg y * 2 ^ (pl y - b).toNat : Nat) : Int)).natAbs = mg x * 2 ^ (pl x - b).toNat + mg y * 2 ^ (pl y - b).toNat := by omega
  have hn : (if ((mg x * 2 ^ (pl x - b).toNat : Nat) : Int) + ((mg y * 2 ^ (pl y - b).toNat : Nat) : Int) = 0 then false else decide (((mg x * 2 ^ (pl x - b).toNat : Nat) : Int) + ((mg y * 2 ^ (pl y - b).toNat : Nat) : Int) < 0)) = false := by
    generalize mg x * 2 ^ (pl x - b).toNat = A
    generalize mg y * 2 ^ (pl y - b).toNat = B
    split
    · rfl
    · simp; omega
  rw [hs, hn, write_num, rq_eq (c := V x + V y) (d := 1) (dn_pos _) (by omega)]
  rw [V_eq, V_eq]
  unfold up dn
  rw [show (-1074 - b).toNat = 0 by omega, Nat.pow_zero, Nat.mul_one, Nat.mul_one, Nat.add_mul, Nat.mul_assoc, Nat.mul_assoc, ← Nat.pow_add, ← Nat.pow_add]
  congr 3 <;> omega

theorem quotient_big (m n : Nat) (hm : m ≠ 0) (hn : n ≠ 0) : 2 ^ 53 ≤ (m <<< (54 + n.log2 - m.log2)) / n := by
  rw [Nat.shiftLeft_eq, Nat.le_div_iff_mul_le (by omega)]
  have h1 := Nat.log2_self_le hm
  have h2 : n < 2 ^ (n.log2 + 1) := Nat.lt_log2_self
  have h3 : 2 ^ m.log2 * 2 ^ (54 + n.log2 - m.log2) ≤ m * 2 ^ (54 + n.log2 - m.log2) := Nat.mul_le_mul_right _ h1
  have h4 : 2 ^ 53 * n ≤ 2 ^ 53 * 2 ^ (n.log2 + 1) := Nat.mul_le_mul_left _ (by omega)
  rw [← Nat.pow_add] at h3 h4
  have h5 : (2 : Nat) ^ (53 + (n.log2 + 1)) ≤ 2 ^ (m.log2 + (54 + n.log2 - m.log2)) := Nat.pow_le_pow_right (by omega) (by omega)
  omega

theorem div_pos {x y : Nat} (hx : x < INF) (hx0 : 0 < x) (hy : y < INF) (hy0 : 0 < y) : double.div x y = some (min (rq (V x * U) (V y)) INF) := by
  unfold Format.div
  rw [read_small hx, read_small hy]
  have h1 := mg_pos hx0
  have h2 := mg_pos hy0
  have hf : double.fractionBits + 2 = 54 := rfl
  simp only [Datum.quotient, hf, if_neg h2, Option.map_some, Option.some.injEq, Bool.xor_self]
  have hb := quotient_big _ _ h1 h2
  generalize hk : 54 + (mg y).log2 - (mg x).log2 = k at *
  rw [write_num, rq_quotient _ _ _ h2 hb]
  have px := pl_ge x
  have py := pl_ge y
  have vp : 0 < V y := by have := V_lt hy0; rw [V_zero] at this; exact this
  rw [rq_eq (c := V x * U) (d := V y) (Nat.mul_pos (by omega) (dn_pos _)) vp]
  rw [V_eq, V_eq]
  obtain ⟨K, hK, hU⟩ := U_pow
  rw [hU, pw_eq]
  unfold up dn
  rw [Nat.shiftLeft_eq]
  generalize hp : pl x - pl y - (k : Int) - 1 = p
  have e1 : 2 * (mg x * 2 ^ k) * 2 ^ (p + 1074).toNat * (mg y * 2 ^ (pl y + 1074).toNat) = mg x * mg y * (2 ^ 1 * 2 ^ k * 2 ^ (p + 1074).toNat * 2 ^ (pl y + 1074).toNat) := by
    rw [Nat.pow_one]
    generalize 2 ^ (p + 1074).toNat = A
    generalize 2 ^ (pl y + 1074).toNat = B
    generalize 2 ^ k = C
    generalize mg x = M
    generalize mg y = N
    simp only [Nat.mul_comm, Nat.mul_left_comm, Nat.mul_assoc]
  have e2 : mg x * 2 ^ (pl x + 1074).toNat * 2 ^ K * (mg y * 2 ^ (-1074 - p).toNat) = mg x * mg y * (2 ^ (pl x + 1074).toNat * 2 ^ K * 2 ^ (-1074 - p).toNat) := by
    generalize 2 ^ (pl x + 1074).toNat = A
    generalize 2 ^ (-1074 - p).toNat = B
    generalize 2 ^ K = C
    generalize mg x = M
    generalize mg y = N
    simp only [Nat.mul_comm, Nat.mul_left_comm]
  rw [e1, e2, ← Nat.pow_add, ← Nat.pow_add, ← Nat.pow_add, ← Nat.pow_add, ← Nat.pow_add]
  refine mulpow ?_
  omega

theorem div_inf {x : Nat} (hx : x < INF) : double.div x INF = some 0 := by
  unfold Format.div
  rw [read_small hx, read_inf (x := INF) (rg_small (Nat.le_refl _)), sg_small (Nat.le_refl _)]
  rfl

theorem cut_zero (neg : Bool) (n drop : Nat) : Toward.zero.cut neg n drop = n / 2 ^ drop := by
  unfold Toward.cut
  simp only [Nat.shiftLeft_eq, Nat.one_mul, Bool.toNat_false, Nat.add_zero]
  rcases Nat.lt_or_ge (n.log2 + 2) drop with h | h
  · rw [Nat.min_eq_right (by omega)]
    have h1 : n < 2 ^ (n.log2 + 1) := Nat.lt_log2_self
    have h3 : (2 : Nat) ^ (n.log2 + 1) ≤ 2 ^ (n.log2 + 2) := Nat.pow_le_pow_right (by omega) (by omega)
    have h2 : (2 : Nat) ^ (n.log2 + 2) ≤ 2 ^ drop := Nat.pow_le_pow_right (by omega) (by omega)
    rw [Nat.div_eq_of_lt (by omega), Nat.div_eq_of_lt (by omega)]
  · rw [Nat.min_eq_left h]

theorem toInt_pos {x : Nat} (hx : x < INF) : (double.read x).toInt .zero = some ((V x / U : Nat) : Int) := by
  rw [read_small hx]
  simp only [Datum.toInt, Datum.integral, cut_zero, signed_eq, Bool.false_eq_true, if_false, Nat.pow_zero, Nat.mul_one, Option.some.injEq]
  obtain ⟨K, hK, hU⟩ := U_pow
  rw [V_eq, Nat.shiftLeft_eq, hU, pw_eq]
  have px := pl_ge x
  by_cases h : pl x < 0
  · rw [show (pl x).toNat = 0 by omega, Nat.pow_zero, Nat.mul_one]
    have e : (2 : Nat) ^ K = 2 ^ (pl x + 1074).toNat * 2 ^ (-pl x).toNat := by rw [← Nat.pow_add]; refine powpow ?_; omega
    rw [e, Nat.mul_comm (mg x), Nat.mul_div_mul_left _ _ (Nat.two_pow_pos _)]
  · rw [show (-pl x).toNat = 0 by omega, Nat.pow_zero, Nat.div_one]
    have e : (2 : Nat) ^ (pl x + 1074).toNat = 2 ^ (pl x).toNat * 2 ^ K := by rw [← Nat.pow_add]; refine powpow ?_; omega
    rw [e, ← Nat.mul_assoc, Nat.mul_div_cancel _ (Nat.two_pow_pos _)]

theorem ofInt_pos (n : Nat) : Go.floatOfInt .f64 (n : Int) = min (rq (n * U) 1) INF := by
  have h : Go.floatOfInt .f64 (n : Int) = double.write (.number (decide ((n : Int) < 0)) (n : Int).natAbs 0) := rfl
  have e : decide ((n : Int) < 0) = false := by simp
  obtain ⟨K, hK, hU⟩ := U_pow
  rw [h, e, write_num, Int.natAbs_natCast, hU, pw_eq]
  unfold up dn
  rw [show ((0 : Int) + 1074).toNat = K by omega, show (-1074 - (0 : Int)).toNat = 0 by omega, Nat.pow_zero]

theorem V_of (e k : Nat) (h1 : e = 0 ∨ 2 ^ 52 ≤ k) (h2 : k ≤ 2 ^ 53) : V (e * 2 ^ 52 + k) = k * 2 ^ e := by
  rcases Nat.lt_or_ge k (2 ^ 52) with h3 | h3
  · have h0 : e = 0 := by omega
    subst h0
    unfold V
    rw [Nat.zero_mul, Nat.zero_add, if_pos h3, Nat.pow_zero, Nat.mul_one]
  · have hp : 0 < 2 ^ 52 := Nat.two_pow_pos _
    unfold V
    rw [if_neg (by omega)]
    rcases Nat.lt_or_ge k (2 ^ 53) with h4 | h4
    · have e1 : e * 2 ^ 52 + k = (k - 2 ^ 52) + 2 ^ 52 * (e + 1) := by rw [Nat.mul_add, Nat.mul_one, Nat.mul_comm]; omega
      have hlt : k - 2 ^ 52 < 2 ^ 52 := by rw [pow53] at h4; rw [pow52] at h3 ⊢; omega
      rw [e1, Nat.add_mul_mod_self_left, Nat.add_mul_div_left _ _ hp, Nat.div_eq_of_lt hlt, Nat.mod_eq_of_lt hlt, Nat.zero_add, show e + 1 - 1 = e by omega, show 2 ^ 52 + (k - 2 ^ 52) = k by omega]
    · have e0 : k = 2 ^ 53 := Nat.le_antisymm h2 h4
      have e1 : e * 2 ^ 52 + k = 0 + 2 ^ 52 * (e + 2) := by rw [Nat.mul_add, Nat.mul_comm, e0, Nat.zero_add]
      rw [e1, Nat.add_mul_mod_self_left, Nat.add_mul_div_left _ _ hp, Nat.zero_div, Nat.zero_mod, Nat.zero_add, show e + 2 - 1 = e + 1 by omega, e0, Nat.add_zero, Nat.pow_succ 2 e, Nat.pow_succ 2 52, Nat.mul_comm (2 ^ e) 2, Nat.mul_assoc]

theorem ex_big {N D : Nat} (h : 0 < ex N D) : 2 ^ 52 * (D * 2 ^ ex N D) ≤ N := by
  have hl : (N / D).log2 = ex N D + 52 := by unfold ex at h ⊢; omega
  have hne : N / D ≠ 0 := by
    intro h0; rw [h0] at hl; simp at hl
  have h3 : 2 ^ (N / D).log2 ≤ N / D := Nat.log2_self_le hne
  rw [hl, Nat.pow_add] at h3
  have h4 := Nat.mul_le_mul_right D h3
  have h5 : N / D * D ≤ N := Nat.div_mul_le_self N D
  have e : 2 ^ 52 * (D * 2 ^ ex N D) = 2 ^ ex N D * 2 ^ 52 * D := by
    rw [Nat.mul_comm, Nat.mul_comm D, Nat.mul_assoc, Nat.mul_comm D, ← Nat.mul_assoc]
  rw [e]
  omega

theorem V_rq (N D : Nat) (hD : 0 < D) : V (rq N D) = re N (D * 2 ^ ex N D) * 2 ^ ex N D := by
  have pb : 0 < D * 2 ^ ex N D := Nat.mul_pos hD (Nat.two_pow_pos _)
  unfold rq
  refine V_of _ _ ?_ ?_
  · rcases Nat.eq_zero_or_pos (ex N D) with h | h
    · exact .inl h
    · refine .inr (Nat.le_trans ?_ (le_re _ _))
      rw [Nat.le_div_iff_mul_le pb]
      exact ex_big h
  · rw [← re_one (2 ^ 53)]
    refine re_mono pb (by omega) ?_
    have := lt_pow_ex N D hD
    rw [Nat.mul_one, Nat.mul_comm (2 ^ 53)]
    omega

/-- Rounding goes astray by no more than one part in 2^52, or by no more than the least step. -/
theorem rq_near (N D : Nat) (hD : 0 < D) : 2 ^ 52 * (V (rq N D) * D) ≤ 2 ^ 52 * N + N + 2 ^ 52 * D ∧ 2 ^ 52 * N ≤ 2 ^ 52 * (V (rq N D) * D) + N + 2 ^ 52 * D := by
  rw [V_rq N D hD]
  have pb : 0 < D * 2 ^ ex N D := Nat.mul_pos hD (Nat.two_pow_pos _)
  have hM : 2 ^ 52 * (D * 2 ^ ex N D) ≤ N + 2 ^ 52 * D := by
    rcases Nat.eq_zero_or_pos (ex N D) with h | h
    · rw [h, Nat.pow_zero, Nat.mul_one]; omega
    · have := ex_big h; omega
  have e : re N (D * 2 ^ ex N D) * 2 ^ ex N D * D = re N (D * 2 ^ ex N D) * (D * 2 ^ ex N D) := by rw [Nat.mul_assoc, Nat.mul_comm D]
  rw [e]
  generalize D * 2 ^ ex N D = M at *
  have h1 := Nat.mul_le_mul_right M (re_le N M)
  have h2 := Nat.mul_le_mul_right M (le_re N M)
  have h3 : N / M * M ≤ N := Nat.div_mul_le_self N M
  have h4 : N < N / M * M + M := by
    have := Nat.div_add_mod N M
    have := Nat.mod_lt N pb
    rw [Nat.mul_comm]; omega
  rw [Nat.add_mul, Nat.one_mul] at h1
  generalize re N M * M = R at *
  generalize N / M * M = Q at *
  rw [pow52] at *
  omega

end Wf
