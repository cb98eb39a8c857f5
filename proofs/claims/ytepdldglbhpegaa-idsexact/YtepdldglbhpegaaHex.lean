/-
  Plain mathematics of hexadecimal texts, highest digit first; it speaks of no program.
-/
import Derived.Lib.Bytealg
import Derived.Laws.Strings2
namespace Wh
open Go

/-- The sign of a digit. -/
def dn (d : Nat) : Nat := if d < 10 then 48 + d else 87 + d
def dc (d : Nat) : UInt8 := UInt8.ofNat (dn d)

/-- The worth of a byte; below nought, if it is no digit. -/
def dv (c : Int) : Int := if 48 ≤ c ∧ c ≤ 57 then c - 48 else if 97 ≤ c ∧ c ≤ 102 then c - 87 else -1

/-- The k lowest digits of n. -/
def txt : Nat → Nat → List UInt8
  | 0, _ => []
  | k + 1, n => dc (n / 16 ^ k % 16) :: txt k n

/-- One digit more. -/
def one (a : Option Int) (b : UInt8) : Option Int :=
  match a with
  | none => none
  | some m => if dv (b.toNat : Int) < 0 then none else some (16 * m + dv (b.toNat : Int))

/-- What digits tell. -/
def hx (l : List UInt8) : Option Int := l.foldl one (some 0)

/-- What Parse tells: the id, the error. -/
def par (l : List UInt8) : Int × Int :=
  if l.length ≠ 16 then (0, 1) else
  match hx l with
  | none => (0, 1)
  | some m => if m < 1 ∨ 4611686018427387903 < m then (0, 1) else (m, 0)

theorem dn_lt {d : Nat} (h : d < 16) : dn d < 103 ∧ 48 ≤ dn d := by unfold dn; split <;> omega
theorem dc_toNat {d : Nat} (h : d < 16) : (dc d).toNat = dn d := by
  have := dn_lt h
  unfold dc
  rw [UInt8.toNat_ofNat']
  omega
theorem dv_dc {d : Nat} (h : d < 16) : dv ((dc d).toNat : Int) = d := by
  rw [dc_toNat h]; unfold dv dn; split <;> split <;> omega
theorem dc_lt {a b : Nat} (ha : a < 16) (hb : b < 16) : dc a < dc b ↔ a < b := by
  rw [UInt8.lt_iff_toNat_lt, dc_toNat ha, dc_toNat hb]; unfold dn; split <;> split <;> omega
theorem dc_inj {a b : Nat} (ha : a < 16) (hb : b < 16) : dc a = dc b ↔ a = b := by
  constructor
  · intro h
    have := congrArg UInt8.toNat h
    rw [dc_toNat ha, dc_toNat hb] at this
    unfold dn at this; split at this <;> split at this <;> omega
  · rintro rfl; rfl
theorem dv_bd (c : Int) : -1 ≤ dv c ∧ dv c < 16 := by unfold dv; split <;> (try split) <;> omega

theorem dv_lt {c : Int} (h : dv c < 0) : dv c = -1 := by have := dv_bd c; omega

theorem txt_length (k n : Nat) : (txt k n).length = k := by
  induction k with
  | zero => rfl
  | succ k ih => simp [txt, ih]

theorem txt_snoc (k n : Nat) : txt (k + 1) n = txt k (n / 16) ++ [dc (n % 16)] := by
  induction k with
  | zero => simp [txt]
  | succ k ih =>
    rw [txt, ih, txt]
    simp only [List.cons_append]
    rw [Nat.div_div_eq_div_mul, Nat.pow_succ, Nat.mul_comm 16]

theorem txt_get (k n j : Nat) (h : j < k) : (txt k n)[j]? = some (dc (n / 16 ^ (k - 1 - j) % 16)) := by
  induction k generalizing j with
  | zero => omega
  | succ k ih =>
    rw [txt]
    cases j with
    | zero => simp
    | succ j =>
      rw [List.getElem?_cons_succ, ih j (by omega)]
      congr 5
      omega

theorem hx_snoc (l : List UInt8) (b : UInt8) : hx (l ++ [b]) = one (hx l) b := by simp [hx]

theorem fold_none (l : List UInt8) : l.foldl one none = none := by
  induction l with
  | nil => rfl
  | cons a l ih => simpa [one] using ih

theorem hx_none {l r : List UInt8} (h : hx l = none) : hx (l ++ r) = none := by
  unfold hx at *
  rw [List.foldl_append, h, fold_none]

theorem hx_take_none {l : List UInt8} {k : Nat} (h : hx (l.take k) = none) : hx l = none := by
  rw [← List.take_append_drop k l]; exact hx_none h

theorem fold_ge (l : List UInt8) (m r : Int) (hm : 0 ≤ m) (h : l.foldl one (some m) = some r) : m ≤ r := by
  induction l generalizing m with
  | nil => simp at h; omega
  | cons b l ih =>
    rw [List.foldl_cons] at h
    have hb := dv_bd (b.toNat : Int)
    by_cases h0 : dv (b.toNat : Int) < 0
    · rw [show one (some m) b = none by simp [one, h0], fold_none] at h
      cases h
    · rw [show one (some m) b = some (16 * m + dv (b.toNat : Int)) by simp [one, h0]] at h
      have := ih _ (by omega) h
      omega

theorem hx_ge {l : List UInt8} {k : Nat} {m r : Int} (hm : 0 ≤ m) (h : hx (l.take k) = some m) (hr : hx l = some r) : m ≤ r := by
  rw [← List.take_append_drop k l] at hr
  unfold hx at *
  rw [List.foldl_append, h] at hr
  exact fold_ge _ _ _ hm hr

theorem take_get (l : List UInt8) (k : Nat) (h : k < l.length) : l.take (k + 1) = l.take k ++ [l[k]] := by
  rw [List.take_add_one, List.getElem?_eq_getElem h]; rfl

theorem hx_next {l : List UInt8} {k : Nat} {m : Int} (h : k < l.length) (hm : hx (l.take k) = some m) (hd : ¬ dv (l[k].toNat : Int) < 0) :
    hx (l.take (k + 1)) = some (16 * m + dv (l[k].toNat : Int)) := by
  rw [take_get l k h, hx_snoc, hm]; simp [one, hd]

theorem hx_bad {l : List UInt8} {k : Nat} (h : k < l.length) (hd : dv (l[k].toNat : Int) < 0) : hx l = none := by
  refine hx_take_none (k := k + 1) ?_
  rw [take_get l k h, hx_snoc]
  cases hx (l.take k) <;> simp [one, hd]

theorem hx_txt (k n : Nat) : hx (txt k n) = some ((n % 16 ^ k : Nat) : Int) := by
  induction k generalizing n with
  | zero => simp [txt, hx, Nat.mod_one]
  | succ k ih =>
    rw [txt_snoc, hx_snoc, ih]
    have hd : dv ((dc (n % 16)).toNat : Int) = ((n % 16 : Nat) : Int) := dv_dc (Nat.mod_lt _ (by omega))
    unfold one
    simp only [hd]
    rw [if_neg (by omega)]
    congr 1
    have h1 : n % 16 ^ (k + 1) = n % 16 + 16 * (n / 16 % 16 ^ k) := by rw [Nat.pow_succ, Nat.mul_comm (16 ^ k) 16, Nat.mod_mul]
    rw [h1]
    omega

theorem par_len {l : List UInt8} (h : ¬ l.length = 16) : par l = (0, 1) := if_pos h
theorem par_none {l : List UInt8} (h : hx l = none) : par l = (0, 1) := by
  unfold par; split
  · rfl
  · rw [h]
theorem par_out {l : List UInt8} {m : Int} (h : hx l = some m) (hm : m < 1 ∨ 4611686018427387903 < m) : par l = (0, 1) := by
  unfold par; split
  · rfl
  · rw [h]; simp only; rw [if_pos hm]
theorem par_big {l : List UInt8} {k : Nat} {m : Int} (h0 : 0 ≤ m) (h : hx (l.take k) = some m) (hm : 4611686018427387903 < m) : par l = (0, 1) := by
  cases hr : hx l with
  | none => exact par_none hr
  | some r =>
    have := hx_ge h0 h hr
    exact par_out hr (by omega)
theorem par_some {l : List UInt8} {m : Int} (hl : l.length = 16) (h : hx l = some m) (h1 : 1 ≤ m) (h2 : m ≤ 4611686018427387903) : par l = (m, 0) := by
  unfold par
  rw [if_neg (by omega), h]; simp only; rw [if_neg (by omega)]

theorem par_txt (n : Nat) (h1 : 1 ≤ n) (h2 : n ≤ 4611686018427387903) : par (txt 16 n) = ((n : Int), 0) := by
  unfold par
  rw [if_neg (by rw [txt_length]; omega), hx_txt]
  have : n % 16 ^ 16 = n := Nat.mod_eq_of_lt (by omega)
  rw [this]
  simp only
  rw [if_neg (by omega)]

/-- A large letter in the place of a small one. -/
theorem par_set {l : List UInt8} {j : Nat} (hj : j < l.length) (h1 : 97 ≤ (l[j]).toNat) (h2 : (l[j]).toNat < 103) : par (l.set j (UInt8.ofNat ((l[j]).toNat - 32))) = (0, 1) := by
  refine par_none (hx_bad (k := j) (by simpa using hj) ?_)
  rw [List.getElem_set_self, UInt8.toNat_ofNat', Nat.mod_eq_of_lt (by omega)]
  unfold dv
  rw [if_neg (by omega), if_neg (by omega)]
  decide

theorem less_txt (k a b : Nat) : Op.bytesLess (txt k a) (txt k b) = decide (a % 16 ^ k < b % 16 ^ k) := by
  induction k with
  | zero => simp [txt, Op.bytesLess, Nat.mod_one]
  | succ k ih =>
    have hp : 0 < 16 ^ k := Nat.pow_pos (by omega)
    have ha : a % 16 ^ (k + 1) = a % 16 ^ k + 16 ^ k * (a / 16 ^ k % 16) := by rw [Nat.pow_succ, Nat.mod_mul]
    have hb : b % 16 ^ (k + 1) = b % 16 ^ k + 16 ^ k * (b / 16 ^ k % 16) := by rw [Nat.pow_succ, Nat.mod_mul]
    have ma : a % 16 ^ k < 16 ^ k := Nat.mod_lt _ hp
    have mb : b % 16 ^ k < 16 ^ k := Nat.mod_lt _ hp
    rw [ha, hb]
    simp only [txt, Op.bytesLess, ih]
    have da : a / 16 ^ k % 16 < 16 := Nat.mod_lt _ (by omega)
    have db : b / 16 ^ k % 16 < 16 := Nat.mod_lt _ (by omega)
    generalize a / 16 ^ k % 16 = x at *
    generalize b / 16 ^ k % 16 = y at *
    generalize a % 16 ^ k = u at *
    generalize b % 16 ^ k = v at *
    clear ha hb ih
    generalize 16 ^ k = p at *
    rw [Bool.eq_iff_iff]
    simp only [Bool.or_eq_true, Bool.and_eq_true, decide_eq_true_eq, beq_iff_eq, dc_lt da db, dc_inj da db]
    constructor
    · rintro (h | ⟨h, h'⟩)
      · have : p * (x + 1) ≤ p * y := Nat.mul_le_mul_left p h
        rw [Nat.mul_add] at this
        omega
      · subst h; omega
    · intro h
      rcases Nat.lt_trichotomy x y with h1 | h1 | h1
      · exact .inl h1
      · subst h1; exact .inr ⟨rfl, by omega⟩
      · have : p * (y + 1) ≤ p * x := Nat.mul_le_mul_left p h1
        rw [Nat.mul_add] at this
        omega

theorem less16 (a b : Nat) (ha : a ≤ 4611686018427387903) (hb : b ≤ 4611686018427387903) : Op.bytesLess (txt 16 a) (txt 16 b) = decide ((a : Int) < b) := by
  rw [less_txt, Nat.mod_eq_of_lt (show a < 16 ^ 16 by omega), Nat.mod_eq_of_lt (show b < 16 ^ 16 by omega), decide_eq_decide]
  omega

theorem eq16 (a b : Nat) (ha : a ≤ 4611686018427387903) (hb : b ≤ 4611686018427387903) : (txt 16 a == txt 16 b) = decide ((a : Int) = b) := by
  rw [Bool.eq_iff_iff, beq_iff_eq, decide_eq_true_eq]
  constructor
  · intro h
    have := congrArg hx h
    rw [hx_txt, hx_txt, Nat.mod_eq_of_lt (show a < 16 ^ 16 by omega), Nat.mod_eq_of_lt (show b < 16 ^ 16 by omega)] at this
    exact Option.some.inj this
  · intro h
    obtain rfl : a = b := by omega
    rfl

/-- The place of a byte among the digits. -/
theorem index_digits : ∀ n, n < 256 → Lib.indexByte [48, 49, 50, 51, 52, 53, 54, 55, 56, 57, 97, 98, 99, 100, 101, 102] (UInt8.ofNat n) = dv (n : Int) := by decide +kernel

end Wh
