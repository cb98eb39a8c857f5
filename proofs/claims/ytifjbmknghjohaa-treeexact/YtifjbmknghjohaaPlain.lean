/-
  Plain mathematics of numbers in bytes, least byte first; it speaks of no program. No conditions beyond those that each theorem names.
-/
namespace Wc

def rsB (s : Int) : Bool := s == 1 || s == 2 || s == 4 || s == 8
def fitB (n s : Int) : Bool := decide (0 ≤ n) && decide (n ≤ 4611686018427387903) && (s == 8 || decide (n < (256 : Int) ^ s.toNat))
def inB (len : Nat) (p s : Int) : Bool := decide (0 ≤ p) && decide (p + s ≤ (len : Int))

theorem rsB_cases {s : Int} (h : rsB s = true) : s = 1 ∨ s = 2 ∨ s = 4 ∨ s = 8 := by
  simp [rsB] at h; omega
theorem rsB_no {s : Int} (h : rsB s = false) : ¬ s = 1 ∧ ¬ s = 2 ∧ ¬ s = 4 ∧ ¬ s = 8 := by
  simp [rsB] at h; omega
theorem fitB_iff {n s : Int} (hs : rsB s = true) : fitB n s = true ↔ 0 ≤ n ∧ n ≤ 4611686018427387903 ∧ n < (256 : Int) ^ s.toNat := by
  rcases rsB_cases hs with rfl | rfl | rfl | rfl <;> simp [fitB] <;> omega
theorem inB_iff {len : Nat} {p s : Int} : inB len p s = true ↔ 0 ≤ p ∧ p + s ≤ (len : Int) := by simp [inB]

/-- The number that bytes tell, the least one first. -/
def val : List Int → Int
  | [] => 0
  | x :: xs => x + 256 * val xs

/-- The bytes of a number, the least one first. -/
def enc : Nat → Int → List Int
  | 0, _ => []
  | s + 1, n => n % 256 :: enc s (n / 256)

theorem val_snoc (l : List Int) (x : Int) : val (l ++ [x]) = val l + x * 256 ^ l.length := by
  induction l with
  | nil => simp [val]
  | cons a l ih => simp only [List.cons_append, val, ih, List.length_cons]; rw [Int.pow_succ, Int.mul_add, ← Int.add_assoc, Int.mul_comm x (256 ^ l.length * 256), Int.mul_comm (256 ^ l.length) 256, Int.mul_assoc 256, Int.mul_comm x]

theorem val_bd (l : List Int) (h : ∀ x ∈ l, 0 ≤ x ∧ x < 256) : 0 ≤ val l ∧ val l < 256 ^ l.length := by
  induction l with
  | nil => simp [val]
  | cons a l ih =>
    have h1 := h a (by simp)
    have h2 := ih (fun x hx => h x (by simp [hx]))
    simp only [val, List.length_cons, Int.pow_succ]
    omega

theorem enc_length (s : Nat) (n : Int) : (enc s n).length = s := by
  induction s generalizing n with
  | zero => rfl
  | succ s ih => simp [enc, ih]

theorem enc_bd (s : Nat) (n : Int) : ∀ x ∈ enc s n, 0 ≤ x ∧ x < 256 := by
  induction s generalizing n with
  | zero => simp [enc]
  | succ s ih =>
    intro x hx
    simp only [enc, List.mem_cons] at hx
    rcases hx with rfl | hx
    · omega
    · exact ih _ x hx

theorem val_enc (s : Nat) (n : Int) (h0 : 0 ≤ n) (h1 : n < 256 ^ s) : val (enc s n) = n := by
  induction s generalizing n with
  | zero => simp [enc, val] at *; omega
  | succ s ih =>
    rw [Int.pow_succ] at h1
    simp only [enc, val]
    rw [ih (n / 256) (by omega) (by omega)]
    omega

theorem enc_val (l : List Int) (h : ∀ x ∈ l, 0 ≤ x ∧ x < 256) : enc l.length (val l) = l := by
  induction l with
  | nil => rfl
  | cons a l ih =>
    have h1 := h a (by simp)
    simp only [enc, val, List.length_cons]
    rw [show (a + 256 * val l) / 256 = val l by omega, show (a + 256 * val l) % 256 = a by omega, ih (fun x hx => h x (by simp [hx]))]

theorem enc_getD (s : Nat) (n : Int) (i : Nat) (hi : i < s) : (enc s n).getD i 0 = n / 256 ^ i % 256 := by
  induction s generalizing n i with
  | zero => omega
  | succ s ih =>
    cases i with
    | zero => simp [enc]
    | succ i =>
      have := ih (n / 256) i (by omega)
      simp only [enc, List.getD_cons_succ, this, Int.pow_succ]
      rw [Int.ediv_ediv_of_nonneg (by omega), Int.mul_comm]

theorem val_drop (l : List Int) (k : Nat) (h : k < l.length) : val (l.drop k) = l.getD k 0 + 256 * val (l.drop (k + 1)) := by
  rw [List.drop_eq_getElem_cons h]
  simp [val, List.getD, h]

theorem val_nonneg (l : List Int) (h : ∀ x ∈ l, 0 ≤ x ∧ x < 256) : 0 ≤ val l := (val_bd l h).1

theorem val_drop_le (l : List Int) (h : ∀ x ∈ l, 0 ≤ x ∧ x < 256) (k : Nat) : val (l.drop k) ≤ val l := by
  induction k generalizing l with
  | zero => simp
  | succ k ih =>
    cases l with
    | nil => simp
    | cons a l =>
      have h1 := h a (by simp)
      have h2 := ih l (fun x hx => h x (by simp [hx]))
      have h3 := val_nonneg l (fun x hx => h x (by simp [hx]))
      simp only [List.drop_succ_cons, val]
      omega

theorem enc_snoc (k : Nat) (m : Int) : enc (k + 1) m = enc k m ++ [m / 256 ^ k % 256] := by
  induction k generalizing m with
  | zero => simp [enc]
  | succ k ih =>
    rw [enc, ih (m / 256), Int.ediv_ediv_of_nonneg (by omega)]
    simp only [enc, List.cons_append, Int.pow_succ]
    rw [Int.mul_comm]

/-- What Put answers. -/
def putL (xs : List Int) (p s : Nat) (n : Int) : List Int := xs.take p ++ (enc s n ++ xs.drop (p + s))

theorem putL_length (xs : List Int) (p s : Nat) (n : Int) (h : p + s ≤ xs.length) : (putL xs p s n).length = xs.length := by
  simp [putL, enc_length]; omega

theorem putL_bd (xs : List Int) (p s : Nat) (n : Int) (h : ∀ x ∈ xs, 0 ≤ x ∧ x < 256) : ∀ x ∈ putL xs p s n, 0 ≤ x ∧ x < 256 := by
  intro x hx
  simp only [putL, List.mem_append] at hx
  rcases hx with hx | hx | hx
  · exact h x (List.mem_of_mem_take hx)
  · exact enc_bd _ _ x hx
  · exact h x (List.mem_of_mem_drop hx)

theorem putL_mid (xs : List Int) (p s : Nat) (n : Int) (h : p + s ≤ xs.length) : ((putL xs p s n).drop p).take s = enc s n := by
  have e : (xs.take p).length = p := by simp; omega
  unfold putL
  rw [List.drop_append_of_le_length (by omega)]
  rw [show (xs.take p).drop p = [] from by apply List.drop_eq_nil_of_le; omega, List.nil_append, List.take_append_of_le_length (by rw [enc_length]; omega), List.take_of_length_le (by rw [enc_length]; omega)]

theorem putL_getD (xs : List Int) (p s : Nat) (n : Int) (h : p + s ≤ xs.length) (i : Nat) :
    (putL xs p s n).getD i 0 = if i < p then xs.getD i 0 else if i < p + s then n / 256 ^ (i - p) % 256 else xs.getD i 0 := by
  have e : (xs.take p).length = p := by simp; omega
  have e2 := enc_length s n
  unfold putL
  simp only [List.getD_eq_getElem?_getD]
  by_cases h1 : i < p
  · rw [if_pos h1, List.getElem?_append_left (by omega)]
    simp [h1]
  · rw [if_neg h1, List.getElem?_append_right (by omega), e]
    by_cases h2 : i < p + s
    · rw [if_pos h2, List.getElem?_append_left (by omega), ← List.getD_eq_getElem?_getD, enc_getD _ _ _ (by omega)]
    · rw [if_neg h2, List.getElem?_append_right (by omega), e2]
      simp only [List.getElem?_drop]
      rw [show p + s + (i - p - s) = i by omega]

theorem putL_back (xs : List Int) (p s : Nat) (h : p + s ≤ xs.length) (hx : ∀ x ∈ xs, 0 ≤ x ∧ x < 256) : putL xs p s (val ((xs.drop p).take s)) = xs := by
  have e : ((xs.drop p).take s).length = s := by simp; omega
  have := enc_val ((xs.drop p).take s) (fun x h' => hx x (List.mem_of_mem_drop (List.mem_of_mem_take h')))
  rw [e] at this
  unfold putL
  rw [this, ← List.drop_drop, List.take_append_drop, List.take_append_drop]

/-- What Get tells: the number and the error. -/
def getR (xs : List Int) (p s : Int) : Int × Int :=
  if rsB s = false then (0, 1) else if inB xs.length p s = false then (0, 3) else
  if val ((xs.drop p.toNat).take s.toNat) ≤ 4611686018427387903 then (val ((xs.drop p.toNat).take s.toNat), 0) else (0, 1)

/-- What Put tells: the bytes and the error. -/
def putR (xs : List Int) (p s n : Int) : List Int × Int :=
  if rsB s = false then ([], 1) else if fitB n s = false then ([], 1) else if inB xs.length p s = false then ([], 3) else
  (putL xs p.toNat s.toNat n, 0)

/-- What Zeros tells. -/
def zerosB (xs : List Int) (lo hi : Int) : Bool := decide (∀ j, j < xs.length → lo ≤ (j : Int) → (j : Int) < hi → xs.getD j 0 = 0)

theorem zerosB_true {xs : List Int} {lo hi : Int} (h : ∀ j : Nat, j < xs.length → lo ≤ (j : Int) → (j : Int) < hi → xs.getD j 0 = 0) : zerosB xs lo hi = true := by
  unfold zerosB; exact decide_eq_true h
theorem zerosB_false {xs : List Int} {lo hi : Int} (j : Nat) (h1 : j < xs.length) (h2 : lo ≤ (j : Int)) (h3 : (j : Int) < hi) (h4 : ¬ xs.getD j 0 = 0) : zerosB xs lo hi = false := by
  unfold zerosB; exact decide_eq_false (fun h => h4 (h j h1 h2 h3))

theorem list_ne {xs ys : List Int} (k : Nat) (h : ¬ xs.getD k 0 = ys.getD k 0) : (xs == ys) = false := by
  rw [beq_eq_false_iff_ne]; rintro rfl; exact h rfl
theorem list_eq {xs ys : List Int} (hl : xs.length = ys.length) (h : ∀ j, j < xs.length → xs.getD j 0 = ys.getD j 0) : (xs == ys) = true := by
  rw [beq_iff_eq]
  refine List.ext_getElem hl fun i h1 h2 => ?_
  have := h i h1
  simpa [List.getD, h1, h2] using this
theorem list_ne_len {xs ys : List Int} (hl : xs.length ≠ ys.length) : (xs == ys) = false := by
  rw [beq_eq_false_iff_ne]; rintro rfl; exact hl rfl

end Wc
