/-
  Plain mathematics of the sum CRC-32C over lists of bytes; it speaks of no program. No conditions beyond those that each theorem names.
-/
import Derived.Test.YtifjbmknghjohaaPlain
namespace Wc

/-- One bit is shifted out. -/
def st (r : Nat) : Nat := r / 2 ^^^ r % 2 * 2197175160

/-- So many bits are shifted out. -/
def shk : Nat → Nat → Nat
  | 0, r => r
  | k + 1, r => st (shk k r)

/-- The bits behind bytes. -/
def crun : Nat → List Int → Nat
  | r, [] => r
  | r, x :: xs => crun (shk 8 (r ^^^ x.toNat)) xs

/-- What More tells. -/
def more (s : Int) (xs : List Int) : Int := ((4294967295 ^^^ crun (4294967295 ^^^ (s % 4294967296).toNat) xs : Nat) : Int)

/-- What Good tells. -/
def goodB (xs : List Int) : Bool := decide (4 ≤ xs.length) && (val (xs.drop (xs.length - 4)) == more 0 (xs.take (xs.length - 4)))

theorem xor_lt32 {a b : Nat} (ha : a < 4294967296) (hb : b < 4294967296) : a ^^^ b < 4294967296 := Nat.xor_lt_two_pow (n := 32) (by omega) (by omega)

theorem xor_self_left (a b : Nat) : a ^^^ (a ^^^ b) = b := by rw [← Nat.xor_assoc, Nat.xor_self, Nat.zero_xor]

theorem xor_zero_iff {a b : Nat} : a ^^^ b = 0 ↔ a = b := by
  constructor
  · intro h
    have := xor_self_left a b
    rw [h, Nat.xor_zero] at this
    exact this
  · rintro rfl; exact Nat.xor_self a

theorem st_lt {r : Nat} (h : r < 4294967296) : st r < 4294967296 := by
  unfold st
  refine xor_lt32 (by omega) ?_
  have : r % 2 ≤ 1 := by omega
  have : r % 2 * 2197175160 ≤ 1 * 2197175160 := Nat.mul_le_mul_right _ this
  omega

theorem st_zero : st 0 = 0 := by decide

theorem xor_half (a b : Nat) : (a ^^^ b) / 2 = a / 2 ^^^ b / 2 := by
  apply Nat.eq_of_testBit_eq
  intro i
  rw [Nat.testBit_xor, ← Nat.testBit_succ, ← Nat.testBit_succ, ← Nat.testBit_succ, Nat.testBit_xor]

theorem xor_low (a b : Nat) : (a ^^^ b) % 2 = (a + b) % 2 := by
  have h := Nat.testBit_xor a b 0
  rw [Nat.testBit_zero, Nat.testBit_zero, Nat.testBit_zero] at h
  rcases Nat.mod_two_eq_zero_or_one a with ha | ha <;> rcases Nat.mod_two_eq_zero_or_one b with hb | hb <;> rcases Nat.mod_two_eq_zero_or_one (a ^^^ b) with hc | hc <;> simp [ha, hb, hc] at h <;> omega

theorem st_xor (a b : Nat) : st (a ^^^ b) = st a ^^^ st b := by
  unfold st
  rw [xor_half, xor_low]
  have e : (a + b) % 2 * 2197175160 = a % 2 * 2197175160 ^^^ b % 2 * 2197175160 := by
    rcases Nat.mod_two_eq_zero_or_one a with ha | ha <;> rcases Nat.mod_two_eq_zero_or_one b with hb | hb <;> rw [Nat.add_mod, ha, hb] <;> decide
  rw [e]
  rw [Nat.xor_assoc, Nat.xor_assoc, ← Nat.xor_assoc (b / 2), Nat.xor_comm (b / 2) (a % 2 * 2197175160), Nat.xor_assoc (a % 2 * 2197175160)]

theorem st_ker {r : Nat} (h : r < 4294967296) (h0 : st r = 0) : r = 0 := by
  unfold st at h0
  have := xor_zero_iff.1 h0
  rcases Nat.mod_two_eq_zero_or_one r with hr | hr <;> rw [hr] at this <;> omega

theorem st_double (u : Nat) : st (2 * u) = u := by
  unfold st
  rw [show 2 * u / 2 = u by omega, show 2 * u % 2 = 0 by omega, Nat.zero_mul, Nat.xor_zero]

theorem shk_lt (k : Nat) {r : Nat} (h : r < 4294967296) : shk k r < 4294967296 := by
  induction k with
  | zero => exact h
  | succ k ih => exact st_lt ih

theorem shk_zero (k : Nat) : shk k 0 = 0 := by
  induction k with
  | zero => rfl
  | succ k ih => rw [shk, ih, st_zero]

theorem shk_xor (k a b : Nat) : shk k (a ^^^ b) = shk k a ^^^ shk k b := by
  induction k with
  | zero => rfl
  | succ k ih => rw [shk, ih, st_xor]; rfl

theorem shk_ker (k : Nat) {r : Nat} (h : r < 4294967296) (h0 : shk k r = 0) : r = 0 := by
  induction k with
  | zero => exact h0
  | succ k ih => exact ih (st_ker (shk_lt k h) h0)

theorem shk_inj (k : Nat) {a b : Nat} (ha : a < 4294967296) (hb : b < 4294967296) (h : shk k a = shk k b) : a = b := by
  refine xor_zero_iff.1 (shk_ker k (xor_lt32 ha hb) ?_)
  rw [shk_xor, h, Nat.xor_self]

theorem shk_add (a b r : Nat) : shk a (shk b r) = shk (a + b) r := by
  induction a with
  | zero => rw [Nat.zero_add]; rfl
  | succ a ih => rw [shk, ih, Nat.succ_add]; rfl

theorem shk_pow (k u : Nat) : shk k (2 ^ k * u) = u := by
  induction k generalizing u with
  | zero => simp [shk]
  | succ k ih => rw [shk, Nat.pow_succ, Nat.mul_assoc, ih, st_double]

theorem crun_append (r : Nat) (a b : List Int) : crun r (a ++ b) = crun (crun r a) b := by
  induction a generalizing r with
  | nil => rfl
  | cons x a ih => exact ih _

theorem crun_snoc (r : Nat) (a : List Int) (x : Int) : crun r (a ++ [x]) = shk 8 (crun r a ^^^ x.toNat) := crun_append r a [x]

theorem crun_lt (r : Nat) (a : List Int) (h : r < 4294967296) (ha : ∀ x ∈ a, 0 ≤ x ∧ x < 256) : crun r a < 4294967296 := by
  induction a generalizing r with
  | nil => exact h
  | cons x a ih =>
    have := ha x (by simp)
    exact ih _ (shk_lt 8 (xor_lt32 h (by omega))) (fun y hy => ha y (by simp [hy]))

/-- Bytes put together bit by bit. -/
def zipx (a b : List Int) : List Int := List.zipWith (fun x y => ((x.toNat ^^^ y.toNat : Nat) : Int)) a b

theorem crun_zipx (r s : Nat) (a b : List Int) (h : a.length = b.length) : crun (r ^^^ s) (zipx a b) = crun r a ^^^ crun s b := by
  induction a generalizing r s b with
  | nil =>
    cases b with
    | nil => rfl
    | cons => simp at h
  | cons x a ih =>
    cases b with
    | nil => simp at h
    | cons y b =>
      show crun (shk 8 (r ^^^ s ^^^ (x.toNat ^^^ y.toNat))) (zipx a b) = _
      have e : r ^^^ s ^^^ (x.toNat ^^^ y.toNat) = (r ^^^ x.toNat) ^^^ (s ^^^ y.toNat) := by
        rw [Nat.xor_assoc, Nat.xor_assoc, ← Nat.xor_assoc s, Nat.xor_comm s x.toNat, Nat.xor_assoc x.toNat]
      rw [e, shk_xor, ih _ _ b (by simpa using h)]
      rfl

theorem low_high (v : Nat) : v % 256 ^^^ 256 * (v / 256) = v := by
  apply Nat.eq_of_testBit_eq
  intro i
  have e : (256 : Nat) = 2 ^ 8 := by decide
  rw [Nat.testBit_xor, e, Nat.testBit_mod_two_pow, Nat.testBit_two_pow_mul, Nat.testBit_div_two_pow]
  by_cases h : i < 8
  · have h2 : ¬ 8 ≤ i := by omega
    simp [h, h2]
  · have h2 : 8 ≤ i := by omega
    simp [h, h2]

theorem crun_enc (k r v : Nat) (h : v < 256 ^ k) : crun r (enc k (v : Int)) = shk (8 * k) (r ^^^ v) := by
  induction k generalizing r v with
  | zero =>
    have : v = 0 := by simp at h; exact h
    subst this
    simp [enc, crun, shk]
  | succ k ih =>
    rw [Nat.pow_succ] at h
    have e : ((v : Int) / 256) = ((v / 256 : Nat) : Int) := by omega
    have e2 : ((v : Int) % 256).toNat = v % 256 := by omega
    rw [enc, crun, e, e2, ih _ _ (by omega)]
    conv => lhs; rw [← shk_pow 8 (v / 256), ← shk_xor, shk_add]
    rw [Nat.xor_assoc, show (2 : Nat) ^ 8 = 256 by decide, low_high]
    rfl

theorem more_range (s : Int) (xs : List Int) (hx : ∀ x ∈ xs, 0 ≤ x ∧ x < 256) : 0 ≤ more s xs ∧ more s xs < 4294967296 := by
  unfold more
  have := xor_lt32 (show 4294967295 < 4294967296 by omega) (crun_lt _ xs (xor_lt32 (show 4294967295 < 4294967296 by omega) (show (s % 4294967296).toNat < 4294967296 by omega)) hx)
  omega

theorem more_nil (s : Int) : more s [] = s % 4294967296 := by
  unfold more crun
  rw [xor_self_left]
  omega

theorem more_append (s : Int) (a b : List Int) (ha : ∀ x ∈ a, 0 ≤ x ∧ x < 256) : more s (a ++ b) = more (more s a) b := by
  have h := more_range s a ha
  have e : (more s a % 4294967296).toNat = 4294967295 ^^^ crun (4294967295 ^^^ (s % 4294967296).toNat) a := by
    rw [Int.emod_eq_of_lt h.1 h.2]; rfl
  rw [more, more, e, crun_append, xor_self_left]

theorem more_zero (xs : List Int) : more 0 xs = ((4294967295 ^^^ crun 4294967295 xs : Nat) : Int) := rfl

/-- Three texts of one length. -/
theorem more_three (a b c : List Int) (h1 : a.length = b.length) (h2 : a.length = c.length) :
    4294967295 ^^^ crun 4294967295 (zipx (zipx a b) c) = (4294967295 ^^^ crun 4294967295 a) ^^^ (4294967295 ^^^ crun 4294967295 b) ^^^ (4294967295 ^^^ crun 4294967295 c) := by
  have h3 : (zipx a b).length = c.length := by simp [zipx]; omega
  have e := crun_zipx (4294967295 ^^^ 4294967295) 4294967295 (zipx a b) c h3
  rw [crun_zipx 4294967295 4294967295 a b h1, Nat.xor_self, Nat.zero_xor] at e
  rw [e]
  generalize crun 4294967295 a = p
  generalize crun 4294967295 b = q
  generalize crun 4294967295 c = r
  apply Nat.eq_of_testBit_eq
  intro i
  simp only [Nat.testBit_xor]
  cases Nat.testBit 4294967295 i <;> cases p.testBit i <;> cases q.testBit i <;> cases r.testBit i <;> rfl

/-- Bytes are good just if the bits behind all of them are these. -/
theorem good_iff (xs : List Int) (hx : ∀ x ∈ xs, 0 ≤ x ∧ x < 256) (h4 : 4 ≤ xs.length) : goodB xs = true ↔ crun 4294967295 xs = shk 32 4294967295 := by
  have hl : (xs.drop (xs.length - 4)).length = 4 := by simp; omega
  have hd : ∀ x ∈ xs.drop (xs.length - 4), 0 ≤ x ∧ x < 256 := fun x h => hx x (List.mem_of_mem_drop h)
  have ht : ∀ x ∈ xs.take (xs.length - 4), 0 ≤ x ∧ x < 256 := fun x h => hx x (List.mem_of_mem_take h)
  have hv := val_bd _ hd
  have he := enc_val _ hd
  have ha : xs.take (xs.length - 4) ++ xs.drop (xs.length - 4) = xs := List.take_append_drop _ _
  have hr := crun_lt 4294967295 _ (by omega) ht
  rw [hl] at hv he
  have e0 : goodB xs = true ↔ val (xs.drop (xs.length - 4)) = ((4294967295 ^^^ crun 4294967295 (xs.take (xs.length - 4)) : Nat) : Int) := by
    unfold goodB
    simp only [h4, decide_true, Bool.true_and, beq_iff_eq, more_zero]
  have e1 : crun 4294967295 xs = crun (crun 4294967295 (xs.take (xs.length - 4))) (xs.drop (xs.length - 4)) := by
    rw [← crun_append, ha]
  rw [e0, e1]
  generalize crun 4294967295 (xs.take (xs.length - 4)) = r at *
  generalize xs.drop (xs.length - 4) = d at *
  obtain ⟨v, hv'⟩ := Int.eq_ofNat_of_zero_le hv.1
  rw [hv'] at he hv ⊢
  have hv2 : v < 256 ^ 4 := by have := hv.2; omega
  rw [← he, crun_enc 4 r v hv2]
  constructor
  · intro h
    have h' : v = 4294967295 ^^^ r := by omega
    rw [h', Nat.xor_comm 4294967295 r, xor_self_left]
  · intro h
    have := shk_inj 32 (xor_lt32 hr (by omega)) (by omega) h
    rw [← this, Nat.xor_comm r v, Nat.xor_assoc, Nat.xor_self, Nat.xor_zero]

theorem crun_zeros (m r : Nat) : crun r (List.replicate m 0) = shk (8 * m) r := by
  induction m generalizing r with
  | zero => rfl
  | succ m ih =>
    rw [List.replicate_succ, crun, ih, shk_add]
    show shk (8 * m + 8) (r ^^^ 0) = _
    rw [Nat.xor_zero]; rfl

theorem val_zero (l : List Int) (h : ∀ x ∈ l, 0 ≤ x ∧ x < 256) : val l = 0 ↔ ∀ x ∈ l, x = 0 := by
  induction l with
  | nil => simp [val]
  | cons a l ih =>
    have h1 := h a (by simp)
    have h2 := val_nonneg l (fun x hx => h x (by simp [hx]))
    have h3 := ih (fun x hx => h x (by simp [hx]))
    simp only [val, List.mem_cons, forall_eq_or_imp]
    rw [← h3]; omega

/-- What is put to bytes: a run at a place. -/
def runAt (p m : Nat) (x : List Int) : List Int := List.replicate p 0 ++ (x ++ List.replicate m 0)

theorem crun_runAt (p m : Nat) (x : List Int) (hl : x.length = 4) (hx : ∀ y ∈ x, 0 ≤ y ∧ y < 256) : crun 0 (runAt p m x) = 0 ↔ ∀ y ∈ x, y = 0 := by
  have hv := val_bd _ hx
  have he := enc_val _ hx
  rw [hl] at hv he
  rw [← val_zero x hx]
  obtain ⟨v, hv'⟩ := Int.eq_ofNat_of_zero_le hv.1
  rw [hv'] at he hv ⊢
  have hv2 : v < 256 ^ 4 := by have := hv.2; omega
  unfold runAt
  rw [crun_append, crun_append, crun_zeros, crun_zeros, shk_zero, ← he, crun_enc 4 0 v hv2, Nat.zero_xor, shk_add]
  constructor
  · intro h; have := shk_ker _ (show v < 4294967296 by omega) h; omega
  · intro h; have : v = 0 := by omega
    rw [this, shk_zero]

/-- Bytes that are good, with a run of four changed, are good just if nothing was. -/
theorem good_changed (c : List Int) (p m : Nat) (x : List Int) (hc : ∀ y ∈ c, 0 ≤ y ∧ y < 256) (hl : x.length = 4) (hx : ∀ y ∈ x, 0 ≤ y ∧ y < 256) (hn : c.length = p + 4 + m) (hg : goodB c = true)
    (hz : ∀ y ∈ zipx c (runAt p m x), 0 ≤ y ∧ y < 256) : goodB (zipx c (runAt p m x)) = true ↔ ∀ y ∈ x, y = 0 := by
  have h1 : c.length = (runAt p m x).length := by simp [runAt, hl]; omega
  have h2 : (zipx c (runAt p m x)).length = c.length := by simp only [zipx, List.length_zipWith]; omega
  have h3 := (good_iff c hc (by omega)).1 hg
  have h4 := crun_zipx 4294967295 0 c (runAt p m x) h1
  rw [Nat.xor_zero, h3] at h4
  rw [good_iff _ hz (by omega), h4, ← crun_runAt p m x hl hx]
  constructor
  · intro h
    have := xor_self_left (shk 32 4294967295) (crun 0 (runAt p m x))
    rw [h, Nat.xor_self] at this
    exact this.symm
  · intro h; rw [h, Nat.xor_zero]

theorem zipx_bd (a b : List Int) (ha : ∀ y ∈ a, 0 ≤ y ∧ y < 256) (hb : ∀ y ∈ b, 0 ≤ y ∧ y < 256) : ∀ y ∈ zipx a b, 0 ≤ y ∧ y < 256 := by
  intro y hy
  unfold zipx at hy
  rw [List.mem_iff_getElem] at hy
  obtain ⟨i, hi, rfl⟩ := hy
  rw [List.getElem_zipWith]
  simp only [List.length_zipWith] at hi
  have h1 := ha a[i] (List.getElem_mem _)
  have h2 := hb b[i] (List.getElem_mem _)
  have := Nat.xor_lt_two_pow (n := 8) (x := a[i].toNat) (y := b[i].toNat) (by omega) (by omega)
  omega

/-- Bytes with their sum behind are good. -/
theorem good_sealed (b : List Int) (hb : ∀ y ∈ b, 0 ≤ y ∧ y < 256) : goodB (b ++ enc 4 (more 0 b)) = true := by
  have h := more_range 0 b hb
  have e : (b ++ enc 4 (more 0 b)).length - 4 = b.length := by simp [enc_length]
  unfold goodB
  rw [e, List.drop_left, List.take_left, val_enc 4 _ h.1 (by omega)]
  simp [enc_length]

end Wc
