/-
  The plain mathematics of grow: a node whose pointers are the old one's is one whose sectors all stay.
-/
import Derived.Test.YtafpjnofccfmlaaCc
namespace Wb
open Wt Wn

/-- Level by level: what stands so far. -/
def lv (xs : List Int) (r : Int) (m was F : List Int) : Nat → B
  | 0 => ⟨[], m⟩
  | L + 1 => lvl F L (lv xs r m was F L).up (kp m was L) (rw xs r (2 - L)) (8 ^ (2 - L)) (lv xs r m was F L).new

section
variable {xs : List Int} {r : Int} {m was F : List Int}
theorem lv_one : lv xs r m was F 1 = b0 xs r m was F := by
  show lvl F 0 m (kp m was 0) (rw xs r 2) 64 [] = _
  rw [rw_two]; rfl
theorem lv_two : lv xs r m was F 2 = b1 xs r m was F := by
  show lvl F 1 (lv xs r m was F 1).up (kp m was 1) (rw xs r 1) 8 (lv xs r m was F 1).new = _
  rw [lv_one, rw_one]; rfl
theorem lv_three : lv xs r m was F 3 = b2 xs r m was F := by
  show lvl F 2 (lv xs r m was F 2).up (kp m was 2) (rw xs r 0) 1 (lv xs r m was F 2).new = _
  rw [lv_two]; rfl
theorem lv_len (hm : m.length = 512) : ∀ L, L ≤ 3 → (lv xs r m was F L).up.length = 8 ^ (3 - L)
  | 0, _ => hm
  | L + 1, h => by
    show (lvl F L (lv xs r m was F L).up (kp m was L) (rw xs r (2 - L)) (8 ^ (2 - L)) (lv xs r m was F L).new).up.length = _
    rw [lvl_len, show 3 - (L + 1) = 2 - L by omega]
theorem lv_new (L : Nat) (h : L ≤ 3) : (lv xs r m was F L).new.length ≤ need xs r m was F := by
  have e : need xs r m was F = (lv xs r m was F 3).new.length := by rw [lv_three]; rfl
  have s : ∀ L, (lv xs r m was F L).new.length ≤ (lv xs r m was F (L + 1)).new.length := fun L => by
    have := lvl_le (F := F) (lv := L) (a := (lv xs r m was F L).up) (kp := kp m was L) (od := rw xs r (2 - L)) (lv xs r m was F L).new 0 (8 ^ (2 - L))
    rw [Nat.zero_add] at this
    exact this
  rw [e]
  rcases (by omega : L = 0 ∨ L = 1 ∨ L = 2 ∨ L = 3) with rfl | rfl | rfl | rfl
  · exact Nat.le_trans (s 0) (Nat.le_trans (s 1) (s 2))
  · exact Nat.le_trans (s 1) (s 2)
  · exact s 2
  · exact Nat.le_refl _

/-- Digits: all under a place. -/
theorem under {P : Nat → Prop} (L i : Nat) : (∀ k, k < 8 → ∀ j, j < 8 ^ L → P (8 ^ L * (8 * i + k) + j)) ↔ ∀ j, j < 8 ^ (L + 1) → P (8 ^ (L + 1) * i + j) := by
  have hp : 0 < 8 ^ L := Nat.pow_pos (by omega)
  have hp2 : 8 ^ (L + 1) = 8 ^ L * 8 := Nat.pow_succ 8 L
  constructor
  · intro h j hj
    have hk : j / 8 ^ L < 8 := (Nat.div_lt_iff_lt_mul hp).2 (by rw [Nat.mul_comm, ← hp2]; exact hj)
    have := h _ hk (j % 8 ^ L) (Nat.mod_lt _ hp)
    have e : 8 ^ L * (8 * i + j / 8 ^ L) + j % 8 ^ L = 8 ^ (L + 1) * i + j := by
      rw [Nat.mul_add, ← Nat.mul_assoc, ← hp2, Nat.add_assoc, Nat.div_add_mod]
    rwa [e] at this
  · intro h k hk j hj
    have e : 8 ^ L * (8 * i + k) + j = 8 ^ (L + 1) * i + (8 ^ L * k + j) := by
      rw [Nat.mul_add, ← Nat.mul_assoc, ← hp2, Nat.add_assoc]
    rw [e]
    refine h _ ?_
    have h1 : 8 ^ L * (k + 1) ≤ 8 ^ L * 8 := Nat.mul_le_mul_left _ (by omega)
    rw [Nat.mul_add, Nat.mul_one] at h1
    omega

/-- The old rows lead to the old sectors. -/
theorem rw_Ld (hold : Ld xs 3 r (fun i => was.getD i 0)) : ∀ j, j ≤ 3 → ∀ i, i < 8 ^ j → Ld xs (3 - j) ((rw xs r j).getD i 0) (fun q => was.getD (8 ^ (3 - j) * i + q) 0)
  | 0, _, i, hi => by
    obtain rfl : i = 0 := by simpa using hi
    refine hold.congr fun q _ => ?_
    show was.getD q 0 = was.getD _ 0
    congr 1; omega
  | j + 1, hj, i, hi => by
    have hi8 : i / 8 < 8 ^ j := by rw [Nat.pow_succ] at hi; omega
    have h := rw_Ld hold j (by omega) (i / 8) hi8
    rw [show 3 - j = 3 - (j + 1) + 1 by omega] at h
    have h1 := kids_Ld h (k := i % 8) (by omega)
    have e : (rw xs r (j + 1)).getD i 0 = (kids xs ((rw xs r j).getD (i / 8) 0)).getD (i % 8) 0 := by
      show ((rw xs r j).flatMap (kids xs)).getD i 0 = _
      have := flat8 (kids_length xs) (rw xs r j) (i / 8) (i % 8) (by omega)
      rw [if_pos (by rw [rw_length]; exact hi8), show 8 * (i / 8) + i % 8 = i by omega] at this
      exact this
    rw [e]
    refine h1.congr fun q _ => ?_
    show was.getD _ 0 = was.getD _ 0
    congr 1
    rw [Nat.pow_succ, Nat.mul_assoc, ← Nat.add_assoc, ← Nat.mul_add, show 8 * (i / 8) + i % 8 = i by omega]
theorem rw_map (hold : Ld xs 3 r (fun i => was.getD i 0)) {i : Nat} (hi : i < 512) : (rw xs r 3).getD i 0 = was.getD i 0 := by
  have h : was.getD (1 * i + 0) 0 = (rw xs r 3).getD i 0 := rw_Ld hold 3 (Nat.le_refl _) i hi
  rw [← h]; congr 1; omega

/-- No pointer just where no sector under it has a block. -/
theorem lv_zero (hold : Ld xs 3 r (fun i => was.getD i 0)) (hF : ∀ j, ¬ F.getD j 2 = 0) : ∀ L, L ≤ 3 → ∀ i, i < 8 ^ (3 - L) → ((lv xs r m was F L).up.getD i 0 = 0 ↔ ∀ j, j < 8 ^ L → m.getD (8 ^ L * i + j) 0 = 0)
  | 0, _, i, _ => by
    show m.getD i 0 = 0 ↔ _
    constructor
    · intro h j hj
      obtain rfl : j = 0 := by simpa using hj
      simpa using h
    · intro h; simpa using h 0 (by simp)
  | L + 1, hL, i, hi => by
    have ih := lv_zero hold hF L (by omega)
    have hnul : nul (lv xs r m was F L).up i = true ↔ ∀ j, j < 8 ^ (L + 1) → m.getD (8 ^ (L + 1) * i + j) 0 = 0 := by
      rw [nul_iff, ← under (P := fun n => m.getD n 0 = 0)]
      have hb : ∀ k, k < 8 → 8 * i + k < 8 ^ (3 - L) := fun k hk => by
        rw [show 3 - L = 3 - (L + 1) + 1 by omega, Nat.pow_succ]; omega
      exact ⟨fun h k hk => (ih _ (hb k hk)).1 (h k hk), fun h k hk => (ih _ (hb k hk)).2 (h k hk)⟩
    have hod := rw_Ld hold (2 - L) (by omega) i (by rw [show 2 - L = 3 - (L + 1) by omega]; exact hi)
    rw [show 3 - (2 - L) = L + 1 by omega] at hod
    rw [← hnul]
    show (lvl F L (lv xs r m was F L).up (kp m was L) (rw xs r (2 - L)) (8 ^ (2 - L)) (lv xs r m was F L).new).up.getD i 0 = 0 ↔ _
    rw [lvl_at _ (show i < 8 ^ (2 - L) by rw [show 2 - L = 3 - (L + 1) by omega]; exact hi)]
    by_cases hn : nul (lv xs r m was F L).up i = true
    · rw [if_pos hn]; simp [hn]
    · rw [if_neg hn]
      refine ⟨fun h => absurd ?_ hn, fun h => absurd h hn⟩
      by_cases hk : kp m was L i = true
      · rw [if_pos hk] at h
        rw [h] at hod
        rw [hnul]
        intro j hj
        rw [(kp_all L i).1 hk j hj]
        exact hod.nought j hj
      · rw [if_neg hk] at h
        exact absurd h (hF _)

/-- A pointer is the old one just where all sectors under it stay. -/
theorem lv_kept (hold : Ld xs 3 r (fun i => was.getD i 0)) (hF : ∀ j, ¬ F.getD j 2 = 0) (hfar : ∀ j, j < need xs r m was F → ∀ q, q ≤ 2 → ∀ i, ¬ F.getD j 2 = (rw xs r q).getD i 0) (L : Nat) (hL : L ≤ 2) {i : Nat} (hi : i < 8 ^ (2 - L)) :
    (lv xs r m was F (L + 1)).up.getD i 0 = (rw xs r (2 - L)).getD i 0 ↔ kp m was L i = true := by
  have hz := lv_zero (m := m) hold hF (L + 1) (by omega) i (by rw [show 3 - (L + 1) = 2 - L by omega]; exact hi)
  have hod := rw_Ld hold (2 - L) (by omega) i hi
  rw [show 3 - (2 - L) = L + 1 by omega] at hod
  have hat : (lv xs r m was F (L + 1)).up.getD i 0 = _ := lvl_at (F := F) (lv := L) (a := (lv xs r m was F L).up) (kp := kp m was L) (od := rw xs r (2 - L)) (lv xs r m was F L).new hi
  by_cases hn : nul (lv xs r m was F L).up i = true
  · rw [if_pos hn] at hat
    rw [hat]
    have hm0 := hz.1 hat
    constructor
    · intro h
      rw [← h] at hod
      exact (kp_all L i).2 fun j hj => (hm0 j hj).trans (hod.nought j hj).symm
    · intro h
      exact (od_nought hod fun j hj => ((kp_all L i).1 h j hj).symm.trans (hm0 j hj)).symm
  · rw [if_neg hn] at hat
    by_cases hk : kp m was L i = true
    · rw [if_pos hk] at hat
      exact ⟨fun _ => hk, fun _ => hat⟩
    · rw [if_neg hk] at hat
      rw [hat]
      refine ⟨fun h => absurd h (hfar _ ?_ _ (by omega) _), fun h => absurd h hk⟩
      exact Nat.lt_of_lt_of_le (lvl_new (F := F) (lv := L) (od := rw xs r (2 - L)) (lv xs r m was F L).new hi hn hk).2.1 (lv_new (L + 1) (by omega))

theorem ptr_mk {lv : Nat} {a b : List Int} {i : Nat} : mk lv a i = mk lv b i ↔ ∀ k, k < 8 → a.getD (8 * i + k) 0 = b.getD (8 * i + k) 0 := by
  constructor
  · intro h k hk
    have := congrArg (fun n => pat n k) h
    simp only [pat_mk _ _ _ hk] at this
    exact this
  · intro h
    unfold mk
    have h0 := h 0 (by omega)
    have h1 := h 1 (by omega)
    have h2 := h 2 (by omega)
    have h3 := h 3 (by omega)
    have h4 := h 4 (by omega)
    have h5 := h 5 (by omega)
    have h6 := h 6 (by omega)
    have h7 := h 7 (by omega)
    rw [Nat.add_zero] at h0
    rw [h0, h1, h2, h3, h4, h5, h6, h7]

/-- A node is the old one just where all sectors under it stay. -/
theorem node_kept (hold : Ld xs 3 r (fun i => was.getD i 0)) (hF : ∀ j, ¬ F.getD j 2 = 0) (hfar : ∀ j, j < need xs r m was F → ∀ q, q ≤ 2 → ∀ i, ¬ F.getD j 2 = (rw xs r q).getD i 0) (L : Nat) (hL : L ≤ 2) {i : Nat} (hi : i < 8 ^ (2 - L)) :
    mk L (lv xs r m was F L).up i = mk L (rw xs r (3 - L)) i ↔ kp m was L i = true := by
  rw [ptr_mk]
  cases L with
  | zero =>
    rw [kp_zero]
    have hi : i < 64 := hi
    show (∀ k, k < 8 → m.getD (8 * i + k) 0 = (rw xs r 3).getD (8 * i + k) 0) ↔ _
    constructor
    · intro h k hk; rw [h k hk, rw_map hold (by omega)]
    · intro h k hk; rw [h k hk, rw_map hold (by omega)]
  | succ L =>
    rw [kp_succ, show 3 - (L + 1) = 2 - L by omega]
    have hb : ∀ k, k < 8 → 8 * i + k < 8 ^ (2 - L) := fun k hk => by
      rw [show 2 - L = 2 - (L + 1) + 1 by omega, Nat.pow_succ]; omega
    exact ⟨fun h k hk => (lv_kept hold hF hfar L (by omega) (hb k hk)).1 (h k hk), fun h k hk => (lv_kept hold hF hfar L (by omega) (hb k hk)).2 (h k hk)⟩
end
end Wb
