/-
  What gauge.Same, the page's Same and gauge.below return, for every two words of float64.
-/
import Derived.Test.YtdebkkojeemlbaaGleaf
import Derived.Test.YtdebkkojeemlbaaFlt6
namespace Go.Proofs.Ytdebkkojeemlbaa
open Go.RowKit

set_option maxHeartbeats 400000 in
theorem same_any (a b : Nat) (w : World) :
    Calls Try.prog 15 #[.float .f64 a, .float .f64 b] w fun e w' => e = .returned (.bool (Wf.sameB a b)) ∧ w = w' := by
  have e0 := eq_eq a b
  cases ha : Wf.nan a <;> cases hb : Wf.nan b
  case false.false =>
    rw [ha, hb] at e0
    by_cases hk : Wf.key a = Wf.key b
    · have e1 : (FloatKind.f64.format.order a b == some .eq) = true := by rw [e0]; simp [hk]
      clear e0
      go_enter Try.func15, Try.ntmps15
      go_wp2_with (first | (go_at_call 19; refine (isNaN_any _ _).mono ?_; rintro e w' ⟨rfl, rfl⟩; simp only [ha, hb]) | (go_at_call 23; refine (signbit_any _ _).mono ?_; rintro e w' ⟨rfl, rfl⟩))
      all_goals go_ret
      exact ⟨ret_bool (by unfold Wf.sameB; simp [ha, hb, hk]), rfl⟩
    · have e1 : (FloatKind.f64.format.order a b == some .eq) = false := by rw [e0]; simp [hk]
      clear e0
      go_enter Try.func15, Try.ntmps15
      go_wp2_with (first | (go_at_call 19; refine (isNaN_any _ _).mono ?_; rintro e w' ⟨rfl, rfl⟩; simp only [ha, hb]))
      all_goals go_ret
      exact ⟨ret_bool (by unfold Wf.sameB; simp [ha, hb, hk]), rfl⟩
  all_goals
    clear e0
    go_enter Try.func15, Try.ntmps15
    go_wp2_with (first | (go_at_call 19; refine (isNaN_any _ _).mono ?_; rintro e w' ⟨rfl, rfl⟩; simp only [ha, hb]))
    all_goals go_ret
    exact ⟨ret_bool (by unfold Wf.sameB; simp [ha, hb]), rfl⟩

set_option maxHeartbeats 400000 in
theorem refSame_any (a b : Nat) (w : World) :
    Calls Try.prog 8 #[.float .f64 a, .float .f64 b] w fun e w' => e = .returned (.bool (Wf.sameB a b)) ∧ w = w' := by
  have e0 := eq_eq a b
  cases ha : Wf.nan a <;> cases hb : Wf.nan b
  case false.false =>
    rw [ha, hb] at e0
    by_cases hk : Wf.key a = Wf.key b
    · have e1 : (FloatKind.f64.format.order a b == some .eq) = true := by rw [e0]; simp [hk]
      clear e0
      go_enter Try.func8, Try.ntmps8
      go_wp2_with (first | (go_at_call 17; refine (refNaN_any _ _).mono ?_; rintro e w' ⟨rfl, rfl⟩; simp only [ha, hb]) | (go_at_call 18; refine (refSigned_any _ _).mono ?_; rintro e w' ⟨rfl, rfl⟩; simp only [ha, hb, Bool.not_false, Bool.true_and]))
      all_goals go_ret
      exact ⟨ret_bool (by unfold Wf.sameB; simp [ha, hb, hk]), rfl⟩
    · have e1 : (FloatKind.f64.format.order a b == some .eq) = false := by rw [e0]; simp [hk]
      clear e0
      go_enter Try.func8, Try.ntmps8
      go_wp2_with (first | (go_at_call 17; refine (refNaN_any _ _).mono ?_; rintro e w' ⟨rfl, rfl⟩; simp only [ha, hb]))
      all_goals go_ret
      exact ⟨ret_bool (by unfold Wf.sameB; simp [ha, hb, hk]), rfl⟩
  all_goals
    clear e0
    go_enter Try.func8, Try.ntmps8
    go_wp2_with (first | (go_at_call 17; refine (refNaN_any _ _).mono ?_; rintro e w' ⟨rfl, rfl⟩; simp only [ha, hb]))
    all_goals go_ret
    exact ⟨ret_bool (by unfold Wf.sameB; simp [ha, hb]), rfl⟩

theorem lt_of {a b : Nat} (ha : Wf.nan a = false) (hb : Wf.nan b = false) (h : Wf.key a < Wf.key b) : (FloatKind.f64.format.order a b == some .lt) = true := by rw [lt_eq, ha, hb]; simp [h]
theorem nlt_of {a b : Nat} (h : Wf.nan a = true ∨ Wf.nan b = true ∨ Wf.key b ≤ Wf.key a) : (FloatKind.f64.format.order a b == some .lt) = false := by
  rw [lt_eq]
  rcases h with h | h | h
  · simp [h]
  · simp [h]
  · rw [decide_eq_false (by omega), Bool.and_false]
theorem gt_of {a b : Nat} (ha : Wf.nan a = false) (hb : Wf.nan b = false) (h : Wf.key b < Wf.key a) : (FloatKind.f64.format.order a b == some .gt) = true := by rw [gt_eq, ha, hb]; simp [h]
theorem ngt_of {a b : Nat} (h : Wf.nan a = true ∨ Wf.nan b = true ∨ Wf.key a ≤ Wf.key b) : (FloatKind.f64.format.order a b == some .gt) = false := by
  rw [gt_eq]
  rcases h with h | h | h
  · simp [h]
  · simp [h]
  · rw [decide_eq_false (by omega), Bool.and_false]
theorem eq_of {a b : Nat} (ha : Wf.nan a = false) (hb : Wf.nan b = false) (h : Wf.key a = Wf.key b) : (FloatKind.f64.format.order a b == some .eq) = true := by rw [eq_eq, ha, hb]; simp [h]
theorem neq_of {a b : Nat} (h : Wf.nan a = true ∨ Wf.nan b = true ∨ Wf.key a ≠ Wf.key b) : (FloatKind.f64.format.order a b == some .eq) = false := by
  rw [eq_eq]
  rcases h with h | h | h
  · simp [h]
  · simp [h]
  · rw [decide_eq_false h, Bool.and_false]

set_option maxHeartbeats 400000 in
theorem below_any (a b : Nat) (w : World) :
    Calls Try.prog 22 #[.float .f64 a, .float .f64 b] w fun e w' => e = .returned (.bool (!Wf.nan a && !Wf.nan b && decide (Wf.tk a < Wf.tk b))) ∧ w = w' := by
  have ht := Wf.tk_lt_iff a b
  by_cases hn : Wf.nan a = false ∧ Wf.nan b = false
  · obtain ⟨ha, hb⟩ := hn
    rcases Int.lt_trichotomy (Wf.key a) (Wf.key b) with hk | hk | hk
    · have e1 := lt_of ha hb hk
      go_enter Try.func22, Try.ntmps22
      go_wp2
      all_goals go_ret
      exact ⟨ret_bool (by rw [ha, hb, decide_eq_true (ht.2 (.inl hk))]; rfl), rfl⟩
    · have e1 := nlt_of (a := a) (b := b) (.inr (.inr (by omega)))
      have e2 := eq_of ha hb hk
      cases hs : Wf.sg a
      · go_enter Try.func22, Try.ntmps22
        go_wp2_with (first | (go_at_call 23; refine (signbit_any _ _).mono ?_; rintro e w' ⟨rfl, rfl⟩; simp only [hs]))
        all_goals go_ret
        exact ⟨ret_bool (by rw [ha, hb, decide_eq_false (fun h => by rcases ht.1 h with h | h; omega; rw [hs] at h; cases h.2.1)]; rfl), rfl⟩
      · go_enter Try.func22, Try.ntmps22
        go_wp2_with (first | (go_at_call 23; refine (signbit_any _ _).mono ?_; rintro e w' ⟨rfl, rfl⟩; try simp only [hs]))
        all_goals go_ret
        refine ⟨ret_bool ?_, rfl⟩
        rw [ha, hb, Bool.eq_iff_iff]
        simp [ht, hk, hs]
    · have e1 := nlt_of (a := a) (b := b) (.inr (.inr (by omega)))
      have e2 := neq_of (a := a) (b := b) (.inr (.inr (by omega)))
      go_enter Try.func22, Try.ntmps22
      go_wp2
      all_goals go_ret
      exact ⟨ret_bool (by rw [ha, hb, decide_eq_false (fun h => by rcases ht.1 h with h | h <;> omega)]; rfl), rfl⟩
  · have hor : Wf.nan a = true ∨ Wf.nan b = true := by
      cases h1 : Wf.nan a
      · cases h2 : Wf.nan b
        · exact absurd ⟨h1, h2⟩ hn
        · exact .inr rfl
      · exact .inl rfl
    have e1 := nlt_of (a := a) (b := b) (by rcases hor with h | h; exact .inl h; exact .inr (.inl h))
    have e2 := neq_of (a := a) (b := b) (by rcases hor with h | h; exact .inl h; exact .inr (.inl h))
    go_enter Try.func22, Try.ntmps22
    go_wp2
    all_goals go_ret
    exact ⟨ret_bool (by rcases hor with h | h <;> simp [h]), rfl⟩

end Go.Proofs.Ytdebkkojeemlbaa
