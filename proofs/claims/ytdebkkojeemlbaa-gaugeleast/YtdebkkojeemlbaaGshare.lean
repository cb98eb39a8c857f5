/-
  What gauge.Share, gauge.Percent, the page's Share and Percent return, for every word of float64.
-/
import Derived.Test.YtdebkkojeemlbaaGsame
namespace Go.Proofs.Ytdebkkojeemlbaa
open Go.RowKit

theorem bad_cases (a b : Nat) : (Wf.nan a = true ∨ Wf.nan a = false ∧ Wf.nan b = true ∨ Wf.nan a = false ∧ Wf.nan b = false ∧ Wf.key a < 0 ∨ Wf.nan a = false ∧ Wf.nan b = false ∧ 0 ≤ Wf.key a ∧ Wf.key b ≤ 0) ∧ Wf.bad a b = true ∨
    (Wf.nan a = false ∧ Wf.nan b = false ∧ 0 ≤ Wf.key a ∧ 0 < Wf.key b) ∧ Wf.bad a b = false := by
  unfold Wf.bad
  cases h1 : Wf.nan a
  · cases h2 : Wf.nan b
    · by_cases h3 : Wf.key a < 0
      · exact .inl ⟨.inr (.inr (.inl ⟨rfl, rfl, h3⟩)), by simp [h3]⟩
      · by_cases h4 : Wf.key b ≤ 0
        · exact .inl ⟨.inr (.inr (.inr ⟨rfl, rfl, by omega, h4⟩)), by simp [h4]⟩
        · exact .inr ⟨⟨rfl, rfl, by omega, by omega⟩, by simp; omega⟩
    · exact .inl ⟨.inr (.inl ⟨rfl, rfl⟩), by simp⟩
  · exact .inl ⟨.inl rfl, by simp⟩

theorem key0 : Wf.key 0 = 0 := rfl
theorem nan0 : Wf.nan 0 = false := rfl
theorem isShare_bad {a b r : Nat} (h : Wf.bad a b = true) (hr : r < Wf.M64) (hn : Wf.nan r = true) : Wf.IsShare a b r := ⟨hr, by rw [if_pos h]; exact hn⟩

set_option maxHeartbeats 800000 in
theorem share_any (a b : Nat) (ha : a < Wf.M64) (hb : b < Wf.M64) (w : World) :
    Calls Try.prog 9 #[.float .f64 a, .float .f64 b] w fun e w' => ∃ r, e = .returned (.float .f64 r) ∧ Wf.IsShare a b r ∧ w = w' := by
  rcases bad_cases a b with ⟨hc, hbad⟩ | ⟨⟨h1, h2, h3, h4⟩, hbad⟩
  · rcases hc with h1 | ⟨h1, h2⟩ | ⟨h1, h2, h3⟩ | ⟨h1, h2, h3, h4⟩
    · go_enter Try.func9, Try.ntmps9
      go_wp2_with (first | (go_at_call 19; refine (isNaN_any _ _).mono ?_; rintro e w' ⟨rfl, rfl⟩; simp only [h1]) | (go_at_call 20; refine (mathNaN_any _).mono ?_; rintro e w' ⟨rfl, rfl⟩))
      all_goals go_ret
      exact ⟨_, rfl, isShare_bad hbad (by decide) (by decide), rfl⟩
    · go_enter Try.func9, Try.ntmps9
      go_wp2_with (first | (go_at_call 19; refine (isNaN_any _ _).mono ?_; rintro e w' ⟨rfl, rfl⟩; simp only [h1, h2]) | (go_at_call 20; refine (mathNaN_any _).mono ?_; rintro e w' ⟨rfl, rfl⟩))
      all_goals go_ret
      exact ⟨_, rfl, isShare_bad hbad (by decide) (by decide), rfl⟩
    · have e1 := lt_of (b := 0) h1 nan0 (by rw [key0]; exact h3)
      go_enter Try.func9, Try.ntmps9
      go_wp2_with (first | (go_at_call 19; refine (isNaN_any _ _).mono ?_; rintro e w' ⟨rfl, rfl⟩; simp only [h1, h2]) | (go_at_call 20; refine (mathNaN_any _).mono ?_; rintro e w' ⟨rfl, rfl⟩))
      all_goals go_ret
      exact ⟨_, rfl, isShare_bad hbad (by decide) (by decide), rfl⟩
    · have e1 := nlt_of (a := a) (b := 0) (.inr (.inr (by rw [key0]; exact h3)))
      have e2 : (FloatKind.f64.format.order b 0 == some .lt || FloatKind.f64.format.order b 0 == some .eq) = true := by
        by_cases hk : Wf.key b = 0
        · rw [eq_of h2 nan0 hk, Bool.or_true]
        · rw [lt_of (b := 0) h2 nan0 (by rw [key0]; omega), Bool.true_or]
      go_enter Try.func9, Try.ntmps9
      go_wp2_with (first | (go_at_call 19; refine (isNaN_any _ _).mono ?_; rintro e w' ⟨rfl, rfl⟩; simp only [h1, h2]) | (go_at_call 20; refine (mathNaN_any _).mono ?_; rintro e w' ⟨rfl, rfl⟩))
      all_goals go_ret
      exact ⟨_, rfl, isShare_bad hbad (by decide) (by decide), rfl⟩
  · have e1 := nlt_of (a := a) (b := 0) (.inr (.inr (by rw [key0]; exact h3)))
    have e2 : (FloatKind.f64.format.order b 0 == some .lt) = false := nlt_of (.inr (.inr (by rw [key0]; omega)))
    have e3 : (FloatKind.f64.format.order b 0 == some .eq) = false := neq_of (.inr (.inr (by rw [key0]; omega)))
    by_cases c1 : Wf.key b ≤ Wf.key a
    · have e4 : (FloatKind.f64.format.order a b == some .gt || FloatKind.f64.format.order a b == some .eq) = true := by
        by_cases hk : Wf.key a = Wf.key b
        · rw [eq_of h1 h2 hk, Bool.or_true]
        · rw [gt_of h1 h2 (by omega), Bool.true_or]
      go_enter Try.func9, Try.ntmps9
      go_wp2_with (first | (go_at_call 19; refine (isNaN_any _ _).mono ?_; rintro e w' ⟨rfl, rfl⟩; simp only [h1, h2]))
      all_goals go_ret
      exact ⟨_, rfl, ⟨by decide, by rw [hbad, if_neg (by decide), if_pos c1]⟩, rfl⟩
    · have e4 : (FloatKind.f64.format.order a b == some .gt) = false := ngt_of (.inr (.inr (by omega)))
      have e5 : (FloatKind.f64.format.order a b == some .eq) = false := neq_of (.inr (.inr (by omega)))
      by_cases c2 : Wf.key a = 0
      · have e6 := eq_of (b := 0) h1 nan0 c2
        go_enter Try.func9, Try.ntmps9
        go_wp2_with (first | (go_at_call 19; refine (isNaN_any _ _).mono ?_; rintro e w' ⟨rfl, rfl⟩; simp only [h1, h2]))
        all_goals go_ret
        exact ⟨_, rfl, ⟨by decide, by rw [hbad, if_neg (by decide), if_neg (by omega), if_pos c2]⟩, rfl⟩
      · have e6 : (FloatKind.f64.format.order a 0 == some .eq) = false := neq_of (.inr (.inr c2))
        obtain ⟨-, -, -, g4, g5, g6, g7⟩ := Wf.good_parts ha hb hbad
        obtain ⟨k1, k2, k3⟩ := g7 (by omega)
        obtain ⟨r, hr, hle⟩ := Wf.div_le_one k2 (by omega : a < b) g4
        have hq := quo_run hr 22
        go_enter Try.func9, Try.ntmps9
        go_wp2_with (first | (go_at_call 19; refine (isNaN_any _ _).mono ?_; rintro e w' ⟨rfl, rfl⟩; simp only [h1, h2]) | simp only [hq])
        all_goals go_ret
        have := Wf.nums
        exact ⟨_, rfl, ⟨by omega, by rw [hbad, if_neg (by decide), if_neg (by omega), if_neg c2]; exact hr⟩, rfl⟩

set_option maxHeartbeats 800000 in
theorem refShare_any (a b : Nat) (ha : a < Wf.M64) (hb : b < Wf.M64) (w : World) :
    Calls Try.prog 10 #[.float .f64 a, .float .f64 b] w fun e w' => ∃ r, e = .returned (.float .f64 r) ∧ Wf.IsShare a b r ∧ (w' = w ∨ w' = w.drew) := by
  rcases bad_cases a b with ⟨hc, hbad⟩ | ⟨⟨h1, h2, h3, h4⟩, hbad⟩
  · rcases hc with h1 | ⟨h1, h2⟩ | ⟨h1, h2, h3⟩ | ⟨h1, h2, h3, h4⟩
    · go_enter Try.func10, Try.ntmps10
      go_wp2_with (first | (go_at_call 17; refine (refNaN_any _ _).mono ?_; rintro e w' ⟨rfl, rfl⟩; simp only [h1]) | (go_at_call 21; refine (none_any _).mono ?_; rintro e w' ⟨r, rfl, hn, hl, rfl⟩))
      all_goals go_ret
      exact ⟨_, rfl, isShare_bad hbad hl hn, .inr rfl⟩
    · go_enter Try.func10, Try.ntmps10
      go_wp2_with (first | (go_at_call 17; refine (refNaN_any _ _).mono ?_; rintro e w' ⟨rfl, rfl⟩; simp only [h1, h2]) | (go_at_call 21; refine (none_any _).mono ?_; rintro e w' ⟨r, rfl, hn, hl, rfl⟩))
      all_goals go_ret
      exact ⟨_, rfl, isShare_bad hbad hl hn, .inr rfl⟩
    · have e1 := lt_of (b := 0) h1 nan0 (by rw [key0]; exact h3)
      go_enter Try.func10, Try.ntmps10
      go_wp2_with (first | (go_at_call 17; refine (refNaN_any _ _).mono ?_; rintro e w' ⟨rfl, rfl⟩; simp only [h1, h2]) | (go_at_call 21; refine (none_any _).mono ?_; rintro e w' ⟨r, rfl, hn, hl, rfl⟩))
      all_goals go_ret
      exact ⟨_, rfl, isShare_bad hbad hl hn, .inr rfl⟩
    · have e1 := nlt_of (a := a) (b := 0) (.inr (.inr (by rw [key0]; exact h3)))
      have e2 := ngt_of (a := b) (b := 0) (.inr (.inr (by rw [key0]; exact h4)))
      go_enter Try.func10, Try.ntmps10
      go_wp2_with (first | (go_at_call 17; refine (refNaN_any _ _).mono ?_; rintro e w' ⟨rfl, rfl⟩; simp only [h1, h2]) | (go_at_call 21; refine (none_any _).mono ?_; rintro e w' ⟨r, rfl, hn, hl, rfl⟩))
      all_goals go_ret
      exact ⟨_, rfl, isShare_bad hbad hl hn, .inr rfl⟩
  · have e1 := nlt_of (a := a) (b := 0) (.inr (.inr (by rw [key0]; exact h3)))
    have e2 : (FloatKind.f64.format.order b 0 == some .gt) = true := gt_of h2 nan0 (by rw [key0]; exact h4)
    by_cases c1 : Wf.key b ≤ Wf.key a
    · have e4 : (FloatKind.f64.format.order a b == some .gt || FloatKind.f64.format.order a b == some .eq) = true := by
        by_cases hk : Wf.key a = Wf.key b
        · rw [eq_of h1 h2 hk, Bool.or_true]
        · rw [gt_of h1 h2 (by omega), Bool.true_or]
      go_enter Try.func10, Try.ntmps10
      go_wp2_with (first | (go_at_call 17; refine (refNaN_any _ _).mono ?_; rintro e w' ⟨rfl, rfl⟩; simp only [h1, h2]))
      all_goals go_ret
      exact ⟨_, rfl, ⟨by decide, by rw [hbad, if_neg (by decide), if_pos c1]⟩, .inl rfl⟩
    · have e4 : (FloatKind.f64.format.order a b == some .gt) = false := ngt_of (.inr (.inr (by omega)))
      have e5 : (FloatKind.f64.format.order a b == some .eq) = false := neq_of (.inr (.inr (by omega)))
      by_cases c2 : Wf.key a = 0
      · have e6 := eq_of (b := 0) h1 nan0 c2
        go_enter Try.func10, Try.ntmps10
        go_wp2_with (first | (go_at_call 17; refine (refNaN_any _ _).mono ?_; rintro e w' ⟨rfl, rfl⟩; simp only [h1, h2]))
        all_goals go_ret
        exact ⟨_, rfl, ⟨by decide, by rw [hbad, if_neg (by decide), if_neg (by omega), if_pos c2]⟩, .inl rfl⟩
      · have e6 : (FloatKind.f64.format.order a 0 == some .eq) = false := neq_of (.inr (.inr c2))
        obtain ⟨-, -, -, g4, g5, g6, g7⟩ := Wf.good_parts ha hb hbad
        obtain ⟨k1, k2, k3⟩ := g7 (by omega)
        obtain ⟨r, hr, hle⟩ := Wf.div_le_one k2 (by omega : a < b) g4
        obtain ⟨n1, n2, n3, n4, n5, n6⟩ := Wf.nums
        have hrl : r < Wf.M64 := by omega
        have hq := quo_run hr 22
        have k308 : Wf.key 9214871658872686752 = 9214871658872686752 := by decide
        have n308 : Wf.nan 9214871658872686752 = false := by decide
        by_cases c3 : 9214871658872686752 < b
        · have e7 : (FloatKind.f64.format.order b 9214871658872686752 == some .gt) = true := gt_of h2 n308 (by rw [k308]; omega)
          by_cases c4 : b < Wf.INF
          · obtain ⟨q, hq1, hq2, hq3⟩ := Wf.half_lt c3 c4
            have hq4 := quo_run hq1 22
            have e8 : (FloatKind.f64.format.order q b == some .eq) = false := neq_of (.inr (.inr (by omega)))
            go_enter Try.func10, Try.ntmps10
            go_wp2_with (first | (go_at_call 17; refine (refNaN_any _ _).mono ?_; rintro e w' ⟨rfl, rfl⟩; simp only [h1, h2]) | simp only [hq4] | simp only [hq])
            all_goals go_ret
            exact ⟨_, rfl, ⟨hrl, by rw [hbad, if_neg (by decide), if_neg (by omega), if_neg c2]; exact hr⟩, .inl rfl⟩
          · have hbi : b = 9218868437227405312 := by omega
            have hr0 : r = 0 := by
              rw [hbi, show (9218868437227405312 : Nat) = Wf.INF from rfl, Wf.div_inf (by omega)] at hr
              exact (Option.some.inj hr).symm
            clear n1 n2 n3 n4 n5 n6
            subst hbi
            have hq4 := quo_run (a := 9218868437227405312) (b := Wf.TWO) (r := 9218868437227405312) (by decide +kernel) 22
            have e8 : (FloatKind.f64.format.order 9218868437227405312 9218868437227405312 == some .eq) = true := eq_of h2 h2 rfl
            clear hq
            go_enter Try.func10, Try.ntmps10
            go_wp2_with (first | (go_at_call 17; refine (refNaN_any _ _).mono ?_; rintro e w' ⟨rfl, rfl⟩; simp only [h1, h2]) | simp only [hq4])
            all_goals go_ret
            exact ⟨_, rfl, ⟨by decide, by rw [hbad, if_neg (by decide), if_neg (by omega), if_neg c2, hr, hr0]⟩, .inl rfl⟩
        · have e7 : (FloatKind.f64.format.order b 9214871658872686752 == some .gt) = false := ngt_of (.inr (.inr (by rw [k308]; omega)))
          go_enter Try.func10, Try.ntmps10
          go_wp2_with (first | (go_at_call 17; refine (refNaN_any _ _).mono ?_; rintro e w' ⟨rfl, rfl⟩; simp only [h1, h2]) | simp only [hq])
          all_goals go_ret
          exact ⟨_, rfl, ⟨hrl, by rw [hbad, if_neg (by decide), if_neg (by omega), if_neg c2]; exact hr⟩, .inl rfl⟩

theorem conv_run {b : Nat} {n : Int} (h : floatToIntVal .f64 b .i64 = some n) (w : World) : (convert 22 3 (.float .f64 b)).run Try.prog w = .ok (.int .i64 n) w :=
  run_convert_float_int w 22 3 .f64 .i64 b n (by rw [Try.underlying22]; rfl) Try.underlying3 h

theorem pct_cases (x : Nat) : (Wf.nan x = true ∨ Wf.nan x = false ∧ Wf.key x < 0 ∨ Wf.nan x = false ∧ 0 ≤ Wf.key x ∧ (Wf.ONE : Int) < Wf.key x) ∧ Wf.pct x = -1 ∨
    (Wf.nan x = false ∧ 0 ≤ Wf.key x ∧ Wf.key x ≤ Wf.ONE) ∧ Wf.pctB x = false := by
  have hp : Wf.pctB x = true → Wf.pct x = -1 := fun h => by unfold Wf.pct; rw [if_pos h]
  unfold Wf.pctB at *
  cases h1 : Wf.nan x
  · by_cases h3 : Wf.key x < 0
    · exact .inl ⟨.inr (.inl ⟨rfl, h3⟩), hp (by simp [h3])⟩
    · by_cases h4 : (Wf.ONE : Int) < Wf.key x
      · exact .inl ⟨.inr (.inr ⟨rfl, by omega, h4⟩), hp (by simp only [decide_eq_true h4, Bool.or_true])⟩
      · exact .inr ⟨⟨rfl, by omega, by omega⟩, by rw [decide_eq_false h3, decide_eq_false h4]; rfl⟩
  · exact .inl ⟨.inl rfl, hp (by simp [h1])⟩

theorem keyOne : Wf.key 4607182418800017408 = Wf.ONE := by decide
theorem nanOne : Wf.nan 4607182418800017408 = false := by decide

set_option maxHeartbeats 800000 in
theorem percent_any (x : Nat) (hx : x < Wf.M64) (w : World) :
    Calls Try.prog 11 #[.float .f64 x] w fun e w' => e = .returned (.int .i64 (Wf.pct x)) ∧ w = w' := by
  rcases pct_cases x with ⟨hc, hp⟩ | ⟨⟨h1, h2, h3⟩, hp⟩
  · rcases hc with h1 | ⟨h1, h2⟩ | ⟨h1, h2, h3⟩
    · go_enter Try.func11, Try.ntmps11
      go_wp2_with (first | (go_at_call 19; refine (isNaN_any _ _).mono ?_; rintro e w' ⟨rfl, rfl⟩; simp only [h1]))
      all_goals go_ret
      exact ⟨by rw [hp]; rfl, rfl⟩
    · have e1 := lt_of (b := 0) h1 nan0 (by rw [key0]; exact h2)
      go_enter Try.func11, Try.ntmps11
      go_wp2_with (first | (go_at_call 19; refine (isNaN_any _ _).mono ?_; rintro e w' ⟨rfl, rfl⟩; simp only [h1]))
      all_goals go_ret
      exact ⟨by rw [hp]; rfl, rfl⟩
    · have e1 := nlt_of (a := x) (b := 0) (.inr (.inr (by rw [key0]; exact h2)))
      have e2 := gt_of (a := x) (b := 4607182418800017408) h1 nanOne (by rw [keyOne]; exact h3)
      go_enter Try.func11, Try.ntmps11
      go_wp2_with (first | (go_at_call 19; refine (isNaN_any _ _).mono ?_; rintro e w' ⟨rfl, rfl⟩; simp only [h1]))
      all_goals go_ret
      exact ⟨by rw [hp]; rfl, rfl⟩
  · have e1 := nlt_of (a := x) (b := 0) (.inr (.inr (by rw [key0]; exact h2)))
    have e2 := ngt_of (a := x) (b := 4607182418800017408) (.inr (.inr (by rw [keyOne]; exact h3)))
    obtain ⟨a, b, q1, q2, q3, -, -⟩ := Wf.pct_ok hx hp
    have r1 := mul_run q1 22
    have r2 := add_run q2 22
    have r3 := conv_run q3
    go_enter Try.func11, Try.ntmps11
    go_wp2_with (first | (go_at_call 19; refine (isNaN_any _ _).mono ?_; rintro e w' ⟨rfl, rfl⟩; simp only [h1]) | simp only [r1] | simp only [r2] | simp only [r3])
    all_goals go_ret
    exact ⟨rfl, rfl⟩

set_option maxHeartbeats 800000 in
theorem refPercent_any (x : Nat) (hx : x < Wf.M64) (w : World) :
    Calls Try.prog 12 #[.float .f64 x] w fun e w' => e = .returned (.int .i64 (Wf.pct x)) ∧ w = w' := by
  rcases pct_cases x with ⟨hc, hp⟩ | ⟨⟨h1, h2, h3⟩, hp⟩
  · rcases hc with h1 | ⟨h1, h2⟩ | ⟨h1, h2, h3⟩
    · go_enter Try.func12, Try.ntmps12
      go_wp2_with (first | (go_at_call 17; refine (refNaN_any _ _).mono ?_; rintro e w' ⟨rfl, rfl⟩; simp only [h1]))
      all_goals go_ret
      exact ⟨by rw [hp]; rfl, rfl⟩
    · have e1 := lt_of (b := 0) h1 nan0 (by rw [key0]; exact h2)
      go_enter Try.func12, Try.ntmps12
      go_wp2_with (first | (go_at_call 17; refine (refNaN_any _ _).mono ?_; rintro e w' ⟨rfl, rfl⟩; simp only [h1]))
      all_goals go_ret
      exact ⟨by rw [hp]; rfl, rfl⟩
    · have e1 := nlt_of (a := x) (b := 0) (.inr (.inr (by rw [key0]; exact h2)))
      have e2 := gt_of (a := x) (b := 4607182418800017408) h1 nanOne (by rw [keyOne]; exact h3)
      go_enter Try.func12, Try.ntmps12
      go_wp2_with (first | (go_at_call 17; refine (refNaN_any _ _).mono ?_; rintro e w' ⟨rfl, rfl⟩; simp only [h1]))
      all_goals go_ret
      exact ⟨by rw [hp]; rfl, rfl⟩
  · have e1 := nlt_of (a := x) (b := 0) (.inr (.inr (by rw [key0]; exact h2)))
    have e2 := ngt_of (a := x) (b := 4607182418800017408) (.inr (.inr (by rw [keyOne]; exact h3)))
    obtain ⟨a, b, q1, q2, q3, -, -⟩ := Wf.pct_ok hx hp
    have r1 := mul_run q1 22
    have r2 := add_run q2 22
    have r3 := conv_run q3
    go_enter Try.func12, Try.ntmps12
    go_wp2_with (first | (go_at_call 17; refine (refNaN_any _ _).mono ?_; rintro e w' ⟨rfl, rfl⟩; simp only [h1]) | simp only [r1] | simp only [r2] | simp only [r3])
    all_goals go_ret
    exact ⟨rfl, rfl⟩

end Go.Proofs.Ytdebkkojeemlbaa
