/-
  What gauge.Share returns, to the bit, for every two words of float64.
-/
import Derived.Test.YtdebkkojeemlbaaGshare
namespace Wf

/-- The share as gauge tells it. -/
def shareG (a b : Nat) : Nat :=
  if bad a b = true then 9221120237041090561 else if key b ≤ key a then ONE else if key a = 0 then 0 else (Ieee.double.div a b).getD 0

end Wf
namespace Go.Proofs.Ytdebkkojeemlbaa
open Go.RowKit

set_option maxHeartbeats 800000 in
theorem share_det (a b : Nat) (ha : a < Wf.M64) (hb : b < Wf.M64) (w : World) :
    Calls Try.prog 9 #[.float .f64 a, .float .f64 b] w fun e w' => e = .returned (.float .f64 (Wf.shareG a b)) ∧ w = w' := by
  rcases bad_cases a b with ⟨hc, hbad⟩ | ⟨⟨h1, h2, h3, h4⟩, hbad⟩
  · rcases hc with h1 | ⟨h1, h2⟩ | ⟨h1, h2, h3⟩ | ⟨h1, h2, h3, h4⟩
    · go_enter Try.func9, Try.ntmps9
      go_wp2_with (first | (go_at_call 19; refine (isNaN_any _ _).mono ?_; rintro e w' ⟨rfl, rfl⟩; simp only [h1]) | (go_at_call 20; refine (mathNaN_any _).mono ?_; rintro e w' ⟨rfl, rfl⟩))
      all_goals go_ret
      exact ⟨by rw [Wf.shareG, if_pos hbad]; rfl, rfl⟩
    · go_enter Try.func9, Try.ntmps9
      go_wp2_with (first | (go_at_call 19; refine (isNaN_any _ _).mono ?_; rintro e w' ⟨rfl, rfl⟩; simp only [h1, h2]) | (go_at_call 20; refine (mathNaN_any _).mono ?_; rintro e w' ⟨rfl, rfl⟩))
      all_goals go_ret
      exact ⟨by rw [Wf.shareG, if_pos hbad]; rfl, rfl⟩
    · have e1 := lt_of (b := 0) h1 nan0 (by rw [key0]; exact h3)
      go_enter Try.func9, Try.ntmps9
      go_wp2_with (first | (go_at_call 19; refine (isNaN_any _ _).mono ?_; rintro e w' ⟨rfl, rfl⟩; simp only [h1, h2]) | (go_at_call 20; refine (mathNaN_any _).mono ?_; rintro e w' ⟨rfl, rfl⟩))
      all_goals go_ret
      exact ⟨by rw [Wf.shareG, if_pos hbad]; rfl, rfl⟩
    · have e1 := nlt_of (a := a) (b := 0) (.inr (.inr (by rw [key0]; exact h3)))
      have e2 : (FloatKind.f64.format.order b 0 == some .lt || FloatKind.f64.format.order b 0 == some .eq) = true := by
        by_cases hk : Wf.key b = 0
        · rw [eq_of h2 nan0 hk, Bool.or_true]
        · rw [lt_of (b := 0) h2 nan0 (by rw [key0]; omega), Bool.true_or]
      go_enter Try.func9, Try.ntmps9
      go_wp2_with (first | (go_at_call 19; refine (isNaN_any _ _).mono ?_; rintro e w' ⟨rfl, rfl⟩; simp only [h1, h2]) | (go_at_call 20; refine (mathNaN_any _).mono ?_; rintro e w' ⟨rfl, rfl⟩))
      all_goals go_ret
      exact ⟨by rw [Wf.shareG, if_pos hbad]; rfl, rfl⟩
  · have e1 := nlt_of (a := a) (b := 0) (.inr (.inr (by rw [key0]; exact h3)))
    have e2 : (FloatKind.f64.format.order b 0 == some .lt) = false := nlt_of (.inr (.inr (by rw [key0]; omega)))
    have e3 : (FloatKind.f64.format.order b 0 == some .eq) = false := neq_of (.inr (.inr (by rw [key0]; omega)))
    by_cases c1 : Wf.key b ≤ Wf.key a
    · have e4 : (FloatKind.f64.format.order a b == some .gt || FloatKind.f64.format.order a b == some .eq) = true := by
        by_cases hk : Wf.key a = Wf.key b
        · rw [eq_of h1 h2 hk, Bool.or_true]
        · rw [gt_of h1 h2 (by omega), Bool.true_or]
      go_enter Try.func9, Try.ntmps9
      go_wp2_with (first | (go_at_call 19; refine (isNaN_any _ _).mono ?_; rintro e w' ⟨rfl, rfl⟩; simp only [h1, h2]))
      all_goals go_ret
      exact ⟨by rw [Wf.shareG, hbad, if_neg (by decide), if_pos c1]; rfl, rfl⟩
    · have e4 : (FloatKind.f64.format.order a b == some .gt) = false := ngt_of (.inr (.inr (by omega)))
      have e5 : (FloatKind.f64.format.order a b == some .eq) = false := neq_of (.inr (.inr (by omega)))
      by_cases c2 : Wf.key a = 0
      · have e6 := eq_of (b := 0) h1 nan0 c2
        go_enter Try.func9, Try.ntmps9
        go_wp2_with (first | (go_at_call 19; refine (isNaN_any _ _).mono ?_; rintro e w' ⟨rfl, rfl⟩; simp only [h1, h2]))
        all_goals go_ret
        exact ⟨by rw [Wf.shareG, hbad, if_neg (by decide), if_neg (by omega), if_pos c2]; rfl, rfl⟩
      · have e6 : (FloatKind.f64.format.order a 0 == some .eq) = false := neq_of (.inr (.inr c2))
        obtain ⟨-, -, -, g4, g5, g6, g7⟩ := Wf.good_parts ha hb hbad
        obtain ⟨k1, k2, k3⟩ := g7 (by omega)
        obtain ⟨r, hr, hle⟩ := Wf.div_le_one k2 (by omega : a < b) g4
        have hq := quo_run hr 22
        go_enter Try.func9, Try.ntmps9
        go_wp2_with (first | (go_at_call 19; refine (isNaN_any _ _).mono ?_; rintro e w' ⟨rfl, rfl⟩; simp only [h1, h2]) | simp only [hq])
        all_goals go_ret
        exact ⟨by rw [Wf.shareG, hbad, if_neg (by decide), if_neg (by omega), if_neg c2, hr]; rfl, rfl⟩

end Go.Proofs.Ytdebkkojeemlbaa
