/-
  The statements' own wakes returns true.
-/
import Derived.Test.YtdebkkojeemlbaaGshare
import Derived.Test.YtdebkkojeemlbaaGleast
namespace Go.Proofs.Ytdebkkojeemlbaa
open Go.RowKit

theorem share_quarter {r : Nat} (h : Wf.IsShare 4607182418800017408 4616189618054758400 r) : r = 4598175219545276416 := by
  obtain ⟨_, h⟩ := h
  rw [if_neg (by decide), if_neg (by decide), if_neg (by decide)] at h
  have : Ieee.double.div 4607182418800017408 4616189618054758400 = some 4598175219545276416 := by decide +kernel
  rw [this] at h
  exact (Option.some.inj h).symm

theorem least_two {r : Nat} (h : Wf.IsLeast [4613937818241073152, 4611686018427387904] r) : r = 4611686018427387904 := by
  obtain ⟨_, h⟩ := h
  rcases h with ⟨_, h⟩ | ⟨_, h1, h2⟩
  · have := h 4611686018427387904 (by simp)
    exact absurd this (by decide)
  · rcases List.mem_cons.1 h1 with h1 | h1
    · subst h1
      exact absurd (h2 4611686018427387904 (by simp) (by decide)) (by decide)
    · exact List.mem_singleton.1 h1

theorem p25 : Wf.pct 4598175219545276416 = 25 := by decide +kernel
theorem pm1 : Wf.pct 13830554455654793216 = -1 := by decide +kernel
theorem q25 : (FloatKind.f64.format.order 4598175219545276416 4598175219545276416 == some .eq) = true := by decide +kernel
theorem q2 : (FloatKind.f64.format.order 4611686018427387904 4611686018427387904 == some .eq) = true := by decide +kernel
theorem s11 : Wf.sameB 4607182418800017408 4607182418800017408 = true := by decide
theorem s12 : Wf.sameB 4607182418800017408 4611686018427387904 = false := by decide

set_option maxHeartbeats 800000 in
theorem wakes_any (w : World) :
    Calls Try.prog 16 #[] w fun e w' => e = .returned (.bool true) ∧ Below w.heap.size w w' := by
  have c1 := q25
  have c2 := q2
  have HR : Hid (Wv.Rv Wv.fl 0 (w.alloc (.cells #[.float .f64 4613937818241073152, .float .f64 4611686018427387904] 22)) (.slice (some ⟨w.heap.size, 0, none⟩) 2 2) [4613937818241073152, 4611686018427387904]) :=
    Wv.hid (Wv.Rv.lit w _ 22 2 _ rfl (by omega) rfl)
  go_enter Try.func16, Try.ntmps16
  go_wp2_with (first | (go_at_call 9; refine (share_any _ _ (by decide) (by decide) _).mono ?_; rintro e w' ⟨r, rfl, hr, rfl⟩; obtain rfl := share_quarter hr; clear hr) | (go_at_call 11; refine (percent_any _ (by decide) _).mono ?_; rintro e w' ⟨rfl, rfl⟩; simp only [p25, pm1]) | (go_at_call 13; refine (least_any _ _ _ HR.out (by decide)).mono ?_; rintro e w' ⟨r, rfl, hr, rfl⟩; obtain rfl := least_two hr; clear hr) | (go_at_call 15; refine (same_any _ _ _).mono ?_; rintro e w' ⟨rfl, rfl⟩; simp only [s11, s12]))
  all_goals go_ret
  exact ⟨rfl, (Below.refl _ _).alloc (Nat.le_refl _) _⟩

end Go.Proofs.Ytdebkkojeemlbaa
