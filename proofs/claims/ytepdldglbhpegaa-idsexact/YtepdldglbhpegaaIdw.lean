/-
  The statements' own wakes returns true; what Text and Parse return at the texts that the statements write out.
-/
import Derived.Test.YtepdldglbhpegaaIdt
namespace Go.Proofs.Ytepdldglbhpegaa
open Go.RowKit

theorem text_255 (w : World) : Calls Try.prog 6 #[.int .i64 255] w fun e w' => e = .returned (.tuple #[.string ⟨#[48, 48, 48, 48, 48, 48, 48, 48, 48, 48, 48, 48, 48, 48, 102, 102]⟩, .int .i64 0]) ∧ Below w.heap.size w w' :=
  text_in 255 w (by omega) (by omega)

theorem par_255 : Wh.par (ByteArray.mk #[48, 48, 48, 48, 48, 48, 48, 48, 48, 48, 48, 48, 48, 48, 102, 102]).data.toList = (255, 0) := by decide
theorem par_ff : Wh.par (ByteArray.mk #[102, 102]).data.toList = (0, 1) := by decide
theorem chk_0 : chk 0 = 1 := by decide

set_option maxHeartbeats 800000 in
theorem wakes_any (w : World) :
    Calls Try.prog 12 #[] w fun e w' => e = .returned (.bool true) ∧ Below w.heap.size w w' := by
  have HR : ∀ w : World, Hid (Wv.Rv (Value.int .i64) 0 (w.alloc (.cells #[.int .i64 1, .int .i64 2] 3)) (.slice (some ⟨w.heap.size, 0, none⟩) 2 2) [1, 2]) :=
    fun w => Wv.hid (Wv.Rv.lit w _ 3 2 _ rfl (by omega) rfl)
  have h12 : decide ((2 : Int) ∈ [(1 : Int), 2]) = true := by decide
  go_enter Try.func12, Try.ntmps12
  go_wp2_with (first | (go_at_call 6; refine (text_255 _).mono ?_; rintro e w1 ⟨rfl, hb1⟩) | (go_at_call 7; refine (parse_any _ _).mono ?_; rintro e w' ⟨rfl, rfl⟩; first | rw [par_255] | rw [par_ff]) | (go_at_call 9; refine (has_any _ [1, 2] _ _ (HR _).out).mono ?_; rintro e w' ⟨rfl, rfl⟩; simp only [h12]) | (go_at_call 11; refine (check_any _ _).mono ?_; rintro e w' ⟨rfl, rfl⟩; simp only [chk_0]))
  all_goals go_ret
  exact ⟨rfl, hb1.alloc hb1.size _⟩

end Go.Proofs.Ytepdldglbhpegaa
