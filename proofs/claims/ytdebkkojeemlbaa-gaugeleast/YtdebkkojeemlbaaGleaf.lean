/-
  What the small tests of package math and of the page's answer return, for every word of float64.
-/
import Derived.Test.YtdebkkojeemlbaaRows
import Derived.Test.YtdebkkojeemlbaaFlt5
import Derived.WalkKit
import Derived.WalkSpells
import Derived.WalkLawsBesides
import Derived.Laws.Externs
namespace Go.Proofs.Ytdebkkojeemlbaa
open Go.RowKit

theorem ret_bool {a b : Bool} (h : a = b) : Ending.returned (.bool a) = .returned (.bool b) := by rw [h]

theorem lt_eq (x y : Nat) : (FloatKind.f64.format.order x y == some .lt) = (!Wf.nan x && !Wf.nan y && decide (Wf.key x < Wf.key y)) := Wf.o_lt x y
theorem gt_eq (x y : Nat) : (FloatKind.f64.format.order x y == some .gt) = (!Wf.nan x && !Wf.nan y && decide (Wf.key y < Wf.key x)) := Wf.o_gt x y
theorem eq_eq (x y : Nat) : (FloatKind.f64.format.order x y == some .eq) = (!Wf.nan x && !Wf.nan y && decide (Wf.key x = Wf.key y)) := Wf.o_eq x y
theorem ne_self (x : Nat) : (FloatKind.f64.format.order x x != some .eq) = Wf.nan x := by
  unfold bne; rw [eq_eq]; cases Wf.nan x <;> simp

theorem isNaN_any (x : Nat) (w : World) :
    Calls Try.prog 19 #[.float .f64 x] w fun e w' => e = .returned (.bool (Wf.nan x)) ∧ w = w' := by
  go_enter Try.func19, Try.ntmps19
  go_wp2
  all_goals go_ret
  exact ⟨ret_bool (ne_self x), rfl⟩

theorem refNaN_any (x : Nat) (w : World) :
    Calls Try.prog 17 #[.float .f64 x] w fun e w' => e = .returned (.bool (Wf.nan x)) ∧ w = w' := by
  go_enter Try.func17, Try.ntmps17
  go_wp2
  all_goals go_ret
  exact ⟨ret_bool (ne_self x), rfl⟩

theorem frombits_run (n : Int) (w : World) : (callFunc 24 #[.int .u64 n]).run Try.prog w = .ok (.value (.float .f64 n.toNat)) w := by
  rw [run_callFunc_extern (e := Extern.MathFloatBits.float64frombits) Try.func24 (by kernel_rfl) (by kernel_rfl) (by kernel_rfl) (by kernel_rfl)]
  rfl

theorem bits_run (x : Nat) (w : World) : (callFunc 25 #[.float .f64 x]).run Try.prog w = .ok (.value (.int .u64 x)) w := by
  rw [run_callFunc_extern (e := Extern.MathFloatBits.float64bits) Try.func25 (by kernel_rfl) (by kernel_rfl) (by kernel_rfl) (by kernel_rfl)]
  rfl

theorem mathNaN_any (w : World) :
    Calls Try.prog 20 #[] w fun e w' => e = .returned (.float .f64 9221120237041090561) ∧ w = w' := by
  have h := frombits_run 9221120237041090561
  go_enter Try.func20, Try.ntmps20
  go_wp2
  all_goals go_ret
  exact ⟨rfl, rfl⟩

theorem signbit_any (x : Nat) (w : World) :
    Calls Try.prog 23 #[.float .f64 x] w fun e w' => e = .returned (.bool (Wf.sg x)) ∧ w = w' := by
  have h := bits_run x
  go_enter Try.func23, Try.ntmps23
  go_wp2
  all_goals go_ret
  refine ⟨ret_bool ?_, rfl⟩
  rw [Bool.eq_iff_iff]
  unfold Wf.sg wrap64
  simp
  omega

theorem quo_run {a b r : Nat} (h : Ieee.double.div a b = some r) (t : TypeId) (w : World) : (binOp .quo t (.float .f64 a) (.float .f64 b)).run Try.prog w = .ok (.float .f64 r) w :=
  run_float_arith w .quo t .f64 a b r h
theorem mul_run {a b r : Nat} (h : Ieee.double.mul a b = some r) (t : TypeId) (w : World) : (binOp .mul t (.float .f64 a) (.float .f64 b)).run Try.prog w = .ok (.float .f64 r) w :=
  run_float_arith w .mul t .f64 a b r h
theorem add_run {a b r : Nat} (h : Ieee.double.add a b = some r) (t : TypeId) (w : World) : (binOp .add t (.float .f64 a) (.float .f64 b)).run Try.prog w = .ok (.float .f64 r) w :=
  run_float_arith w .add t .f64 a b r h
theorem nan_bits (s q : Nat) (hs : s < 2) (hq : q < 2 ^ 52 - 1) : Wf.INF < (s * 2 ^ 63 + 0x7ff0000000000000 + 1 + q) % 9223372036854775808 := by
  have h : s = 0 ∨ s = 1 := by omega
  have := Wf.INF_eq
  rcases h with rfl | rfl <;> omega
theorem quo_none {a b : Nat} (h : Ieee.double.div a b = none) (t : TypeId) (w : World) :
    ∃ r, (binOp .quo t (.float .f64 a) (.float .f64 b)).run Try.prog w = .ok (.float .f64 r) w.drew ∧ Wf.nan r = true ∧ r < 18446744073709551616 := by
  refine ⟨(Question.nanBits .f64 a b).cut (w.tape w.drawn (.nanBits .f64 a b)), ?_, ?_, ?_⟩
  · have h' : FloatKind.f64.format.div a b = none := h
    simp [binOp, Op.floatArith, h', Question.forced]
  · unfold Wf.nan Wf.rg
    rw [decide_eq_true_iff]
    simp only [Question.cut]
    generalize w.tape w.drawn (Question.nanBits FloatKind.f64 a b) = t
    exact nan_bits (t % 2) (t / 2 % (2 ^ 52 - 1)) (Nat.mod_lt _ (by omega)) (Nat.mod_lt _ (by omega))
  · simp only [Question.cut]
    omega

theorem none_any (w : World) :
    Calls Try.prog 21 #[] w fun e w' => ∃ r, e = .returned (.float .f64 r) ∧ Wf.nan r = true ∧ r < 18446744073709551616 ∧ w' = w.drew := by
  obtain ⟨r, hr, hn, hl⟩ := quo_none (a := 0) (b := 0) (by decide +kernel) 22 w
  go_enter Try.func21, Try.ntmps21
  go_wp2_with (simp only [hr])
  all_goals go_ret
  exact ⟨r, rfl, hn, hl, rfl⟩

set_option maxHeartbeats 400000 in
theorem refSigned_any (x : Nat) (w : World) :
    Calls Try.prog 18 #[.float .f64 x] w fun e w' => e = .returned (.bool (!Wf.nan x && Wf.sg x)) ∧ w = w' := by
  have e1 : (FloatKind.f64.format.order x 0 == some .lt) = (!Wf.nan x && decide (Wf.key x < 0)) := by rw [lt_eq]; simp [show Wf.nan 0 = false from rfl, show Wf.key 0 = 0 from rfl]
  have e2 : (FloatKind.f64.format.order x 0 == some .eq) = (!Wf.nan x && decide (Wf.key x = 0)) := by rw [eq_eq]; simp [show Wf.nan 0 = false from rfl, show Wf.key 0 = 0 from rfl]
  cases hn : Wf.nan x with
  | true =>
    rw [hn] at e1 e2
    simp only [Bool.not_true, Bool.false_and] at e1 e2
    go_enter Try.func18, Try.ntmps18
    go_wp2
    all_goals go_ret
    exact ⟨rfl, rfl⟩
  | false =>
    rw [hn] at e1 e2
    rcases Int.lt_trichotomy (Wf.key x) 0 with hk | hk | hk
    · have hs := (Wf.key_neg_iff x).1 hk
      have e1' : (FloatKind.f64.format.order x 0 == some .lt) = true := by rw [e1]; simp [hk]
      clear e1 e2
      go_enter Try.func18, Try.ntmps18
      go_wp2
      all_goals go_ret
      exact ⟨ret_bool (by rw [hs.1]; rfl), rfl⟩
    · have e1' : (FloatKind.f64.format.order x 0 == some .lt) = false := by rw [e1]; simp [hk]
      have e2' : (FloatKind.f64.format.order x 0 == some .eq) = true := by rw [e2]; simp [hk]
      have hq := quo_run (Wf.one_div_zero ((Wf.key_zero_iff x).1 hk)) 22
      have e3 : (FloatKind.f64.format.order (Ieee.double.word (Wf.sg x) Wf.INF) 0 == some .lt) = Wf.sg x := by
        rw [lt_eq, Wf.nan_word_inf, Wf.key_word_inf]
        cases Wf.sg x <;> decide
      clear e1 e2
      go_enter Try.func18, Try.ntmps18
      go_wp2_with (simp only [hq])
      all_goals go_ret
      exact ⟨ret_bool rfl, rfl⟩
    · have hs := (Wf.key_pos_iff x).1 hk
      have e1' : (FloatKind.f64.format.order x 0 == some .lt) = false := by rw [e1]; simp; omega
      have e2' : (FloatKind.f64.format.order x 0 == some .eq) = false := by rw [e2]; simp; omega
      clear e1 e2
      go_enter Try.func18, Try.ntmps18
      go_wp2
      all_goals go_ret
      exact ⟨ret_bool (by rw [hs.1]; rfl), rfl⟩

end Go.Proofs.Ytdebkkojeemlbaa
