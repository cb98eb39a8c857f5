/-
  The statements' own wakes returns true.
-/
import Derived.Test.YtfejabeifabdlaaFkeep
namespace Go.Proofs.Ytfejabeifabdlaa
open Go.RowKit

def wk : Wk.Cmd := ⟨5, 0, 0, 7, 0, 0, 0, 0, []⟩
theorem wk_cmd : Wk.cmdB wk = true := by decide
theorem wk_len : (Wk.frame 3 wk).length = 24 := by rw [Wk.frame_length]; rfl
theorem wk_pay : (Wk.pay wk).length = 4 := rfl
theorem c0_no : Wk.cmdE Wk.c0 = 1 := by decide
theorem c0_held : Wk.Held Wk.c0 := by unfold Wk.Held Wk.I64 Wk.c0; simp

/-- What the frame of wk says, with a byte behind. -/
def Wkx (X : List Int) : Prop := X.length = 24 ∧ Wk.parE (X ++ [9]) = 0 ∧ Wk.par (X ++ [9]) = wk ∧ Wk.parQ (X ++ [9]) = 3 ∧ Wk.parZ (X ++ [9]) = 24

theorem wkx : Wkx (Wk.frame 3 wk) := by
  have h := Wk.par_frame (q := 3) (c := wk) [9] (by omega) wk_cmd (by simp [wk])
  rw [wk_len] at h
  exact ⟨wk_len, h.1, h.2.1, h.2.2.1, h.2.2.2⟩

theorem bytes9_wk (w : World) :
    Calls Try.prog 12 #[.int .i64 3, .agg #[.int .i64 5, .int .i64 0, .int .i64 0, .int .i64 7, .int .i64 0, .int .i64 0, .int .i64 0, .int .i64 0, .slice none 0 0]] w fun e w' => ∃ g k X, e = .returned (.tuple #[.slice (some ⟨g, 0, none⟩) 24 k, .int .i64 0]) ∧ Wc.Bs w' (.slice (some ⟨g, 0, none⟩) 24 k) X ∧ Wkx X ∧ Below w.heap.size w w' := by
  refine (bytes9_ok 3 wk none 0 w (Wc.Bs.nil w) (.inl rfl) wk_cmd (by omega)).mono ?_
  rintro e w' ⟨g, k, rfl, hO, hb⟩
  rw [wk_len] at hO ⊢
  exact ⟨g, k, _, rfl, hO.bs, wkx, hb⟩

theorem payload_wk (w : World) :
    Calls Try.prog 11 #[.agg #[.int .i64 5, .int .i64 0, .int .i64 0, .int .i64 7, .int .i64 0, .int .i64 0, .int .i64 0, .int .i64 0, .slice none 0 0]] w fun e w' => ∃ g k, e = .returned (.tuple #[.slice (some ⟨g, 0, none⟩) 4 k, .int .i64 0]) ∧ Below w.heap.size w w' := by
  refine (payload_ok wk none 0 w (Wc.Bs.nil w) (.inl rfl) wk_cmd).mono ?_
  rintro e w' ⟨v, rfl, hO, hb⟩
  obtain ⟨g, k, rfl⟩ := Wc.ob_form hO (by rw [wk_pay]; omega)
  exact ⟨g, k, rfl, hb⟩

theorem parse_nil (w : World) :
    Calls Try.prog 13 #[.slice none 0 0] w fun e w' => e = .returned (.tuple #[.agg #[.int .i64 0, .int .i64 0, .int .i64 0, .int .i64 0, .int .i64 0, .int .i64 0, .int .i64 0, .int .i64 0, .slice none 0 0], .int .i64 0, .int .i64 0, .int .i64 16]) ∧ Below w.heap.size w w' :=
  parse9_ext (.slice none 0 0) [] w (Wc.Bs.nil w) (by decide)

theorem parse_wk (v : Value) (X : List Int) (w : World) (hv : Wc.Bs w v (X ++ [9])) (hX : Wkx X) :
    Calls Try.prog 13 #[v] w fun e w' => ∃ a k, e = .returned (.tuple #[.agg #[.int .i64 5, .int .i64 0, .int .i64 0, .int .i64 7, .int .i64 0, .int .i64 0, .int .i64 0, .int .i64 0, .slice a 0 k], .int .i64 3, .int .i64 24, .int .i64 0]) ∧ Wc.Bs w' (.slice a 0 k) [] ∧ Below w.heap.size w w' := by
  refine (parse9_any v _ w hv).mono ?_
  rintro e w' ⟨a, k, rfl, hO, hb⟩
  obtain ⟨_, e1, e2, e3, e4⟩ := hX
  rw [e2] at hO
  rw [e1, e2, e3, e4]
  exact ⟨a, k, rfl, hO.bs, hb⟩

theorem keep_wk (v u : Value) (w : World) (hv : Wc.Bs w v []) (hu : Wc.Bs w u []) :
    Calls Try.prog 15 #[.agg #[.int .i64 5, .int .i64 0, .int .i64 0, .int .i64 7, .int .i64 0, .int .i64 0, .int .i64 0, .int .i64 0, v], .agg #[.int .i64 5, .int .i64 0, .int .i64 0, .int .i64 7, .int .i64 0, .int .i64 0, .int .i64 0, .int .i64 0, u]] w fun e w' => e = .returned (.bool true) ∧ Below w.heap.size w w' := by
  have := keepCmd_any wk wk v u w hv hu
  rw [Wk.eqB_self] at this
  exact this

theorem check_c0 (w : World) :
    Calls Try.prog 18 #[.agg #[.int .i64 0, .int .i64 0, .int .i64 0, .int .i64 0, .int .i64 0, .int .i64 0, .int .i64 0, .int .i64 0, .slice none 0 0]] w fun e w' => e = .returned (.int .i64 1) ∧ Below w.heap.size w w' := by
  have := check9_any Wk.c0 none 0 w (by simp [Wk.c0]) c0_held
  rw [c0_no] at this
  exact this

set_option maxHeartbeats 3200000 in
theorem wakes_any (w : World) :
    Calls Try.prog 19 #[] w fun e w' => e = .returned (.bool true) ∧ Below w.heap.size w w' := by
  obtain ⟨i0, hi, hz0, hz1, hz2⟩ := info_parts Try.infoU8
  go_enter Try.func19, Try.ntmps19
  go_wp2_with fail
  refine (bytes9_wk _).mono ?_
  rintro e w1 ⟨g1, k1, X, rfl, hX, hx, hb1⟩
  have A1 := Wc.hid ((Wk.Ch.new w wk (.slice none 0 0)).keep hb1)
  have B1 := Wc.hid (Wc.step ((Below.refl w.heap.size w).alloc (Nat.le_refl _) _) (Nat.le_refl _) hb1)
  have HX := Wc.hid hX
  have HW := Wc.hid hx
  clear hX hx hb1
  go_wp2_with fail
  refine (twin_ob _ X _ HX.out (.inr ⟨_, _, _, rfl⟩)).mono ?_
  rintro e w2 ⟨v2, rfl, hO2, hb2⟩
  obtain ⟨g2, k2, rfl⟩ := Wc.ob_form hO2 (by have := HW.out.1; omega)
  rw [HW.out.1] at hO2 ⊢
  have hal := (Below.refl w2.heap.size w2).alloc (Nat.le_refl _) (.cells #[.int .u8 9] 5)
  have hlit : Wc.Bs (w2.alloc (.cells #[.int .u8 9] 5)) (.slice (some ⟨w2.heap.size, 0, none⟩) 1 1) [9] := Wc.Bs.lit w2 #[.int .u8 9] 5 1 [9] rfl (by omega) rfl (by decide)
  obtain ⟨v3, w3, hrun, hO3, hb3⟩ := Wc.append_run (P := Try.prog) (ty := 22) Try.underlying22 hi hz0 hz1 hz2 (hO2.keep hal) hlit (.inr ⟨_, _, _, rfl⟩) (by have := HW.out.1; simp; omega) (Nat.le_trans hb2.size hal.size)
  have V3 := Wc.hid hO3.bs
  have hB3 := B1.out.trans (((hb2.trans (hal.mono hb2.size)).trans hb3).mono B1.out.size)
  have B3 := Wc.hid hB3
  have A3 := Wc.hid (A1.out.below ((hb2.trans (hal.mono hb2.size)).trans hb3) A1.out.lt)
  clear hO2 hb2 hal hlit hO3 hb3 hB3 A1 B1 hi hz0 hz1 hz2
  go_wp2_with (at_builtin; refine Wc.wp_append hrun rfl rfl rfl rfl ?_)
  clear hrun
  refine (parse_wk _ X _ V3.out HW.out).mono ?_
  rintro e w4 ⟨a4, k4, rfl, hN4, hb4⟩
  have A4 := Wc.hid (A3.out.keep hb4)
  have B4 := Wc.hid (Wc.step B3.out (Nat.le_refl _) hb4)
  have N4 := Wc.hid hN4
  have D4 := Wc.hid (Wk.Ch.new w4 wk (.slice a4 0 k4))
  have AL4 := Wc.hid ((Below.refl w4.heap.size w4).alloc (Nat.le_refl _) (.cells #[.int .i64 5, .int .i64 0, .int .i64 0, .int .i64 7, .int .i64 0, .int .i64 0, .int .i64 0, .int .i64 0, .slice a4 0 k4] 24))
  clear hN4 hb4 A3 B3 V3
  go_wp2_with fail
  refine (parse_nil _).mono ?_
  rintro e w5 ⟨rfl, hb5⟩
  have hb5' := AL4.out.trans (hb5.mono AL4.out.size)
  have A5 := Wc.hid (A4.out.keep hb5')
  have D5 := Wc.hid (D4.out.keep hb5)
  have N5 := Wc.hid (N4.out.keep hb5')
  have B5 := Wc.hid (Wc.step B4.out (Nat.le_refl _) hb5')
  have AL5 := Wc.hid ((Below.refl w5.heap.size w5).alloc (Nat.le_refl _) (.cells #[.int .i64 0, .int .i64 0, .int .i64 0, .int .i64 0, .int .i64 0, .int .i64 0, .int .i64 0, .int .i64 0, .slice none 0 0] 24))
  have A6 := Wc.hid (A5.out.keep AL5.out)
  have D6 := Wc.hid (D5.out.keep AL5.out)
  have N6 := Wc.hid (N5.out.keep AL5.out)
  have B6 := Wc.hid (Wc.step B5.out (Nat.le_refl _) AL5.out)
  clear hb5 hb5' A4 D4 N4 B4 AL4 A5 D5 N5 B5 AL5
  have ⟨a0, a1, a2, a3, a4', a5, a6, a7, a8⟩ := A6.out.cc
  go_wp2_with fail
  refine (payload_wk _).mono ?_
  rintro e w7 ⟨g7, k7, rfl, hb7⟩
  have A7 := Wc.hid (A6.out.keep hb7)
  have D7 := Wc.hid (D6.out.keep hb7)
  have N7 := Wc.hid (N6.out.keep hb7)
  have B7 := Wc.hid (Wc.step B6.out (Nat.le_refl _) hb7)
  clear hb7 A6 D6 N6 B6 a0 a1 a2 a3 a4' a5 a6 a7 a8
  have ⟨a0, a1, a2, a3, a4', a5, a6, a7, a8⟩ := A7.out.cc
  have ⟨d0, d1, d2, d3, d4, d5, d6, d7, d8⟩ := D7.out.cc
  go_wp2_with fail
  refine (keep_wk _ _ _ (Wc.Bs.nil _) N7.out).mono ?_
  rintro e w8 ⟨rfl, hb8⟩
  have B8 := Wc.hid (Wc.step B7.out (Nat.le_refl _) hb8)
  clear hb8 a0 a1 a2 a3 a4' a5 a6 a7 a8 d0 d1 d2 d3 d4 d5 d6 d7 d8
  go_wp2_with fail
  refine (check_c0 _).mono ?_
  rintro e w9 ⟨rfl, hb9⟩
  have B9 := Wc.hid (Wc.step B8.out (Nat.le_refl _) hb9)
  clear hb9
  go_wp2_with fail
  go_ret
  exact ⟨rfl, B9.out⟩

end Go.Proofs.Ytfejabeifabdlaa
