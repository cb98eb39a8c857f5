/-
  The statements' own wakes returns true.
-/
import Derived.Test.YtiobegoiehjfiaaGreatLc
namespace Go.Proofs.YtiobegoiehjfiaaGreat
open Go.RowKit

set_option maxRecDepth 100000 in
set_option maxHeartbeats 6400000 in
theorem wakes_any (w : World) : Calls Tryz.prog 16 #[] w fun e w' => e = .returned (.bool true) ∧ Below w.heap.size w w' := by
  go_enter Tryz.func16, Tryz.ntmps16
  go_wp2_with fail
  have bA : Below w.heap.size w (w.alloc (.cells #[.int .i64 1, .int .i64 1, .int .i64 0, .int .i64 2, .int .i64 0] 3)) := (Below.refl _ _).alloc (Nat.le_refl _) _
  have hA : Wd.In (w.alloc (.cells #[.int .i64 1, .int .i64 1, .int .i64 0, .int .i64 2, .int .i64 0] 3)) (.slice (some ⟨w.heap.size, 0, none⟩) 5 5) [1, 1, 0, 2, 0] := Wv.Rv.lit w _ 3 5 _ rfl (by decide) rfl
  have BA := Wc.hid bA
  refine (free13_any _ _ _ _ _ hA).mono ?_
  rintro e w1 ⟨hb1, hy, -⟩
  obtain ⟨a1, n1, c1, rfl, hO1⟩ := hy (by decide)
  rw [show Wl.fre [1, 1, 0, 2, 0] 5 = [2, 4] by decide] at hO1
  obtain rfl : n1 = 2 := (Wv.rv_len (val := Value.int .i64) (d := (0 : Int)) hO1.rv).symm
  have L1 : Hid (Wd.In w1 (.slice a1 2 c1) [2, 4]) := Wc.hid hO1.rv
  have B1 := Wc.hid (Wc.step BA.out (Nat.le_refl _) hb1)
  clear hy hb1 hO1 bA hA
  go_wp2_with fail
  refine (take_yes a1 2 c1 1 [2, 4] _ L1.out (by decide)).mono ?_
  rintro e w2 ⟨hb2, g2, h2, rfl, hO2, hO2'⟩
  have L2 := Wc.hid (L1.out.keep hb2)
  have P2 : Hid (Wd.In w2 (.slice (some ⟨g2, 0, none⟩) 1 1) [2]) := Wc.hid hO2.rv
  have Q2 : Hid (Wd.In w2 (.slice (some ⟨h2, 0, none⟩) 1 1) [4]) := Wc.hid hO2'.rv
  have B2 := Wc.hid (Wc.step B1.out (Nat.le_refl _) hb2)
  clear hb2 hO2 hO2'
  go_wp2_with fail
  have b3 : Below w2.heap.size w2 (w2.alloc (.cells #[.int .i64 1, .int .i64 0] 3)) := (Below.refl _ _).alloc (Nat.le_refl _) _
  have h3 : Wd.In (w2.alloc (.cells #[.int .i64 1, .int .i64 0] 3)) (.slice (some ⟨w2.heap.size, 0, none⟩) 2 2) [1, 0] := Wv.Rv.lit w2 _ 3 2 _ rfl (by decide) rfl
  have B3 := Wc.hid b3
  refine (more13_any _ _ _ [1, 0] 1 _ h3).mono ?_
  rintro e w3 ⟨hb3, hy, -⟩
  obtain ⟨g3, rfl, -, hO3⟩ := hy (by decide)
  have b3' := Wc.step B3.out (Nat.le_refl _) hb3
  have L3 := Wc.hid (L2.out.keep b3')
  have P3 := Wc.hid (P2.out.keep b3')
  have Q3 := Wc.hid (Q2.out.keep b3')
  have R3 : Hid (Wd.In w3 (.slice (some ⟨g3, 0, none⟩) 2 2) [1, 1]) := Wc.hid hO3.rv
  have B3' := Wc.hid (Wc.step B2.out (Nat.le_refl _) b3')
  clear hy hb3 hO3 h3 b3 b3' B3
  go_wp2_with fail
  have b4 : Below w3.heap.size w3 (w3.alloc (.cells #[.int .i64 1, .int .i64 0] 3)) := (Below.refl _ _).alloc (Nat.le_refl _) _
  have h4 : Wd.In (w3.alloc (.cells #[.int .i64 1, .int .i64 0] 3)) (.slice (some ⟨w3.heap.size, 0, none⟩) 2 2) [1, 0] := Wv.Rv.lit w3 _ 3 2 _ rfl (by decide) rfl
  have B4 := Wc.hid b4
  refine (less13_any _ _ _ [1, 0] 1 _ h4).mono ?_
  rintro e w4 ⟨hb4, -, hy⟩
  obtain rfl := hy (by decide)
  rw [show Wl.movE [1, 0] 1 0 = 1 by decide]
  have b4' := Wc.step B4.out (Nat.le_refl _) hb4
  have L4 := Wc.hid (L3.out.keep b4')
  have P4 := Wc.hid (P3.out.keep b4')
  have Q4 := Wc.hid (Q3.out.keep b4')
  have R4 := Wc.hid (R3.out.keep b4')
  have B4' := Wc.hid (Wc.step B3'.out (Nat.le_refl _) b4')
  clear hy hb4 h4 b4 b4' B4
  go_wp2_with fail
  refine (new8 _).mono ?_
  rintro e w5 ⟨g5, X, rfl, hX, ⟨o1, o2, o3⟩, hb5⟩
  have HX := Wc.hid hX
  have O1 := Wc.hid o1
  have O2 := Wc.hid o2
  have O3 := Wc.hid o3
  have L5 := Wc.hid (L4.out.keep hb5)
  have P5 := Wc.hid (P4.out.keep hb5)
  have Q5 := Wc.hid (Q4.out.keep hb5)
  have R5 := Wc.hid (R4.out.keep hb5)
  have B5 := Wc.hid (Wc.step B4'.out (Nat.le_refl _) hb5)
  clear hX hb5 o1 o2 o3
  go_wp2_with fail
  refine (left13_any _ X _ HX.out).mono ?_
  rintro e w6 ⟨hb6, hy, -⟩
  obtain rfl := hy O1.out
  rw [O2.out, O3.out, show ((Wl.fre (Wj.cts [0, 1] 8) 8).length : Nat) = 6 by decide]
  have L6 := Wc.hid (L5.out.keep hb6)
  have P6 := Wc.hid (P5.out.keep hb6)
  have Q6 := Wc.hid (Q5.out.keep hb6)
  have R6 := Wc.hid (R5.out.keep hb6)
  have B6 := Wc.hid (Wc.step B5.out (Nat.le_refl _) hb6)
  clear hy hb6
  go_wp2_with fail
  have c6 : Below w6.heap.size w6 (w6.alloc (.cells #[.int .i64 2, .int .i64 4] 3)) := (Below.refl _ _).alloc (Nat.le_refl _) _
  have d6 : Wd.In (w6.alloc (.cells #[.int .i64 2, .int .i64 4] 3)) (.slice (some ⟨w6.heap.size, 0, none⟩) 2 2) [2, 4] := Wv.Rv.lit w6 _ 3 2 _ rfl (by decide) rfl
  have C6 := Wc.hid c6
  refine (ints_any _ _ _ _ _ (L6.out.keep c6) d6).mono ?_
  rintro e w7 ⟨rfl, hb7⟩
  rw [show (([2, 4] : List Int) == [2, 4]) = true by decide]
  have c6' := Wc.step C6.out (Nat.le_refl _) hb7
  have P7 := Wc.hid (P6.out.keep c6')
  have Q7 := Wc.hid (Q6.out.keep c6')
  have R7 := Wc.hid (R6.out.keep c6')
  have B7 := Wc.hid (Wc.step B6.out (Nat.le_refl _) c6')
  clear c6 d6 c6' hb7 C6
  go_wp2_with fail
  have c7 : Below w7.heap.size w7 (w7.alloc (.cells #[.int .i64 2] 3)) := (Below.refl _ _).alloc (Nat.le_refl _) _
  have d7 : Wd.In (w7.alloc (.cells #[.int .i64 2] 3)) (.slice (some ⟨w7.heap.size, 0, none⟩) 1 1) [2] := Wv.Rv.lit w7 _ 3 1 _ rfl (by decide) rfl
  have C7 := Wc.hid c7
  refine (ints_any _ _ _ _ _ (P7.out.keep c7) d7).mono ?_
  rintro e w8 ⟨rfl, hb8⟩
  rw [show (([2] : List Int) == [2]) = true by decide]
  have c7' := Wc.step C7.out (Nat.le_refl _) hb8
  have Q8 := Wc.hid (Q7.out.keep c7')
  have R8 := Wc.hid (R7.out.keep c7')
  have B8 := Wc.hid (Wc.step B7.out (Nat.le_refl _) c7')
  clear c7 d7 c7' hb8 C7
  go_wp2_with fail
  have c8 : Below w8.heap.size w8 (w8.alloc (.cells #[.int .i64 4] 3)) := (Below.refl _ _).alloc (Nat.le_refl _) _
  have d8 : Wd.In (w8.alloc (.cells #[.int .i64 4] 3)) (.slice (some ⟨w8.heap.size, 0, none⟩) 1 1) [4] := Wv.Rv.lit w8 _ 3 1 _ rfl (by decide) rfl
  have C8 := Wc.hid c8
  refine (ints_any _ _ _ _ _ (Q8.out.keep c8) d8).mono ?_
  rintro e w9 ⟨rfl, hb9⟩
  rw [show (([4] : List Int) == [4]) = true by decide]
  have c8' := Wc.step C8.out (Nat.le_refl _) hb9
  have R9 := Wc.hid (R8.out.keep c8')
  have B9 := Wc.hid (Wc.step B8.out (Nat.le_refl _) c8')
  clear c8 d8 c8' hb9 C8
  go_wp2_with fail
  have c9 : Below w9.heap.size w9 (w9.alloc (.cells #[.int .i64 1, .int .i64 1] 3)) := (Below.refl _ _).alloc (Nat.le_refl _) _
  have d9 : Wd.In (w9.alloc (.cells #[.int .i64 1, .int .i64 1] 3)) (.slice (some ⟨w9.heap.size, 0, none⟩) 2 2) [1, 1] := Wv.Rv.lit w9 _ 3 2 _ rfl (by decide) rfl
  have C9 := Wc.hid c9
  refine (ints_any _ _ _ _ _ (R9.out.keep c9) d9).mono ?_
  rintro e w10 ⟨rfl, hb10⟩
  rw [show (([1, 1] : List Int) == [1, 1]) = true by decide]
  have c9' := Wc.step C9.out (Nat.le_refl _) hb10
  have B10 := Wc.hid (Wc.step B9.out (Nat.le_refl _) c9')
  clear c9 d9 c9' hb10 C9
  go_wp2_with fail
  go_ret
  exact ⟨rfl, B10.out⟩
end Go.Proofs.YtiobegoiehjfiaaGreat
