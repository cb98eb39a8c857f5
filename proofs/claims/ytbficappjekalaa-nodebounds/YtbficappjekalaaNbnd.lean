/-
  NodeBounds at pointers 0 and 1.
-/
import Derived.Test.YtbficappjekalaaNbnd0
namespace Go.Proofs.Ytbficappjekalaa
open Go.RowKit

set_option maxRecDepth 100000 in
set_option maxHeartbeats 3200000 in
theorem nodeBounds_0y (i p l P L M : Int) (w : World) (eA : wrap64 ((IntKind.u64.wrap i).tmod 8) = 0) (eP : wrap64 ((IntKind.u64.wrap p).tmod 4099) = P) (eL : wrap64 ((IntKind.u64.wrap l).tmod 4) = L) (_hP0 : 0 ≤ P) (_hP1 : P < 4099) (_hL0 : 0 ≤ L) (_hL1 : L < 4) (eM : L.tmod 3 = M)
    (b1 : (P != 1) = true) (b2 : decide (P < 4096) = true) (b3 : decide (L < 3) = true) (hB : Wn.nodB ⟨L, P, 2, 0, 0, 0, 0, 0, 0⟩ = true) :
    Calls Try.prog 6 #[.int .i64 i, .int .i64 p, .int .i64 l] w fun e w' => e = .returned (.bool true) ∧ Below w.heap.size w w' := by
  have HB := Wc.hid hB
  clear hB
  go_enter Try.func6, Try.ntmps6
  go_wp2_with fail
  rw [eA, eP, eL]
  clear eA eP eL b1 b2 b3
  refine (bytes7_ok ⟨L, P, 2, 0, 0, 0, 0, 0, 0⟩ _ HB.out).mono ?_
  rintro e w1 ⟨g, rfl, hg, hr, hb1⟩
  have A1 := Wc.hid ((Nh.new w ⟨L, P, 2, 0, 0, 0, 0, 0, 0⟩).keep hb1)
  have B1 := Wc.hid (Wc.step ((Below.refl w.heap.size w).alloc (Nat.le_refl _) _) (Nat.le_refl _) hb1)
  have al1 := (Below.refl w1.heap.size w1).alloc (Nat.le_refl _) (.cells #[.int .i64 M, .int .i64 0, .int .i64 0, .int .i64 0, .int .i64 0, .int .i64 0, .int .i64 0, .int .i64 0, .int .i64 0] 24)
  have al2 := (Below.refl (w1.alloc (.cells #[.int .i64 M, .int .i64 0, .int .i64 0, .int .i64 0, .int .i64 0, .int .i64 0, .int .i64 0, .int .i64 0, .int .i64 0] 24)).heap.size (w1.alloc (.cells #[.int .i64 M, .int .i64 0, .int .i64 0, .int .i64 0, .int .i64 0, .int .i64 0, .int .i64 0, .int .i64 0, .int .i64 0] 24))).alloc (Nat.le_refl _) (.cells #[.int .i64 0, .int .i64 (-1), .int .i64 0, .int .i64 0, .int .i64 0, .int .i64 0, .int .i64 0, .int .i64 0, .int .i64 0] 24)
  have A2 := Wc.hid ((A1.out.keep al1).keep al2)
  have B2 := Wc.hid (Wc.step (Wc.step B1.out (Nat.le_refl _) al1) (Nat.le_refl _) al2)
  have D2 := Wc.hid ((Nh.new w1 ⟨M, 0, 0, 0, 0, 0, 0, 0, 0⟩).keep al2)
  have E2 : Hid (Nh ((w1.alloc (.cells #[.int .i64 M, .int .i64 0, .int .i64 0, .int .i64 0, .int .i64 0, .int .i64 0, .int .i64 0, .int .i64 0, .int .i64 0] 24)).alloc (.cells #[.int .i64 0, .int .i64 (-1), .int .i64 0, .int .i64 0, .int .i64 0, .int .i64 0, .int .i64 0, .int .i64 0, .int .i64 0] 24)) (w1.heap.size + 1) ⟨0, -1, 0, 0, 0, 0, 0, 0, 0⟩) := Wc.hid (by
    have := Nh.new (w1.alloc (.cells #[.int .i64 M, .int .i64 0, .int .i64 0, .int .i64 0, .int .i64 0, .int .i64 0, .int .i64 0, .int .i64 0, .int .i64 0] 24)) ⟨0, -1, 0, 0, 0, 0, 0, 0, 0⟩
    simpa using this)
  clear hg hr hb1 al1 al2 A1 B1
  have ⟨c, c0, c1, c2, c3, c4, c5, c6, c7⟩ := A2.out.nc
  go_wp2_with fail
  clear c c0 c1 c2 c3 c4 c5 c6 c7
  obtain ⟨W, hW⟩ : ∃ W, (w1.alloc (.cells #[.int .i64 M, .int .i64 0, .int .i64 0, .int .i64 0, .int .i64 0, .int .i64 0, .int .i64 0, .int .i64 0, .int .i64 0] 24)).alloc (.cells #[.int .i64 0, .int .i64 (-1), .int .i64 0, .int .i64 0, .int .i64 0, .int .i64 0, .int .i64 0, .int .i64 0, .int .i64 0] 24) = W := ⟨_, rfl⟩
  rw [hW] at A2 B2 D2 E2 ⊢
  clear hW
  refine (check7_any ⟨L, P, 2, 0, 0, 0, 0, 0, 0⟩ _).mono ?_
  rintro e w2 ⟨rfl, hb2⟩
  rw [nodE_yes HB.out]
  have B3 := Wc.hid (Wc.step B2.out (Nat.le_refl _) hb2)
  have D3 := Wc.hid (D2.out.keep hb2)
  have E3 := Wc.hid (E2.out.keep hb2)
  clear hb2 A2 B2 D2 E2
  have ⟨c, c0, c1, c2, c3, c4, c5, c6, c7⟩ := D3.out.nc
  go_wp2_with fail
  clear c c0 c1 c2 c3 c4 c5 c6 c7
  refine (check7_any ⟨M, 0, 0, 0, 0, 0, 0, 0, 0⟩ _).mono ?_
  rintro e w3 ⟨rfl, hb3⟩
  rw [nodE_no (mn_no M)]
  have B4 := Wc.hid (Wc.step B3.out (Nat.le_refl _) hb3)
  have E4 := Wc.hid (E3.out.keep hb3)
  clear hb3 B3 D3 E3
  have ⟨c, c0, c1, c2, c3, c4, c5, c6, c7⟩ := E4.out.nc
  go_wp2_with fail
  clear c c0 c1 c2 c3 c4 c5 c6 c7
  refine (check7_any ⟨0, -1, 0, 0, 0, 0, 0, 0, 0⟩ _).mono ?_
  rintro e w4 ⟨rfl, hb4⟩
  rw [show Wn.nodE ⟨0, -1, 0, 0, 0, 0, 0, 0, 0⟩ = 1 from nodE_no (ln_no 0 (by omega))]
  have B5 := Wc.hid (Wc.step B4.out (Nat.le_refl _) hb4)
  clear hb4 B4 E4
  go_wp2_with fail
  refine (wakes_any _).mono ?_
  rintro e w5 ⟨rfl, hb5⟩
  go_wp2_with fail
  go_ret
  exact ⟨rfl, Wc.step B5.out (Nat.le_refl _) hb5⟩

set_option maxRecDepth 100000 in
set_option maxHeartbeats 3200000 in
theorem nodeBounds_0a (i p l P L M : Int) (w : World) (eA : wrap64 ((IntKind.u64.wrap i).tmod 8) = 0) (eP : wrap64 ((IntKind.u64.wrap p).tmod 4099) = P) (eL : wrap64 ((IntKind.u64.wrap l).tmod 4) = L) (_hP0 : 0 ≤ P) (_hP1 : P < 4099) (_hL0 : 0 ≤ L) (_hL1 : L < 4) (eM : L.tmod 3 = M)
    (b1 : (P != 1) = false) (hB : Wn.nodB ⟨L, P, 2, 0, 0, 0, 0, 0, 0⟩ = false) :
    Calls Try.prog 6 #[.int .i64 i, .int .i64 p, .int .i64 l] w fun e w' => e = .returned (.bool true) ∧ Below w.heap.size w w' := by
  have HB := Wc.hid hB
  clear hB
  go_enter Try.func6, Try.ntmps6
  go_wp2_with fail
  rw [eA, eP, eL]
  clear eA eP eL b1
  refine (bytes7_bad ⟨L, P, 2, 0, 0, 0, 0, 0, 0⟩ _ HB.out).mono ?_
  rintro e w1 ⟨rfl, hb1⟩
  have A1 := Wc.hid ((Nh.new w ⟨L, P, 2, 0, 0, 0, 0, 0, 0⟩).keep hb1)
  have B1 := Wc.hid (Wc.step ((Below.refl w.heap.size w).alloc (Nat.le_refl _) _) (Nat.le_refl _) hb1)
  have al1 := (Below.refl w1.heap.size w1).alloc (Nat.le_refl _) (.cells #[.int .i64 M, .int .i64 0, .int .i64 0, .int .i64 0, .int .i64 0, .int .i64 0, .int .i64 0, .int .i64 0, .int .i64 0] 24)
  have al2 := (Below.refl (w1.alloc (.cells #[.int .i64 M, .int .i64 0, .int .i64 0, .int .i64 0, .int .i64 0, .int .i64 0, .int .i64 0, .int .i64 0, .int .i64 0] 24)).heap.size (w1.alloc (.cells #[.int .i64 M, .int .i64 0, .int .i64 0, .int .i64 0, .int .i64 0, .int .i64 0, .int .i64 0, .int .i64 0, .int .i64 0] 24))).alloc (Nat.le_refl _) (.cells #[.int .i64 0, .int .i64 (-1), .int .i64 0, .int .i64 0, .int .i64 0, .int .i64 0, .int .i64 0, .int .i64 0, .int .i64 0] 24)
  have A2 := Wc.hid ((A1.out.keep al1).keep al2)
  have B2 := Wc.hid (Wc.step (Wc.step B1.out (Nat.le_refl _) al1) (Nat.le_refl _) al2)
  have D2 := Wc.hid ((Nh.new w1 ⟨M, 0, 0, 0, 0, 0, 0, 0, 0⟩).keep al2)
  have E2 : Hid (Nh ((w1.alloc (.cells #[.int .i64 M, .int .i64 0, .int .i64 0, .int .i64 0, .int .i64 0, .int .i64 0, .int .i64 0, .int .i64 0, .int .i64 0] 24)).alloc (.cells #[.int .i64 0, .int .i64 (-1), .int .i64 0, .int .i64 0, .int .i64 0, .int .i64 0, .int .i64 0, .int .i64 0, .int .i64 0] 24)) (w1.heap.size + 1) ⟨0, -1, 0, 0, 0, 0, 0, 0, 0⟩) := Wc.hid (by
    have := Nh.new (w1.alloc (.cells #[.int .i64 M, .int .i64 0, .int .i64 0, .int .i64 0, .int .i64 0, .int .i64 0, .int .i64 0, .int .i64 0, .int .i64 0] 24)) ⟨0, -1, 0, 0, 0, 0, 0, 0, 0⟩
    simpa using this)
  clear hb1 al1 al2 A1 B1
  have ⟨c, c0, c1, c2, c3, c4, c5, c6, c7⟩ := A2.out.nc
  go_wp2_with fail
  clear c c0 c1 c2 c3 c4 c5 c6 c7
  obtain ⟨W, hW⟩ : ∃ W, (w1.alloc (.cells #[.int .i64 M, .int .i64 0, .int .i64 0, .int .i64 0, .int .i64 0, .int .i64 0, .int .i64 0, .int .i64 0, .int .i64 0] 24)).alloc (.cells #[.int .i64 0, .int .i64 (-1), .int .i64 0, .int .i64 0, .int .i64 0, .int .i64 0, .int .i64 0, .int .i64 0, .int .i64 0] 24) = W := ⟨_, rfl⟩
  rw [hW] at A2 B2 D2 E2 ⊢
  clear hW
  refine (check7_any ⟨L, P, 2, 0, 0, 0, 0, 0, 0⟩ _).mono ?_
  rintro e w2 ⟨rfl, hb2⟩
  rw [nodE_no HB.out]
  have B3 := Wc.hid (Wc.step B2.out (Nat.le_refl _) hb2)
  have D3 := Wc.hid (D2.out.keep hb2)
  have E3 := Wc.hid (E2.out.keep hb2)
  clear hb2 A2 B2 D2 E2
  have ⟨c, c0, c1, c2, c3, c4, c5, c6, c7⟩ := D3.out.nc
  go_wp2_with fail
  clear c c0 c1 c2 c3 c4 c5 c6 c7
  refine (check7_any ⟨M, 0, 0, 0, 0, 0, 0, 0, 0⟩ _).mono ?_
  rintro e w3 ⟨rfl, hb3⟩
  rw [nodE_no (mn_no M)]
  have B4 := Wc.hid (Wc.step B3.out (Nat.le_refl _) hb3)
  have E4 := Wc.hid (E3.out.keep hb3)
  clear hb3 B3 D3 E3
  have ⟨c, c0, c1, c2, c3, c4, c5, c6, c7⟩ := E4.out.nc
  go_wp2_with fail
  clear c c0 c1 c2 c3 c4 c5 c6 c7
  refine (check7_any ⟨0, -1, 0, 0, 0, 0, 0, 0, 0⟩ _).mono ?_
  rintro e w4 ⟨rfl, hb4⟩
  rw [show Wn.nodE ⟨0, -1, 0, 0, 0, 0, 0, 0, 0⟩ = 1 from nodE_no (ln_no 0 (by omega))]
  have B5 := Wc.hid (Wc.step B4.out (Nat.le_refl _) hb4)
  clear hb4 B4 E4
  go_wp2_with fail
  refine (wakes_any _).mono ?_
  rintro e w5 ⟨rfl, hb5⟩
  go_wp2_with fail
  go_ret
  exact ⟨rfl, Wc.step B5.out (Nat.le_refl _) hb5⟩

set_option maxRecDepth 100000 in
set_option maxHeartbeats 3200000 in
theorem nodeBounds_0b (i p l P L M : Int) (w : World) (eA : wrap64 ((IntKind.u64.wrap i).tmod 8) = 0) (eP : wrap64 ((IntKind.u64.wrap p).tmod 4099) = P) (eL : wrap64 ((IntKind.u64.wrap l).tmod 4) = L) (_hP0 : 0 ≤ P) (_hP1 : P < 4099) (_hL0 : 0 ≤ L) (_hL1 : L < 4) (eM : L.tmod 3 = M)
    (b1 : (P != 1) = true) (b2 : decide (P < 4096) = false) (hB : Wn.nodB ⟨L, P, 2, 0, 0, 0, 0, 0, 0⟩ = false) :
    Calls Try.prog 6 #[.int .i64 i, .int .i64 p, .int .i64 l] w fun e w' => e = .returned (.bool true) ∧ Below w.heap.size w w' := by
  have HB := Wc.hid hB
  clear hB
  go_enter Try.func6, Try.ntmps6
  go_wp2_with fail
  rw [eA, eP, eL]
  clear eA eP eL b1 b2
  refine (bytes7_bad ⟨L, P, 2, 0, 0, 0, 0, 0, 0⟩ _ HB.out).mono ?_
  rintro e w1 ⟨rfl, hb1⟩
  have A1 := Wc.hid ((Nh.new w ⟨L, P, 2, 0, 0, 0, 0, 0, 0⟩).keep hb1)
  have B1 := Wc.hid (Wc.step ((Below.refl w.heap.size w).alloc (Nat.le_refl _) _) (Nat.le_refl _) hb1)
  have al1 := (Below.refl w1.heap.size w1).alloc (Nat.le_refl _) (.cells #[.int .i64 M, .int .i64 0, .int .i64 0, .int .i64 0, .int .i64 0, .int .i64 0, .int .i64 0, .int .i64 0, .int .i64 0] 24)
  have al2 := (Below.refl (w1.alloc (.cells #[.int .i64 M, .int .i64 0, .int .i64 0, .int .i64 0, .int .i64 0, .int .i64 0, .int .i64 0, .int .i64 0, .int .i64 0] 24)).heap.size (w1.alloc (.cells #[.int .i64 M, .int .i64 0, .int .i64 0, .int .i64 0, .int .i64 0, .int .i64 0, .int .i64 0, .int .i64 0, .int .i64 0] 24))).alloc (Nat.le_refl _) (.cells #[.int .i64 0, .int .i64 (-1), .int .i64 0, .int .i64 0, .int .i64 0, .int .i64 0, .int .i64 0, .int .i64 0, .int .i64 0] 24)
  have A2 := Wc.hid ((A1.out.keep al1).keep al2)
  have B2 := Wc.hid (Wc.step (Wc.step B1.out (Nat.le_refl _) al1) (Nat.le_refl _) al2)
  have D2 := Wc.hid ((Nh.new w1 ⟨M, 0, 0, 0, 0, 0, 0, 0, 0⟩).keep al2)
  have E2 : Hid (Nh ((w1.alloc (.cells #[.int .i64 M, .int .i64 0, .int .i64 0, .int .i64 0, .int .i64 0, .int .i64 0, .int .i64 0, .int .i64 0, .int .i64 0] 24)).alloc (.cells #[.int .i64 0, .int .i64 (-1), .int .i64 0, .int .i64 0, .int .i64 0, .int .i64 0, .int .i64 0, .int .i64 0, .int .i64 0] 24)) (w1.heap.size + 1) ⟨0, -1, 0, 0, 0, 0, 0, 0, 0⟩) := Wc.hid (by
    have := Nh.new (w1.alloc (.cells #[.int .i64 M, .int .i64 0, .int .i64 0, .int .i64 0, .int .i64 0, .int .i64 0, .int .i64 0, .int .i64 0, .int .i64 0] 24)) ⟨0, -1, 0, 0, 0, 0, 0, 0, 0⟩
    simpa using this)
  clear hb1 al1 al2 A1 B1
  have ⟨c, c0, c1, c2, c3, c4, c5, c6, c7⟩ := A2.out.nc
  go_wp2_with fail
  clear c c0 c1 c2 c3 c4 c5 c6 c7
  obtain ⟨W, hW⟩ : ∃ W, (w1.alloc (.cells #[.int .i64 M, .int .i64 0, .int .i64 0, .int .i64 0, .int .i64 0, .int .i64 0, .int .i64 0, .int .i64 0, .int .i64 0] 24)).alloc (.cells #[.int .i64 0, .int .i64 (-1), .int .i64 0, .int .i64 0, .int .i64 0, .int .i64 0, .int .i64 0, .int .i64 0, .int .i64 0] 24) = W := ⟨_, rfl⟩
  rw [hW] at A2 B2 D2 E2 ⊢
  clear hW
  refine (check7_any ⟨L, P, 2, 0, 0, 0, 0, 0, 0⟩ _).mono ?_
  rintro e w2 ⟨rfl, hb2⟩
  rw [nodE_no HB.out]
  have B3 := Wc.hid (Wc.step B2.out (Nat.le_refl _) hb2)
  have D3 := Wc.hid (D2.out.keep hb2)
  have E3 := Wc.hid (E2.out.keep hb2)
  clear hb2 A2 B2 D2 E2
  have ⟨c, c0, c1, c2, c3, c4, c5, c6, c7⟩ := D3.out.nc
  go_wp2_with fail
  clear c c0 c1 c2 c3 c4 c5 c6 c7
  refine (check7_any ⟨M, 0, 0, 0, 0, 0, 0, 0, 0⟩ _).mono ?_
  rintro e w3 ⟨rfl, hb3⟩
  rw [nodE_no (mn_no M)]
  have B4 := Wc.hid (Wc.step B3.out (Nat.le_refl _) hb3)
  have E4 := Wc.hid (E3.out.keep hb3)
  clear hb3 B3 D3 E3
  have ⟨c, c0, c1, c2, c3, c4, c5, c6, c7⟩ := E4.out.nc
  go_wp2_with fail
  clear c c0 c1 c2 c3 c4 c5 c6 c7
  refine (check7_any ⟨0, -1, 0, 0, 0, 0, 0, 0, 0⟩ _).mono ?_
  rintro e w4 ⟨rfl, hb4⟩
  rw [show Wn.nodE ⟨0, -1, 0, 0, 0, 0, 0, 0, 0⟩ = 1 from nodE_no (ln_no 0 (by omega))]
  have B5 := Wc.hid (Wc.step B4.out (Nat.le_refl _) hb4)
  clear hb4 B4 E4
  go_wp2_with fail
  refine (wakes_any _).mono ?_
  rintro e w5 ⟨rfl, hb5⟩
  go_wp2_with fail
  go_ret
  exact ⟨rfl, Wc.step B5.out (Nat.le_refl _) hb5⟩

set_option maxRecDepth 100000 in
set_option maxHeartbeats 3200000 in
theorem nodeBounds_0c (i p l P L M : Int) (w : World) (eA : wrap64 ((IntKind.u64.wrap i).tmod 8) = 0) (eP : wrap64 ((IntKind.u64.wrap p).tmod 4099) = P) (eL : wrap64 ((IntKind.u64.wrap l).tmod 4) = L) (_hP0 : 0 ≤ P) (_hP1 : P < 4099) (_hL0 : 0 ≤ L) (_hL1 : L < 4) (eM : L.tmod 3 = M)
    (b1 : (P != 1) = true) (b2 : decide (P < 4096) = true) (b3 : decide (L < 3) = false) (hB : Wn.nodB ⟨L, P, 2, 0, 0, 0, 0, 0, 0⟩ = false) :
    Calls Try.prog 6 #[.int .i64 i, .int .i64 p, .int .i64 l] w fun e w' => e = .returned (.bool true) ∧ Below w.heap.size w w' := by
  have HB := Wc.hid hB
  clear hB
  go_enter Try.func6, Try.ntmps6
  go_wp2_with fail
  rw [eA, eP, eL]
  clear eA eP eL b1 b2 b3
  refine (bytes7_bad ⟨L, P, 2, 0, 0, 0, 0, 0, 0⟩ _ HB.out).mono ?_
  rintro e w1 ⟨rfl, hb1⟩
  have A1 := Wc.hid ((Nh.new w ⟨L, P, 2, 0, 0, 0, 0, 0, 0⟩).keep hb1)
  have B1 := Wc.hid (Wc.step ((Below.refl w.heap.size w).alloc (Nat.le_refl _) _) (Nat.le_refl _) hb1)
  have al1 := (Below.refl w1.heap.size w1).alloc (Nat.le_refl _) (.cells #[.int .i64 M, .int .i64 0, .int .i64 0, .int .i64 0, .int .i64 0, .int .i64 0, .int .i64 0, .int .i64 0, .int .i64 0] 24)
  have al2 := (Below.refl (w1.alloc (.cells #[.int .i64 M, .int .i64 0, .int .i64 0, .int .i64 0, .int .i64 0, .int .i64 0, .int .i64 0, .int .i64 0, .int .i64 0] 24)).heap.size (w1.alloc (.cells #[.int .i64 M, .int .i64 0, .int .i64 0, .int .i64 0, .int .i64 0, .int .i64 0, .int .i64 0, .int .i64 0, .int .i64 0] 24))).alloc (Nat.le_refl _) (.cells #[.int .i64 0, .int .i64 (-1), .int .i64 0, .int .i64 0, .int .i64 0, .int .i64 0, .int .i64 0, .int .i64 0, .int .i64 0] 24)
  have A2 := Wc.hid ((A1.out.keep al1).keep al2)
  have B2 := Wc.hid (Wc.step (Wc.step B1.out (Nat.le_refl _) al1) (Nat.le_refl _) al2)
  have D2 := Wc.hid ((Nh.new w1 ⟨M, 0, 0, 0, 0, 0, 0, 0, 0⟩).keep al2)
  have E2 : Hid (Nh ((w1.alloc (.cells #[.int .i64 M, .int .i64 0, .int .i64 0, .int .i64 0, .int .i64 0, .int .i64 0, .int .i64 0, .int .i64 0, .int .i64 0] 24)).alloc (.cells #[.int .i64 0, .int .i64 (-1), .int .i64 0, .int .i64 0, .int .i64 0, .int .i64 0, .int .i64 0, .int .i64 0, .int .i64 0] 24)) (w1.heap.size + 1) ⟨0, -1, 0, 0, 0, 0, 0, 0, 0⟩) := Wc.hid (by
    have := Nh.new (w1.alloc (.cells #[.int .i64 M, .int .i64 0, .int .i64 0, .int .i64 0, .int .i64 0, .int .i64 0, .int .i64 0, .int .i64 0, .int .i64 0] 24)) ⟨0, -1, 0, 0, 0, 0, 0, 0, 0⟩
    simpa using this)
  clear hb1 al1 al2 A1 B1
  have ⟨c, c0, c1, c2, c3, c4, c5, c6, c7⟩ := A2.out.nc
  go_wp2_with fail
  clear c c0 c1 c2 c3 c4 c5 c6 c7
  obtain ⟨W, hW⟩ : ∃ W, (w1.alloc (.cells #[.int .i64 M, .int .i64 0, .int .i64 0, .int .i64 0, .int .i64 0, .int .i64 0, .int .i64 0, .int .i64 0, .int .i64 0] 24)).alloc (.cells #[.int .i64 0, .int .i64 (-1), .int .i64 0, .int .i64 0, .int .i64 0, .int .i64 0, .int .i64 0, .int .i64 0, .int .i64 0] 24) = W := ⟨_, rfl⟩
  rw [hW] at A2 B2 D2 E2 ⊢
  clear hW
  refine (check7_any ⟨L, P, 2, 0, 0, 0, 0, 0, 0⟩ _).mono ?_
  rintro e w2 ⟨rfl, hb2⟩
  rw [nodE_no HB.out]
  have B3 := Wc.hid (Wc.step B2.out (Nat.le_refl _) hb2)
  have D3 := Wc.hid (D2.out.keep hb2)
  have E3 := Wc.hid (E2.out.keep hb2)
  clear hb2 A2 B2 D2 E2
  have ⟨c, c0, c1, c2, c3, c4, c5, c6, c7⟩ := D3.out.nc
  go_wp2_with fail
  clear c c0 c1 c2 c3 c4 c5 c6 c7
  refine (check7_any ⟨M, 0, 0, 0, 0, 0, 0, 0, 0⟩ _).mono ?_
  rintro e w3 ⟨rfl, hb3⟩
  rw [nodE_no (mn_no M)]
  have B4 := Wc.hid (Wc.step B3.out (Nat.le_refl _) hb3)
  have E4 := Wc.hid (E3.out.keep hb3)
  clear hb3 B3 D3 E3
  have ⟨c, c0, c1, c2, c3, c4, c5, c6, c7⟩ := E4.out.nc
  go_wp2_with fail
  clear c c0 c1 c2 c3 c4 c5 c6 c7
  refine (check7_any ⟨0, -1, 0, 0, 0, 0, 0, 0, 0⟩ _).mono ?_
  rintro e w4 ⟨rfl, hb4⟩
  rw [show Wn.nodE ⟨0, -1, 0, 0, 0, 0, 0, 0, 0⟩ = 1 from nodE_no (ln_no 0 (by omega))]
  have B5 := Wc.hid (Wc.step B4.out (Nat.le_refl _) hb4)
  clear hb4 B4 E4
  go_wp2_with fail
  refine (wakes_any _).mono ?_
  rintro e w5 ⟨rfl, hb5⟩
  go_wp2_with fail
  go_ret
  exact ⟨rfl, Wc.step B5.out (Nat.le_refl _) hb5⟩

set_option maxRecDepth 100000 in
set_option maxHeartbeats 3200000 in
theorem nodeBounds_1y (i p l P L M : Int) (w : World) (eA : wrap64 ((IntKind.u64.wrap i).tmod 8) = 1) (eP : wrap64 ((IntKind.u64.wrap p).tmod 4099) = P) (eL : wrap64 ((IntKind.u64.wrap l).tmod 4) = L) (_hP0 : 0 ≤ P) (_hP1 : P < 4099) (_hL0 : 0 ≤ L) (_hL1 : L < 4) (eM : L.tmod 3 = M)
    (b1 : (P != 1) = true) (b2 : decide (P < 4096) = true) (b3 : decide (L < 3) = true) (hB : Wn.nodB ⟨L, 0, P, 2, 0, 0, 0, 0, 0⟩ = true) :
    Calls Try.prog 6 #[.int .i64 i, .int .i64 p, .int .i64 l] w fun e w' => e = .returned (.bool true) ∧ Below w.heap.size w w' := by
  have HB := Wc.hid hB
  clear hB
  go_enter Try.func6, Try.ntmps6
  go_wp2_with fail
  rw [eA, eP, eL]
  clear eA eP eL b1 b2 b3
  refine (bytes7_ok ⟨L, 0, P, 2, 0, 0, 0, 0, 0⟩ _ HB.out).mono ?_
  rintro e w1 ⟨g, rfl, hg, hr, hb1⟩
  have A1 := Wc.hid ((Nh.new w ⟨L, 0, P, 2, 0, 0, 0, 0, 0⟩).keep hb1)
  have B1 := Wc.hid (Wc.step ((Below.refl w.heap.size w).alloc (Nat.le_refl _) _) (Nat.le_refl _) hb1)
  have al1 := (Below.refl w1.heap.size w1).alloc (Nat.le_refl _) (.cells #[.int .i64 M, .int .i64 0, .int .i64 0, .int .i64 0, .int .i64 0, .int .i64 0, .int .i64 0, .int .i64 0, .int .i64 0] 24)
  have al2 := (Below.refl (w1.alloc (.cells #[.int .i64 M, .int .i64 0, .int .i64 0, .int .i64 0, .int .i64 0, .int .i64 0, .int .i64 0, .int .i64 0, .int .i64 0] 24)).heap.size (w1.alloc (.cells #[.int .i64 M, .int .i64 0, .int .i64 0, .int .i64 0, .int .i64 0, .int .i64 0, .int .i64 0, .int .i64 0, .int .i64 0] 24))).alloc (Nat.le_refl _) (.cells #[.int .i64 0, .int .i64 0, .int .i64 (-1), .int .i64 0, .int .i64 0, .int .i64 0, .int .i64 0, .int .i64 0, .int .i64 0] 24)
  have A2 := Wc.hid ((A1.out.keep al1).keep al2)
  have B2 := Wc.hid (Wc.step (Wc.step B1.out (Nat.le_refl _) al1) (Nat.le_refl _) al2)
  have D2 := Wc.hid ((Nh.new w1 ⟨M, 0, 0, 0, 0, 0, 0, 0, 0⟩).keep al2)
  have E2 : Hid (Nh ((w1.alloc (.cells #[.int .i64 M, .int .i64 0, .int .i64 0, .int .i64 0, .int .i64 0, .int .i64 0, .int .i64 0, .int .i64 0, .int .i64 0] 24)).alloc (.cells #[.int .i64 0, .int .i64 0, .int .i64 (-1), .int .i64 0, .int .i64 0, .int .i64 0, .int .i64 0, .int .i64 0, .int .i64 0] 24)) (w1.heap.size + 1) ⟨0, 0, -1, 0, 0, 0, 0, 0, 0⟩) := Wc.hid (by
    have := Nh.new (w1.alloc (.cells #[.int .i64 M, .int .i64 0, .int .i64 0, .int .i64 0, .int .i64 0, .int .i64 0, .int .i64 0, .int .i64 0, .int .i64 0] 24)) ⟨0, 0, -1, 0, 0, 0, 0, 0, 0⟩
    simpa using this)
  clear hg hr hb1 al1 al2 A1 B1
  have ⟨c, c0, c1, c2, c3, c4, c5, c6, c7⟩ := A2.out.nc
  go_wp2_with fail
  clear c c0 c1 c2 c3 c4 c5 c6 c7
  obtain ⟨W, hW⟩ : ∃ W, (w1.alloc (.cells #[.int .i64 M, .int .i64 0, .int .i64 0, .int .i64 0, .int .i64 0, .int .i64 0, .int .i64 0, .int .i64 0, .int .i64 0] 24)).alloc (.cells #[.int .i64 0, .int .i64 0, .int .i64 (-1), .int .i64 0, .int .i64 0, .int .i64 0, .int .i64 0, .int .i64 0, .int .i64 0] 24) = W := ⟨_, rfl⟩
  rw [hW] at A2 B2 D2 E2 ⊢
  clear hW
  refine (check7_any ⟨L, 0, P, 2, 0, 0, 0, 0, 0⟩ _).mono ?_
  rintro e w2 ⟨rfl, hb2⟩
  rw [nodE_yes HB.out]
  have B3 := Wc.hid (Wc.step B2.out (Nat.le_refl _) hb2)
  have D3 := Wc.hid (D2.out.keep hb2)
  have E3 := Wc.hid (E2.out.keep hb2)
  clear hb2 A2 B2 D2 E2
  have ⟨c, c0, c1, c2, c3, c4, c5, c6, c7⟩ := D3.out.nc
  go_wp2_with fail
  clear c c0 c1 c2 c3 c4 c5 c6 c7
  refine (check7_any ⟨M, 0, 0, 0, 0, 0, 0, 0, 0⟩ _).mono ?_
  rintro e w3 ⟨rfl, hb3⟩
  rw [nodE_no (mn_no M)]
  have B4 := Wc.hid (Wc.step B3.out (Nat.le_refl _) hb3)
  have E4 := Wc.hid (E3.out.keep hb3)
  clear hb3 B3 D3 E3
  have ⟨c, c0, c1, c2, c3, c4, c5, c6, c7⟩ := E4.out.nc
  go_wp2_with fail
  clear c c0 c1 c2 c3 c4 c5 c6 c7
  refine (check7_any ⟨0, 0, -1, 0, 0, 0, 0, 0, 0⟩ _).mono ?_
  rintro e w4 ⟨rfl, hb4⟩
  rw [show Wn.nodE ⟨0, 0, -1, 0, 0, 0, 0, 0, 0⟩ = 1 from nodE_no (ln_no 1 (by omega))]
  have B5 := Wc.hid (Wc.step B4.out (Nat.le_refl _) hb4)
  clear hb4 B4 E4
  go_wp2_with fail
  refine (wakes_any _).mono ?_
  rintro e w5 ⟨rfl, hb5⟩
  go_wp2_with fail
  go_ret
  exact ⟨rfl, Wc.step B5.out (Nat.le_refl _) hb5⟩

set_option maxRecDepth 100000 in
set_option maxHeartbeats 3200000 in
theorem nodeBounds_1a (i p l P L M : Int) (w : World) (eA : wrap64 ((IntKind.u64.wrap i).tmod 8) = 1) (eP : wrap64 ((IntKind.u64.wrap p).tmod 4099) = P) (eL : wrap64 ((IntKind.u64.wrap l).tmod 4) = L) (_hP0 : 0 ≤ P) (_hP1 : P < 4099) (_hL0 : 0 ≤ L) (_hL1 : L < 4) (eM : L.tmod 3 = M)
    (b1 : (P != 1) = false) (hB : Wn.nodB ⟨L, 0, P, 2, 0, 0, 0, 0, 0⟩ = false) :
    Calls Try.prog 6 #[.int .i64 i, .int .i64 p, .int .i64 l] w fun e w' => e = .returned (.bool true) ∧ Below w.heap.size w w' := by
  have HB := Wc.hid hB
  clear hB
  go_enter Try.func6, Try.ntmps6
  go_wp2_with fail
  rw [eA, eP, eL]
  clear eA eP eL b1
  refine (bytes7_bad ⟨L, 0, P, 2, 0, 0, 0, 0, 0⟩ _ HB.out).mono ?_
  rintro e w1 ⟨rfl, hb1⟩
  have A1 := Wc.hid ((Nh.new w ⟨L, 0, P, 2, 0, 0, 0, 0, 0⟩).keep hb1)
  have B1 := Wc.hid (Wc.step ((Below.refl w.heap.size w).alloc (Nat.le_refl _) _) (Nat.le_refl _) hb1)
  have al1 := (Below.refl w1.heap.size w1).alloc (Nat.le_refl _) (.cells #[.int .i64 M, .int .i64 0, .int .i64 0, .int .i64 0, .int .i64 0, .int .i64 0, .int .i64 0, .int .i64 0, .int .i64 0] 24)
  have al2 := (Below.refl (w1.alloc (.cells #[.int .i64 M, .int .i64 0, .int .i64 0, .int .i64 0, .int .i64 0, .int .i64 0, .int .i64 0, .int .i64 0, .int .i64 0] 24)).heap.size (w1.alloc (.cells #[.int .i64 M, .int .i64 0, .int .i64 0, .int .i64 0, .int .i64 0, .int .i64 0, .int .i64 0, .int .i64 0, .int .i64 0] 24))).alloc (Nat.le_refl _) (.cells #[.int .i64 0, .int .i64 0, .int .i64 (-1), .int .i64 0, .int .i64 0, .int .i64 0, .int .i64 0, .int .i64 0, .int .i64 0] 24)
  have A2 := Wc.hid ((A1.out.keep al1).keep al2)
  have B2 := Wc.hid (Wc.step (Wc.step B1.out (Nat.le_refl _) al1) (Nat.le_refl _) al2)
  have D2 := Wc.hid ((Nh.new w1 ⟨M, 0, 0, 0, 0, 0, 0, 0, 0⟩).keep al2)
  have E2 : Hid (Nh ((w1.alloc (.cells #[.int .i64 M, .int .i64 0, .int .i64 0, .int .i64 0, .int .i64 0, .int .i64 0, .int .i64 0, .int .i64 0, .int .i64 0] 24)).alloc (.cells #[.int .i64 0, .int .i64 0, .int .i64 (-1), .int .i64 0, .int .i64 0, .int .i64 0, .int .i64 0, .int .i64 0, .int .i64 0] 24)) (w1.heap.size + 1) ⟨0, 0, -1, 0, 0, 0, 0, 0, 0⟩) := Wc.hid (by
    have := Nh.new (w1.alloc (.cells #[.int .i64 M, .int .i64 0, .int .i64 0, .int .i64 0, .int .i64 0, .int .i64 0, .int .i64 0, .int .i64 0, .int .i64 0] 24)) ⟨0, 0, -1, 0, 0, 0, 0, 0, 0⟩
    simpa using this)
  clear hb1 al1 al2 A1 B1
  have ⟨c, c0, c1, c2, c3, c4, c5, c6, c7⟩ := A2.out.nc
  go_wp2_with fail
  clear c c0 c1 c2 c3 c4 c5 c6 c7
  obtain ⟨W, hW⟩ : ∃ W, (w1.alloc (.cells #[.int .i64 M, .int .i64 0, .int .i64 0, .int .i64 0, .int .i64 0, .int .i64 0, .int .i64 0, .int .i64 0, .int .i64 0] 24)).alloc (.cells #[.int .i64 0, .int .i64 0, .int .i64 (-1), .int .i64 0, .int .i64 0, .int .i64 0, .int .i64 0, .int .i64 0, .int .i64 0] 24) = W := ⟨_, rfl⟩
  rw [hW] at A2 B2 D2 E2 ⊢
  clear hW
  refine (check7_any ⟨L, 0, P, 2, 0, 0, 0, 0, 0⟩ _).mono ?_
  rintro e w2 ⟨rfl, hb2⟩
  rw [nodE_no HB.out]
  have B3 := Wc.hid (Wc.step B2.out (Nat.le_refl _) hb2)
  have D3 := Wc.hid (D2.out.keep hb2)
  have E3 := Wc.hid (E2.out.keep hb2)
  clear hb2 A2 B2 D2 E2
  have ⟨c, c0, c1, c2, c3, c4, c5, c6, c7⟩ := D3.out.nc
  go_wp2_with fail
  clear c c0 c1 c2 c3 c4 c5 c6 c7
  refine (check7_any ⟨M, 0, 0, 0, 0, 0, 0, 0, 0⟩ _).mono ?_
  rintro e w3 ⟨rfl, hb3⟩
  rw [nodE_no (mn_no M)]
  have B4 := Wc.hid (Wc.step B3.out (Nat.le_refl _) hb3)
  have E4 := Wc.hid (E3.out.keep hb3)
  clear hb3 B3 D3 E3
  have ⟨c, c0, c1, c2, c3, c4, c5, c6, c7⟩ := E4.out.nc
  go_wp2_with fail
  clear c c0 c1 c2 c3 c4 c5 c6 c7
  refine (check7_any ⟨0, 0, -1, 0, 0, 0, 0, 0, 0⟩ _).mono ?_
  rintro e w4 ⟨rfl, hb4⟩
  rw [show Wn.nodE ⟨0, 0, -1, 0, 0, 0, 0, 0, 0⟩ = 1 from nodE_no (ln_no 1 (by omega))]
  have B5 := Wc.hid (Wc.step B4.out (Nat.le_refl _) hb4)
  clear hb4 B4 E4
  go_wp2_with fail
  refine (wakes_any _).mono ?_
  rintro e w5 ⟨rfl, hb5⟩
  go_wp2_with fail
  go_ret
  exact ⟨rfl, Wc.step B5.out (Nat.le_refl _) hb5⟩

set_option maxRecDepth 100000 in
set_option maxHeartbeats 3200000 in
theorem nodeBounds_1b (i p l P L M : Int) (w : World) (eA : wrap64 ((IntKind.u64.wrap i).tmod 8) = 1) (eP : wrap64 ((IntKind.u64.wrap p).tmod 4099) = P) (eL : wrap64 ((IntKind.u64.wrap l).tmod 4) = L) (_hP0 : 0 ≤ P) (_hP1 : P < 4099) (_hL0 : 0 ≤ L) (_hL1 : L < 4) (eM : L.tmod 3 = M)
    (b1 : (P != 1) = true) (b2 : decide (P < 4096) = false) (hB : Wn.nodB ⟨L, 0, P, 2, 0, 0, 0, 0, 0⟩ = false) :
    Calls Try.prog 6 #[.int .i64 i, .int .i64 p, .int .i64 l] w fun e w' => e = .returned (.bool true) ∧ Below w.heap.size w w' := by
  have HB := Wc.hid hB
  clear hB
  go_enter Try.func6, Try.ntmps6
  go_wp2_with fail
  rw [eA, eP, eL]
  clear eA eP eL b1 b2
  refine (bytes7_bad ⟨L, 0, P, 2, 0, 0, 0, 0, 0⟩ _ HB.out).mono ?_
  rintro e w1 ⟨rfl, hb1⟩
  have A1 := Wc.hid ((Nh.new w ⟨L, 0, P, 2, 0, 0, 0, 0, 0⟩).keep hb1)
  have B1 := Wc.hid (Wc.step ((Below.refl w.heap.size w).alloc (Nat.le_refl _) _) (Nat.le_refl _) hb1)
  have al1 := (Below.refl w1.heap.size w1).alloc (Nat.le_refl _) (.cells #[.int .i64 M, .int .i64 0, .int .i64 0, .int .i64 0, .int .i64 0, .int .i64 0, .int .i64 0, .int .i64 0, .int .i64 0] 24)
  have al2 := (Below.refl (w1.alloc (.cells #[.int .i64 M, .int .i64 0, .int .i64 0, .int .i64 0, .int .i64 0, .int .i64 0, .int .i64 0, .int .i64 0, .int .i64 0] 24)).heap.size (w1.alloc (.cells #[.int .i64 M, .int .i64 0, .int .i64 0, .int .i64 0, .int .i64 0, .int .i64 0, .int .i64 0, .int .i64 0, .int .i64 0] 24))).alloc (Nat.le_refl _) (.cells #[.int .i64 0, .int .i64 0, .int .i64 (-1), .int .i64 0, .int .i64 0, .int .i64 0, .int .i64 0, .int .i64 0, .int .i64 0] 24)
  have A2 := Wc.hid ((A1.out.keep al1).keep al2)
  have B2 := Wc.hid (Wc.step (Wc.step B1.out (Nat.le_refl _) al1) (Nat.le_refl _) al2)
  have D2 := Wc.hid ((Nh.new w1 ⟨M, 0, 0, 0, 0, 0, 0, 0, 0⟩).keep al2)
  have E2 : Hid (Nh ((w1.alloc (.cells #[.int .i64 M, .int .i64 0, .int .i64 0, .int .i64 0, .int .i64 0, .int .i64 0, .int .i64 0, .int .i64 0, .int .i64 0] 24)).alloc (.cells #[.int .i64 0, .int .i64 0, .int .i64 (-1), .int .i64 0, .int .i64 0, .int .i64 0, .int .i64 0, .int .i64 0, .int .i64 0] 24)) (w1.heap.size + 1) ⟨0, 0, -1, 0, 0, 0, 0, 0, 0⟩) := Wc.hid (by
    have := Nh.new (w1.alloc (.cells #[.int .i64 M, .int .i64 0, .int .i64 0, .int .i64 0, .int .i64 0, .int .i64 0, .int .i64 0, .int .i64 0, .int .i64 0] 24)) ⟨0, 0, -1, 0, 0, 0, 0, 0, 0⟩
    simpa using this)
  clear hb1 al1 al2 A1 B1
  have ⟨c, c0, c1, c2, c3, c4, c5, c6, c7⟩ := A2.out.nc
  go_wp2_with fail
  clear c c0 c1 c2 c3 c4 c5 c6 c7
  obtain ⟨W, hW⟩ : ∃ W, (w1.alloc (.cells #[.int .i64 M, .int .i64 0, .int .i64 0, .int .i64 0, .int .i64 0, .int .i64 0, .int .i64 0, .int .i64 0, .int .i64 0] 24)).alloc (.cells #[.int .i64 0, .int .i64 0, .int .i64 (-1), .int .i64 0, .int .i64 0, .int .i64 0, .int .i64 0, .int .i64 0, .int .i64 0] 24) = W := ⟨_, rfl⟩
  rw [hW] at A2 B2 D2 E2 ⊢
  clear hW
  refine (check7_any ⟨L, 0, P, 2, 0, 0, 0, 0, 0⟩ _).mono ?_
  rintro e w2 ⟨rfl, hb2⟩
  rw [nodE_no HB.out]
  have B3 := Wc.hid (Wc.step B2.out (Nat.le_refl _) hb2)
  have D3 := Wc.hid (D2.out.keep hb2)
  have E3 := Wc.hid (E2.out.keep hb2)
  clear hb2 A2 B2 D2 E2
  have ⟨c, c0, c1, c2, c3, c4, c5, c6, c7⟩ := D3.out.nc
  go_wp2_with fail
  clear c c0 c1 c2 c3 c4 c5 c6 c7
  refine (check7_any ⟨M, 0, 0, 0, 0, 0, 0, 0, 0⟩ _).mono ?_
  rintro e w3 ⟨rfl, hb3⟩
  rw [nodE_no (mn_no M)]
  have B4 := Wc.hid (Wc.step B3.out (Nat.le_refl _) hb3)
  have E4 := Wc.hid (E3.out.keep hb3)
  clear hb3 B3 D3 E3
  have ⟨c, c0, c1, c2, c3, c4, c5, c6, c7⟩ := E4.out.nc
  go_wp2_with fail
  clear c c0 c1 c2 c3 c4 c5 c6 c7
  refine (check7_any ⟨0, 0, -1, 0, 0, 0, 0, 0, 0⟩ _).mono ?_
  rintro e w4 ⟨rfl, hb4⟩
  rw [show Wn.nodE ⟨0, 0, -1, 0, 0, 0, 0, 0, 0⟩ = 1 from nodE_no (ln_no 1 (by omega))]
  have B5 := Wc.hid (Wc.step B4.out (Nat.le_refl _) hb4)
  clear hb4 B4 E4
  go_wp2_with fail
  refine (wakes_any _).mono ?_
  rintro e w5 ⟨rfl, hb5⟩
  go_wp2_with fail
  go_ret
  exact ⟨rfl, Wc.step B5.out (Nat.le_refl _) hb5⟩

set_option maxRecDepth 100000 in
set_option maxHeartbeats 3200000 in
theorem nodeBounds_1c (i p l P L M : Int) (w : World) (eA : wrap64 ((IntKind.u64.wrap i).tmod 8) = 1) (eP : wrap64 ((IntKind.u64.wrap p).tmod 4099) = P) (eL : wrap64 ((IntKind.u64.wrap l).tmod 4) = L) (_hP0 : 0 ≤ P) (_hP1 : P < 4099) (_hL0 : 0 ≤ L) (_hL1 : L < 4) (eM : L.tmod 3 = M)
    (b1 : (P != 1) = true) (b2 : decide (P < 4096) = true) (b3 : decide (L < 3) = false) (hB : Wn.nodB ⟨L, 0, P, 2, 0, 0, 0, 0, 0⟩ = false) :
    Calls Try.prog 6 #[.int .i64 i, .int .i64 p, .int .i64 l] w fun e w' => e = .returned (.bool true) ∧ Below w.heap.size w w' := by
  have HB := Wc.hid hB
  clear hB
  go_enter Try.func6, Try.ntmps6
  go_wp2_with fail
  rw [eA, eP, eL]
  clear eA eP eL b1 b2 b3
  refine (bytes7_bad ⟨L, 0, P, 2, 0, 0, 0, 0, 0⟩ _ HB.out).mono ?_
  rintro e w1 ⟨rfl, hb1⟩
  have A1 := Wc.hid ((Nh.new w ⟨L, 0, P, 2, 0, 0, 0, 0, 0⟩).keep hb1)
  have B1 := Wc.hid (Wc.step ((Below.refl w.heap.size w).alloc (Nat.le_refl _) _) (Nat.le_refl _) hb1)
  have al1 := (Below.refl w1.heap.size w1).alloc (Nat.le_refl _) (.cells #[.int .i64 M, .int .i64 0, .int .i64 0, .int .i64 0, .int .i64 0, .int .i64 0, .int .i64 0, .int .i64 0, .int .i64 0] 24)
  have al2 := (Below.refl (w1.alloc (.cells #[.int .i64 M, .int .i64 0, .int .i64 0, .int .i64 0, .int .i64 0, .int .i64 0, .int .i64 0, .int .i64 0, .int .i64 0] 24)).heap.size (w1.alloc (.cells #[.int .i64 M, .int .i64 0, .int .i64 0, .int .i64 0, .int .i64 0, .int .i64 0, .int .i64 0, .int .i64 0, .int .i64 0] 24))).alloc (Nat.le_refl _) (.cells #[.int .i64 0, .int .i64 0, .int .i64 (-1), .int .i64 0, .int .i64 0, .int .i64 0, .int .i64 0, .int .i64 0, .int .i64 0] 24)
  have A2 := Wc.hid ((A1.out.keep al1).keep al2)
  have B2 := Wc.hid (Wc.step (Wc.step B1.out (Nat.le_refl _) al1) (Nat.le_refl _) al2)
  have D2 := Wc.hid ((Nh.new w1 ⟨M, 0, 0, 0, 0, 0, 0, 0, 0⟩).keep al2)
  have E2 : Hid (Nh ((w1.alloc (.cells #[.int .i64 M, .int .i64 0, .int .i64 0, .int .i64 0, .int .i64 0, .int .i64 0, .int .i64 0, .int .i64 0, .int .i64 0] 24)).alloc (.cells #[.int .i64 0, .int .i64 0, .int .i64 (-1), .int .i64 0, .int .i64 0, .int .i64 0, .int .i64 0, .int .i64 0, .int .i64 0] 24)) (w1.heap.size + 1) ⟨0, 0, -1, 0, 0, 0, 0, 0, 0⟩) := Wc.hid (by
    have := Nh.new (w1.alloc (.cells #[.int .i64 M, .int .i64 0, .int .i64 0, .int .i64 0, .int .i64 0, .int .i64 0, .int .i64 0, .int .i64 0, .int .i64 0] 24)) ⟨0, 0, -1, 0, 0, 0, 0, 0, 0⟩
    simpa using this)
  clear hb1 al1 al2 A1 B1
  have ⟨c, c0, c1, c2, c3, c4, c5, c6, c7⟩ := A2.out.nc
  go_wp2_with fail
  clear c c0 c1 c2 c3 c4 c5 c6 c7
  obtain ⟨W, hW⟩ : ∃ W, (w1.alloc (.cells #[.int .i64 M, .int .i64 0, .int .i64 0, .int .i64 0, .int .i64 0, .int .i64 0, .int .i64 0, .int .i64 0, .int .i64 0] 24)).alloc (.cells #[.int .i64 0, .int .i64 0, .int .i64 (-1), .int .i64 0, .int .i64 0, .int .i64 0, .int .i64 0, .int .i64 0, .int .i64 0] 24) = W := ⟨_, rfl⟩
  rw [hW] at A2 B2 D2 E2 ⊢
  clear hW
  refine (check7_any ⟨L, 0, P, 2, 0, 0, 0, 0, 0⟩ _).mono ?_
  rintro e w2 ⟨rfl, hb2⟩
  rw [nodE_no HB.out]
  have B3 := Wc.hid (Wc.step B2.out (Nat.le_refl _) hb2)
  have D3 := Wc.hid (D2.out.keep hb2)
  have E3 := Wc.hid (E2.out.keep hb2)
  clear hb2 A2 B2 D2 E2
  have ⟨c, c0, c1, c2, c3, c4, c5, c6, c7⟩ := D3.out.nc
  go_wp2_with fail
  clear c c0 c1 c2 c3 c4 c5 c6 c7
  refine (check7_any ⟨M, 0, 0, 0, 0, 0, 0, 0, 0⟩ _).mono ?_
  rintro e w3 ⟨rfl, hb3⟩
  rw [nodE_no (mn_no M)]
  have B4 := Wc.hid (Wc.step B3.out (Nat.le_refl _) hb3)
  have E4 := Wc.hid (E3.out.keep hb3)
  clear hb3 B3 D3 E3
  have ⟨c, c0, c1, c2, c3, c4, c5, c6, c7⟩ := E4.out.nc
  go_wp2_with fail
  clear c c0 c1 c2 c3 c4 c5 c6 c7
  refine (check7_any ⟨0, 0, -1, 0, 0, 0, 0, 0, 0⟩ _).mono ?_
  rintro e w4 ⟨rfl, hb4⟩
  rw [show Wn.nodE ⟨0, 0, -1, 0, 0, 0, 0, 0, 0⟩ = 1 from nodE_no (ln_no 1 (by omega))]
  have B5 := Wc.hid (Wc.step B4.out (Nat.le_refl _) hb4)
  clear hb4 B4 E4
  go_wp2_with fail
  refine (wakes_any _).mono ?_
  rintro e w5 ⟨rfl, hb5⟩
  go_wp2_with fail
  go_ret
  exact ⟨rfl, Wc.step B5.out (Nat.le_refl _) hb5⟩

end Go.Proofs.Ytbficappjekalaa
