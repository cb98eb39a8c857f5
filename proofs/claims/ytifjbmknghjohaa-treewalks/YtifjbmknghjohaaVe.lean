/-
  TreeBent returns true where the root is a node of another level, beyond the device, a slot.
-/
import Derived.Test.YtifjbmknghjohaaVo
namespace Go.Proofs.Ytifjbmknghjohaa
open Go.RowKit

/-- What is told where there is no tree; what is told of the empty one. -/
theorem bent_facts (ys : List Int) (bad : Int) (hd : Wd.devB ys.length = true) (h : Wt.tre ys bad = none) : Wt.treE ys bad = 6 ∧ Wt.treS ys bad = [] ∧ Wt.treE ys 0 = 0 ∧ ∃ z, Wt.treS ys 0 = z ∧ z = List.replicate 512 0 := by
  have h6 := Wt.tre_none hd h
  have ht : Wt.tre ys 0 = some Wt.s0 := by unfold Wt.tre; rw [if_pos rfl]
  have h0 := Wt.tre_some hd ht
  exact ⟨h6.1, h6.2.2, h0.1, _, rfl, h0.2.2⟩

theorem made_in (mc : Array Value) (hmc : ∀ w : World, (w.alloc (.cells mc 3)).rowIs w.heap.size 3 512 (fun _ => .int .i64 0)) (z : List Int) (hz : z = List.replicate 512 0) (w : World) : Wd.In (w.alloc (.cells mc 3)) (.slice (some ⟨w.heap.size, 0, none⟩) 512 512) z := by
  have hl : z.length = 512 := by rw [hz]; exact List.length_replicate
  refine rv_row (World.rowIs.congr (hmc w) fun j _ => ?_) hl (by omega)
  rw [hz, zeros_getD]

set_option maxRecDepth 100000 in
set_option maxHeartbeats 6400000 in
theorem bent_level (p s how c : Int) (w : World) (eH : (IntKind.u64.wrap how).tmod 5 = 0) :
    Calls Try.prog 5 #[.int .i64 p, .int .i64 s, .int .i64 how, .int .u8 c] w fun e w' => e = .returned (.bool true) ∧ Below w.heap.size w w' := by
  obtain ⟨A, hA, eA⟩ := lowA p 7 2 (by omega) (by omega) (by omega)
  obtain ⟨S, hS, eS⟩ := lowN s 512 (by omega) (by omega)
  have eA' : wrap64 (2 + wrap64 ((IntKind.u64.wrap p).tmod 7)) = (A : Int) := eA
  have eS' : wrap64 ((IntKind.u64.wrap s).tmod 512) = (S : Int) := eS
  clear eA eS
  obtain ⟨mc, hmk⟩ := made512
  have HMK := Wc.hid hmk
  clear hmk
  obtain ⟨xs, hx⟩ : ∃ xs, Wt.ch 14 A S 13 3 = xs := ⟨_, rfl⟩
  obtain ⟨R, hR⟩ : ∃ R, R = ((A + 2 : Nat) : Int) := ⟨_, rfl⟩
  have HX := Wc.hid hx
  have HR := Wc.hid hR
  have EA := Wc.hid eA'
  have ES := Wc.hid eS'
  have EH := Wc.hid eH
  clear hx hR eA' eS' eH
  go_enter Try.func5, Try.ntmps5
  go_wp2_with fail
  rw [EA.out, ES.out]
  clear EA ES
  refine (chain_bs 14 A S 13 896 xs R 14 _ rfl HX.out HR.out (by omega) (by omega) (by omega) hS (by omega) (by omega) (by omega)).mono ?_
  rintro e w1 ⟨g, rfl, hO1, hb1⟩
  have hR0 : (R == 0) = false := by have := HR.out; simp; omega
  have eH := EH.out
  have V1 := Wc.hid hO1.bs
  have B1 := Wc.hid hb1
  clear hO1 hb1
  have hC := Wt.ch_cha (b := 14) (at_ := A) (s := S) (d := 13) (by omega) (by omega) (by omega) hS (by omega)
  have hSt := Wt.ch_sta (b := 14) (at_ := A) (s := S) (d := 13) (by omega) (by omega) (by omega) (by omega) (by omega) 0 (by omega)
  rw [HX.out] at hC hSt
  have hno : Wt.tre xs (A : Int) = none := Wt.tre_no (by omega) (Wt.met_no (Wt.okN_level hSt (by omega)) _ _)
  obtain ⟨f1, f2, f3, z, f4, f5⟩ := bent_facts xs (A : Int) hC.dev hno
  have F1 := Wc.hid f1
  have F2 := Wc.hid f2
  have F3 := Wc.hid f3
  have F4 := Wc.hid f4
  have F5 := Wc.hid f5
  clear f1 f2 f3 f4 f5 hno hC HX HR EH hSt
  go_wp2_with fail
  clear eH hR0
  refine (map_any _ xs (A : Int) _ V1.out).mono ?_
  rintro e t2 ⟨a2, n2, c2, rfl, hI2, hb2⟩
  rw [F1.out]
  rw [F2.out] at hI2
  have hn2 : n2 = 0 := (Wv.rv_len hI2).symm
  subst hn2
  have V2 := Wc.hid (V1.out.keep hb2)
  have B2 := Wc.hid (Wc.step B1.out (Nat.le_refl _) hb2)
  clear hI2 hb2 V1 B1
  go_wp2_with fail
  refine (nodes_any _ xs (A : Int) _ V2.out).mono ?_
  rintro e t3 ⟨a3, n3, c3, rfl, -, hb3⟩
  rw [F1.out]
  have V3 := Wc.hid (V2.out.keep hb3)
  have B3 := Wc.hid (Wc.step B2.out (Nat.le_refl _) hb3)
  clear hb3 V2 B2
  go_wp2_with fail
  refine (map_any _ xs 0 _ V3.out).mono ?_
  rintro e t4 ⟨a4, n4, c4, rfl, hI4, hb4⟩
  rw [F3.out]
  rw [F4.out] at hI4
  have M4 := Wc.hid hI4
  have B4 := Wc.hid (Wc.step B3.out (Nat.le_refl _) hb4)
  clear hI4 hb4 V3 B3
  have hmk' := HMK.out.1
  go_wp2_with fail
  clear hmk'
  have al := (Below.refl t4.heap.size t4).alloc (Nat.le_refl _) (.cells mc 3)
  have IL := ints_any _ _ z z _ (M4.out.keep al) (made_in mc HMK.out.2 z F5.out t4)
  rw [show (z == z) = true from beq_self_eq_true z] at IL
  have B5 := Wc.hid (Wc.step B4.out (Nat.le_refl _) al)
  clear M4 B4 al
  refine IL.mono ?_
  clear IL
  rintro e t5 ⟨rfl, hb5⟩
  have B6 := Wc.hid (Wc.step B5.out (Nat.le_refl _) hb5)
  clear hb5 B5
  go_wp2_with fail
  refine (wakes_any _).mono ?_
  rintro e t6 ⟨rfl, hb6⟩
  have B7 := Wc.hid (Wc.step B6.out (Nat.le_refl _) hb6)
  clear hb6 B6
  go_wp2_with fail
  go_ret
  exact ⟨rfl, B7.out⟩

set_option maxRecDepth 100000 in
set_option maxHeartbeats 6400000 in
theorem bent_far (p s how c : Int) (w : World) (eH : (IntKind.u64.wrap how).tmod 5 = 1) :
    Calls Try.prog 5 #[.int .i64 p, .int .i64 s, .int .i64 how, .int .u8 c] w fun e w' => e = .returned (.bool true) ∧ Below w.heap.size w w' := by
  obtain ⟨A, hA, eA⟩ := lowA p 7 2 (by omega) (by omega) (by omega)
  obtain ⟨S, hS, eS⟩ := lowN s 512 (by omega) (by omega)
  have eA' : wrap64 (2 + wrap64 ((IntKind.u64.wrap p).tmod 7)) = (A : Int) := eA
  have eS' : wrap64 ((IntKind.u64.wrap s).tmod 512) = (S : Int) := eS
  clear eA eS
  obtain ⟨mc, hmk⟩ := made512
  have HMK := Wc.hid hmk
  clear hmk
  obtain ⟨xs, hx⟩ : ∃ xs, Wt.ch 14 A S 13 3 = xs := ⟨_, rfl⟩
  obtain ⟨R, hR⟩ : ∃ R, R = ((A + 2 : Nat) : Int) := ⟨_, rfl⟩
  have HX := Wc.hid hx
  have HR := Wc.hid hR
  have EA := Wc.hid eA'
  have ES := Wc.hid eS'
  have EH := Wc.hid eH
  clear hx hR eA' eS' eH
  go_enter Try.func5, Try.ntmps5
  go_wp2_with fail
  rw [EA.out, ES.out]
  clear EA ES
  refine (chain_bs 14 A S 13 896 xs R 14 _ rfl HX.out HR.out (by omega) (by omega) (by omega) hS (by omega) (by omega) (by omega)).mono ?_
  rintro e w1 ⟨g, rfl, hO1, hb1⟩
  have hR0 : (R == 0) = false := by have := HR.out; simp; omega
  have eH := EH.out
  have V1 := Wc.hid hO1.bs
  have B1 := Wc.hid hb1
  clear hO1 hb1
  have hC := Wt.ch_cha (b := 14) (at_ := A) (s := S) (d := 13) (by omega) (by omega) (by omega) hS (by omega)
  rw [HX.out] at hC
  have hno : Wt.tre xs 14 = none := Wt.tre_far (by omega) (by rw [hC.len]; omega)
  obtain ⟨f1, f2, f3, z, f4, f5⟩ := bent_facts xs 14 hC.dev hno
  have F1 := Wc.hid f1
  have F2 := Wc.hid f2
  have F3 := Wc.hid f3
  have F4 := Wc.hid f4
  have F5 := Wc.hid f5
  clear f1 f2 f3 f4 f5 hno hC HX HR EH
  go_wp2_with fail
  clear eH hR0
  refine (map_any _ xs 14 _ V1.out).mono ?_
  rintro e t2 ⟨a2, n2, c2, rfl, hI2, hb2⟩
  rw [F1.out]
  rw [F2.out] at hI2
  have hn2 : n2 = 0 := (Wv.rv_len hI2).symm
  subst hn2
  have V2 := Wc.hid (V1.out.keep hb2)
  have B2 := Wc.hid (Wc.step B1.out (Nat.le_refl _) hb2)
  clear hI2 hb2 V1 B1
  go_wp2_with fail
  refine (nodes_any _ xs 14 _ V2.out).mono ?_
  rintro e t3 ⟨a3, n3, c3, rfl, -, hb3⟩
  rw [F1.out]
  have V3 := Wc.hid (V2.out.keep hb3)
  have B3 := Wc.hid (Wc.step B2.out (Nat.le_refl _) hb3)
  clear hb3 V2 B2
  go_wp2_with fail
  refine (map_any _ xs 0 _ V3.out).mono ?_
  rintro e t4 ⟨a4, n4, c4, rfl, hI4, hb4⟩
  rw [F3.out]
  rw [F4.out] at hI4
  have M4 := Wc.hid hI4
  have B4 := Wc.hid (Wc.step B3.out (Nat.le_refl _) hb4)
  clear hI4 hb4 V3 B3
  have hmk' := HMK.out.1
  go_wp2_with fail
  clear hmk'
  have al := (Below.refl t4.heap.size t4).alloc (Nat.le_refl _) (.cells mc 3)
  have IL := ints_any _ _ z z _ (M4.out.keep al) (made_in mc HMK.out.2 z F5.out t4)
  rw [show (z == z) = true from beq_self_eq_true z] at IL
  have B5 := Wc.hid (Wc.step B4.out (Nat.le_refl _) al)
  clear M4 B4 al
  refine IL.mono ?_
  clear IL
  rintro e t5 ⟨rfl, hb5⟩
  have B6 := Wc.hid (Wc.step B5.out (Nat.le_refl _) hb5)
  clear hb5 B5
  go_wp2_with fail
  refine (wakes_any _).mono ?_
  rintro e t6 ⟨rfl, hb6⟩
  have B7 := Wc.hid (Wc.step B6.out (Nat.le_refl _) hb6)
  clear hb6 B6
  go_wp2_with fail
  go_ret
  exact ⟨rfl, B7.out⟩

set_option maxRecDepth 100000 in
set_option maxHeartbeats 6400000 in
theorem bent_slot (p s how c : Int) (w : World) (eH : (IntKind.u64.wrap how).tmod 5 = 2) :
    Calls Try.prog 5 #[.int .i64 p, .int .i64 s, .int .i64 how, .int .u8 c] w fun e w' => e = .returned (.bool true) ∧ Below w.heap.size w w' := by
  obtain ⟨A, hA, eA⟩ := lowA p 7 2 (by omega) (by omega) (by omega)
  obtain ⟨S, hS, eS⟩ := lowN s 512 (by omega) (by omega)
  have eA' : wrap64 (2 + wrap64 ((IntKind.u64.wrap p).tmod 7)) = (A : Int) := eA
  have eS' : wrap64 ((IntKind.u64.wrap s).tmod 512) = (S : Int) := eS
  clear eA eS
  obtain ⟨mc, hmk⟩ := made512
  have HMK := Wc.hid hmk
  clear hmk
  obtain ⟨xs, hx⟩ : ∃ xs, Wt.ch 14 A S 13 3 = xs := ⟨_, rfl⟩
  obtain ⟨R, hR⟩ : ∃ R, R = ((A + 2 : Nat) : Int) := ⟨_, rfl⟩
  have HX := Wc.hid hx
  have HR := Wc.hid hR
  have EA := Wc.hid eA'
  have ES := Wc.hid eS'
  have EH := Wc.hid eH
  clear hx hR eA' eS' eH
  go_enter Try.func5, Try.ntmps5
  go_wp2_with fail
  rw [EA.out, ES.out]
  clear EA ES
  refine (chain_bs 14 A S 13 896 xs R 14 _ rfl HX.out HR.out (by omega) (by omega) (by omega) hS (by omega) (by omega) (by omega)).mono ?_
  rintro e w1 ⟨g, rfl, hO1, hb1⟩
  have hR0 : (R == 0) = false := by have := HR.out; simp; omega
  have eH := EH.out
  have V1 := Wc.hid hO1.bs
  have B1 := Wc.hid hb1
  clear hO1 hb1
  have hC := Wt.ch_cha (b := 14) (at_ := A) (s := S) (d := 13) (by omega) (by omega) (by omega) hS (by omega)
  rw [HX.out] at hC
  have hno : Wt.tre xs 1 = none := Wt.tre_far (by omega) (by rw [hC.len]; omega)
  obtain ⟨f1, f2, f3, z, f4, f5⟩ := bent_facts xs 1 hC.dev hno
  have F1 := Wc.hid f1
  have F2 := Wc.hid f2
  have F3 := Wc.hid f3
  have F4 := Wc.hid f4
  have F5 := Wc.hid f5
  clear f1 f2 f3 f4 f5 hno hC HX HR EH
  go_wp2_with fail
  clear eH hR0
  refine (map_any _ xs 1 _ V1.out).mono ?_
  rintro e t2 ⟨a2, n2, c2, rfl, hI2, hb2⟩
  rw [F1.out]
  rw [F2.out] at hI2
  have hn2 : n2 = 0 := (Wv.rv_len hI2).symm
  subst hn2
  have V2 := Wc.hid (V1.out.keep hb2)
  have B2 := Wc.hid (Wc.step B1.out (Nat.le_refl _) hb2)
  clear hI2 hb2 V1 B1
  go_wp2_with fail
  refine (nodes_any _ xs 1 _ V2.out).mono ?_
  rintro e t3 ⟨a3, n3, c3, rfl, -, hb3⟩
  rw [F1.out]
  have V3 := Wc.hid (V2.out.keep hb3)
  have B3 := Wc.hid (Wc.step B2.out (Nat.le_refl _) hb3)
  clear hb3 V2 B2
  go_wp2_with fail
  refine (map_any _ xs 0 _ V3.out).mono ?_
  rintro e t4 ⟨a4, n4, c4, rfl, hI4, hb4⟩
  rw [F3.out]
  rw [F4.out] at hI4
  have M4 := Wc.hid hI4
  have B4 := Wc.hid (Wc.step B3.out (Nat.le_refl _) hb4)
  clear hI4 hb4 V3 B3
  have hmk' := HMK.out.1
  go_wp2_with fail
  clear hmk'
  have al := (Below.refl t4.heap.size t4).alloc (Nat.le_refl _) (.cells mc 3)
  have IL := ints_any _ _ z z _ (M4.out.keep al) (made_in mc HMK.out.2 z F5.out t4)
  rw [show (z == z) = true from beq_self_eq_true z] at IL
  have B5 := Wc.hid (Wc.step B4.out (Nat.le_refl _) al)
  clear M4 B4 al
  refine IL.mono ?_
  clear IL
  rintro e t5 ⟨rfl, hb5⟩
  have B6 := Wc.hid (Wc.step B5.out (Nat.le_refl _) hb5)
  clear hb5 B5
  go_wp2_with fail
  refine (wakes_any _).mono ?_
  rintro e t6 ⟨rfl, hb6⟩
  have B7 := Wc.hid (Wc.step B6.out (Nat.le_refl _) hb6)
  clear hb6 B6
  go_wp2_with fail
  go_ret
  exact ⟨rfl, B7.out⟩

end Go.Proofs.Ytifjbmknghjohaa
