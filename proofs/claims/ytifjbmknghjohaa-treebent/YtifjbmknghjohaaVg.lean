/-
  TreeBent returns true where a byte of a node is changed.
-/
import Derived.Test.YtifjbmknghjohaaVf
namespace Go.Proofs.Ytifjbmknghjohaa
open Go.RowKit

/-- A byte of memory of the call's own set anew. -/
theorem ob_set {base g n k i : Nat} {w : World} {xs : List Int} (h : Wc.Ob 5 base w (.slice (some ⟨g, 0, none⟩) n k) xs) {z : Int} (hz : 0 ≤ z ∧ z < 256) : Wc.Ob 5 base (w.setCell ⟨g, i, none⟩ (.int .u8 z)) (.slice (some ⟨g, 0, none⟩) n k) (xs.set i z) := by
  obtain ⟨⟨h1, h2⟩, h3, h4⟩ := h
  rcases h2 with ⟨hn, _⟩ | ⟨g', cap, cur, hv, hbg, hg, c1, c2, c3, c4⟩
  · cases hn
  · injection hv with e1 e2 e3
    injection e1 with e1
    injection e1 with e1
    subst e1 e2 e3
    refine ⟨⟨by simp, .inr ⟨g, k, cur.setIfInBounds i (.int .u8 z), by simp, hbg, heap_setCell_same w g i cur 5 _ hg, by simpa using c1, c2, by simpa using c3, ?_⟩⟩, by simpa using h3, ?_⟩
    · rw [List.length_set, Array.toList_setIfInBounds, List.take_set, c4, List.map_set]
    · intro x hx
      rcases List.mem_or_eq_of_mem_set hx with h | h
      · exact h4 x h
      · rw [h]; exact hz

theorem ob_form0 {base g n k : Nat} {w : World} {xs : List Int} (h : Wc.Ob 5 base w (.slice (some ⟨g, 0, none⟩) n k) xs) : base ≤ g ∧ ∀ i, w.frozen? ⟨g, i, none⟩ = false := by
  rcases h.1.2 with ⟨hn, _⟩ | ⟨g', cap, cur, hv, hbg, hg, _⟩
  · cases hn
  · injection hv with e1 e2 e3
    injection e1 with e1
    injection e1 with e1
    subst e1
    exact ⟨hbg, fun i => by simp [World.frozen?, hg]⟩

set_option maxRecDepth 100000 in
set_option maxHeartbeats 6400000 in
theorem bent_byte (p s how c : Int) (w : World) (eH : (IntKind.u64.wrap how).tmod 5 = 3) (C : Nat) (hc : c = C) (h1 : 1 ≤ C) (h2 : C < 256) :
    Calls Try.prog 5 #[.int .i64 p, .int .i64 s, .int .i64 how, .int .u8 c] w fun e w' => e = .returned (.bool true) ∧ Below w.heap.size w w' := by
  obtain ⟨A, hA, eA⟩ := lowA p 7 2 (by omega) (by omega) (by omega)
  obtain ⟨S, hS, eS⟩ := lowN s 512 (by omega) (by omega)
  have eA' : wrap64 (2 + wrap64 ((IntKind.u64.wrap p).tmod 7)) = (A : Int) := eA
  have eS' : wrap64 ((IntKind.u64.wrap s).tmod 512) = (S : Int) := eS
  clear eA eS
  obtain ⟨mc, hmk⟩ := made512
  have HMK := Wc.hid hmk
  clear hmk
  obtain ⟨xs, hx⟩ : ∃ xs, Wt.ch 14 A S 13 3 = xs := ⟨_, rfl⟩
  obtain ⟨R, hR⟩ : ∃ R, R = ((A + 2 : Nat) : Int) := ⟨_, rfl⟩
  have HX := Wc.hid hx
  have HR := Wc.hid hR
  have EA := Wc.hid eA'
  have ES := Wc.hid eS'
  have EH := Wc.hid eH
  clear hx hR eA' eS' eH
  go_enter Try.func5, Try.ntmps5
  go_wp2_with fail
  rw [EA.out, ES.out]
  clear EA ES
  refine (chain_bs 14 A S 13 896 xs R 14 _ rfl HX.out HR.out (by omega) (by omega) (by omega) hS (by omega) (by omega) (by omega)).mono ?_
  rintro e w1 ⟨g, rfl, hO1, hb1⟩
  have hR0 : (R == 0) = false := by have := HR.out; simp; omega
  have eH := EH.out
  have hB := hO1.bs
  have hf := ob_form0 hO1
  have hxl := Wc.bs_len hB
  have hxb := Wc.bs_bytes hB
  obtain ⟨q, hq⟩ : ∃ q, q = (A + C % 3) * 64 + C % 64 := ⟨_, rfl⟩
  have hq9 : q < 896 := by omega
  have hcl : w1.cell? ⟨g, q, none⟩ = some (.int .u8 (xs.getD q 0)) := by
    obtain ⟨_, _, _, h1, -, -, -, -, -, h7⟩ := hB
    cases h1
    obtain ⟨b, off, h8, -, h9⟩ := h7 (by omega)
    cases h8
    have := h9 q hq9
    rwa [Nat.zero_add] at this
  have hfr := hf.2 q
  have bu := hxb (xs.getD q 0) (by rw [List.getD_eq_getElem?_getD, List.getElem?_eq_getElem (by omega)]; simp)
  have hxo : bits .xor .u8 (xs.getD q 0) (C : Int) = (((xs.getD q 0).toNat ^^^ ((C : Nat) : Int).toNat : Nat) : Int) := u8_xor (xs.getD q 0) (C : Nat) bu.1 bu.2 (by omega) (by omega)
  obtain ⟨z', hz'⟩ : ∃ z' : Int, z' = (((xs.getD q 0).toNat ^^^ ((C : Nat) : Int).toNat : Nat) : Int) := ⟨_, rfl⟩
  rw [← hz'] at hxo
  obtain ⟨x, hxe⟩ : ∃ x, xs.getD q 0 = x := ⟨_, rfl⟩
  rw [hxe] at hcl hxo
  have O1 := Wc.hid hO1
  have B1 := Wc.hid hb1
  have HZ := Wc.hid hz'
  have HXE := Wc.hid hxe
  have HQ := Wc.hid hq
  have HF := Wc.hid hf.1
  have HL := Wc.hid hxl
  have HBU := Wc.hid bu
  clear hO1 hb1 hB hf hxl hxb hz' hxe bu
  rw [hq] at hcl hfr
  clear hq
  go_wp2_with fail
  clear hcl hfr hxo
  obtain ⟨ys, hy⟩ : ∃ ys, xs.set ((A + C % 3) * 64 + C % 64) z' = ys := ⟨_, rfl⟩
  have hzb : 0 ≤ z' ∧ z' < 256 := by
    have h1 := HBU.out
    have := Nat.xor_lt_two_pow (n := 8) (x := (xs.getD q 0).toNat) (y := ((C : Nat) : Int).toNat) (by omega) (by omega)
    rw [HZ.out]; omega
  have O2 := ob_set (i := (A + C % 3) * 64 + C % 64) O1.out hzb
  rw [hy] at O2
  have V1 := Wc.hid O2.bs
  have B1 : Hid (Below w.heap.size w (w1.setCell ⟨g, (A + C % 3) * 64 + C % 64, none⟩ (.int .u8 z'))) := Wc.hid (B1.out.setCell HF.out _)
  have hdev : Wd.devB ys.length = true := by rw [Wc.bs_len O2.bs]; decide
  have hno : Wt.tre ys R = none := by
    rw [HR.out]
    refine Wt.tre_byte (b := 14) (s := S) (d := 13) (k := C % 3) (i := C % 64) (c := ((C : Nat) : Int)) (by omega) (by omega) (by omega) (by omega) (by omega) (by omega) (by omega) (by omega) (by rw [← hy, List.length_set]; exact HL.out) fun j hj => ?_
    have e := HL.out
    rw [HX.out, ← hy, List.getD_eq_getElem?_getD]
    by_cases ej : j = (A + C % 3) * 64 + C % 64
    · subst ej
      rw [if_pos rfl, List.getElem?_set_self (by omega)]
      show z' = _
      rw [HZ.out, HQ.out]
    · rw [if_neg ej, List.getElem?_set_ne (by omega), List.getD_eq_getElem?_getD]
  obtain ⟨f1, f2, f3, z, f4, f5⟩ := bent_facts ys R hdev hno
  have F1 := Wc.hid f1
  have F2 := Wc.hid f2
  have F3 := Wc.hid f3
  have F4 := Wc.hid f4
  have F5 := Wc.hid f5
  clear f1 f2 f3 f4 f5 hno hdev O2 O1 hy HX HR EH HZ HXE HQ HF HL HBU hzb eH hR0
  generalize w1.setCell ⟨g, (A + C % 3) * 64 + C % 64, none⟩ (.int .u8 z') = w2 at *
  refine (map_any _ ys R _ V1.out).mono ?_
  rintro e t2 ⟨a2, n2, c2, rfl, hI2, hb2⟩
  rw [F1.out]
  rw [F2.out] at hI2
  have hn2 : n2 = 0 := (Wv.rv_len hI2).symm
  subst hn2
  have V2 := Wc.hid (V1.out.keep hb2)
  have B2 := Wc.hid (Wc.step B1.out (Nat.le_refl _) hb2)
  clear hI2 hb2 V1 B1
  go_wp2_with fail
  refine (nodes_any _ ys R _ V2.out).mono ?_
  rintro e t3 ⟨a3, n3, c3, rfl, -, hb3⟩
  rw [F1.out]
  have V3 := Wc.hid (V2.out.keep hb3)
  have B3 := Wc.hid (Wc.step B2.out (Nat.le_refl _) hb3)
  clear hb3 V2 B2
  go_wp2_with fail
  refine (map_any _ ys 0 _ V3.out).mono ?_
  rintro e t4 ⟨a4, n4, c4, rfl, hI4, hb4⟩
  rw [F3.out]
  rw [F4.out] at hI4
  have M4 := Wc.hid hI4
  have B4 := Wc.hid (Wc.step B3.out (Nat.le_refl _) hb4)
  clear hI4 hb4 V3 B3
  have hmk' := HMK.out.1
  go_wp2_with fail
  clear hmk'
  have al := (Below.refl t4.heap.size t4).alloc (Nat.le_refl _) (.cells mc 3)
  have IL := ints_any _ _ z z _ (M4.out.keep al) (made_in mc HMK.out.2 z F5.out t4)
  rw [show (z == z) = true from beq_self_eq_true z] at IL
  have B5 := Wc.hid (Wc.step B4.out (Nat.le_refl _) al)
  clear M4 B4 al
  refine IL.mono ?_
  clear IL
  rintro e t5 ⟨rfl, hb5⟩
  have B6 := Wc.hid (Wc.step B5.out (Nat.le_refl _) hb5)
  clear hb5 B5
  go_wp2_with fail
  refine (wakes_any _).mono ?_
  rintro e t6 ⟨rfl, hb6⟩
  have B7 := Wc.hid (Wc.step B6.out (Nat.le_refl _) hb6)
  clear hb6 B6
  go_wp2_with fail
  go_ret
  exact ⟨rfl, B7.out⟩

set_option maxRecDepth 100000 in
set_option maxHeartbeats 6400000 in
theorem bent_none (p s how c : Int) (w : World) (eH : (IntKind.u64.wrap how).tmod 5 = 3) (hc : c = 0) :
    Calls Try.prog 5 #[.int .i64 p, .int .i64 s, .int .i64 how, .int .u8 c] w fun e w' => e = .returned (.bool true) ∧ Below w.heap.size w w' := by
  obtain ⟨A, hA, eA⟩ := lowA p 7 2 (by omega) (by omega) (by omega)
  obtain ⟨S, hS, eS⟩ := lowN s 512 (by omega) (by omega)
  have eA' : wrap64 (2 + wrap64 ((IntKind.u64.wrap p).tmod 7)) = (A : Int) := eA
  have eS' : wrap64 ((IntKind.u64.wrap s).tmod 512) = (S : Int) := eS
  clear eA eS
  obtain ⟨mc, hmk⟩ := made512
  have HMK := Wc.hid hmk
  clear hmk
  obtain ⟨xs, hx⟩ : ∃ xs, Wt.ch 14 A S 13 3 = xs := ⟨_, rfl⟩
  obtain ⟨R, hR⟩ : ∃ R, R = ((A + 2 : Nat) : Int) := ⟨_, rfl⟩
  have HX := Wc.hid hx
  have HR := Wc.hid hR
  have EA := Wc.hid eA'
  have ES := Wc.hid eS'
  have EH := Wc.hid eH
  clear hx hR eA' eS' eH
  go_enter Try.func5, Try.ntmps5
  go_wp2_with fail
  rw [EA.out, ES.out]
  clear EA ES
  refine (chain_bs 14 A S 13 896 xs R 14 _ rfl HX.out HR.out (by omega) (by omega) (by omega) hS (by omega) (by omega) (by omega)).mono ?_
  rintro e w1 ⟨g, rfl, hO1, hb1⟩
  have hR0 : (R == 0) = false := by have := HR.out; simp; omega
  have eH := EH.out
  have hB := hO1.bs
  have hf := ob_form0 hO1
  have hxl := Wc.bs_len hB
  have hxb := Wc.bs_bytes hB
  obtain ⟨q, hq⟩ : ∃ q, q = (A + 1) * 64 + 1 := ⟨_, rfl⟩
  have hq9 : q < 896 := by omega
  have hcl : w1.cell? ⟨g, q, none⟩ = some (.int .u8 (xs.getD q 0)) := by
    obtain ⟨_, _, _, h1, -, -, -, -, -, h7⟩ := hB
    cases h1
    obtain ⟨b, off, h8, -, h9⟩ := h7 (by omega)
    cases h8
    have := h9 q hq9
    rwa [Nat.zero_add] at this
  have hfr := hf.2 q
  have bu := hxb (xs.getD q 0) (by rw [List.getD_eq_getElem?_getD, List.getElem?_eq_getElem (by omega)]; simp)
  have hxo : bits .xor .u8 (xs.getD q 0) (1 : Int) = (((xs.getD q 0).toNat ^^^ ((1 : Nat) : Int).toNat : Nat) : Int) := u8_xor (xs.getD q 0) (1 : Nat) bu.1 bu.2 (by omega) (by omega)
  obtain ⟨z', hz'⟩ : ∃ z' : Int, z' = (((xs.getD q 0).toNat ^^^ ((1 : Nat) : Int).toNat : Nat) : Int) := ⟨_, rfl⟩
  rw [← hz'] at hxo
  obtain ⟨x, hxe⟩ : ∃ x, xs.getD q 0 = x := ⟨_, rfl⟩
  rw [hxe] at hcl hxo
  have O1 := Wc.hid hO1
  have B1 := Wc.hid hb1
  have HZ := Wc.hid hz'
  have HXE := Wc.hid hxe
  have HQ := Wc.hid hq
  have HF := Wc.hid hf.1
  have HL := Wc.hid hxl
  have HBU := Wc.hid bu
  clear hO1 hb1 hB hf hxl hxb hz' hxe bu
  rw [hq] at hcl hfr
  clear hq
  go_wp2_with fail
  clear hcl hfr hxo
  obtain ⟨ys, hy⟩ : ∃ ys, xs.set ((A + 1) * 64 + 1) z' = ys := ⟨_, rfl⟩
  have hzb : 0 ≤ z' ∧ z' < 256 := by
    have h1 := HBU.out
    have := Nat.xor_lt_two_pow (n := 8) (x := (xs.getD q 0).toNat) (y := ((1 : Nat) : Int).toNat) (by omega) (by omega)
    rw [HZ.out]; omega
  have O2 := ob_set (i := (A + 1) * 64 + 1) O1.out hzb
  rw [hy] at O2
  have V1 := Wc.hid O2.bs
  have B1 : Hid (Below w.heap.size w (w1.setCell ⟨g, (A + 1) * 64 + 1, none⟩ (.int .u8 z'))) := Wc.hid (B1.out.setCell HF.out _)
  have hdev : Wd.devB ys.length = true := by rw [Wc.bs_len O2.bs]; decide
  have hno : Wt.tre ys R = none := by
    rw [HR.out]
    refine Wt.tre_byte (b := 14) (s := S) (d := 13) (k := 1) (i := 1) (c := ((1 : Nat) : Int)) (by omega) (by omega) (by omega) (by omega) (by omega) (by omega) (by omega) (by omega) (by rw [← hy, List.length_set]; exact HL.out) fun j hj => ?_
    have e := HL.out
    rw [HX.out, ← hy, List.getD_eq_getElem?_getD]
    by_cases ej : j = (A + 1) * 64 + 1
    · subst ej
      rw [if_pos rfl, List.getElem?_set_self (by omega)]
      show z' = _
      rw [HZ.out, HQ.out]
    · rw [if_neg ej, List.getElem?_set_ne (by omega), List.getD_eq_getElem?_getD]
  obtain ⟨f1, f2, f3, z, f4, f5⟩ := bent_facts ys R hdev hno
  have F1 := Wc.hid f1
  have F2 := Wc.hid f2
  have F3 := Wc.hid f3
  have F4 := Wc.hid f4
  have F5 := Wc.hid f5
  clear f1 f2 f3 f4 f5 hno hdev O2 O1 hy HX HR EH HZ HXE HQ HF HL HBU hzb eH hR0
  generalize w1.setCell ⟨g, (A + 1) * 64 + 1, none⟩ (.int .u8 z') = w2 at *
  refine (map_any _ ys R _ V1.out).mono ?_
  rintro e t2 ⟨a2, n2, c2, rfl, hI2, hb2⟩
  rw [F1.out]
  rw [F2.out] at hI2
  have hn2 : n2 = 0 := (Wv.rv_len hI2).symm
  subst hn2
  have V2 := Wc.hid (V1.out.keep hb2)
  have B2 := Wc.hid (Wc.step B1.out (Nat.le_refl _) hb2)
  clear hI2 hb2 V1 B1
  go_wp2_with fail
  refine (nodes_any _ ys R _ V2.out).mono ?_
  rintro e t3 ⟨a3, n3, c3, rfl, -, hb3⟩
  rw [F1.out]
  have V3 := Wc.hid (V2.out.keep hb3)
  have B3 := Wc.hid (Wc.step B2.out (Nat.le_refl _) hb3)
  clear hb3 V2 B2
  go_wp2_with fail
  refine (map_any _ ys 0 _ V3.out).mono ?_
  rintro e t4 ⟨a4, n4, c4, rfl, hI4, hb4⟩
  rw [F3.out]
  rw [F4.out] at hI4
  have M4 := Wc.hid hI4
  have B4 := Wc.hid (Wc.step B3.out (Nat.le_refl _) hb4)
  clear hI4 hb4 V3 B3
  have hmk' := HMK.out.1
  go_wp2_with fail
  clear hmk'
  have al := (Below.refl t4.heap.size t4).alloc (Nat.le_refl _) (.cells mc 3)
  have IL := ints_any _ _ z z _ (M4.out.keep al) (made_in mc HMK.out.2 z F5.out t4)
  rw [show (z == z) = true from beq_self_eq_true z] at IL
  have B5 := Wc.hid (Wc.step B4.out (Nat.le_refl _) al)
  clear M4 B4 al
  refine IL.mono ?_
  clear IL
  rintro e t5 ⟨rfl, hb5⟩
  have B6 := Wc.hid (Wc.step B5.out (Nat.le_refl _) hb5)
  clear hb5 B5
  go_wp2_with fail
  refine (wakes_any _).mono ?_
  rintro e t6 ⟨rfl, hb6⟩
  have B7 := Wc.hid (Wc.step B6.out (Nat.le_refl _) hb6)
  clear hb6 B6
  go_wp2_with fail
  go_ret
  exact ⟨rfl, B7.out⟩

end Go.Proofs.Ytifjbmknghjohaa
