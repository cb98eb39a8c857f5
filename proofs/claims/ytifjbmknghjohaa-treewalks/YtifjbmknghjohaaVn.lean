/-
  TreeWalks returns true where there is no tree, or an empty one.
-/
import Derived.Test.YtifjbmknghjohaaVm
import Derived.Test.YtifjbmknghjohaaVe
import Derived.Test.YtifjbmknghjohaaDhv
namespace Go.Proofs.Ytifjbmknghjohaa
open Go.RowKit

theorem raw_nil (w : World) : Wd.Raw w none 0 0 [] := ⟨rfl, Nat.le_refl _, by omega, by omega⟩

theorem heavy_nil (n : Nat) : Wd.heavyB n [] = !decide (n ≤ 19200) := by simp [Wd.heavyB]

set_option maxRecDepth 100000 in
set_option maxHeartbeats 3200000 in
theorem treeWalks_heavy (ai : Option Addr) (ni ci : Nat) (root : Int) (w : World) (hh : 19200 < ni) :
    Calls Try.prog 6 #[.slice ai ni ci, .int .i64 root] w fun e w' => e = .returned (.bool true) ∧ Below w.heap.size w w' := by
  have hv : Wd.heavyB ni [] = true := by rw [heavy_nil]; simp; omega
  go_enter Try.func6, Try.ntmps6
  go_wp2_with fail
  refine (heavy_raw _ _ _ _ _ _ [] _ (raw_nil _)).mono ?_
  rintro e w1 ⟨rfl, rfl⟩
  rw [hv]
  go_wp2_with fail
  go_ret
  exact ⟨rfl, Below.refl _ _⟩

set_option maxRecDepth 100000 in
set_option maxHeartbeats 3200000 in
theorem treeWalks_none (ai : Option Addr) (ni ci : Nat) (xs : List Int) (root : Int) (w : World) (hv : Wc.Bs w (.slice ai ni ci) xs) (hn : ni ≤ 19200) (hE : ¬ Wt.treE xs root = 0) :
    Calls Try.prog 6 #[.slice ai ni ci, .int .i64 root] w fun e w' => e = .returned (.bool true) ∧ Below w.heap.size w w' := by
  have hh : Wd.heavyB ni [] = false := by rw [heavy_nil]; simp; omega
  obtain ⟨hS, hN⟩ := Wt.tree_untold hE
  obtain ⟨E, hEE⟩ : ∃ E, Wt.treE xs root = E := ⟨_, rfl⟩
  rw [hEE] at hE
  have hz : (E != 0) = true := by simpa using hE
  have HV := Wc.hid hv
  have HS := Wc.hid hS
  have HN := Wc.hid hN
  have HE := Wc.hid hEE
  clear hv hS hN hEE hE
  go_enter Try.func6, Try.ntmps6
  go_wp2_with fail
  refine (heavy_raw _ _ _ _ _ _ [] _ (raw_nil _)).mono ?_
  rintro e w1 ⟨rfl, rfl⟩
  rw [hh]
  go_wp2_with fail
  refine (map_any _ xs root _ HV.out).mono ?_
  rintro e w2 ⟨a2, n2, c2, rfl, hI2, hb2⟩
  rw [HE.out]
  rw [HS.out] at hI2
  have hn2 : n2 = 0 := (Wv.rv_len hI2).symm
  subst hn2
  have V2 := Wc.hid (HV.out.keep hb2)
  have B2 := Wc.hid hb2
  clear hI2 hb2 HV
  go_wp2_with fail
  refine (nodes_any _ xs root _ V2.out).mono ?_
  rintro e w3 ⟨a3, n3, c3, rfl, hI3, hb3⟩
  rw [HE.out]
  rw [HN.out] at hI3
  have hn3 : n3 = 0 := (Wv.rv_len hI3).symm
  subst hn3
  have B3 := Wc.hid (Wc.step B2.out (Nat.le_refl _) hb3)
  clear hI3 hb3 B2 V2
  go_wp2_with fail
  refine (wakes_any _).mono ?_
  rintro e w4 ⟨rfl, hb4⟩
  have B4 := Wc.hid (Wc.step B3.out (Nat.le_refl _) hb4)
  clear hb4 B3
  go_wp2_with fail
  go_ret
  exact ⟨rfl, B4.out⟩

set_option maxRecDepth 100000 in
set_option maxHeartbeats 3200000 in
theorem treeWalks_zero (ai : Option Addr) (ni ci : Nat) (xs : List Int) (w : World) (hv : Wc.Bs w (.slice ai ni ci) xs) (hn : ni ≤ 19200) (hE : Wt.treE xs 0 = 0) :
    Calls Try.prog 6 #[.slice ai ni ci, .int .i64 0] w fun e w' => e = .returned (.bool true) ∧ Below w.heap.size w w' := by
  have hh : Wd.heavyB ni [] = false := by rw [heavy_nil]; simp; omega
  obtain ⟨hS, hN⟩ := Wt.tree_zero hE
  obtain ⟨z, hz⟩ : ∃ z, Wt.treS xs 0 = z := ⟨_, rfl⟩
  rw [hz] at hS
  obtain ⟨mc, hmk⟩ := made512
  have HMK := Wc.hid hmk
  have HV := Wc.hid hv
  have HS := Wc.hid hS
  have HZ := Wc.hid hz
  have HN := Wc.hid hN
  have HE := Wc.hid hE
  clear hv hS hN hE hz hmk
  go_enter Try.func6, Try.ntmps6
  go_wp2_with fail
  refine (heavy_raw _ _ _ _ _ _ [] _ (raw_nil _)).mono ?_
  rintro e w1 ⟨rfl, rfl⟩
  rw [hh]
  go_wp2_with fail
  refine (map_any _ xs 0 _ HV.out).mono ?_
  rintro e w2 ⟨a2, n2, c2, rfl, hI2, hb2⟩
  rw [HE.out]
  rw [HZ.out] at hI2
  have M2 := Wc.hid hI2
  have V2 := Wc.hid (HV.out.keep hb2)
  have B2 := Wc.hid hb2
  clear hI2 hb2 HV
  go_wp2_with fail
  refine (nodes_any _ xs 0 _ V2.out).mono ?_
  rintro e w3 ⟨a3, n3, c3, rfl, hI3, hb3⟩
  rw [HE.out]
  rw [HN.out] at hI3
  have hn3 : n3 = 0 := (Wv.rv_len hI3).symm
  subst hn3
  have M3 := Wc.hid (M2.out.keep hb3)
  have B3 := Wc.hid (Wc.step B2.out (Nat.le_refl _) hb3)
  clear hI3 hb3 B2 V2 M2
  have hmk' := HMK.out.1
  go_wp2_with fail
  clear hmk'
  have al := (Below.refl w3.heap.size w3).alloc (Nat.le_refl _) (.cells mc 3)
  have IL := ints_any _ _ z z _ (M3.out.keep al) (made_in mc HMK.out.2 z HS.out w3)
  rw [show (z == z) = true from beq_self_eq_true z] at IL
  have B4 := Wc.hid (Wc.step B3.out (Nat.le_refl _) al)
  clear M3 B3 al
  refine IL.mono ?_
  clear IL
  rintro e w5 ⟨rfl, hb5⟩
  have B5 := Wc.hid (Wc.step B4.out (Nat.le_refl _) hb5)
  clear hb5 B4
  go_wp2_with fail
  refine (wakes_any _).mono ?_
  rintro e w6 ⟨rfl, hb6⟩
  have B6 := Wc.hid (Wc.step B5.out (Nat.le_refl _) hb6)
  clear hb6 B5
  go_wp2_with fail
  go_ret
  exact ⟨rfl, B6.out⟩

end Go.Proofs.Ytifjbmknghjohaa
