/-
  AllocLeft: what the statement's function returns.
-/
import Derived.Test.YtiobegoiehjfiaaLw
namespace Go.Proofs.Ytiobegoiehjfiaa
open Go.RowKit

theorem hvyX (n : Nat) : Wd.heavyB n [] = !decide (n ≤ 19200) := by simp [Wd.heavyB]
theorem rwX (w : World) : Wd.Raw w none 0 0 [] := ⟨rfl, Nat.le_refl _, by omega, fun h => by omega⟩

set_option maxRecDepth 100000 in
set_option maxHeartbeats 3200000 in
theorem allocLeft_heavy (ai : Option Addr) (ni ci : Nat) (w : World) (hh : 19200 < ni) :
    Calls Try.prog 5 #[.slice ai ni ci] w fun e w' => e = .returned (.bool true) ∧ Below w.heap.size w w' := by
  have hv : Wd.heavyB ni [] = true := by rw [hvyX]; simp; omega
  go_enter Try.func5, Try.ntmps5
  go_wp2_with fail
  refine (heavy_raw _ _ _ _ _ _ [] _ (rwX _)).mono ?_
  rintro e w1 ⟨rfl, rfl⟩
  rw [hv]
  go_wp2_with fail
  go_ret
  exact ⟨rfl, Below.refl _ _⟩

set_option maxRecDepth 100000 in
set_option maxHeartbeats 6400000 in
theorem allocLeft_none (ai : Option Addr) (ni ci : Nat) (xs : List Int) (w : World) (hv : Wc.Bs w (.slice ai ni ci) xs) (hn : ni ≤ 19200) (hE : ¬ opnE xs = 0) :
    Calls Try.prog 5 #[.slice ai ni ci] w fun e w' => e = .returned (.bool true) ∧ Below w.heap.size w w' := by
  have hh : Wd.heavyB ni [] = false := by rw [hvyX]; simp; omega
  obtain ⟨E, hEE⟩ : ∃ E, opnE xs = E := ⟨_, rfl⟩
  have HNE := Wc.hid hE
  rw [hEE] at hE
  have hz : (E != 0) = true := by simpa using hE
  have HV := Wc.hid hv
  have HE := Wc.hid hEE
  clear hv hEE hE
  go_enter Try.func5, Try.ntmps5
  go_wp2_with fail
  refine (heavy_raw _ _ _ _ _ _ [] _ (rwX _)).mono ?_
  rintro e w1 ⟨rfl, rfl⟩
  rw [hh]
  go_wp2_with fail
  refine (left13_any _ xs _ HV.out).mono ?_
  rintro e w3 ⟨hb3, -, hy⟩
  obtain rfl := hy HNE.out
  rw [HE.out]
  have V3 := Wc.hid (HV.out.keep hb3)
  have B3 := Wc.hid hb3
  clear hy hb3
  go_wp2_with fail
  refine (used_any _ xs _ V3.out).mono ?_
  rintro e w4 ⟨hb4, -, hy⟩
  obtain rfl := hy HNE.out
  rw [HE.out]
  have B4 := Wc.hid (Wc.step B3.out (Nat.le_refl _) hb4)
  clear hy hb4
  go_wp2_with fail
  refine (wakes_any _).mono ?_
  rintro e w5 ⟨rfl, hb5⟩
  have B5 := Wc.hid (Wc.step B4.out (Nat.le_refl _) hb5)
  clear hb5
  go_wp2_with fail
  go_ret
  exact ⟨rfl, B5.out⟩

set_option maxRecDepth 100000 in
set_option maxHeartbeats 6400000 in
theorem allocLeft_some (ai : Option Addr) (ni ci : Nat) (xs : List Int) (w : World) (hv : Wc.Bs w (.slice ai ni ci) xs) (hn : ni ≤ 19200) (hE : opnE xs = 0) :
    Calls Try.prog 5 #[.slice ai ni ci] w fun e w' => e = .returned (.bool true) ∧ Below w.heap.size w w' := by
  have hh : Wd.heavyB ni [] = false := by rw [hvyX]; simp; omega
  have hI := img_of hE
  have hd := Wd.devB_iff.1 hI.dev
  have hxl := Wc.bs_len hv
  have hfu := Wl.fre_used (m := xs.length / 64) (cnt_slots hI).1 (cnt_slots hI).2 _ (Nat.le_refl _)
  have htwo := Wl.used_two (m := xs.length / 64) (cnt_slots hI).1 (cnt_slots hI).2 (by omega)
  obtain ⟨F, hF⟩ : ∃ F, (Wl.fre (Wj.cts (cnt xs) (xs.length / 64)) (xs.length / 64)).length = F := ⟨_, rfl⟩
  obtain ⟨U, hU⟩ : ∃ U, Wj.usedN (cnt xs) (xs.length / 64) = U := ⟨_, rfl⟩
  rw [hF, hU] at hfu
  rw [hU] at htwo
  have hsum : ((F : Int) + (U : Int)) * 64 = (ni : Int) := by omega
  have HV := Wc.hid hv
  have HE := Wc.hid hE
  have HF := Wc.hid hF
  have HU := Wc.hid hU
  clear hv hE hF hU hfu hxl hd hI
  go_enter Try.func5, Try.ntmps5
  go_wp2_with fail
  refine (heavy_raw _ _ _ _ _ _ [] _ (rwX _)).mono ?_
  rintro e w1 ⟨rfl, rfl⟩
  rw [hh]
  go_wp2_with fail
  refine (left13_any _ xs _ HV.out).mono ?_
  rintro e w3 ⟨hb3, hy, -⟩
  obtain rfl := hy HE.out
  rw [HF.out]
  have V3 := Wc.hid (HV.out.keep hb3)
  have B3 := Wc.hid hb3
  clear hy hb3
  go_wp2_with fail
  refine (used_any _ xs _ V3.out).mono ?_
  rintro e w4 ⟨hb4, hy, -⟩
  obtain rfl := hy HE.out
  rw [HU.out]
  have B4 := Wc.hid (Wc.step B3.out (Nat.le_refl _) hb4)
  clear hy hb4
  go_wp2_with fail
  refine (wakes_any _).mono ?_
  rintro e w5 ⟨rfl, hb5⟩
  have B5 := Wc.hid (Wc.step B4.out (Nat.le_refl _) hb5)
  clear hb5
  go_wp2_with fail
  go_ret
  exact ⟨rfl, B5.out⟩
end Go.Proofs.Ytiobegoiehjfiaa
