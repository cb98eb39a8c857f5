/-
  The walk of the law CrcMore: for every three slices of bytes it returns true and turns nothing that was there.
-/
import Derived.Test.YtdfhickpgfjahaaRefGood
namespace Go.Proofs.Ytdfhickpgfjahaa
open Go.RowKit

set_option maxHeartbeats 400000 in
theorem crcMore_long (a : Option Addr) (n cap : Nat) (a2 : Option Addr) (n2 cap2 : Nat) (a3 : Option Addr) (n3 cap3 : Nat) (w : World) (hn : 600 < n ∨ 600 < n2 ∨ 600 < n3) :
    Calls Try.prog 4 #[.slice a n cap, .slice a2 n2 cap2, .slice a3 n3 cap3] w fun e w' => e = .returned (.bool true) ∧ Below w.heap.size w w' := by
  by_cases h1 : 600 < n
  · have hd : decide ((600 : Int) < (n : Int)) = true := decide_eq_true (by omega)
    go_enter Try.func4, Try.ntmps4
    go_wp2
    go_ret
    exact ⟨rfl, Below.refl _ _⟩
  · have hd : decide ((600 : Int) < (n : Int)) = false := decide_eq_false (by omega)
    by_cases h2 : 600 < n2
    · have hd2 : decide ((600 : Int) < (n2 : Int)) = true := decide_eq_true (by omega)
      go_enter Try.func4, Try.ntmps4
      go_wp2
      go_ret
      exact ⟨rfl, Below.refl _ _⟩
    · have hd2 : decide ((600 : Int) < (n2 : Int)) = false := decide_eq_false (by omega)
      have hd3 : decide ((600 : Int) < (n3 : Int)) = true := decide_eq_true (by omega)
      go_enter Try.func4, Try.ntmps4
      go_wp2
      go_ret
      exact ⟨rfl, Below.refl _ _⟩

set_option maxRecDepth 100000 in
set_option maxHeartbeats 400000 in
theorem crcMore_any (a : Option Addr) (n cap : Nat) (a2 : Option Addr) (n2 cap2 : Nat) (a3 : Option Addr) (n3 cap3 : Nat) (xs ys zs : List Int) (w : World) (hn : n ≤ 600) (hn2 : n2 ≤ 600) (hn3 : n3 ≤ 600)
    (hv : Wc.Bs w (.slice a n cap) xs) (hs : Wc.Shaped (.slice a n cap)) (hv2 : Wc.Bs w (.slice a2 n2 cap2) ys) (hs2 : Wc.Shaped (.slice a2 n2 cap2)) (hv3 : Wc.Bs w (.slice a3 n3 cap3) zs) (hs3 : Wc.Shaped (.slice a3 n3 cap3)) :
    Calls Try.prog 4 #[.slice a n cap, .slice a2 n2 cap2, .slice a3 n3 cap3] w fun e w' => e = .returned (.bool true) ∧ Below w.heap.size w w' := by
  have HV := Wc.hid hv
  have HV2 := Wc.hid hv2
  have HV3 := Wc.hid hv3
  have l1 := Wc.bs_len hv
  have l2 := Wc.bs_len hv2
  have l3 := Wc.bs_len hv3
  have hd : decide ((600 : Int) < (n : Int)) = false := decide_eq_false (by omega)
  have hd2 : decide ((600 : Int) < (n2 : Int)) = false := decide_eq_false (by omega)
  have hd3 : decide ((600 : Int) < (n3 : Int)) = false := decide_eq_false (by omega)
  obtain ⟨i0, hi, hz0, hz1, hz2⟩ := info_parts Try.infoU8
  have hr := Wc.more_range 0 (xs ++ ys ++ zs) (by
    intro x hx
    rcases List.mem_append.1 hx with h | h
    · rcases List.mem_append.1 h with h | h
      · exact Wc.bs_bytes hv x h
      · exact Wc.bs_bytes hv2 x h
    · exact Wc.bs_bytes hv3 x h)
  have E1 := Wc.hid (Wc.more_append 0 xs ys (Wc.bs_bytes hv))
  have E2 := Wc.hid (Wc.more_append 0 (xs ++ ys) zs (by
    intro x hx
    rcases List.mem_append.1 hx with h | h
    · exact Wc.bs_bytes hv x h
    · exact Wc.bs_bytes hv2 x h))
  have E3 : Hid (Wc.more (Wc.more 0 (xs ++ ys ++ zs)) [] = Wc.more 0 (xs ++ ys ++ zs)) := Wc.hid (by rw [Wc.more_nil, Int.emod_eq_of_lt hr.1 hr.2])
  obtain ⟨r1, r2⟩ := hr
  obtain ⟨S, hS⟩ : ∃ S, S = Wc.more 0 (xs ++ ys ++ zs) := ⟨_, rfl⟩
  rw [← hS] at r1 r2 E2 E3
  have HS := Wc.hid hS
  clear hv hv2 hv3 hS
  go_enter Try.func4, Try.ntmps4
  go_wp2_with fail
  refine (twin_ob _ xs _ HV.out hs).mono ?_
  rintro e w1 ⟨x, rfl, hx, hb1⟩
  obtain ⟨x2, w2, hrun2, hx2, hb2⟩ := Wc.append_run (P := Try.prog) (ty := 22) Try.underlying22 hi hz0 hz1 hz2 hx (HV2.out.keep hb1) hs2 (by omega) hb1.size
  have hb2' := hb1.trans hb2
  clear hb2 hb1 hx
  obtain ⟨x3, w3, hrun3, hx3, hb3⟩ := Wc.append_run (P := Try.prog) (ty := 22) Try.underlying22 hi hz0 hz1 hz2 hx2 (HV3.out.keep hb2') hs3 (by rw [List.length_append]; omega) hb2'.size
  have hb3' := hb2'.trans hb3
  clear hb3 hb2' hx2
  have HX3 := Wc.hid hx3
  clear hx3
  go_wp2_with (first | (at_builtin; refine Wc.wp_append hrun2 rfl rfl rfl rfl ?_) | (at_builtin; refine Wc.wp_append hrun3 rfl rfl rfl rfl ?_))
  clear hrun2 hrun3
  refine (sum_any _ _ _ HX3.out.bs).mono ?_
  rintro e w4 ⟨rfl, rfl⟩
  rw [← HS.out]
  have HB := Wc.hid hb3'
  clear hb3' HX3
  go_wp2_with fail
  refine (sum_any _ xs _ (HV.out.keep HB.out)).mono ?_
  rintro e w4 ⟨rfl, rfl⟩
  go_wp2_with fail
  refine (more_any _ _ ys _ (HV2.out.keep HB.out)).mono ?_
  rintro e w4 ⟨rfl, rfl⟩
  go_wp2_with fail
  refine (more_any _ _ zs _ (HV3.out.keep HB.out)).mono ?_
  rintro e w4 ⟨rfl, rfl⟩
  rw [← E1.out, ← E2.out]
  go_wp2_with fail
  refine (twin_ob _ xs _ (HV.out.keep HB.out) hs).mono ?_
  rintro e w4 ⟨y, rfl, hy, hb4⟩
  have hb4' := Wc.step HB.out (Nat.le_refl _) hb4
  obtain ⟨y2, w5, hrun5, hy2, hb5⟩ := Wc.append_run (P := Try.prog) (ty := 22) Try.underlying22 hi hz0 hz1 hz2 hy (HV2.out.keep hb4') hs2 (by omega) hb4.size
  have hb5' := hb4'.trans (hb5.mono HB.out.size)
  clear hb5 hb4' hb4 hy
  have HY := Wc.hid hy2
  clear hy2
  go_wp2_with (at_builtin; refine Wc.wp_append hrun5 rfl rfl rfl rfl ?_)
  clear hrun5
  refine (sum_any _ _ _ HY.out.bs).mono ?_
  rintro e w6 ⟨rfl, rfl⟩
  go_wp2_with fail
  refine (more_any _ _ zs _ (HV3.out.keep hb5')).mono ?_
  rintro e w6 ⟨rfl, rfl⟩
  rw [← E2.out]
  go_wp2_with fail
  refine (more_any _ _ [] _ (Wc.Bs.nil _)).mono ?_
  rintro e w6 ⟨rfl, rfl⟩
  rw [E3.out]
  go_wp2_with fail
  refine (wakes_any _).mono ?_
  rintro e w7 ⟨rfl, hb7⟩
  go_wp2_with fail
  go_ret
  exact ⟨rfl, Wc.step hb5' (Nat.le_refl _) hb7⟩
#print axioms crcMore_any
end Go.Proofs.Ytdfhickpgfjahaa
