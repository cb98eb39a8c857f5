/-
  The walk of the law GaugeExact: for every two words and every slice of float64 it returns true and turns nothing that was there.
-/
import Derived.Test.YtdebkkojeemlbaaGwake
import Derived.Deep.QuietTactic
import Derived.BigQuiet
namespace Go.Proofs.Ytdebkkojeemlbaa
open Go.RowKit

theorem gaugeExact_long (x y : Nat) (a : Option Addr) (n cap : Nat) (w : World) (hn : 100 < n) :
    Calls Try.prog 3 #[.float .f64 x, .float .f64 y, .slice a n cap] w fun e w' => e = .returned (.bool true) ∧ Below w.heap.size w w' := by
  go_enter Try.func3, Try.ntmps3
  go_wp2
  all_goals go_ret
  exact ⟨rfl, Below.refl _ _⟩

theorem info22 : (Try.prog.info? 22).map (fun i => (i.zero, i.size, i.bytes)) = some (some (.float .f64 0), 1, 8) := by kernel_rfl

theorem refShare_below (a b : Nat) (ha : a < Wf.M64) (hb : b < Wf.M64) (w : World) :
    Calls Try.prog 10 #[.float .f64 a, .float .f64 b] w fun e w' => ∃ r, e = .returned (.float .f64 r) ∧ Wf.IsShare a b r ∧ Below w.heap.size w w' :=
  (refShare_any a b ha hb w).mono fun e w' ⟨r, he, hr, hw⟩ => ⟨r, he, hr, by
    rcases hw with rfl | rfl
    · exact Below.refl _ _
    · exact (Below.refl _ _).drew⟩

theorem quiet_same {P : Program} {f : FuncId} {args : Array Value} {w : World} {n : Nat} {v : Value}
    (h : Calls P f args (w.drewN n) fun e w' => e = .returned v ∧ w.drewN n = w') : Calls P f args (w.drewN n) fun e w'' => e = .returned v ∧ ∃ m, w'' = w.drewN m :=
  h.mono fun _ _ ⟨he, hm⟩ => ⟨he, n, hm.symm⟩

theorem refSame_self (x : Nat) (w : World) : Calls Try.prog 8 #[.float .f64 x, .float .f64 x] w fun e w' => e = .returned (.bool true) ∧ w = w' :=
  (refSame_any x x w).mono fun e w' ⟨he, hw⟩ => ⟨by rw [he, Wf.sameB_refl], hw⟩

set_option maxRecDepth 100000 in
set_option maxHeartbeats 1600000 in
theorem gaugeExact_any (x y : Nat) (a : Option Addr) (n cap : Nat) (xs : List Nat) (w : World) (hx : x < Wf.M64) (hy : y < Wf.M64) (hn : n ≤ 100) (hv : Wv.Rv Wv.fl 0 w (.slice a n cap) xs) (hs : Wv.Shaped (.slice a n cap)) (hxs : ∀ z ∈ xs, z < Wf.M64) :
    Calls Try.prog 3 #[.float .f64 x, .float .f64 y, .slice a n cap] w fun e w' => e = .returned (.bool true) ∧ Below w.heap.size w w' := by
  obtain ⟨i0, hi, hz0, hz1, hz2⟩ := info_parts info22
  have hlen := Wv.rv_len hv
  obtain ⟨v', w1, hrun, hO, hb1⟩ := Wv.append_run (P := Try.prog) (ty := 23) Try.underlying23 hi hz0 hz1 hz2 rfl (by omega) (fun _ => rfl) (Wv.Ov.nil 22 w.heap.size w) hv hs (by simp; omega) (Nat.le_refl _)
  rw [List.nil_append] at hO
  have HO := Wv.hid hO
  have HB1 := Wv.hid hb1
  have HV := Wv.hid hv
  have HL := Wv.hid hlen
  have HX := Wv.hid hxs
  clear hO hb1 hv hs hlen hxs hi hz0 hz1 hz2
  go_enter Try.func3, Try.ntmps3
  go_wp2_with (at_builtin; refine Wv.wp_append hrun rfl rfl rfl rfl ?_)
  clear hrun
  go_wp2_with fail
  refine (share_any x y hx hy _).mono ?_
  rintro e w' ⟨r, rfl, hr, rfl⟩
  go_wp2_with fail
  refine (refShare_below x y hx hy _).mono ?_
  rintro e w2 ⟨s, rfl, hs, hb2⟩
  go_wp2_with fail
  refine (refSame_any r s _).mono ?_
  rintro e w' ⟨rfl, rfl⟩
  rw [Wf.share_same hr hs]
  clear hr hs
  go_wp2_with fail
  refine (percent_any x hx _).mono ?_
  rintro e w' ⟨rfl, rfl⟩
  go_wp2_with fail
  refine (refPercent_any x hx _).mono ?_
  rintro e w' ⟨rfl, rfl⟩
  have HV2 := Wv.hid ((HV.out.keep HB1.out).keep hb2)
  have HO2 := Wv.hid (HO.out.keep hb2)
  have HB2 := Wv.hid (Wv.step HB1.out (Nat.le_refl _) hb2)
  clear HV HO HB1 hb2
  go_wp2_with fail
  refine (least_any _ xs _ HO2.out.rv HX.out).mono ?_
  rintro e w' ⟨r, rfl, hr, rfl⟩
  go_wp2_with fail
  refine (refLeast_any _ xs _ HV2.out HX.out).mono ?_
  rintro e w' ⟨s, rfl, hs, rfl⟩
  go_wp2_with fail
  refine (refSame_any r s _).mono ?_
  rintro e w' ⟨rfl, rfl⟩
  rw [Wf.least_same (fun _ => Iff.rfl) hr hs]
  clear hr hs
  go_wp2_with fail
  refine (same_any x y _).mono ?_
  rintro e w' ⟨rfl, rfl⟩
  go_wp2_with fail
  refine (refSame_any x y _).mono ?_
  rintro e w' ⟨rfl, rfl⟩
  go_wp2_with fail
  have hbd : Below w2.heap.size w2 w2.drew := (Below.refl _ _).drew
  have HV3 := Wv.hid (HV2.out.keep hbd)
  have HO3 := Wv.hid (HO2.out.keep hbd)
  have HB3 := Wv.hid (Wv.step HB2.out (Nat.le_refl _) hbd)
  clear HV2 HO2 HB2 hbd
  generalize w2.drew = w3 at *
  rcases Nat.eq_zero_or_pos n with h0 | h0
  · subst h0
    clear HV3 HO3
    go_loopw [8] (fun i wr => i = .int .i64 0 ∧ w3 = wr) (fun _ _ => 0)
    case atStart => exact ⟨rfl, rfl⟩
    case round =>
      obtain ⟨rfl, rfl⟩ := hrel
      go_wp2_with fail
      refine (wakes_any _).mono ?_
      rintro e w4 ⟨rfl, hb4⟩
      go_wp2
      go_ret
      exact ⟨rfl, Wv.step HB3.out (Nat.le_refl _) hb4⟩
  · rcases HV3.out.open with ⟨h, _⟩ | ⟨b1, o1, n1, c1, hv1, _, hl1, _, _, _, hlt1, hc1⟩
    · have := HL.out; rw [h] at this; simp at this; omega
    cases hv1
    rcases (HO3.out.rv (d := 0)).open with ⟨h, _⟩ | ⟨b2, o2, n2, c2, hv2, _, hl2, hle2, _, _, hlt2, hc2⟩
    · have := HL.out; rw [h] at this; simp at this; omega
    obtain rfl : n2 = n := by rw [← hl2, HL.out]
    have HC1 := Wv.hid hc1
    have HC2 := Wv.hid hc2
    clear HV3 HO3 hl1 hl2 hc1 hc2
    subst hv2
    go_loopw [8] (fun i wr => ∃ k : Nat, k ≤ n2 ∧ i = .int .i64 k ∧ Below w3.heap.size w3 wr) (fun i _ => n2 - (intOf i).toNat)
    case atStart => exact ⟨0, by omega, rfl, Below.refl _ _⟩
    case round =>
      obtain ⟨k, hk, rfl, hbr⟩ := hrel
      by_cases hlt : k < n2
      · have c1 : wr.cell? ⟨b1, o1 + k, none⟩ = some (Wv.fl (xs.getD k 0)) := (hbr.cell (p := ⟨b1, o1 + k, none⟩) hlt1).trans (HC1.out k hlt)
        have c2 : wr.cell? ⟨b2, o2 + k, none⟩ = some (Wv.fl (xs.getD k 0)) := (hbr.cell (p := ⟨b2, o2 + k, none⟩) hlt2).trans (HC2.out k hlt)
        unfold Wv.fl at c1 c2
        generalize xs.getD k 0 = z at *
        go_wp2
        go_quiet (first | (go_at_call 8; refine quiet_same (refSame_self z _)) | fail)
        go_wp2
        go_roundw
        case rel => exact ⟨k + 1, by omega, by go_num, below_drewN hbr _⟩
        case measure => simp [intOf]; omega
      · go_wp2_with fail
        refine (wakes_any _).mono ?_
        rintro e w4 ⟨rfl, hb4⟩
        go_wp2
        go_ret
        exact ⟨rfl, Wv.step (Wv.step HB3.out (Nat.le_refl _) hbr) (Nat.le_refl _) hb4⟩

end Go.Proofs.Ytdebkkojeemlbaa
