/-
  The walk of the law LeExact: for every slice of bytes and every four ints it returns true and turns nothing that was there.
-/
import Derived.Test.YtbognappianohaaBounds
import Derived.Deep.RegionWith
import Derived.Deep.RegionLaw
import Derived.Laws.CopyOwn
namespace Go.Proofs.Ytbognappianohaa
open Go.RowKit

set_option maxRecDepth 100000 in
set_option maxHeartbeats 400000 in
theorem leExact_long (a : Option Addr) (n cap : Nat) (p s m q : Int) (w : World) (hn : 500 < n) :
    Calls Try.prog 3 #[.slice a n cap, .int .i64 p, .int .i64 s, .int .i64 m, .int .i64 q] w fun e w' => e = .returned (.bool true) ∧ Below w.heap.size w w' := by
  go_enter Try.func3, Try.ntmps3
  go_wp2
  go_ret
  exact ⟨rfl, Below.refl _ _⟩

theorem place_cases (n : Nat) (p s : Int) : p < 0 ∨ (0 ≤ p ∧ (n : Int) < p) ∨ (0 ≤ p ∧ p ≤ (n : Int) ∧ decide (s ≤ (n : Int) - p) = false) ∨ (0 ≤ p ∧ p ≤ (n : Int) ∧ s ≤ (n : Int) - p) := by simp only [decide_eq_false_iff_not]; omega

-- A size that is none.
set_option maxRecDepth 100000 in
set_option maxHeartbeats 1000000 in
theorem leExact_size (a : Option Addr) (n cap : Nat) (xs : List Int) (p s m q : Int) (w : World) (hn : n ≤ 500) (hv : Wc.Bs w (.slice a n cap) xs) (h0 : .slice a n cap = Value.slice none 0 0 ∨ ∃ ad n' cap', .slice a n cap = Value.slice (some ad) n' cap')
    (hp : p ≤ 9223372036854775807) (hs : Wc.rsB s = false) :
    Calls Try.prog 3 #[.slice a n cap, .int .i64 p, .int .i64 s, .int .i64 m, .int .i64 q] w fun e w' => e = .returned (.bool true) ∧ Below w.heap.size w w' := by
  have R1 := Wc.hid (putR_arg xs p s m (.inl hs))
  have R2 : Hid (Wc.getR xs p s = (0, 1)) := by show _ = _; simp [Wc.getR, hs]
  have HV := Wc.hid hv
  have H0 := Wc.hid h0
  clear hv h0
  rcases place_cases n p s with h1 | ⟨h1, h2⟩ | ⟨h1, h2, h3⟩ | ⟨h1, h2, h3⟩
  all_goals
    go_enter Try.func3, Try.ntmps3
    go_wp2_with fail
    refine (twin_any _ xs _ HV.out H0.out).mono ?_
    rintro e w1 ⟨c, rfl, hc, hb1⟩
    have HC1 := Wc.hid hc
    have HV1 := Wc.hid (HV.out.keep hb1)
    clear hc
    go_wp2_with fail
    refine (put_keep _ xs _ _ _ _ HC1.out).mono ?_
    rintro e w2 ⟨x, rfl, hx, hc2, hb2⟩
    rw [R1.out] at hx
    rw [R1.out]
    have HC2 := Wc.hid hc2
    have HV2 := Wc.hid (HV1.out.keep hb2)
    have hb2' := Wc.step hb1 (Nat.le_refl _) hb2
    rcases hx.open with ⟨_, xa, xc, rfl, -⟩ | ⟨_, _, _, _, _, h, hl, -⟩
    rotate_left
    · simp at hl; omega
    clear hx hc2 hb1 hb2 HC1 HV1
    go_wp2_with fail
    refine (get_any _ xs _ _ _ HC2.out).mono ?_
    rintro e w3 ⟨rfl, rfl⟩
    rw [R2.out]
    go_wp2_with fail
    refine (zeros_any _ xs _ _ _ HC2.out hp).mono ?_
    rintro e w3 ⟨rfl, rfl⟩
    go_wp2_with fail
    refine (refZeros_any _ xs _ _ _ HV2.out hp).mono ?_
    rintro e w3 ⟨rfl, rfl⟩
    go_wp2_with fail
    refine (bytes_any _ _ xs xs _ HC2.out HV2.out).mono ?_
    rintro e w4 ⟨rfl, hb4⟩
    rw [beq_self_eq_true]
    have HV4 := Wc.hid (HV2.out.keep hb4)
    have hb4' := Wc.step hb2' (Nat.le_refl _) hb4
    clear hb4 hb2' HC2 HV2
    go_wp2_with fail
    refine (refSize_any _ _).mono ?_
    rintro e w5 ⟨rfl, rfl⟩
    rw [hs]
    go_wp2_with fail
    refine (wakes_any _).mono ?_
    rintro e w9 ⟨rfl, hb9⟩
    go_wp2_with fail
    go_ret
    exact ⟨rfl, Wc.step hb4' (Nat.le_refl _) hb9⟩

-- The place is not within; the number does not fit.
set_option maxRecDepth 100000 in
set_option maxHeartbeats 1000000 in
theorem leExact_fitno (a : Option Addr) (n cap : Nat) (xs : List Int) (p s m q : Int) (w : World) (hn : n ≤ 500) (hv : Wc.Bs w (.slice a n cap) xs) (h0 : .slice a n cap = Value.slice none 0 0 ∨ ∃ ad n' cap', .slice a n cap = Value.slice (some ad) n' cap')
    (hp : p ≤ 9223372036854775807) (hs : Wc.rsB s = true) (hf : Wc.fitB m s = false) (hpl : Wc.inB xs.length p s = false) (hpc : p < 0 ∨ (0 ≤ p ∧ (n : Int) < p) ∨ (0 ≤ p ∧ p ≤ (n : Int) ∧ decide (s ≤ (n : Int) - p) = false)) :
    Calls Try.prog 3 #[.slice a n cap, .int .i64 p, .int .i64 s, .int .i64 m, .int .i64 q] w fun e w' => e = .returned (.bool true) ∧ Below w.heap.size w w' := by
  have R1 := Wc.hid (putR_arg xs p s m (.inr hf))
  have R2 := Wc.hid (getR_range xs p s hs hpl)
  have HV := Wc.hid hv
  have H0 := Wc.hid h0
  clear hv h0 hpl
  rcases hpc with h1 | ⟨h1, h2⟩ | ⟨h1, h2, h3⟩
  all_goals
    go_enter Try.func3, Try.ntmps3
    go_wp2_with fail
    refine (twin_any _ xs _ HV.out H0.out).mono ?_
    rintro e w1 ⟨c, rfl, hc, hb1⟩
    have HC1 := Wc.hid hc
    have HV1 := Wc.hid (HV.out.keep hb1)
    clear hc
    go_wp2_with fail
    refine (put_keep _ xs _ _ _ _ HC1.out).mono ?_
    rintro e w2 ⟨x, rfl, hx, hc2, hb2⟩
    rw [R1.out] at hx
    rw [R1.out]
    have HC2 := Wc.hid hc2
    have HV2 := Wc.hid (HV1.out.keep hb2)
    have hb2' := Wc.step hb1 (Nat.le_refl _) hb2
    rcases hx.open with ⟨_, xa, xc, rfl, -⟩ | ⟨_, _, _, _, _, h, hl, -⟩
    rotate_left
    · simp at hl; omega
    clear hx hc2 hb1 hb2 HC1 HV1
    go_wp2_with fail
    refine (get_any _ xs _ _ _ HC2.out).mono ?_
    rintro e w3 ⟨rfl, rfl⟩
    rw [R2.out]
    go_wp2_with fail
    refine (zeros_any _ xs _ _ _ HC2.out hp).mono ?_
    rintro e w3 ⟨rfl, rfl⟩
    go_wp2_with fail
    refine (refZeros_any _ xs _ _ _ HV2.out hp).mono ?_
    rintro e w3 ⟨rfl, rfl⟩
    go_wp2_with fail
    refine (bytes_any _ _ xs xs _ HC2.out HV2.out).mono ?_
    rintro e w4 ⟨rfl, hb4⟩
    rw [beq_self_eq_true]
    have HV4 := Wc.hid (HV2.out.keep hb4)
    have hb4' := Wc.step hb2' (Nat.le_refl _) hb4
    clear hb4 hb2' HC2 HV2
    go_wp2_with fail
    refine (refSize_any _ _).mono ?_
    rintro e w5 ⟨rfl, rfl⟩
    rw [hs]
    go_wp2_with fail
    refine (refFits_any _ _ _ hs).mono ?_
    rintro e w6 ⟨rfl, rfl⟩
    rw [hf]
    go_wp2_with fail
    refine (wakes_any _).mono ?_
    rintro e w9 ⟨rfl, hb9⟩
    go_wp2_with fail
    go_ret
    exact ⟨rfl, Wc.step hb4' (Nat.le_refl _) hb9⟩

-- The place is not within; the number fits.
set_option maxRecDepth 100000 in
set_option maxHeartbeats 1000000 in
theorem leExact_range (a : Option Addr) (n cap : Nat) (xs : List Int) (p s m q : Int) (w : World) (hn : n ≤ 500) (hv : Wc.Bs w (.slice a n cap) xs) (h0 : .slice a n cap = Value.slice none 0 0 ∨ ∃ ad n' cap', .slice a n cap = Value.slice (some ad) n' cap')
    (hp : p ≤ 9223372036854775807) (hs : Wc.rsB s = true) (hf : Wc.fitB m s = true) (hpl : Wc.inB xs.length p s = false) (hpc : p < 0 ∨ (0 ≤ p ∧ (n : Int) < p) ∨ (0 ≤ p ∧ p ≤ (n : Int) ∧ decide (s ≤ (n : Int) - p) = false)) :
    Calls Try.prog 3 #[.slice a n cap, .int .i64 p, .int .i64 s, .int .i64 m, .int .i64 q] w fun e w' => e = .returned (.bool true) ∧ Below w.heap.size w w' := by
  have R1 := Wc.hid (putR_range xs p s m hs hf hpl)
  have R2 := Wc.hid (getR_range xs p s hs hpl)
  have HV := Wc.hid hv
  have H0 := Wc.hid h0
  clear hv h0 hpl
  rcases hpc with h1 | ⟨h1, h2⟩ | ⟨h1, h2, h3⟩
  all_goals
    go_enter Try.func3, Try.ntmps3
    go_wp2_with fail
    refine (twin_any _ xs _ HV.out H0.out).mono ?_
    rintro e w1 ⟨c, rfl, hc, hb1⟩
    have HC1 := Wc.hid hc
    have HV1 := Wc.hid (HV.out.keep hb1)
    clear hc
    go_wp2_with fail
    refine (put_keep _ xs _ _ _ _ HC1.out).mono ?_
    rintro e w2 ⟨x, rfl, hx, hc2, hb2⟩
    rw [R1.out] at hx
    rw [R1.out]
    have HC2 := Wc.hid hc2
    have HV2 := Wc.hid (HV1.out.keep hb2)
    have hb2' := Wc.step hb1 (Nat.le_refl _) hb2
    rcases hx.open with ⟨_, xa, xc, rfl, -⟩ | ⟨_, _, _, _, _, h, hl, -⟩
    rotate_left
    · simp at hl; omega
    clear hx hc2 hb1 hb2 HC1 HV1
    go_wp2_with fail
    refine (get_any _ xs _ _ _ HC2.out).mono ?_
    rintro e w3 ⟨rfl, rfl⟩
    rw [R2.out]
    go_wp2_with fail
    refine (zeros_any _ xs _ _ _ HC2.out hp).mono ?_
    rintro e w3 ⟨rfl, rfl⟩
    go_wp2_with fail
    refine (refZeros_any _ xs _ _ _ HV2.out hp).mono ?_
    rintro e w3 ⟨rfl, rfl⟩
    go_wp2_with fail
    refine (bytes_any _ _ xs xs _ HC2.out HV2.out).mono ?_
    rintro e w4 ⟨rfl, hb4⟩
    rw [beq_self_eq_true]
    have HV4 := Wc.hid (HV2.out.keep hb4)
    have hb4' := Wc.step hb2' (Nat.le_refl _) hb4
    clear hb4 hb2' HC2 HV2
    go_wp2_with fail
    refine (refSize_any _ _).mono ?_
    rintro e w5 ⟨rfl, rfl⟩
    rw [hs]
    go_wp2_with fail
    refine (refFits_any _ _ _ hs).mono ?_
    rintro e w6 ⟨rfl, rfl⟩
    rw [hf]
    go_wp2_with fail
    refine (wakes_any _).mono ?_
    rintro e w9 ⟨rfl, hb9⟩
    go_wp2_with fail
    go_ret
    exact ⟨rfl, Wc.step hb4' (Nat.le_refl _) hb9⟩

end Go.Proofs.Ytbognappianohaa
