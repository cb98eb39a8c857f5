/-
  What gauge.Least and the page's Least return, for every slice of float64.
-/
import Derived.Test.YtdebkkojeemlbaaGsame
import Derived.Test.YtdebkkojeemlbaaFrow
import Derived.Test.YtdebkkojeemlbaaFlt7
namespace Go.Proofs.Ytdebkkojeemlbaa
open Go.RowKit

theorem getD_lt {xs : List Nat} (hx : ∀ x ∈ xs, x < Wf.M64) (k : Nat) (h : k < xs.length) : xs.getD k 0 < Wf.M64 :=
  hx _ (by rw [List.getD_eq_getElem?_getD, List.getElem?_eq_getElem h]; simp)

set_option maxHeartbeats 800000 in
theorem least_pos (b off n cap : Nat) (xs : List Nat) (w : World) (hx : ∀ x ∈ xs, x < Wf.M64) (hn : n ≤ 17592186044416) (hl : xs.length = n) (hc : ∀ i, i < n → w.cell? ⟨b, off + i, none⟩ = some (Wv.fl (xs.getD i 0))) :
    Calls Try.prog 13 #[.slice (some ⟨b, off, none⟩) n cap] w fun e w' => ∃ r, e = .returned (.float .f64 r) ∧ Wf.IsLeast xs r ∧ w = w' := by
  have HL := Wv.hid hl
  have HX := Wv.hid hx
  have HC := Wv.hid hc
  clear hl hx hc
  go_enter Try.func13, Try.ntmps13
  go_wp2_with (first | (go_at_call 20; refine (mathNaN_any _).mono ?_; rintro e w' ⟨rfl, rfl⟩))
  go_loop [3, 9] (fun v i => ∃ (k r : Nat), k ≤ n ∧ i = .int .i64 k ∧ v = .float .f64 r ∧ Hid (Wf.IsLeast (xs.take k) r)) (fun _ i => n - (intOf i).toNat)
  case atStart => exact ⟨0, _, by omega, rfl, rfl, Wv.hid (by rw [List.take_zero]; exact Wf.least_nil (by decide) (by decide))⟩
  case round =>
    obtain ⟨k, r, hk, rfl, rfl, HM⟩ := hrel
    by_cases hlt : k < n
    · have hcell := HC.out k hlt
      unfold Wv.fl at hcell
      have HT := Wv.hid (Wf.take_succ xs k (by rw [HL.out]; exact hlt))
      have HB := Wv.hid (getD_lt HX.out k (by rw [HL.out]; exact hlt))
      generalize xs.getD k 0 = x at *
      go_wp2_with (first | (go_at_call 19; refine (isNaN_any _ _).mono ?_; rintro e w' ⟨rfl, rfl⟩) | (go_at_call 22; refine (below_any _ _ _).mono ?_; rintro e w' ⟨rfl, rfl⟩))
      · rename_i h1
        go_round
        case rel => exact ⟨k + 1, x, by omega, rfl, rfl, Wv.hid (by rw [HT.out]; exact Wf.least_take HM.out HB.out (.inl h1))⟩
        case measure => simp only [intOf]; omega
      · rename_i h1 h2
        go_round
        case rel => exact ⟨k + 1, x, by omega, rfl, rfl, Wv.hid (by rw [HT.out]; exact Wf.least_take HM.out HB.out (.inr ⟨by simpa using h2.1, by omega⟩))⟩
        case measure => simp only [intOf]; omega
      · rename_i h1 h2
        go_round
        case rel => exact ⟨k + 1, r, by omega, rfl, rfl, Wv.hid (by rw [HT.out]; exact Wf.least_stay HM.out (by
          rcases h2 with h2 | h2
          · exact .inl (by simpa using h2)
          · exact .inr ⟨by simpa using h1, h2⟩))⟩
        case measure => simp only [intOf]; omega
    · obtain rfl : k = n := by omega
      go_wp2
      go_ret
      have := HM.out
      rw [List.take_of_length_le (by rw [HL.out]; omega)] at this
      exact ⟨_, rfl, this, rfl⟩

theorem least_empty (a : Option Addr) (cap : Nat) (w : World) :
    Calls Try.prog 13 #[.slice a 0 cap] w fun e w' => ∃ r, e = .returned (.float .f64 r) ∧ Wf.IsLeast [] r ∧ w = w' := by
  go_enter Try.func13, Try.ntmps13
  go_wp2_with (first | (go_at_call 20; refine (mathNaN_any _).mono ?_; rintro e w' ⟨rfl, rfl⟩))
  go_loop [3, 9] (fun v i => i = .int .i64 0 ∧ v = .float .f64 9221120237041090561) (fun _ _ => 0)
  case atStart => exact ⟨rfl, rfl⟩
  case round =>
    obtain ⟨rfl, rfl⟩ := hrel
    go_wp2
    go_ret
    exact ⟨_, rfl, Wf.least_nil (by decide) (by decide), rfl⟩

/-- gauge.Least, for every slice. -/
theorem least_any (v : Value) (xs : List Nat) (w : World) (hv : Wv.Rv Wv.fl 0 w v xs) (hx : ∀ x ∈ xs, x < Wf.M64) :
    Calls Try.prog 13 #[v] w fun e w' => ∃ r, e = .returned (.float .f64 r) ∧ Wf.IsLeast xs r ∧ w = w' := by
  rcases hv.open with ⟨rfl, a, cap, rfl, _⟩ | ⟨b, off, n, cap, rfl, h0, hl, _, _, hn, _, hc⟩
  · exact least_empty a cap w
  · exact least_pos b off n cap xs w hx hn hl hc

set_option maxHeartbeats 800000 in
theorem refLeast_pos (b off n cap : Nat) (xs : List Nat) (w : World) (hx : ∀ x ∈ xs, x < Wf.M64) (hn : n ≤ 17592186044416) (hl : xs.length = n) (hc : ∀ i, i < n → w.cell? ⟨b, off + i, none⟩ = some (Wv.fl (xs.getD i 0))) :
    Calls Try.prog 14 #[.slice (some ⟨b, off, none⟩) n cap] w fun e w' => ∃ r, e = .returned (.float .f64 r) ∧ Wf.IsLeast xs r ∧ w' = w.drew := by
  have HL := Wv.hid hl
  have HX := Wv.hid hx
  have HC := Wv.hid hc
  clear hl hx hc
  go_enter Try.func14, Try.ntmps14
  go_wp2_with (first | (go_at_call 21; refine (none_any _).mono ?_; rintro e w' ⟨r0, rfl, hn0, hl0, rfl⟩))
  go_loop [3, 4, 5] (fun v y i => ∃ (k r : Nat), k ≤ n ∧ i = .int .i64 k ∧ v = .float .f64 r ∧ y = .bool (!Wf.nan r) ∧ Hid (Wf.IsLeast (xs.take k) r)) (fun _ _ i => n - (intOf i).toNat)
  case atStart => exact ⟨0, r0, by omega, rfl, rfl, by rw [hn0]; rfl, Wv.hid (by rw [List.take_zero]; exact Wf.least_nil hl0 hn0)⟩
  case round =>
    clear hn0 hl0
    obtain ⟨k, r, hk, rfl, rfl, rfl, HM⟩ := hrel
    by_cases hlt : k < n
    · have hcell := HC.out k hlt
      unfold Wv.fl at hcell
      have HT := Wv.hid (Wf.take_succ xs k (by rw [HL.out]; exact hlt))
      have HB := Wv.hid (getD_lt HX.out k (by rw [HL.out]; exact hlt))
      generalize xs.getD k 0 = x at *
      cases hnx : Wf.nan x with
      | true =>
        go_wp2_with (first | (go_at_call 17; refine (refNaN_any _ _).mono ?_; rintro e w' ⟨rfl, rfl⟩; simp only [hnx]))
        go_round
        case rel => exact ⟨k + 1, r, by omega, rfl, rfl, rfl, Wv.hid (by rw [HT.out]; exact Wf.least_stay HM.out (.inl hnx))⟩
        case measure => simp only [intOf]; omega
      | false =>
        cases hnr : Wf.nan r with
        | true =>
          go_wp2_with (first | (go_at_call 17; refine (refNaN_any _ _).mono ?_; rintro e w' ⟨rfl, rfl⟩; simp only [hnx]))
          go_round
          case rel => exact ⟨k + 1, x, by omega, rfl, rfl, by rw [hnx]; rfl, Wv.hid (by rw [HT.out]; exact Wf.least_take HM.out HB.out (.inl hnr))⟩
          case measure => simp only [intOf]; omega
        | false =>
          have ht := Wf.tk_lt_iff r x
          have ht2 := Wf.tk_lt_iff x r
          rcases Int.lt_trichotomy (Wf.key x) (Wf.key r) with hk1 | hk1 | hk1
          · have e1 := lt_of hnx hnr hk1
            have hle : Wf.tk x ≤ Wf.tk r := Int.le_of_lt (ht2.2 (.inl hk1))
            clear ht ht2
            go_wp2_with (first | (go_at_call 17; refine (refNaN_any _ _).mono ?_; rintro e w' ⟨rfl, rfl⟩; simp only [hnx]))
            go_round
            case rel => exact ⟨k + 1, x, by omega, rfl, rfl, by rw [hnx]; rfl, Wv.hid (by rw [HT.out]; exact Wf.least_take HM.out HB.out (.inr ⟨hnx, hle⟩))⟩
            case measure => simp only [intOf]; omega
          · have e1 := nlt_of (a := x) (b := r) (.inr (.inr (by omega)))
            have e2 := eq_of hnx hnr hk1
            cases hs : Wf.sg x with
            | true =>
              have hle : Wf.tk x ≤ Wf.tk r := by
                rcases Int.lt_or_le (Wf.tk r) (Wf.tk x) with h | h
                · rcases ht.1 h with h | ⟨_, _, h⟩
                  · omega
                  · rw [hs] at h; cases h
                · exact h
              clear ht ht2
              go_wp2_with (first | (go_at_call 17; refine (refNaN_any _ _).mono ?_; rintro e w' ⟨rfl, rfl⟩; simp only [hnx]) | (go_at_call 18; refine (refSigned_any _ _).mono ?_; rintro e w' ⟨rfl, rfl⟩; simp only [hnx, hs, Bool.not_false, Bool.and_self]))
              go_round
              case rel => exact ⟨k + 1, x, by omega, rfl, rfl, by rw [hnx]; rfl, Wv.hid (by rw [HT.out]; exact Wf.least_take HM.out HB.out (.inr ⟨hnx, hle⟩))⟩
              case measure => simp only [intOf]; omega
            | false =>
              have hle : Wf.tk r ≤ Wf.tk x := by
                rcases Int.lt_or_le (Wf.tk x) (Wf.tk r) with h | h
                · rcases ht2.1 h with h | ⟨_, h, _⟩
                  · omega
                  · rw [hs] at h; cases h
                · exact h
              clear ht ht2
              go_wp2_with (first | (go_at_call 17; refine (refNaN_any _ _).mono ?_; rintro e w' ⟨rfl, rfl⟩; simp only [hnx]) | (go_at_call 18; refine (refSigned_any _ _).mono ?_; rintro e w' ⟨rfl, rfl⟩; simp only [hnx, hs, Bool.not_false, Bool.and_false]))
              go_round
              case rel => exact ⟨k + 1, r, by omega, rfl, rfl, by simp [hnr], Wv.hid (by rw [HT.out]; exact Wf.least_stay HM.out (.inr ⟨hnr, hle⟩))⟩
              case measure => simp only [intOf]; omega
          · have e1 := nlt_of (a := x) (b := r) (.inr (.inr (by omega)))
            have e2 := neq_of (a := x) (b := r) (.inr (.inr (by omega)))
            have hle : Wf.tk r ≤ Wf.tk x := Int.le_of_lt (ht.2 (.inl hk1))
            clear ht ht2
            go_wp2_with (first | (go_at_call 17; refine (refNaN_any _ _).mono ?_; rintro e w' ⟨rfl, rfl⟩; simp only [hnx]))
            go_round
            case rel => exact ⟨k + 1, r, by omega, rfl, rfl, by simp [hnr], Wv.hid (by rw [HT.out]; exact Wf.least_stay HM.out (.inr ⟨hnr, hle⟩))⟩
            case measure => simp only [intOf]; omega
    · obtain rfl : k = n := by omega
      go_wp2
      go_ret
      have := HM.out
      rw [List.take_of_length_le (by rw [HL.out]; omega)] at this
      exact ⟨_, rfl, this, rfl⟩

theorem refLeast_empty (a : Option Addr) (cap : Nat) (w : World) :
    Calls Try.prog 14 #[.slice a 0 cap] w fun e w' => ∃ r, e = .returned (.float .f64 r) ∧ Wf.IsLeast [] r ∧ w' = w.drew := by
  go_enter Try.func14, Try.ntmps14
  go_wp2_with (first | (go_at_call 21; refine (none_any _).mono ?_; rintro e w' ⟨r0, rfl, hn0, hl0, rfl⟩))
  go_loop [3, 4, 5] (fun v y i => i = .int .i64 0 ∧ v = .float .f64 r0 ∧ y = .bool false) (fun _ _ _ => 0)
  case atStart => exact ⟨rfl, rfl, rfl⟩
  case round =>
    obtain ⟨rfl, rfl, rfl⟩ := hrel
    go_wp2
    go_ret
    exact ⟨_, rfl, Wf.least_nil hl0 hn0, rfl⟩

/-- The page's Least, for every slice. -/
theorem refLeast_any (v : Value) (xs : List Nat) (w : World) (hv : Wv.Rv Wv.fl 0 w v xs) (hx : ∀ x ∈ xs, x < Wf.M64) :
    Calls Try.prog 14 #[v] w fun e w' => ∃ r, e = .returned (.float .f64 r) ∧ Wf.IsLeast xs r ∧ w' = w.drew := by
  rcases hv.open with ⟨rfl, a, cap, rfl, _⟩ | ⟨b, off, n, cap, rfl, h0, hl, _, _, hn, _, hc⟩
  · exact refLeast_empty a cap w
  · exact refLeast_pos b off n cap xs w hx hn hl hc

end Go.Proofs.Ytdebkkojeemlbaa
