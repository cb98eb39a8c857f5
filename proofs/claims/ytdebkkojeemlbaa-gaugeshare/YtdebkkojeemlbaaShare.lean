/-
  The walk of the law GaugeShare: for every three words of float64 it returns true and turns nothing that was there.
-/
import Derived.Test.YtdebkkojeemlbaaGwake
namespace Go.Proofs.Ytdebkkojeemlbaa
open Go.RowKit

theorem eq_self (x : Nat) : (FloatKind.f64.format.order x x == some .eq) = !Wf.nan x := by rw [eq_eq]; cases Wf.nan x <;> simp
theorem small_nan {r : Nat} (h : r ≤ Wf.ONE) : Wf.nan r = false ∧ Wf.key r = r := by
  obtain ⟨n1, n2, -⟩ := Wf.nums
  exact ⟨Wf.nan_small (by omega), Wf.key_small (by omega)⟩
theorem pct_nan {r : Nat} (h : Wf.nan r = true) : Wf.pct r = -1 := by unfold Wf.pct Wf.pctB; rw [h]; rfl

set_option maxRecDepth 100000 in
set_option maxHeartbeats 1600000 in
theorem gaugeShare_any (a b c : Nat) (ha : a < Wf.M64) (hb : b < Wf.M64) (hc : c < Wf.M64) (w : World) :
    Calls Try.prog 4 #[.float .f64 a, .float .f64 b, .float .f64 c] w fun e w' => e = .returned (.bool true) ∧ Below w.heap.size w w' := by
  go_enter Try.func4, Try.ntmps4
  go_wp2_with fail
  refine (share_any a b ha hb _).mono ?_
  rintro e w' ⟨r, rfl, hr, rfl⟩
  go_wp2_with fail
  refine (share_any c b hc hb _).mono ?_
  rintro e w' ⟨s, rfl, hs, rfl⟩
  go_wp2_with fail
  refine (percent_any r hr.1 _).mono ?_
  rintro e w' ⟨rfl, rfl⟩
  have e0 := ne_self r
  have hrr := Wf.share_range ha hb hr
  rcases bad_cases a b with ⟨hcs, hbad⟩ | ⟨⟨h1, h2, h3, h4⟩, hbad⟩
  · rw [if_pos hbad] at hrr
    rw [hrr] at e0
    rw [pct_nan hrr]
    clear hr hs ha hb hc
    rcases hcs with h1 | ⟨h1, h2⟩ | ⟨h1, h2, h3⟩ | ⟨h1, h2, h3, h4⟩
    · have e1 := ne_self a
      rw [h1] at e1
      go_wp2_with (first | (go_at_call 16; refine (wakes_any _).mono ?_; rintro e w' ⟨rfl, hbel⟩))
      all_goals go_ret
      exact ⟨rfl, hbel⟩
    · have e1 := ne_self a
      rw [h1] at e1
      have e2 := ne_self b
      rw [h2] at e2
      go_wp2_with (first | (go_at_call 16; refine (wakes_any _).mono ?_; rintro e w' ⟨rfl, hbel⟩))
      all_goals go_ret
      exact ⟨rfl, hbel⟩
    · have e1 := ne_self a
      rw [h1] at e1
      have e2 := ne_self b
      rw [h2] at e2
      have e3 := lt_of (b := 0) h1 nan0 (by rw [key0]; exact h3)
      go_wp2_with (first | (go_at_call 16; refine (wakes_any _).mono ?_; rintro e w' ⟨rfl, hbel⟩))
      all_goals go_ret
      exact ⟨rfl, hbel⟩
    · have e1 := ne_self a
      rw [h1] at e1
      have e2 := ne_self b
      rw [h2] at e2
      have e3 := nlt_of (a := a) (b := 0) (.inr (.inr (by rw [key0]; exact h3)))
      have e4 := ngt_of (a := b) (b := 0) (.inr (.inr (by rw [key0]; exact h4)))
      go_wp2_with (first | (go_at_call 16; refine (wakes_any _).mono ?_; rintro e w' ⟨rfl, hbel⟩))
      all_goals go_ret
      exact ⟨rfl, hbel⟩
  · rw [hbad] at hrr
    simp only [Bool.false_eq_true, if_false] at hrr
    obtain ⟨hrn, hrk⟩ := small_nan hrr
    rw [hrn] at e0
    have hpb : Wf.pctB r = false := Wf.pv_ok hrr
    obtain ⟨_, _, _, _, _, hp0, hp1⟩ := Wf.pct_ok hr.1 hpb
    generalize Wf.pct r = p at *
    have e1 := nlt_of (a := r) (b := 0) (.inr (.inr (by rw [key0, hrk]; omega)))
    have e2 := ngt_of (a := r) (b := 4607182418800017408) (.inr (.inr (by rw [keyOne, hrk]; omega)))
    have e3 := eq_self s
    have hbb : Wf.bad b b = false := by
      unfold Wf.bad
      rw [h2, decide_eq_false (by omega), decide_eq_false (by omega)]; rfl
    have e6 : (FloatKind.f64.format.order 4607182418800017408 4607182418800017408 == some .eq) = true := eq_of nanOne nanOne rfl
    have e7 : (FloatKind.f64.format.order 9218868437227405312 0 == some .lt) = false := by decide +kernel
    have hq : ∀ w, (binOp .quo 22 (.float .f64 4607182418800017408) (.float .f64 0)).run Try.prog w = .ok (.float .f64 9218868437227405312) w := quo_run (by decide +kernel) 22
    by_cases hcs : Wf.nan s = true
    · rw [hcs] at e3
      clear hs hr hcs h3 h4 ha hc
      by_cases h0 : r = 0
      · subst h0
        have e4 : (FloatKind.f64.format.order 0 0 == some .eq) = true := eq_of nan0 nan0 rfl
        go_wp2_with (first | (go_at_call 9; refine (share_any _ _ hb hb _).mono ?_; rintro e w' ⟨t, rfl, ht, rfl⟩; obtain rfl := Wf.share_all ht hbb; clear ht) | (go_at_call 16; refine (wakes_any _).mono ?_; rintro e w' ⟨rfl, hbel⟩))
        all_goals go_ret
        exact ⟨rfl, hbel⟩
      · have e4 := neq_of (a := r) (b := 0) (.inr (.inr (by rw [key0, hrk]; omega)))
        go_wp2_with (first | (go_at_call 9; refine (share_any _ _ hb hb _).mono ?_; rintro e w' ⟨t, rfl, ht, rfl⟩; obtain rfl := Wf.share_all ht hbb; clear ht) | (go_at_call 16; refine (wakes_any _).mono ?_; rintro e w' ⟨rfl, hbel⟩))
        all_goals go_ret
        exact ⟨rfl, hbel⟩
    · have hcs' : Wf.nan s = false := by simpa using hcs
      rw [hcs'] at e3
      have hcb : Wf.bad c b = false := by
        cases h : Wf.bad c b with
        | false => rfl
        | true =>
          have := Wf.share_range hc hb hs
          rw [if_pos h] at this
          exact absurd this hcs
      have hss := Wf.share_range hc hb hs
      rw [hcb] at hss
      simp only [Bool.false_eq_true, if_false] at hss
      obtain ⟨hsn, hsk⟩ := small_nan hss
      obtain ⟨hcn, -⟩ := Wf.good_parts hc hb hcb
      by_cases hle : Wf.key a ≤ Wf.key c
      · have hm := Wf.share_mono ha hb hc hr hs hbad hcb hle
        have e5 : (FloatKind.f64.format.order a c == some .lt || FloatKind.f64.format.order a c == some .eq) = true := by
          by_cases hk : Wf.key a = Wf.key c
          · rw [eq_of h1 hcn hk, Bool.or_true]
          · rw [lt_of h1 hcn (by omega), Bool.true_or]
        have e8 := ngt_of (a := r) (b := s) (.inr (.inr (by rw [hrk, hsk]; omega)))
        clear hs hr hcs h3 h4 ha hc hle
        by_cases h0 : r = 0
        · subst h0
          have e4 : (FloatKind.f64.format.order 0 0 == some .eq) = true := eq_of nan0 nan0 rfl
          go_wp2_with (first | (go_at_call 9; refine (share_any _ _ hb hb _).mono ?_; rintro e w' ⟨t, rfl, ht, rfl⟩; obtain rfl := Wf.share_all ht hbb; clear ht) | (go_at_call 16; refine (wakes_any _).mono ?_; rintro e w' ⟨rfl, hbel⟩))
          all_goals go_ret
          exact ⟨rfl, hbel⟩
        · have e4 := neq_of (a := r) (b := 0) (.inr (.inr (by rw [key0, hrk]; omega)))
          go_wp2_with (first | (go_at_call 9; refine (share_any _ _ hb hb _).mono ?_; rintro e w' ⟨t, rfl, ht, rfl⟩; obtain rfl := Wf.share_all ht hbb; clear ht) | (go_at_call 16; refine (wakes_any _).mono ?_; rintro e w' ⟨rfl, hbel⟩))
          all_goals go_ret
          exact ⟨rfl, hbel⟩
      · have e5 := nlt_of (a := a) (b := c) (.inr (.inr (by omega)))
        have e8 := neq_of (a := a) (b := c) (.inr (.inr (by omega)))
        clear hs hr hcs h3 h4 ha hc hle
        by_cases h0 : r = 0
        · subst h0
          have e4 : (FloatKind.f64.format.order 0 0 == some .eq) = true := eq_of nan0 nan0 rfl
          go_wp2_with (first | (go_at_call 9; refine (share_any _ _ hb hb _).mono ?_; rintro e w' ⟨t, rfl, ht, rfl⟩; obtain rfl := Wf.share_all ht hbb; clear ht) | (go_at_call 16; refine (wakes_any _).mono ?_; rintro e w' ⟨rfl, hbel⟩))
          all_goals go_ret
          exact ⟨rfl, hbel⟩
        · have e4 := neq_of (a := r) (b := 0) (.inr (.inr (by rw [key0, hrk]; omega)))
          go_wp2_with (first | (go_at_call 9; refine (share_any _ _ hb hb _).mono ?_; rintro e w' ⟨t, rfl, ht, rfl⟩; obtain rfl := Wf.share_all ht hbb; clear ht) | (go_at_call 16; refine (wakes_any _).mono ?_; rintro e w' ⟨rfl, hbel⟩))
          all_goals go_ret
          exact ⟨rfl, hbel⟩

end Go.Proofs.Ytdebkkojeemlbaa
