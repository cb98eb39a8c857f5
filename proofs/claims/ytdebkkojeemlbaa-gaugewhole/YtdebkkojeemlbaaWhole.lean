/-
  The walk of the law GaugeWhole: for every two ints it returns true and turns nothing that was there.
-/
import Derived.Test.YtdebkkojeemlbaaGwake
import Derived.Test.YtdebkkojeemlbaaFlt9
import Derived.Deep.QuietTactic
import Derived.BigQuiet
namespace Go.Proofs.Ytdebkkojeemlbaa
open Go.RowKit

theorem low (m i : Int) (h0 : 0 < m) (h : m ≤ 4294967296) : ∃ A : Nat, ((A : Int) < m) ∧ wrap64 ((IntKind.u64.wrap i).tmod m) = A := by
  rw [IntKind.wrap_u64, Int.tmod_eq_emod_of_nonneg (by omega)]
  have h1 := Int.emod_nonneg (i % 18446744073709551616) (b := m) (by omega)
  have h2 := Int.emod_lt_of_pos (i % 18446744073709551616) (b := m) h0
  obtain ⟨A, hA⟩ := Int.eq_ofNat_of_zero_le h1
  refine ⟨A, by omega, ?_⟩
  rw [hA] at h2 ⊢
  unfold wrap64; omega

theorem lohi (N A : Nat) (hN : (N : Int) < 1 + (A : Int) + 1) : ∃ lo hi : Int, (100 * (N : Int) - (1 + (A : Int))).tdiv (1 + (A : Int)) = lo ∧ (100 * (N : Int) + (1 + (A : Int))) / (1 + (A : Int)) = hi ∧
    -1 ≤ lo ∧ lo ≤ 100 ∧ 0 ≤ hi ∧ hi ≤ 101 ∧ (lo ≤ 0 ∨ lo ≤ ((100 * N / (1 + A) : Nat) : Int) - 1) ∧ hi = ((100 * N / (1 + A) : Nat) : Int) + 1 := by
  have hk : ((100 * N / (1 + A) : Nat) : Int) = 100 * (N : Int) / (1 + (A : Int)) := by
    rw [Int.natCast_ediv, Int.natCast_mul, Int.natCast_add]; rfl
  have hle : 100 * N / (1 + A) ≤ 100 := by
    rw [Nat.div_le_iff_le_mul_add_pred (by omega)]; omega
  have hh : (100 * (N : Int) + (1 + (A : Int))) / (1 + (A : Int)) = 100 * (N : Int) / (1 + (A : Int)) + 1 := by
    rw [Int.add_ediv_of_dvd_right (Int.dvd_refl _), Int.ediv_self (by omega)]
  have h0 : 0 ≤ ((100 * N / (1 + A) : Nat) : Int) := Int.natCast_nonneg _
  have hle' : ((100 * N / (1 + A) : Nat) : Int) ≤ 100 := Int.ofNat_le.2 hle
  rw [hh, ← hk]
  refine ⟨_, _, rfl, rfl, ?_⟩
  by_cases hc : (1 + (A : Int)) ≤ 100 * (N : Int)
  · have e : (100 * (N : Int) - (1 + (A : Int))).tdiv (1 + (A : Int)) = 100 * (N : Int) / (1 + (A : Int)) - 1 := by
      rw [Int.tdiv_eq_ediv_of_nonneg (by omega)]
      have := Int.add_mul_ediv_right (100 * (N : Int)) (-1) (c := 1 + (A : Int)) (by omega)
      rw [show 100 * (N : Int) - (1 + (A : Int)) = 100 * (N : Int) + -1 * (1 + (A : Int)) by omega, this]; omega
    rw [e, ← hk]
    generalize ((100 * N / (1 + A) : Nat) : Int) = k at *
    omega
  · have e : (100 * (N : Int) - (1 + (A : Int))).tdiv (1 + (A : Int)) = -((1 + (A : Int) - 100 * (N : Int)) / (1 + (A : Int))) := by
      rw [show 100 * (N : Int) - (1 + (A : Int)) = -(1 + (A : Int) - 100 * (N : Int)) by omega, Int.neg_tdiv, Int.tdiv_eq_ediv_of_nonneg (by omega)]
    rw [e]
    have h1 : 0 ≤ (1 + (A : Int) - 100 * (N : Int)) / (1 + (A : Int)) := Int.ediv_nonneg (by omega) (by omega)
    have h2 : (1 + (A : Int) - 100 * (N : Int)) / (1 + (A : Int)) < 2 := Int.ediv_lt_of_lt_mul (by omega) (by omega)
    generalize ((100 * N / (1 + A) : Nat) : Int) = k at *
    generalize (1 + (A : Int) - 100 * (N : Int)) / (1 + (A : Int)) = q at *
    omega

theorem fm_facts {fn fm : Nat} (bn : fn ≤ 4845873199050653696) (bm : fm ≤ 4845873199050653696) (h0 : ¬ fm = 0) : fn < Wf.M64 ∧ fm < Wf.M64 ∧ (∀ r, Wf.IsShare 0 fm r → r = 0) ∧ Wf.bad fm fm = false := by
  obtain ⟨n1, -, -, -, -, n6⟩ := Wf.nums
  have hn := Wf.nan_small (x := fm) (by omega)
  have hk := Wf.key_small (x := fm) (by omega)
  refine ⟨by omega, by omega, fun r ⟨_, h⟩ => ?_, ?_⟩
  · have hb : Wf.bad 0 fm = false := by
      unfold Wf.bad
      rw [nan0, hn, key0, hk, decide_eq_false (by omega), decide_eq_false (by omega)]; rfl
    rw [hb, if_neg (by decide), key0, hk, if_neg (by omega), if_pos rfl] at h
    exact h
  · unfold Wf.bad
    rw [hn, hk, decide_eq_false (by omega), decide_eq_false (by omega)]; rfl

set_option maxRecDepth 100000 in
set_option maxHeartbeats 1600000 in
theorem gaugeWhole_any (n m : Int) (w : World) :
    Calls Try.prog 7 #[.int .i64 n, .int .i64 m] w fun e w' => e = .returned (.bool true) ∧ Below w.heap.size w w' := by
  obtain ⟨A, hA, eA⟩ := low 100000 m (by omega) (by omega)
  obtain ⟨N, hN, eN⟩ := low (1 + (A : Int) + 1) n (by omega) (by omega)
  obtain ⟨fn, en, bn, vn, -⟩ := Wf.ofInt_val N (by omega)
  obtain ⟨fm, em, bm, vm, -⟩ := Wf.ofInt_val (1 + A) (by omega)
  have HW := Wv.hid (fun r => Wf.whole (N := N) (M := 1 + A) (fn := fn) (fm := fm) (r := r) (by omega) (by omega) vn vm bn bm)
  have em' : floatOfInt FloatKind.f64 (1 + (A : Int)) = fm := by rw [← em]; congr 1
  have HM : Hid (fn < Wf.M64 ∧ fm < Wf.M64 ∧ (∀ r, Wf.IsShare 0 fm r → r = 0) ∧ Wf.bad fm fm = false) := Wv.hid (fm_facts bn bm (fun h => by have := Wf.word_zero vm h; omega))
  clear vn vm em bn bm
  go_enter Try.func7, Try.ntmps7
  go_wp2_with fail
  refine (share_any fn fm HM.out.1 HM.out.2.1 _).mono ?_
  rintro e w' ⟨r, rfl, hr, rfl⟩
  go_wp2_with fail
  refine (percent_any r hr.1 _).mono ?_
  rintro e w' ⟨rfl, rfl⟩
  have HP := Wv.hid (HW.out r hr)
  clear hr HW
  generalize Wf.pct r = p at *
  go_wp2_with fail
  have hM0 : ¬ (1 + (A : Int)) = 0 := by omega
  go_quiet (fail)
  obtain ⟨lo, hi, elo, ehi, b1, b2, b3, b4, b5, b6⟩ := lohi N A hN
  rw [elo, ehi]
  clear elo ehi hM0
  have c1 : lo - 1 ≤ p := by have := HP.out; omega
  have c2 : p ≤ hi + 1 := by have := HP.out; omega
  have c3 : 0 ≤ p := HP.out.2.2.1
  have c4 : p ≤ 100 := HP.out.2.2.2.1
  have HZ := Wv.hid HP.out.2.2.2.2
  clear b5 b6 HP
  go_wp2_with fail
  refine (share_any 0 fm (by decide) HM.out.2.1 _).mono ?_
  rintro e w' ⟨s, rfl, hs, rfl⟩
  obtain rfl := HM.out.2.2.1 s hs
  clear hs
  have e0 : (FloatKind.f64.format.order 0 0 == some .eq) = true := eq_of nan0 nan0 rfl
  go_wp2_with fail
  refine (share_any fm fm HM.out.2.1 HM.out.2.1 _).mono ?_
  rintro e w' ⟨s, rfl, hs, rfl⟩
  obtain rfl := Wf.share_all hs HM.out.2.2.2
  clear hs
  go_wp2_with fail
  refine (percent_any _ (by decide) _).mono ?_
  rintro e w' ⟨rfl, rfl⟩
  rw [Wf.pct_one]
  rcases Nat.eq_zero_or_pos N with h0 | h0
  · have hp0 : p = 0 := HZ.out h0
    subst h0
    go_wp2_with (first | (go_at_call 16; refine (wakes_any _).mono ?_; rintro e w' ⟨rfl, hbel⟩))
    all_goals go_ret
    exact ⟨rfl, Wv.step (below_drewN (Below.refl _ _) _) (Nat.le_refl _) hbel⟩
  · go_wp2_with (first | (go_at_call 16; refine (wakes_any _).mono ?_; rintro e w' ⟨rfl, hbel⟩))
    all_goals go_ret
    exact ⟨rfl, Wv.step (below_drewN (Below.refl _ _) _) (Nat.le_refl _) hbel⟩

end Go.Proofs.Ytdebkkojeemlbaa
