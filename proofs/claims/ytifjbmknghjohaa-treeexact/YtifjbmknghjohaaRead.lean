/-
  What only reads bytes: le.Zeros, the page's Zeros, keep.Bytes, the page's Number, for every input.
-/
import Derived.Test.YtifjbmknghjohaaLeaf
import Derived.Test.YtifjbmknghjohaaMem
import Derived.Deep.QuietTactic
import Derived.BigQuiet
namespace Go.Proofs.Ytifjbmknghjohaa
open Go.RowKit

theorem getD_get (xs : List Int) (k : Nat) : xs[k]?.getD 0 = xs.getD k 0 := by simp

set_option maxHeartbeats 400000 in
theorem zeros_pos (b off n cap : Nat) (xs : List Int) (lo hi : Int) (w : World) (hn : n ≤ 140737488355328) (hl : xs.length = n)
   (hlo : lo ≤ 9223372036854775807) (hc : ∀ i, i < n → w.cell? ⟨b, off + i, none⟩ = some (.int .u8 (xs.getD i 0))) :
    Calls Try.prog 38 #[.slice (some ⟨b, off, none⟩) n cap, .int .i64 lo, .int .i64 hi] w fun e w' => e = .returned (.bool (Wc.zerosB xs lo hi)) ∧ w = w' := by
  have HL : Hid (xs.length = n) := hl
  clear hl
  rcases Int.lt_or_le lo 0 with h0 | h0 <;> rcases Int.lt_or_le (n : Int) hi with h9 | h9
  all_goals
    go_enter Try.func38, Try.ntmps38
    go_wp2
    go_loop [7] (fun i => ∃ k : Int, i = .int .i64 k ∧ 0 ≤ k ∧ k ≤ 9223372036854775807 ∧ Hid (∀ j : Nat, lo ≤ (j : Int) → (j : Int) < k → xs.getD j 0 = 0) ∧ Hid (lo ≤ k)) (fun i => n - (intOf i).toNat)
    case atStart => exact ⟨_, rfl, by omega, by omega, fun j h1 h2 => by omega, Wc.hid (by omega)⟩
    case round =>
      obtain ⟨k', rfl, hk0, hk1, HZ, HK⟩ := hrel
      obtain ⟨k, rfl⟩ := Int.eq_ofNat_of_zero_le hk0
      by_cases hlt : k < n ∧ (k : Int) < hi
      · obtain ⟨hlt, hhi⟩ := hlt
        have hcell := hc k hlt
        by_cases hz : xs.getD k 0 = 0
        · have hzb : (xs[k]?.getD 0 != 0) = false := by rw [getD_get, hz]; rfl
          have HZ0 := Wc.hid hz
          clear hz
          go_wp2
          go_round
          case rel =>
            refine ⟨_, rfl, by omega, by omega, fun j h1 h2 => ?_, Wc.hid (by have := HK.out; omega)⟩
            by_cases hj : j = k
            · subst hj; exact HZ0.out
            · exact HZ.out j h1 (by omega)
          case measure => simp [intOf]; omega
        · have hzb : (xs[k]?.getD 0 != 0) = true := by rw [getD_get]; simpa using hz
          have HZ0 := Wc.hid hz
          clear hz
          go_wp2
          go_ret
          exact ⟨ret_bool (Wc.zerosB_false k (by rw [HL.out]; omega) HK.out (by omega) HZ0.out).symm, rfl⟩
      · go_wp2
        go_ret
        exact ⟨ret_bool (Wc.zerosB_true (fun j h1 h2 h3 => HZ.out j h2 (by rw [HL.out] at h1; omega))).symm, rfl⟩

set_option maxHeartbeats 400000 in
theorem zeros_nil (a : Option Addr) (cap : Nat) (lo hi : Int) (w : World) (hlo : lo ≤ 9223372036854775807) :
    Calls Try.prog 38 #[.slice a 0 cap, .int .i64 lo, .int .i64 hi] w fun e w' => e = .returned (.bool true) ∧ w = w' := by
  rcases Int.lt_or_le lo 0 with h0 | h0 <;> rcases Int.lt_or_le 0 hi with h9 | h9
  all_goals
    go_enter Try.func38, Try.ntmps38
    go_wp2
    go_loop [7] (fun i => ∃ k : Int, i = .int .i64 k ∧ 0 ≤ k) (fun i => 0 - (intOf i).toNat)
    case atStart => exact ⟨_, rfl, by omega⟩
    case round =>
      obtain ⟨k', rfl, hk0⟩ := hrel
      go_wp2
      go_ret
      exact ⟨rfl, rfl⟩

theorem zeros_any (v : Value) (xs : List Int) (lo hi : Int) (w : World) (hv : Wc.Bs w v xs) (hlo : lo ≤ 9223372036854775807) :
    Calls Try.prog 38 #[v, .int .i64 lo, .int .i64 hi] w fun e w' => e = .returned (.bool (Wc.zerosB xs lo hi)) ∧ w = w' := by
  rcases hv.open with ⟨rfl, a, cap, rfl, _⟩ | ⟨b, off, n, cap, rfl, h0, hl, _, _, hn, hx, _, hc⟩
  · rw [show Wc.zerosB [] lo hi = true from Wc.zerosB_true (by simp)]
    exact zeros_nil a cap lo hi w hlo
  · exact zeros_pos b off n cap xs lo hi w hn hl hlo hc

set_option maxHeartbeats 400000 in
theorem bytes_pos (b off n cap b' off' cap' : Nat) (xs ys : List Int) (w : World) (hn : n ≤ 140737488355328) (hl : xs.length = n) (hl' : ys.length = n)
   (hc : ∀ i, i < n → w.cell? ⟨b, off + i, none⟩ = some (.int .u8 (xs.getD i 0)))
   (hc' : ∀ i, i < n → w.cell? ⟨b', off' + i, none⟩ = some (.int .u8 (ys.getD i 0))) :
    Calls Try.prog 15 #[.slice (some ⟨b, off, none⟩) n cap, .slice (some ⟨b', off', none⟩) n cap'] w fun e w' => e = .returned (.bool (xs == ys)) ∧ Below w.heap.size w w' := by
  have HL := Wc.hid hl
  have HL' := Wc.hid hl'
  clear hl hl'
  go_enter Try.func15, Try.ntmps15
  go_wp2
  go_loopw [5] (fun i wr => ∃ k : Nat, i = .int .i64 k ∧ k ≤ n ∧ Below w.heap.size w wr ∧ Hid (∀ a, wr.cell? a = w.cell? a) ∧ Hid (∀ j, j < k → xs.getD j 0 = ys.getD j 0)) (fun i _ => n - (intOf i).toNat)
  case atStart => exact ⟨0, rfl, by omega, Below.refl _ _, fun _ => rfl, fun j h => by omega⟩
  case round =>
    obtain ⟨k, rfl, hk, hb, hcc, HZ⟩ := hrel
    by_cases hlt : k < n
    · have h1 : wr.cell? ⟨b, off + k, none⟩ = some (.int .u8 (xs.getD k 0)) := by rw [hcc.out]; exact hc k hlt
      have h2 : wr.cell? ⟨b', off' + k, none⟩ = some (.int .u8 (ys.getD k 0)) := by rw [hcc.out]; exact hc' k hlt
      by_cases hz : xs.getD k 0 = ys.getD k 0
      · have hzb : (xs[k]?.getD 0 != ys[k]?.getD 0) = false := by rw [getD_get, getD_get, hz]; simp
        have HZ0 := Wc.hid hz
        clear hz
        go_wp2
        go_quiet (fail)
        go_wp2
        go_roundw
        case rel =>
          refine ⟨k + 1, by go_num, by omega, below_drewN hb _, hcc, fun j hj => ?_⟩
          by_cases hjk : j = k
          · subst hjk; exact HZ0.out
          · exact HZ.out j (by omega)
        case measure => simp [intOf]; omega
      · have hzb : (xs[k]?.getD 0 != ys[k]?.getD 0) = true := by rw [getD_get, getD_get]; simpa using hz
        have HZ0 := Wc.hid hz
        clear hz
        go_wp2
        go_quiet (fail)
        go_wp2
        go_ret
        exact ⟨ret_bool (Wc.list_ne k HZ0.out).symm, below_drewN hb _⟩
    · go_wp2
      go_ret
      exact ⟨ret_bool (Wc.list_eq (by rw [HL.out, HL'.out]) (fun j hj => HZ.out j (by rw [HL.out] at hj; omega))).symm, hb⟩

set_option maxHeartbeats 400000 in
theorem bytes_nil (a a' : Option Addr) (cap cap' : Nat) (w : World) :
    Calls Try.prog 15 #[.slice a 0 cap, .slice a' 0 cap'] w fun e w' => e = .returned (.bool true) ∧ Below w.heap.size w w' := by
  go_enter Try.func15, Try.ntmps15
  go_wp2
  go_loopw [5] (fun i wr => i = .int .i64 0 ∧ Below w.heap.size w wr) (fun _ _ => 0)
  case atStart => exact ⟨rfl, Below.refl _ _⟩
  case round =>
    obtain ⟨rfl, hb⟩ := hrel
    go_wp2
    go_ret
    exact ⟨rfl, hb⟩

set_option maxHeartbeats 400000 in
theorem bytes_len (a a' : Option Addr) (n n' cap cap' : Nat) (w : World) (h : ((n : Int) != (n' : Int)) = true) :
    Calls Try.prog 15 #[.slice a n cap, .slice a' n' cap'] w fun e w' => e = .returned (.bool false) ∧ Below w.heap.size w w' := by
  go_enter Try.func15, Try.ntmps15
  go_wp2
  go_ret
  exact ⟨rfl, Below.refl _ _⟩

theorem bytes_any (v v' : Value) (xs ys : List Int) (w : World) (hv : Wc.Bs w v xs) (hv' : Wc.Bs w v' ys) :
    Calls Try.prog 15 #[v, v'] w fun e w' => e = .returned (.bool (xs == ys)) ∧ Below w.heap.size w w' := by
  by_cases hlen : xs.length = ys.length
  · rcases hv.open with ⟨rfl, a, cap, rfl, _⟩ | ⟨b, off, n, cap, rfl, h0, hl, _, _, hn, hx, _, hc⟩
    · obtain rfl : ys = [] := List.eq_nil_of_length_eq_zero hlen.symm
      rcases hv'.open with ⟨_, a', cap', rfl, _⟩ | ⟨b, off, n, cap, rfl, h0, hl, _⟩
      · exact bytes_nil a a' cap cap' w
      · simp at hl; omega
    · rcases hv'.open with ⟨rfl, a', cap', rfl, _⟩ | ⟨b', off', n', cap', rfl, h0', hl', _, _, _, _, _, hc'⟩
      · simp at hlen; subst hlen; simp at hl; omega
      · obtain rfl : n = n' := by omega
        exact bytes_pos b off n cap b' off' cap' xs ys w hn hl hl' hc hc'
  · rw [Wc.list_ne_len hlen]
    obtain ⟨a, n, cap, rfl, hl, -⟩ := hv
    obtain ⟨a', n', cap', rfl, hl', -⟩ := hv'
    exact bytes_len a a' n n' cap cap' w (by rw [bne_iff_ne]; omega)
end Go.Proofs.Ytifjbmknghjohaa
