/-
  The page's Zeros, Number and Bytes and keep.Twin, for every input.
-/
import Derived.Test.YtifjbmknghjohaaRead
namespace Go.Proofs.Ytifjbmknghjohaa
open Go.RowKit

theorem ret_two' {a b c d : Value} (h : a = c) (k : b = d) : Ending.returned (.tuple #[a, b]) = .returned (.tuple #[c, d]) := by rw [h, k]

set_option maxHeartbeats 400000 in
theorem refZeros_pos (b off n cap : Nat) (xs : List Int) (lo hi : Int) (w : World) (hn : n ≤ 140737488355328) (hl : xs.length = n)
   (hlo : lo ≤ 9223372036854775807) (hc : ∀ i, i < n → w.cell? ⟨b, off + i, none⟩ = some (.int .u8 (xs.getD i 0))) :
    Calls Try.prog 59 #[.slice (some ⟨b, off, none⟩) n cap, .int .i64 lo, .int .i64 hi] w fun e w' => e = .returned (.bool (Wc.zerosB xs lo hi)) ∧ w = w' := by
  have HL : Hid (xs.length = n) := hl
  clear hl
  rcases Int.lt_or_le lo 0 with h0 | h0
  all_goals
    go_enter Try.func59, Try.ntmps59
    go_wp2
    go_loop [7] (fun i => ∃ k : Int, i = .int .i64 k ∧ 0 ≤ k ∧ k ≤ 9223372036854775807 ∧ Hid (∀ j : Nat, lo ≤ (j : Int) → (j : Int) < k → xs.getD j 0 = 0) ∧ Hid (lo ≤ k)) (fun i => n - (intOf i).toNat)
    case atStart => exact ⟨_, rfl, by omega, by omega, fun j h1 h2 => by omega, Wc.hid (by omega)⟩
    case round =>
      obtain ⟨k', rfl, hk0, hk1, HZ, HK⟩ := hrel
      obtain ⟨k, rfl⟩ := Int.eq_ofNat_of_zero_le hk0
      by_cases hhi : (k : Int) < hi
      · by_cases hlt : k < n
        · have hcell := hc k hlt
          by_cases hz : xs.getD k 0 = 0
          · have hzb : (xs[k]?.getD 0 != 0) = false := by rw [getD_get, hz]; rfl
            have HZ0 := Wc.hid hz
            clear hz
            go_wp2
            go_round
            case rel =>
              refine ⟨_, rfl, by omega, by omega, fun j h1 h2 => ?_, Wc.hid (by have := HK.out; omega)⟩
              by_cases hj : j = k
              · subst hj; exact HZ0.out
              · exact HZ.out j h1 (by omega)
            case measure => simp [intOf]; omega
          · have hzb : (xs[k]?.getD 0 != 0) = true := by rw [getD_get]; simpa using hz
            have HZ0 := Wc.hid hz
            clear hz
            go_wp2
            go_ret
            exact ⟨ret_bool (Wc.zerosB_false k (by rw [HL.out]; omega) HK.out (by omega) HZ0.out).symm, rfl⟩
        · go_wp2
          go_ret
          exact ⟨ret_bool (Wc.zerosB_true (fun j h1 h2 h3 => HZ.out j h2 (by rw [HL.out] at h1; omega))).symm, rfl⟩
      · go_wp2
        go_ret
        exact ⟨ret_bool (Wc.zerosB_true (fun j h1 h2 h3 => HZ.out j h2 (by rw [HL.out] at h1; omega))).symm, rfl⟩

set_option maxHeartbeats 400000 in
theorem refZeros_nil (a : Option Addr) (cap : Nat) (lo hi : Int) (w : World) (hlo : lo ≤ 9223372036854775807) :
    Calls Try.prog 59 #[.slice a 0 cap, .int .i64 lo, .int .i64 hi] w fun e w' => e = .returned (.bool true) ∧ w = w' := by
  rcases Int.lt_or_le lo 0 with h0 | h0
  all_goals
    go_enter Try.func59, Try.ntmps59
    go_wp2
    go_loop [7] (fun i => ∃ k : Int, i = .int .i64 k ∧ 0 ≤ k) (fun i => 0 - (intOf i).toNat)
    case atStart => exact ⟨_, rfl, by omega⟩
    case round =>
      obtain ⟨k', rfl, hk0⟩ := hrel
      by_cases hhi : k' < hi
      all_goals
        go_wp2
        go_ret
        exact ⟨rfl, rfl⟩

theorem refZeros_any (v : Value) (xs : List Int) (lo hi : Int) (w : World) (hv : Wc.Bs w v xs) (hlo : lo ≤ 9223372036854775807) :
    Calls Try.prog 59 #[v, .int .i64 lo, .int .i64 hi] w fun e w' => e = .returned (.bool (Wc.zerosB xs lo hi)) ∧ w = w' := by
  rcases hv.open with ⟨rfl, a, cap, rfl, _⟩ | ⟨b, off, n, cap, rfl, h0, hl, _, _, hn, hx, _, hc⟩
  · rw [show Wc.zerosB [] lo hi = true from Wc.zerosB_true (by simp)]
    exact refZeros_nil a cap lo hi w hlo
  · exact refZeros_pos b off n cap xs lo hi w hn hl hlo hc

/-- What the page's Number tells. -/
def numR (xs : List Int) : Int × Bool := if Wc.val xs ≤ 4611686018427387903 then (Wc.val xs, true) else (0, false)

set_option maxHeartbeats 400000 in
theorem refNumber_pos (b off n cap : Nat) (xs : List Int) (w : World) (hn : n ≤ 140737488355328) (hl : xs.length = n) (hx : ∀ x ∈ xs, 0 ≤ x ∧ x < 256)
   (hc : ∀ i, i < n → w.cell? ⟨b, off + i, none⟩ = some (.int .u8 (xs.getD i 0))) :
    Calls Try.prog 68 #[.slice (some ⟨b, off, none⟩) n cap] w fun e w' => e = .returned (.tuple #[.int .i64 (numR xs).1, .bool (numR xs).2]) ∧ w = w' := by
  have HL : Hid (xs.length = n) := hl
  clear hl
  go_enter Try.func68, Try.ntmps68
  go_wp2
  go_loop [4, 5] (fun v i => ∃ (k : Nat) (m : Int), i = .int .i64 ((k : Int) - 1) ∧ k ≤ n ∧ v = .int .i64 m ∧ 0 ≤ m ∧ m ≤ 4611686018427387903 ∧ Hid (m = Wc.val (xs.drop k))) (fun _ i => (intOf i + 1).toNat)
  case atStart => exact ⟨n, 0, rfl, by omega, rfl, by omega, by omega, Wc.hid (by rw [List.drop_of_length_le (by rw [HL.out]; omega)]; rfl)⟩
  case round =>
    obtain ⟨k, m, rfl, hk, rfl, hm0, hm1, HM⟩ := hrel
    cases k with
    | zero =>
      have HN : Hid (numR xs = (m, true)) := by
        have := HM.out; rw [List.drop_zero] at this
        show _ = _; unfold numR; rw [← this, if_pos hm1]
      go_wp2
      go_ret2
      exact ⟨ret_two' (by rw [HN.out]; rfl) (by rw [HN.out]; rfl), rfl⟩
    | succ k =>
      obtain ⟨z, hze⟩ : ∃ z, z = xs.getD k 0 := ⟨_, rfl⟩
      have hcell := hc k (by omega)
      have hz := hx (xs.getD k 0) (by have := HL.out; rw [List.getD_eq_getElem?_getD, List.getElem?_eq_getElem (by omega)]; simp)
      rw [← hze] at hcell hz
      have HV : Hid (Wc.val (xs.drop k) = z + 256 * m) := by
        show _ = _
        rw [Wc.val_drop xs k (by rw [HL.out]; omega), ← hze, HM.out]
      obtain ⟨hz1, hz2⟩ := hz
      clear hze
      by_cases hbig : (4611686018427387903 - z) / 256 < m
      · have HN : Hid (numR xs = (0, false)) := by
          have h1 := Wc.val_drop_le xs hx k
          rw [HV.out] at h1
          show _ = _; unfold numR; rw [if_neg (by omega)]
        go_wp2
        go_ret2
        exact ⟨ret_two' (by rw [HN.out]; rfl) (by rw [HN.out]; rfl), rfl⟩
      · go_wp2
        go_round
        case rel => exact ⟨k, 256 * m + z, rfl, by omega, rfl, by omega, by omega, Wc.hid (by rw [HV.out]; omega)⟩
        case measure => simp [intOf]

set_option maxHeartbeats 400000 in
theorem refNumber_nil (a : Option Addr) (cap : Nat) (w : World) :
    Calls Try.prog 68 #[.slice a 0 cap] w fun e w' => e = .returned (.tuple #[.int .i64 0, .bool true]) ∧ w = w' := by
  go_enter Try.func68, Try.ntmps68
  go_wp2
  go_loop [4, 5] (fun v i => i = .int .i64 (-1) ∧ v = .int .i64 0) (fun _ _ => 0)
  case atStart => exact ⟨rfl, rfl⟩
  case round =>
    obtain ⟨rfl, rfl⟩ := hrel
    go_wp2
    go_ret2
    exact ⟨rfl, rfl⟩

theorem refNumber_any (v : Value) (xs : List Int) (w : World) (hv : Wc.Bs w v xs) :
    Calls Try.prog 68 #[v] w fun e w' => e = .returned (.tuple #[.int .i64 (numR xs).1, .bool (numR xs).2]) ∧ w = w' := by
  rcases hv.open with ⟨rfl, a, cap, rfl, _⟩ | ⟨b, off, n, cap, rfl, h0, hl, _, _, hn, hx, _, hc⟩
  · rw [show numR [] = (0, true) from rfl]
    exact refNumber_nil a cap w
  · exact refNumber_pos b off n cap xs w hn hl hx hc

theorem Try.infoU8' : (Try.prog.info? 5).map (fun i => (i.zero, i.size, i.bytes)) = some (some (.int .u8 0), 1, 1) := by kernel_rfl
