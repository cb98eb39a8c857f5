/-
  crc.More, crc.Sum, and the page's, for every input.
-/
import Derived.Test.YtifjbmknghjohaaSum
import Derived.Test.YtifjbmknghjohaaKit
namespace Go.Proofs.Ytifjbmknghjohaa
open Go.RowKit

theorem ret_int {a b : Int} (h : a = b) : Ending.returned (.int .i64 a) = .returned (.int .i64 b) := by rw [h]

theorem step_u32 (r : Nat) (h : r < 4294967296) : bits BinOp.xor IntKind.u32 ((r : Int) / 2) (bits BinOp.and IntKind.u32 (r : Int) 1 * 2197175160 % 4294967296) = ((Wc.st r : Nat) : Int) := by
  have h1 : bits BinOp.and IntKind.u32 (r : Int) 1 = ((r % 2 : Nat) : Int) := by
    have := u32_and_nat r 1 h (by omega)
    rw [Nat.and_one_is_mod] at this
    exact this
  have h2 : r % 2 * 2197175160 < 4294967296 := by
    have : r % 2 ≤ 1 := by omega
    have : r % 2 * 2197175160 ≤ 1 * 2197175160 := Nat.mul_le_mul_right _ this
    omega
  rw [h1, show ((r % 2 : Nat) : Int) * 2197175160 = ((r % 2 * 2197175160 : Nat) : Int) by omega, Int.emod_eq_of_lt (by omega) (by omega), show (r : Int) / 2 = ((r / 2 : Nat) : Int) by omega, u32_xor_nat _ _ (by omega) h2]
  rfl

set_option maxHeartbeats 400000 in
theorem shift_any (r : Nat) (w : World) (h : r < 4294967296) :
    Calls Try.prog 63 #[.int .u32 r] w fun e w' => e = .returned (.int .u32 (Wc.shk 8 r : Nat)) ∧ w = w' := by
  go_enter Try.func63, Try.ntmps63
  go_wp2
  go_loop [0, 3] (fun v i => ∃ k q : Nat, k ≤ 8 ∧ i = .int .i64 k ∧ v = .int .u32 q ∧ q < 4294967296 ∧ Hid (q = Wc.shk k r)) (fun _ i => 8 - (intOf i).toNat)
  case atStart => exact ⟨0, r, by omega, rfl, rfl, h, Wc.hid rfl⟩
  case round =>
    obtain ⟨k, q, hk, rfl, rfl, hq, HQ⟩ := hrel
    by_cases hlt : k < 8
    · go_wp2
      go_round
      case rel => exact ⟨k + 1, Wc.st q, by omega, by go_num, by rw [step_u32 q hq], Wc.st_lt hq, Wc.hid (by rw [HQ.out]; rfl)⟩
      case measure => simp [intOf]; omega
    · obtain rfl : k = 8 := by omega
      go_wp2
      go_ret
      exact ⟨by rw [HQ.out]; rfl, rfl⟩

theorem not_u32 (r : Nat) (h : r < 4294967296) : bits BinOp.xor IntKind.u32 IntKind.u32.max (r : Int) = ((4294967295 ^^^ r : Nat) : Int) := u32_xor_nat 4294967295 r (by omega) h

theorem xor_byte (q : Nat) (z : Int) (h : q < 4294967296) (h0 : 0 ≤ z) (h1 : z < 256) : bits BinOp.xor IntKind.u32 (q : Int) (z % 4294967296) = ((q ^^^ z.toNat : Nat) : Int) := by
  obtain ⟨a, rfl⟩ := Int.eq_ofNat_of_zero_le h0
  rw [Int.emod_eq_of_lt h0 (by omega), u32_xor_nat _ _ h (by omega), Int.toNat_natCast]

theorem wrap_not (q : Nat) (h : q < 4294967296) : wrap64 (bits BinOp.xor IntKind.u32 IntKind.u32.max (q : Int)) = ((4294967295 ^^^ q : Nat) : Int) := by
  have := Wc.xor_lt32 (show 4294967295 < 4294967296 by omega) h
  rw [not_u32 q h]
  unfold wrap64; omega

theorem take_next (xs : List Int) (k : Nat) (h : k < xs.length) : xs.take (k + 1) = xs.take k ++ [xs.getD k 0] := by
  rw [List.take_succ_eq_append_getElem h]
  simp [List.getD, h]

set_option maxHeartbeats 400000 in
theorem more_pos (s : Int) (b off n cap : Nat) (xs : List Int) (w : World) (hn : n ≤ 140737488355328) (hl : xs.length = n) (hx : ∀ x ∈ xs, 0 ≤ x ∧ x < 256)
   (hc : ∀ i, i < n → w.cell? ⟨b, off + i, none⟩ = some (.int .u8 (xs.getD i 0))) :
    Calls Try.prog 48 #[.int .i64 s, .slice (some ⟨b, off, none⟩) n cap] w fun e w' => e = .returned (.int .i64 (Wc.more s xs)) ∧ w = w' := by
  have HL : Hid (xs.length = n) := hl
  clear hl
  obtain ⟨t, ht⟩ : ∃ t : Nat, s % 4294967296 = (t : Int) := Int.eq_ofNat_of_zero_le (by omega)
  have ht2 : t < 4294967296 := by omega
  have HN := not_u32 t ht2
  go_enter Try.func48, Try.ntmps48
  go_wp2
  go_loop [5, 13] (fun v i => ∃ k q : Nat, k ≤ n ∧ i = .int .i64 k ∧ v = .int .u32 q ∧ q < 4294967296 ∧ Hid (q = Wc.crun (4294967295 ^^^ t) (xs.take k))) (fun _ i => n - (intOf i).toNat)
  case atStart => exact ⟨0, _, by omega, rfl, rfl, Wc.xor_lt32 (by omega) ht2, Wc.hid rfl⟩
  case round =>
    obtain ⟨k, q, hk, rfl, rfl, hq, HQ⟩ := hrel
    by_cases hlt : k < n
    · have hcell := hc k hlt
      have hz := hx (xs.getD k 0) (by have := HL.out; rw [List.getD_eq_getElem?_getD, List.getElem?_eq_getElem (by omega)]; simp)
      have HX := xor_byte q _ hq hz.1 hz.2
      have hq2 := Wc.xor_lt32 hq (show (xs.getD k 0).toNat < 4294967296 by omega)
      have HS : Hid (Wc.crun (4294967295 ^^^ t) (xs.take (k + 1)) = Wc.shk 8 (q ^^^ (xs.getD k 0).toNat)) := Wc.hid (by
        rw [take_next xs k (by rw [HL.out]; omega), Wc.crun_snoc, ← HQ.out])
      rw [List.getD_eq_getElem?_getD] at HX hq2 HS
      clear hz
      go_wp2_with fail
      refine (shift_any _ _ hq2).mono ?_
      rintro e w' ⟨rfl, rfl⟩
      go_wp2
      go_round
      case rel => exact ⟨k + 1, _, by omega, by go_num, rfl, Wc.shk_lt 8 hq2, Wc.hid HS.out.symm⟩
      case measure => simp [intOf]; omega
    · obtain rfl : k = n := by omega
      go_wp2
      go_ret
      have e : Wc.more s xs = ((4294967295 ^^^ q : Nat) : Int) := by
        unfold Wc.more
        rw [ht, Int.toNat_natCast, HQ.out, List.take_of_length_le (by rw [HL.out]; omega)]
      rw [e]
      exact ⟨ret_int (wrap_not q hq), rfl⟩

set_option maxHeartbeats 400000 in
theorem more_zero (s : Int) (a : Option Addr) (cap : Nat) (w : World) :
    Calls Try.prog 48 #[.int .i64 s, .slice a 0 cap] w fun e w' => e = .returned (.int .i64 (Wc.more s [])) ∧ w = w' := by
  obtain ⟨t, ht⟩ : ∃ t : Nat, s % 4294967296 = (t : Int) := Int.eq_ofNat_of_zero_le (by omega)
  have ht2 : t < 4294967296 := by omega
  have HN := not_u32 t ht2
  go_enter Try.func48, Try.ntmps48
  go_wp2
  go_loop [5, 13] (fun v i => i = .int .i64 0 ∧ v = .int .u32 ((4294967295 ^^^ t : Nat) : Int)) (fun _ i => 0)
  case atStart => exact ⟨rfl, rfl⟩
  case round =>
    obtain ⟨rfl, rfl⟩ := hrel
    go_wp2
    go_ret
    have e : Wc.more s [] = ((4294967295 ^^^ (4294967295 ^^^ t) : Nat) : Int) := by
      unfold Wc.more
      rw [ht, Int.toNat_natCast]; rfl
    rw [e]
    exact ⟨ret_int (wrap_not _ (Wc.xor_lt32 (by omega) ht2)), rfl⟩

theorem more_any (s : Int) (v : Value) (xs : List Int) (w : World) (hv : Wc.Bs w v xs) :
    Calls Try.prog 48 #[.int .i64 s, v] w fun e w' => e = .returned (.int .i64 (Wc.more s xs)) ∧ w = w' := by
  rcases hv.open with ⟨rfl, a, cap, rfl, _⟩ | ⟨b, off, n, cap, rfl, h0, hl, _, _, hn, hx, _, hc⟩
  · exact more_zero s a cap w
  · exact more_pos s b off n cap xs w hn hl hx hc

set_option maxHeartbeats 400000 in
theorem sum_any (v : Value) (xs : List Int) (w : World) (hv : Wc.Bs w v xs) :
    Calls Try.prog 32 #[v] w fun e w' => e = .returned (.int .i64 (Wc.more 0 xs)) ∧ w = w' := by
  have h := fun (w1 : World) (h1 : w1 = w) => more_any 0 v xs w1 (h1 ▸ hv)
  go_enter Try.func32, Try.ntmps32
  go_wp2_with fail
  refine (h _ rfl).mono ?_
  rintro e w' ⟨rfl, rfl⟩
  go_wp2
  go_ret
  exact ⟨rfl, rfl⟩

theorem good_short (xs : List Int) (h : xs.length < 4) : Wc.goodB xs = false := by
  unfold Wc.goodB
  rw [decide_eq_false (by omega)]; rfl

theorem good_long (xs : List Int) (n : Nat) (hl : xs.length = n) (h : 4 ≤ n) : Wc.goodB xs = (Wc.val (xs.drop (n - 4)) == Wc.more 0 (xs.take (n - 4))) := by
  subst hl
  unfold Wc.goodB
  rw [decide_eq_true h]; rfl

theorem get_last (xs : List Int) (n : Nat) (hl : xs.length = n) (h : 4 ≤ n) (hx : ∀ x ∈ xs, 0 ≤ x ∧ x < 256) : Wc.getR xs ((n - 4 : Nat) : Int) 4 = (Wc.val (xs.drop (n - 4)), 0) := by
  have e : (xs.drop (n - 4)).length = 4 := by simp; omega
  have hb := Wc.val_bd (xs.drop (n - 4)) (fun x h => hx x (List.mem_of_mem_drop h))
  rw [e] at hb
  refine Wc.getR_ok _ _ _ _ (by decide) (Wc.inB_iff.2 (by omega)) ?_ (by omega)
  rw [Int.toNat_natCast, List.take_of_length_le (by rw [e]; decide)]

set_option maxHeartbeats 400000 in
theorem good_any (v : Value) (xs : List Int) (w : World) (hv : Wc.Bs w v xs) :
    Calls Try.prog 36 #[v] w fun e w' => e = .returned (.bool (Wc.goodB xs)) ∧ w = w' := by
  have HV := Wc.hid hv
  rcases hv.open with ⟨rfl, a, cap, rfl, _⟩ | ⟨b, off, n, cap, rfl, h0, hl, hcap, hcap2, hn, hx, _, hc⟩
  · go_enter Try.func36, Try.ntmps36
    go_wp2
    go_ret
    exact ⟨rfl, rfl⟩
  · clear hv hc
    by_cases h4 : n < 4
    · rw [good_short xs (by omega)]
      clear hl
      go_enter Try.func36, Try.ntmps36
      go_wp2
      go_ret
      exact ⟨rfl, rfl⟩
    · obtain ⟨m, rfl⟩ : ∃ m, n = m + 4 := ⟨n - 4, by omega⟩
      have HG := Wc.hid (get_last xs (m + 4) hl (by omega) hx)
      have HE := Wc.hid (good_long xs (m + 4) hl (by omega))
      rw [show m + 4 - 4 = m by omega] at HG HE
      rw [HE.out]
      clear hl hx
      go_enter Try.func36, Try.ntmps36
      go_wp2_with fail
      refine (get_any _ xs _ _ _ HV.out).mono ?_
      rintro e w2 ⟨rfl, rfl⟩
      rw [HG.out]
      go_wp2_with fail
      refine (sum_any _ _ _ (Wc.bs_take HV.out m (by omega))).mono ?_
      rintro e w3 ⟨rfl, rfl⟩
      go_wp2_with fail
      go_ret
      exact ⟨rfl, rfl⟩

theorem step_ref1 (q : Nat) (hq : q < 4294967296) (h : q % 2 = 1) : bits BinOp.xor IntKind.u32 ((q : Int) / 2) 2197175160 = ((Wc.st q : Nat) : Int) := by
  rw [show (q : Int) / 2 = ((q / 2 : Nat) : Int) by omega]
  have := u32_xor_nat (q / 2) 2197175160 (by omega) (by omega)
  unfold Wc.st
  rw [h, Nat.one_mul]; exact this

theorem step_ref0 (q : Nat) (h : q % 2 = 0) : ((q : Int) / 2) = ((Wc.st q : Nat) : Int) := by
  unfold Wc.st
  rw [h, Nat.zero_mul, Nat.xor_zero]; omega

set_option maxHeartbeats 400000 in
theorem refMore_pos (s : Int) (b off n cap : Nat) (xs : List Int) (w : World) (hn : n ≤ 140737488355328) (hl : xs.length = n) (hx : ∀ x ∈ xs, 0 ≤ x ∧ x < 256)
   (hc : ∀ i, i < n → w.cell? ⟨b, off + i, none⟩ = some (.int .u8 (xs.getD i 0))) :
    Calls Try.prog 71 #[.int .i64 s, .slice (some ⟨b, off, none⟩) n cap] w fun e w' => e = .returned (.int .i64 (Wc.more s xs)) ∧ w = w' := by
  have HL : Hid (xs.length = n) := hl
  clear hl
  obtain ⟨t, ht⟩ : ∃ t : Nat, s % 4294967296 = (t : Int) := Int.eq_ofNat_of_zero_le (by omega)
  have ht2 : t < 4294967296 := by omega
  have HN := not_u32 t ht2
  go_enter Try.func71, Try.ntmps71
  go_wp2
  go_loop [5, 6] (fun v i => ∃ k q : Nat, k ≤ n ∧ i = .int .i64 k ∧ v = .int .u32 q ∧ q < 4294967296 ∧ Hid (q = Wc.crun (4294967295 ^^^ t) (xs.take k))) (fun _ i => n - (intOf i).toNat)
  case atStart => exact ⟨0, _, by omega, rfl, rfl, Wc.xor_lt32 (by omega) ht2, Wc.hid rfl⟩
  case round =>
    obtain ⟨k, q, hk, rfl, rfl, hq, HQ⟩ := hrel
    by_cases hlt : k < n
    · have hcell := hc k hlt
      have hz := hx (xs.getD k 0) (by have := HL.out; rw [List.getD_eq_getElem?_getD, List.getElem?_eq_getElem (by omega)]; simp)
      have HX := xor_byte q _ hq hz.1 hz.2
      have hq2 := Wc.xor_lt32 hq (show (xs.getD k 0).toNat < 4294967296 by omega)
      have HS : Hid (Wc.crun (4294967295 ^^^ t) (xs.take (k + 1)) = Wc.shk 8 (q ^^^ (xs.getD k 0).toNat)) := Wc.hid (by
        rw [take_next xs k (by rw [HL.out]; omega), Wc.crun_snoc, ← HQ.out])
      rw [List.getD_eq_getElem?_getD] at HX hq2 HS
      clear hz
      go_wp2
      go_loop [5, 7] (fun v i => ∃ j p : Nat, j ≤ 8 ∧ i = .int .i64 j ∧ v = .int .u32 p ∧ p < 4294967296 ∧ Hid (p = Wc.shk j (q ^^^ (xs[k]?.getD 0).toNat))) (fun _ i => 8 - (intOf i).toNat)
      case atStart => exact ⟨0, _, by omega, rfl, rfl, hq2, Wc.hid rfl⟩
      case round =>
        obtain ⟨j, p, hj, rfl, rfl, hp, HP⟩ := hrel
        by_cases hjt : j < 8
        · by_cases hodd : p % 2 = 1
          · have h1 : ((p : Int) % 2 == 1) = true := by rw [beq_iff_eq]; omega
            have HS1 := step_ref1 p hp hodd
            clear hodd
            go_wp2
            go_round
            case rel => exact ⟨j + 1, _, by omega, by go_num, rfl, Wc.st_lt hp, Wc.hid (by rw [HP.out]; rfl)⟩
            case measure => simp [intOf]; omega
          · have h1 : ((p : Int) % 2 == 1) = false := by rw [beq_eq_false_iff_ne]; omega
            have HS1 := step_ref0 p (by omega)
            clear hodd
            go_wp2
            go_round
            case rel => exact ⟨j + 1, _, by omega, by go_num, rfl, Wc.st_lt hp, Wc.hid (by rw [HP.out]; rfl)⟩
            case measure => simp [intOf]; omega
        · obtain rfl : j = 8 := by omega
          go_wp2
          go_round
          case rel => exact ⟨k + 1, _, by omega, by go_num, rfl, hp, Wc.hid (by rw [HP.out, HS.out])⟩
          case measure => simp [intOf]; omega
    · obtain rfl : k = n := by omega
      go_wp2
      go_ret
      have e : Wc.more s xs = ((4294967295 ^^^ q : Nat) : Int) := by
        unfold Wc.more
        rw [ht, Int.toNat_natCast, HQ.out, List.take_of_length_le (by rw [HL.out]; omega)]
      rw [e]
      exact ⟨ret_int (wrap_not q hq), rfl⟩

set_option maxHeartbeats 400000 in
theorem refMore_zero (s : Int) (a : Option Addr) (cap : Nat) (w : World) :
    Calls Try.prog 71 #[.int .i64 s, .slice a 0 cap] w fun e w' => e = .returned (.int .i64 (Wc.more s [])) ∧ w = w' := by
  obtain ⟨t, ht⟩ : ∃ t : Nat, s % 4294967296 = (t : Int) := Int.eq_ofNat_of_zero_le (by omega)
  have ht2 : t < 4294967296 := by omega
  have HN := not_u32 t ht2
  go_enter Try.func71, Try.ntmps71
  go_wp2
  go_loop [5, 6] (fun v i => i = .int .i64 0 ∧ v = .int .u32 ((4294967295 ^^^ t : Nat) : Int)) (fun _ i => 0)
  case atStart => exact ⟨rfl, rfl⟩
  case round =>
    obtain ⟨rfl, rfl⟩ := hrel
    go_wp2
    go_ret
    have e : Wc.more s [] = ((4294967295 ^^^ (4294967295 ^^^ t) : Nat) : Int) := by
      unfold Wc.more
      rw [ht, Int.toNat_natCast]; rfl
    rw [e]
    exact ⟨ret_int (wrap_not _ (Wc.xor_lt32 (by omega) ht2)), rfl⟩

theorem refMore_any (s : Int) (v : Value) (xs : List Int) (w : World) (hv : Wc.Bs w v xs) :
    Calls Try.prog 71 #[.int .i64 s, v] w fun e w' => e = .returned (.int .i64 (Wc.more s xs)) ∧ w = w' := by
  rcases hv.open with ⟨rfl, a, cap, rfl, _⟩ | ⟨b, off, n, cap, rfl, h0, hl, _, _, hn, hx, _, hc⟩
  · exact refMore_zero s a cap w
  · exact refMore_pos s b off n cap xs w hn hl hx hc

set_option maxHeartbeats 400000 in
theorem refSum_any (v : Value) (xs : List Int) (w : World) (hv : Wc.Bs w v xs) :
    Calls Try.prog 70 #[v] w fun e w' => e = .returned (.int .i64 (Wc.more 0 xs)) ∧ w = w' := by
  have h := fun (w1 : World) (h1 : w1 = w) => refMore_any 0 v xs w1 (h1 ▸ hv)
  go_enter Try.func70, Try.ntmps70
  go_wp2_with fail
  refine (h _ rfl).mono ?_
  rintro e w' ⟨rfl, rfl⟩
  go_wp2
  go_ret
  exact ⟨rfl, rfl⟩

end Go.Proofs.Ytifjbmknghjohaa
