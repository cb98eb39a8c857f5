/-
  le.Get, for every input.
-/
import Derived.Test.YtifjbmknghjohaaLeaf
import Derived.Test.YtifjbmknghjohaaMem
namespace Go.Proofs.Ytifjbmknghjohaa
open Go.RowKit

theorem ret_two {a b c d : Value} (h : a = c) (k : b = d) : Ending.returned (.tuple #[a, b]) = .returned (.tuple #[c, d]) := by rw [h, k]

theorem take_more (xs : List Int) (q k : Nat) (h : q + k < xs.length) : (xs.drop q).take (k + 1) = (xs.drop q).take k ++ [xs.getD (q + k) 0] := by
  rw [List.take_succ_eq_append_getElem (by simp; omega)]
  simp [List.getElem_drop, List.getD, h]

set_option maxHeartbeats 400000 in
theorem get_in (b off n cap : Nat) (xs : List Int) (p s : Int) (w : World) (hs : Wc.rsB s = true) (hp : Wc.inB n p s = true) (hn : n ≤ 140737488355328) (hl : xs.length = n) (hx : ∀ x ∈ xs, 0 ≤ x ∧ x < 256)
   (hc : ∀ i, i < n → w.cell? ⟨b, off + i, none⟩ = some (.int .u8 (xs.getD i 0))) :
    Calls Try.prog 51 #[.slice (some ⟨b, off, none⟩) n cap, .int .i64 p, .int .i64 s] w fun e w' => e = .returned (.tuple #[.int .i64 (Wc.getR xs p s).1, .int .i64 (Wc.getR xs p s).2]) ∧ w = w' := by
  obtain ⟨p1, p2⟩ := Wc.inB_iff.1 hp
  obtain ⟨q, rfl⟩ := Int.eq_ofNat_of_zero_le p1
  have hs1 : 1 ≤ s ∧ s ≤ 8 := by rcases Wc.rsB_cases hs with h | h | h | h <;> omega
  obtain ⟨t, rfl⟩ := Int.eq_ofNat_of_zero_le (show 0 ≤ s by omega)
  have HR : Hid (Wc.getR xs (q : Int) (t : Int) = if Wc.val ((xs.drop q).take t) ≤ 4611686018427387903 then (Wc.val ((xs.drop q).take t), 0) else (0, 1)) := by
    show _ = _
    unfold Wc.getR
    rw [hl, hs, hp]; simp
  have HL : Hid (xs.length = n) := hl
  clear hl
  go_enter Try.func51, Try.ntmps51
  go_wp2_with (first | (go_at_call 60; refine (rightSize_any _ _).mono ?_; rintro e w' ⟨rfl, rfl⟩) | (go_at_call 62; refine (inside_any _ _ _ _ _ _ hn (by omega) (by omega)).mono ?_; rintro e w' ⟨rfl, rfl⟩))
  go_loop [8, 19] (fun v i => ∃ (k : Nat) (m : Int), k ≤ t ∧ i = .int .i64 k ∧ v = .int .u64 m ∧ 0 ≤ m ∧ m < 256 ^ k ∧ Hid (m = Wc.val ((xs.drop q).take k))) (fun _ i => t - (intOf i).toNat)
  case atStart => exact ⟨0, 0, by omega, rfl, rfl, by omega, by simp, by show _ = _; simp [Wc.val]⟩
  case round =>
    obtain ⟨k, m, hk, rfl, rfl, hm0, hm1, HM⟩ := hrel
    by_cases hlt : k < t
    · have hcell := hc (q + k) (by omega)
      have hz := hx (xs.getD (q + k) 0) (by have := HL.out; rw [List.getD_eq_getElem?_getD, List.getElem?_eq_getElem (by omega)]; simp)
      have HS := Wc.or_shift m (xs.getD (q + k) 0) k (by omega) hm0 hm1 hz.1 hz.2
      have HS' : Hid (bits BinOp.or IntKind.u64 m (IntKind.u64.wrap (IntKind.u64.wrap (xs[q + k]?.getD 0) * 2 ^ (8 * k))) = m + (xs.getD (q + k) 0) * 256 ^ k) := by
        rw [List.getD_eq_getElem?_getD] at *; exact HS
      clear HS hz
      go_wp2
      go_round
      case rel =>
        have hb := Wc.val_bd ((xs.drop q).take (k + 1)) (fun x h' => hx x (List.mem_of_mem_drop (List.mem_of_mem_take h')))
        have e1 : ((xs.drop q).take (k + 1)).length = k + 1 := by have := HL.out; simp; omega
        have e0 : ((xs.drop q).take k).length = k := by have := HL.out; simp; omega
        have e2 := Wc.val_snoc ((xs.drop q).take k) (xs.getD (q + k) 0)
        rw [← take_more xs q k (by have := HL.out; omega), e0, ← HM.out] at e2
        rw [e1, e2] at hb
        exact ⟨k + 1, _, by omega, by go_num, by rw [HS'.out], hb.1, hb.2, e2.symm⟩
      case measure => simp [intOf]; omega
    · obtain rfl : k = t := by omega
      have hm2 : m < 256 ^ 8 := Int.lt_of_lt_of_le hm1 (by
        have : (256 : Nat) ^ k ≤ 256 ^ 8 := Nat.pow_le_pow_right (by omega) (by omega)
        rw [Wc.pow256]; omega)
      by_cases hle : m ≤ 4611686018427387903
      · go_wp2
        go_ret2
        have e := HR.out
        rw [← HM.out, if_pos hle] at e
        exact ⟨ret_two (by rw [e]; rfl) (by rw [e]; rfl), rfl⟩
      · go_wp2
        go_ret2
        have e := HR.out
        rw [← HM.out, if_neg (by omega)] at e
        exact ⟨ret_two (by rw [e]; rfl) (by rw [e]; rfl), rfl⟩

set_option maxHeartbeats 400000 in
theorem get_any (v : Value) (xs : List Int) (p s : Int) (w : World) (hv : Wc.Bs w v xs) :
    Calls Try.prog 51 #[v, .int .i64 p, .int .i64 s] w fun e w' => e = .returned (.tuple #[.int .i64 (Wc.getR xs p s).1, .int .i64 (Wc.getR xs p s).2]) ∧ w = w' := by
  obtain ⟨a, n, cap, rfl, hl, _, _, hn, hx, hpos⟩ := hv
  cases hs : Wc.rsB s with
  | false =>
    have e : Wc.getR xs p s = (0, 1) := by simp [Wc.getR, hs]
    rw [e]
    go_enter Try.func51, Try.ntmps51
    go_wp2_with (first | (go_at_call 60; refine (rightSize_any _ _).mono ?_; rintro e w' ⟨rfl, rfl⟩))
    go_ret2
    exact ⟨rfl, rfl⟩
  | true =>
    have hs1 : 1 ≤ s ∧ s ≤ 8 := by rcases Wc.rsB_cases hs with h | h | h | h <;> omega
    cases hp : Wc.inB n p s with
    | false =>
      have e : Wc.getR xs p s = (0, 3) := by simp [Wc.getR, hs, hl, hp]
      rw [e]
      go_enter Try.func51, Try.ntmps51
      go_wp2_with (first | (go_at_call 60; refine (rightSize_any _ _).mono ?_; rintro e w' ⟨rfl, rfl⟩) | (go_at_call 62; refine (inside_any _ _ _ _ _ _ hn (by omega) (by omega)).mono ?_; rintro e w' ⟨rfl, rfl⟩))
      go_ret2
      exact ⟨rfl, rfl⟩
    | true =>
      obtain ⟨p1, p2⟩ := Wc.inB_iff.1 hp
      obtain ⟨b, off, rfl, _, hc⟩ := hpos (by omega)
      exact get_in b off n cap xs p s w hs hp hn hl hx hc
end Go.Proofs.Ytifjbmknghjohaa
