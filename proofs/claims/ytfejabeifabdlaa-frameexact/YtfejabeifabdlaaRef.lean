/-
  The page's Zeros, Number and Bytes and keep.Twin, for every input.
-/
import Derived.Test.YtfejabeifabdlaaRead
namespace Go.Proofs.Ytfejabeifabdlaa
open Go.RowKit

theorem ret_two' {a b c d : Value} (h : a = c) (k : b = d) : Ending.returned (.tuple #[a, b]) = .returned (.tuple #[c, d]) := by rw [h, k]

/-- What the page's Number tells. -/
def numR (xs : List Int) : Int × Bool := if Wc.val xs ≤ 4611686018427387903 then (Wc.val xs, true) else (0, false)

set_option maxHeartbeats 400000 in
theorem refNumber_pos (b off n cap : Nat) (xs : List Int) (w : World) (hn : n ≤ 140737488355328) (hl : xs.length = n) (hx : ∀ x ∈ xs, 0 ≤ x ∧ x < 256)
   (hc : ∀ i, i < n → w.cell? ⟨b, off + i, none⟩ = some (.int .u8 (xs.getD i 0))) :
    Calls Try.prog 45 #[.slice (some ⟨b, off, none⟩) n cap] w fun e w' => e = .returned (.tuple #[.int .i64 (numR xs).1, .bool (numR xs).2]) ∧ w = w' := by
  have HL : Hid (xs.length = n) := hl
  clear hl
  go_enter Try.func45, Try.ntmps45
  go_wp2
  go_loop [4, 5] (fun v i => ∃ (k : Nat) (m : Int), i = .int .i64 ((k : Int) - 1) ∧ k ≤ n ∧ v = .int .i64 m ∧ 0 ≤ m ∧ m ≤ 4611686018427387903 ∧ Hid (m = Wc.val (xs.drop k))) (fun _ i => (intOf i + 1).toNat)
  case atStart => exact ⟨n, 0, rfl, by omega, rfl, by omega, by omega, Wc.hid (by rw [List.drop_of_length_le (by rw [HL.out]; omega)]; rfl)⟩
  case round =>
    obtain ⟨k, m, rfl, hk, rfl, hm0, hm1, HM⟩ := hrel
    cases k with
    | zero =>
      have HN : Hid (numR xs = (m, true)) := by
        have := HM.out; rw [List.drop_zero] at this
        show _ = _; unfold numR; rw [← this, if_pos hm1]
      go_wp2
      go_ret2
      exact ⟨ret_two' (by rw [HN.out]; rfl) (by rw [HN.out]; rfl), rfl⟩
    | succ k =>
      obtain ⟨z, hze⟩ : ∃ z, z = xs.getD k 0 := ⟨_, rfl⟩
      have hcell := hc k (by omega)
      have hz := hx (xs.getD k 0) (by have := HL.out; rw [List.getD_eq_getElem?_getD, List.getElem?_eq_getElem (by omega)]; simp)
      rw [← hze] at hcell hz
      have HV : Hid (Wc.val (xs.drop k) = z + 256 * m) := by
        show _ = _
        rw [Wc.val_drop xs k (by rw [HL.out]; omega), ← hze, HM.out]
      obtain ⟨hz1, hz2⟩ := hz
      clear hze
      by_cases hbig : (4611686018427387903 - z) / 256 < m
      · have HN : Hid (numR xs = (0, false)) := by
          have h1 := Wc.val_drop_le xs hx k
          rw [HV.out] at h1
          show _ = _; unfold numR; rw [if_neg (by omega)]
        go_wp2
        go_ret2
        exact ⟨ret_two' (by rw [HN.out]; rfl) (by rw [HN.out]; rfl), rfl⟩
      · go_wp2
        go_round
        case rel => exact ⟨k, 256 * m + z, rfl, by omega, rfl, by omega, by omega, Wc.hid (by rw [HV.out]; omega)⟩
        case measure => simp [intOf]

set_option maxHeartbeats 400000 in
theorem refNumber_nil (a : Option Addr) (cap : Nat) (w : World) :
    Calls Try.prog 45 #[.slice a 0 cap] w fun e w' => e = .returned (.tuple #[.int .i64 0, .bool true]) ∧ w = w' := by
  go_enter Try.func45, Try.ntmps45
  go_wp2
  go_loop [4, 5] (fun v i => i = .int .i64 (-1) ∧ v = .int .i64 0) (fun _ _ => 0)
  case atStart => exact ⟨rfl, rfl⟩
  case round =>
    obtain ⟨rfl, rfl⟩ := hrel
    go_wp2
    go_ret2
    exact ⟨rfl, rfl⟩

theorem refNumber_any (v : Value) (xs : List Int) (w : World) (hv : Wc.Bs w v xs) :
    Calls Try.prog 45 #[v] w fun e w' => e = .returned (.tuple #[.int .i64 (numR xs).1, .bool (numR xs).2]) ∧ w = w' := by
  rcases hv.open with ⟨rfl, a, cap, rfl, _⟩ | ⟨b, off, n, cap, rfl, h0, hl, _, _, hn, hx, _, hc⟩
  · rw [show numR [] = (0, true) from rfl]
    exact refNumber_nil a cap w
  · exact refNumber_pos b off n cap xs w hn hl hx hc

theorem Try.infoU8' : (Try.prog.info? 5).map (fun i => (i.zero, i.size, i.bytes)) = some (some (.int .u8 0), 1, 1) := by kernel_rfl

set_option maxHeartbeats 400000 in
theorem refBytes_any (s : Nat) (m : Int) (w : World) (hs : s ≤ 8) (h0 : 0 ≤ m) (h1 : m ≤ 4611686018427387903) :
    Calls Try.prog 39 #[.int .i64 s, .int .i64 m] w fun e w' => ∃ v, e = .returned v ∧ Wc.Bs w' v (Wc.enc s m) ∧ Below w.heap.size w w' := by
  obtain ⟨i0, hi, hz0, hz1, hz2⟩ := info_parts Try.infoU8'
  go_enter Try.func39, Try.ntmps39
  go_wp2
  go_loopw [1, 5, 6] (fun x v i wr => ∃ (k : Nat) (y : Int), k ≤ s ∧ i = .int .i64 k ∧ x = .int .i64 y ∧ 0 ≤ y ∧ y ≤ 4611686018427387903 ∧ Hid (y = m / 256 ^ k) ∧ wr.ownsRow w.heap.size 5 1 v k ((Wc.enc k m).map (Value.int .u8)) ∧ Below w.heap.size w wr) (fun _ _ i _ => s - (intOf i).toNat)
  case atStart => exact ⟨0, m, by omega, rfl, rfl, h0, h1, Wc.hid (by simp), World.ownsRow_nil _ _ _ _, Below.refl _ _⟩
  case round =>
    obtain ⟨k, y, hk, rfl, rfl, hy0, hy1, HE, hown, hbr⟩ := hrel
    by_cases hlt : k < s
    · go_wp2_with (first
        | (at_builtin; refine wpList_append_own _ rfl _ _ 22 rfl w.heap.size 5 i0 (.int .u8 0) 1 1 Try.underlying22 hi hz0 hz1 hz2 rfl (by decide) _ _ _ rfl (hown.alloc _) ⟨wr.heap.size, 0, none⟩ 1 1 [.int .u8 (y % 256)] rfl rfl ?c1 ?c2 ?c3 ?c4 ?c5 ?_))
      case c1 => exact cell_one_new _ _ _
      case c2 => intro u hu; simp at hu; subst hu; rfl
      case c3 => unfold maxLen; omega
      case c4 => omega
      case c5 => have := hbr.size; simp; omega
      · intro v' w1 hown' hgrow _
        have hb1 : Below w.heap.size w w1 := (hbr.alloc hbr.size _).grown hgrow (by have := hbr.size; simp; omega) (fun g hg => (hown.lt g hg).1)
        have HO : Hid (w1.ownsRow w.heap.size 5 1 v' (k + 1) ((Wc.enc (k + 1) m).map (Value.int .u8))) := by
          show World.ownsRow _ _ _ _ _ _ _
          rw [Wc.enc_snoc, List.map_append, ← HE.out]; exact hown'
        clear hown' hgrow hown hbr
        go_wp2
        go_roundw
        case rel => exact ⟨k + 1, y / 256, by omega, by go_num, rfl, by omega, by omega, Wc.hid (by rw [HE.out, Int.ediv_ediv_of_nonneg (Int.pow_nonneg (by omega)), Int.pow_succ]), HO.out, hb1⟩
        case measure => simp [intOf]; omega
    · obtain rfl : k = s := by omega
      go_wp2
      go_ret
      exact ⟨_, rfl, Wc.Bs.own hown (by omega) (Wc.enc_bd _ _), hbr⟩
end Go.Proofs.Ytfejabeifabdlaa
