/-
  What keep.Ints, keep.Ios, keep.TwinIos and dev.Flushes return, for every input.
-/
import Derived.Test.YtifjbmknghjohaaDsteps
import Derived.Deep.RegionHeld3
namespace Wd
open Go Go.RowKit

abbrev In (w : World) (v : Value) (xs : List Int) : Prop := Wv.Rv (Value.int .i64) 0 w v xs

/-- The places of flushes among the first k. -/
def flN (l : List Io) : Nat → List Int
  | 0 => []
  | k + 1 => if (l.getD k d0).kind = 2 then flN l k ++ [(k : Int)] else flN l k

theorem flN_length (l : List Io) : ∀ k, (flN l k).length ≤ k
  | 0 => Nat.le_refl _
  | k + 1 => by
    have := flN_length l k
    simp only [flN]
    split
    · simp; omega
    · omega

end Wd
namespace Go.Proofs.Ytifjbmknghjohaa
open Go.RowKit

set_option maxHeartbeats 400000 in
theorem ints_pos (b off n cap b' off' cap' : Nat) (xs ys : List Int) (w : World) (hn : n ≤ 17592186044416) (hl : xs.length = n) (hl' : ys.length = n)
   (hc : ∀ i, i < n → w.cell? ⟨b, off + i, none⟩ = some (.int .i64 (xs.getD i 0)))
   (hc' : ∀ i, i < n → w.cell? ⟨b', off' + i, none⟩ = some (.int .i64 (ys.getD i 0))) :
    Calls Try.prog 16 #[.slice (some ⟨b, off, none⟩) n cap, .slice (some ⟨b', off', none⟩) n cap'] w fun e w' => e = .returned (.bool (xs == ys)) ∧ Below w.heap.size w w' := by
  have HL := Wc.hid hl
  have HL' := Wc.hid hl'
  clear hl hl'
  go_enter Try.func16, Try.ntmps16
  go_wp2
  go_loopw [5] (fun i wr => ∃ k : Nat, i = .int .i64 k ∧ k ≤ n ∧ Below w.heap.size w wr ∧ Hid (∀ a, wr.cell? a = w.cell? a) ∧ Hid (∀ j, j < k → xs.getD j 0 = ys.getD j 0)) (fun i _ => n - (intOf i).toNat)
  case atStart => exact ⟨0, rfl, by omega, Below.refl _ _, fun _ => rfl, fun j h => by omega⟩
  case round =>
    obtain ⟨k, rfl, hk, hb, hcc, HZ⟩ := hrel
    by_cases hlt : k < n
    · have h1 : wr.cell? ⟨b, off + k, none⟩ = some (.int .i64 (xs.getD k 0)) := by rw [hcc.out]; exact hc k hlt
      have h2 : wr.cell? ⟨b', off' + k, none⟩ = some (.int .i64 (ys.getD k 0)) := by rw [hcc.out]; exact hc' k hlt
      by_cases hz : xs.getD k 0 = ys.getD k 0
      · have hzb : (xs[k]?.getD 0 != ys[k]?.getD 0) = false := by rw [getD_get, getD_get, hz]; simp
        have HZ0 := Wc.hid hz
        clear hz
        go_wp2
        go_quiet (fail)
        go_wp2
        go_roundw
        case rel =>
          refine ⟨k + 1, by go_num, by omega, below_drewN hb _, hcc, fun j hj => ?_⟩
          by_cases hjk : j = k
          · subst hjk; exact HZ0.out
          · exact HZ.out j (by omega)
        case measure => simp [intOf]; omega
      · have hzb : (xs[k]?.getD 0 != ys[k]?.getD 0) = true := by rw [getD_get, getD_get]; simpa using hz
        have HZ0 := Wc.hid hz
        clear hz
        go_wp2
        go_quiet (fail)
        go_wp2
        go_ret
        exact ⟨ret_bool (Wc.list_ne k HZ0.out).symm, below_drewN hb _⟩
    · go_wp2
      go_ret
      exact ⟨ret_bool (Wc.list_eq (by rw [HL.out, HL'.out]) (fun j hj => HZ.out j (by rw [HL.out] at hj; omega))).symm, hb⟩

set_option maxHeartbeats 400000 in
theorem ints_nil (a a' : Option Addr) (cap cap' : Nat) (w : World) :
    Calls Try.prog 16 #[.slice a 0 cap, .slice a' 0 cap'] w fun e w' => e = .returned (.bool true) ∧ Below w.heap.size w w' := by
  go_enter Try.func16, Try.ntmps16
  go_wp2
  go_loopw [5] (fun i wr => i = .int .i64 0 ∧ Below w.heap.size w wr) (fun _ _ => 0)
  case atStart => exact ⟨rfl, Below.refl _ _⟩
  case round =>
    obtain ⟨rfl, hb⟩ := hrel
    go_wp2
    go_ret
    exact ⟨rfl, hb⟩

set_option maxHeartbeats 400000 in
theorem ints_len (a a' : Option Addr) (n n' cap cap' : Nat) (w : World) (h : ((n : Int) != (n' : Int)) = true) :
    Calls Try.prog 16 #[.slice a n cap, .slice a' n' cap'] w fun e w' => e = .returned (.bool false) ∧ Below w.heap.size w w' := by
  go_enter Try.func16, Try.ntmps16
  go_wp2
  go_ret
  exact ⟨rfl, Below.refl _ _⟩

theorem ints_any (v v' : Value) (xs ys : List Int) (w : World) (hv : Wd.In w v xs) (hv' : Wd.In w v' ys) :
    Calls Try.prog 16 #[v, v'] w fun e w' => e = .returned (.bool (xs == ys)) ∧ Below w.heap.size w w' := by
  by_cases hlen : xs.length = ys.length
  · rcases hv.open with ⟨rfl, a, cap, rfl, _⟩ | ⟨b, off, n, cap, rfl, h0, hl, _, _, hn, _, hc⟩
    · obtain rfl : ys = [] := List.eq_nil_of_length_eq_zero hlen.symm
      rcases hv'.open with ⟨_, a', cap', rfl, _⟩ | ⟨b, off, n, cap, rfl, h0, hl, _⟩
      · exact ints_nil a a' cap cap' w
      · simp at hl; omega
    · rcases hv'.open with ⟨rfl, a', cap', rfl, _⟩ | ⟨b', off', n', cap', rfl, h0', hl', _, _, _, _, hc'⟩
      · simp at hlen; subst hlen; simp at hl; omega
      · obtain rfl : n = n' := by omega
        exact ints_pos b off n cap b' off' cap' xs ys w hn hl hl' hc hc'
  · rw [Wc.list_ne_len hlen]
    obtain ⟨a, n, cap, rfl, hl, -⟩ := hv
    obtain ⟨a', n', cap', rfl, hl', -⟩ := hv'
    exact ints_len a a' n n' cap cap' w (by rw [bne_iff_ne]; omega)

end Go.Proofs.Ytifjbmknghjohaa
