/-
  What keep.Ios returns of two slices that hold the same steps.
-/
import Derived.Test.YtjacpmbdmbahhaaDsteps
namespace Go.Proofs.Ytjacpmbdmbahhaa
open Go.RowKit

theorem drewN_drewN (w : World) (m n : Nat) : (w.drewN m).drewN n = w.drewN (m + n) := by simp [World.drewN, Nat.add_assoc]

theorem quiet_draws {P : Program} {f : FuncId} {args : Array Value} {w : World} {n : Nat} {v : Value}
    (h : Calls P f args (w.drewN n) fun e w' => e = .returned v ∧ ∃ m, w' = (w.drewN n).drewN m) : Calls P f args (w.drewN n) fun e w'' => e = .returned v ∧ ∃ m, w'' = w.drewN m :=
  h.mono fun _ _ ⟨he, m, hm⟩ => ⟨he, n + m, by rw [hm, drewN_drewN]⟩

set_option maxHeartbeats 400000 in
theorem bytesQ_pos (b off n cap b' off' cap' : Nat) (xs : List Int) (w : World) (hn : n ≤ 140737488355328)
   (hc : ∀ i, i < n → w.cell? ⟨b, off + i, none⟩ = some (.int .u8 (xs.getD i 0)))
   (hc' : ∀ i, i < n → w.cell? ⟨b', off' + i, none⟩ = some (.int .u8 (xs.getD i 0))) :
    Calls Try.prog 20 #[.slice (some ⟨b, off, none⟩) n cap, .slice (some ⟨b', off', none⟩) n cap'] w fun e w' => e = .returned (.bool true) ∧ ∃ m, w' = w.drewN m := by
  have HC := Wc.hid hc
  have HC' := Wc.hid hc'
  clear hc hc'
  go_enter Try.func20, Try.ntmps20
  go_wp2
  go_loopw [5] (fun i wr => ∃ k m : Nat, i = .int .i64 k ∧ k ≤ n ∧ wr = w.drewN m) (fun i _ => n - (intOf i).toNat)
  case atStart => exact ⟨0, 0, rfl, by omega, rfl⟩
  case round =>
    obtain ⟨k, m, rfl, hk, rfl⟩ := hrel
    by_cases hlt : k < n
    · have h1 : (w.drewN m).cell? ⟨b, off + k, none⟩ = some (.int .u8 (xs.getD k 0)) := HC.out k hlt
      have h2 : (w.drewN m).cell? ⟨b', off' + k, none⟩ = some (.int .u8 (xs.getD k 0)) := HC'.out k hlt
      obtain ⟨z, hz⟩ : ∃ z, xs.getD k 0 = z := ⟨_, rfl⟩
      rw [hz] at h1 h2
      clear hz
      obtain ⟨W, hW⟩ : ∃ W, w.drewN m = W := ⟨_, rfl⟩
      rw [hW] at h1 h2 ⊢
      have HW := Wc.hid hW
      clear hW
      go_wp2
      go_quiet (fail)
      go_wp2
      go_roundw
      case rel => exact ⟨k + 1, m + nq, by go_num, by omega, by rw [← HW.out, drewN_drewN]⟩
      case measure => simp [intOf]; omega
    · go_wp2
      go_ret
      exact ⟨rfl, m, rfl⟩

set_option maxHeartbeats 400000 in
theorem bytesQ_nil (a a' : Option Addr) (cap cap' : Nat) (w : World) :
    Calls Try.prog 20 #[.slice a 0 cap, .slice a' 0 cap'] w fun e w' => e = .returned (.bool true) ∧ ∃ m, w' = w.drewN m := by
  go_enter Try.func20, Try.ntmps20
  go_wp2
  go_loopw [5] (fun i wr => i = .int .i64 0 ∧ w = wr) (fun _ _ => 0)
  case atStart => exact ⟨rfl, rfl⟩
  case round =>
    obtain ⟨rfl, rfl⟩ := hrel
    go_wp2
    go_ret
    exact ⟨rfl, 0, rfl⟩

/-- keep.Bytes of two slices that hold the same bytes only reads. -/
theorem bytesQ (v v' : Value) (xs : List Int) (w : World) (hv : Wc.Bs w v xs) (hv' : Wc.Bs w v' xs) :
    Calls Try.prog 20 #[v, v'] w fun e w' => e = .returned (.bool true) ∧ ∃ m, w' = w.drewN m := by
  rcases hv.open with ⟨rfl, a, cap, rfl, _⟩ | ⟨b, off, n, cap, rfl, h0, hl, _, _, hn, hx, _, hc⟩
  · rcases hv'.open with ⟨_, a', cap', rfl, _⟩ | ⟨b, off, n, cap, rfl, h0, hl, _⟩
    · exact bytesQ_nil a a' cap cap' w
    · simp at hl; omega
  · rcases hv'.open with ⟨rfl, a', cap', rfl, _⟩ | ⟨b', off', n', cap', rfl, h0', hl', _, _, _, _, _, hc'⟩
    · simp at hl; omega
    · obtain rfl : n = n' := by omega
      exact bytesQ_pos b off n cap b' off' cap' xs w hn hc hc'

set_option maxRecDepth 100000 in
set_option maxHeartbeats 3200000 in
theorem ios_same (a : Option Addr) (n cap : Nat) (a2 : Option Addr) (cap2 : Nat) (l : List Wd.Io) (w : World) (hI : Wd.Is w (.slice a n cap) l) (hJ : Wd.Is w (.slice a2 n cap2) l) :
    Calls Try.prog 21 #[.slice a n cap, .slice a2 n cap2] w fun e w' => e = .returned (.bool true) ∧ Below w.heap.size w w' := by
  obtain ⟨a', n', cap', h1, hl, hcap, -, hln, hpos⟩ := hI
  cases h1
  obtain ⟨a', n', cap', h1, hl2, -, -, -, hpos2⟩ := hJ
  cases h1
  have HP := Wc.hid hpos
  have HP2 := Wc.hid hpos2
  clear hpos hl hpos2 hl2
  go_enter Try.func21, Try.ntmps21
  go_wp2
  go_loopw [5] (fun i wr => ∃ k : Nat, i = .int .i64 k ∧ k ≤ n ∧ Below w.heap.size w wr) (fun i _ => n - (intOf i).toNat)
  case atStart => exact ⟨0, rfl, by omega, Below.refl _ _⟩
  case round =>
    obtain ⟨k, rfl, hk, hbr⟩ := hrel
    by_cases hlt : k < n
    · obtain ⟨b, off, rfl, hblt, hcs⟩ := HP.out (by omega)
      obtain ⟨b2, off2, rfl, hblt2, hcs2⟩ := HP2.out (by omega)
      obtain ⟨a', c', hx⟩ := hcs k hlt
      obtain ⟨a2', c2', hx2⟩ := hcs2 k hlt
      obtain ⟨x, hxe⟩ : ∃ x, l.getD k Wd.d0 = x := ⟨_, rfl⟩
      rw [hxe] at hx hx2
      obtain ⟨c0, c1, c2, c3, -⟩ := hx.keep hbr
      obtain ⟨e0, e1, e2, e3, -⟩ := hx2.keep hbr
      have C3 := Wc.hid c3
      have E3 := Wc.hid e3
      have hki : ((k : Int) < (n : Int)) := by omega
      clear hcs hcs2 hx hx2 hxe c3 e3
      obtain ⟨dn, hdn⟩ : ∃ dn, x.data.length = dn := ⟨_, rfl⟩
      rw [hdn] at c2 C3 e2 E3
      clear hdn
      have f1 : (x.kind != x.kind) = false := by simp
      have f2 : (x.pos != x.pos) = false := by simp
      go_wp2
      go_quiet (first | (go_at_call 20; refine quiet_draws (bytesQ _ _ x.data _ (by exact C3.out) (by exact E3.out))) | fail)
      go_wp2
      go_roundw
      case rel => exact ⟨k + 1, by go_num, by omega, below_drewN hbr _⟩
      case measure => simp only [intOf]; omega
    · go_wp2
      go_ret
      exact ⟨rfl, hbr⟩

end Go.Proofs.Ytjacpmbdmbahhaa
