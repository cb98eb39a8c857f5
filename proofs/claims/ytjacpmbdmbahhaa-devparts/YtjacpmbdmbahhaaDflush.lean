/-
  What dev.flushed returns, for every list of steps: the place behind the last flush. It ranges over slices.Backward.
-/
import Derived.RangeFuncNested
import Derived.RangeFuncLeaves
import Derived.Shelf.Abstract
import Derived.WalkKit
import Derived.OwnWalkIn
import Derived.TacticsInMore
import Derived.LoopNIn
import Derived.LoopIn
import Derived.Test.YtjacpmbdmbahhaaDleaf
namespace Wd
open Go Go.RowKit

/-- How many of the first k steps end with their last flush. -/
def safeN (l : List Io) : Nat → Nat
  | 0 => 0
  | k + 1 => if (l.getD k d0).kind = 2 then k + 1 else safeN l k

/-- What comes out of an iterator over steps. -/
structure El where
  i : Nat
  k : Int
  p : Int
  a : Option Addr
  n : Nat
  c : Nat

def El.enc (x : El) : Array Value := #[.int .i64 (x.i : Int), .agg #[.int .i64 x.k, .int .i64 x.p, .slice x.a x.n x.c]]
def upto {α : Type} (f : Nat → α) (k : Nat) : List α := (List.range k).map f
theorem upto_succ {α : Type} (f : Nat → α) (k : Nat) : upto f (k + 1) = upto f k ++ [f k] := by simp [upto, List.range_succ]
theorem upto_length {α : Type} (f : Nat → α) (k : Nat) : (upto f k).length = k := by simp [upto]

/-- The round k of a walk from behind. -/
def back (n : Nat) (l : List Io) (A : Nat → Option Addr × Nat) (j : Nat) : El :=
  ⟨n - 1 - j, (l.getD (n - 1 - j) d0).kind, (l.getD (n - 1 - j) d0).pos, (A (n - 1 - j)).1, (l.getD (n - 1 - j) d0).data.length, (A (n - 1 - j)).2⟩

theorem safe_none (l : List Io) (n : Nat) (A : Nat → Option Addr × Nat) : ∀ k, k ≤ n → (∀ x ∈ upto (back n l A) k, ¬ x.k = 2) → safeN l n = safeN l (n - k)
  | 0, _, _ => rfl
  | k + 1, hk, h => by
    rw [upto_succ] at h
    rw [safe_none l n A k (by omega) (fun x hx => h x (List.mem_append.2 (.inl hx)))]
    have h1 := h (back n l A k) (by simp)
    obtain ⟨m, hm⟩ : ∃ m, n - k = m + 1 := ⟨n - k - 1, by omega⟩
    have e : n - (k + 1) = m := by omega
    have e2 : n - 1 - k = m := by omega
    simp only [back, e2] at h1
    rw [hm, e]
    simp only [safeN]
    rw [if_neg h1]

theorem safe_hit (l : List Io) (n : Nat) (A : Nat → Option Addr × Nat) (k : Nat) (hk : k < n) (h : ∀ x ∈ upto (back n l A) k, ¬ x.k = 2) (h2 : (back n l A k).k = 2) : safeN l n = (back n l A k).i + 1 := by
  rw [safe_none l n A k (by omega) h]
  obtain ⟨m, hm⟩ : ∃ m, n - k = m + 1 := ⟨n - k - 1, by omega⟩
  have e2 : n - 1 - k = m := by omega
  simp only [back, e2] at h2 ⊢
  rw [hm]
  simp only [safeN]
  rw [if_pos h2]

theorem safe_le (l : List Io) : ∀ k, safeN l k ≤ k
  | 0 => Nat.le_refl _
  | k + 1 => by
    have := safe_le l k
    simp only [safeN]
    split <;> omega

end Wd
namespace Go.Proofs.Ytjacpmbdmbahhaa
open Go.RowKit Go.Shelf

set_option maxHeartbeats 1000000 in
theorem backward_in (F : Fence) (n : Nat) (h5 : F.fn 33) (hro : F.round = none) (a : Option Addr) (len cap : Nat) (w : World) :
    CallsIn F n Try.prog 33 #[.slice a len cap] w fun e w' => e = .returned (.func (.func 34) #[] #[.pointer (some ⟨w.heap.size, 0, none⟩)]) ∧ w' = w.alloc (.cells #[.slice a len cap] 23) := by
  refine callsIn_of_wp Try.func33 rfl h5 ?_ hro
  simp only [Try.ntmps33, List.size_toArray, List.length_cons, List.length_nil, Nat.reduceAdd, Nat.reduceSub, Array.replicate_succ, Array.replicate_zero, List.push_toArray, List.append_toArray, List.nil_append, List.cons_append]
  gi_wp2
  go_ret
  exact ⟨rfl, rfl⟩

set_option maxRecDepth 100000 in
set_option maxHeartbeats 2000000 in
theorem backward1_in (F : Fence) (n : Nat) (h8 : F.fn 34) (hro : F.round = none) (hn : 1 ≤ n) (l Bs n₀ b off len cap : Nat) (ls : List Wd.Io) (A : Nat → Option Addr × Nat) (hl : 0 < len) (hreach : len ≤ 1099511627776) (hb : b < n₀) (hBs' : Bs < n₀) (J Jx : List Wd.El → World → Prop)
    (hY : ∀ pre x W, J pre W → pre.length < len → YieldAt F (n - 1) Try.prog l x.enc W fun e W' =>
      (e = .returned (.bool true) ∧ J (pre ++ [x]) W' ∧ Below n₀ W W') ∨ (e = .returned (.bool false) ∧ Jx (pre ++ [x]) W'))
    (W : World) (hBs : W.cell? ⟨Bs, 0, none⟩ = some (.slice (some ⟨b, off, none⟩) len cap)) (hc : ∀ j, j < len → W.cell? ⟨b, off + j * 3, none⟩ = some (.int .i64 (ls.getD j Wd.d0).kind) ∧ W.cell? ⟨b, off + j * 3 + 1, none⟩ = some (.int .i64 (ls.getD j Wd.d0).pos) ∧ W.cell? ⟨b, off + j * 3 + 2, none⟩ = some (.slice (A j).1 (ls.getD j Wd.d0).data.length (A j).2)) (h0 : J [] W) :
    CallsIn F n Try.prog 34 #[.func (.yield l) #[] #[], .pointer (some ⟨Bs, 0, none⟩)] W fun e W' => (∃ v, e = .returned v) ∧
      ((∃ ys, ys = Wd.upto (Wd.back len ls A) len ∧ J ys W') ∨ (∃ pre, (∃ k, k ≤ len ∧ pre = Wd.upto (Wd.back len ls A) k) ∧ Jx pre W')) := by
  have HC := Wc.hid hc
  have HY := Wc.hid hY
  clear hc hY
  refine callsIn_of_wp Try.func34 rfl h8 ?_ hro
  simp only [Try.ntmps34, List.size_toArray, List.length_cons, List.length_nil, Nat.reduceAdd, Nat.reduceSub, Array.replicate_succ, Array.replicate_zero, List.push_toArray, List.append_toArray, List.nil_append, List.cons_append]
  gi_wp2
  gi_loopw [3] (fun i wr => ∃ k : Nat, k ≤ len ∧ i = .int .i64 ((len : Int) - 1 - (k : Int)) ∧ J (Wd.upto (Wd.back len ls A) k) wr ∧ Below n₀ W wr)
    (fun i _ => ((intOf i) + 1).toNat)
  case atStart => exact ⟨0, Nat.zero_le _, by simp, h0, Below.refl _ _⟩
  case round =>
    obtain ⟨k, hk, rfl, hJs, hnx⟩ := hrel
    have hbox : wr.cell? ⟨Bs, 0, none⟩ = some (.slice (some ⟨b, off, none⟩) len cap) := (hnx.cell (p := ⟨Bs, 0, none⟩) hBs').trans hBs
    by_cases hlt : k < len
    · obtain ⟨j, hj⟩ : ∃ j : Nat, j = len - 1 - k := ⟨_, rfl⟩
      have hjl : j < len := by omega
      have ej : (len : Int) - 1 - (k : Int) = (j : Int) := by omega
      have hcx := HC.out j hjl
      have c0 : wr.cell? ⟨b, off + j * 3, none⟩ = some (.int .i64 (ls.getD j Wd.d0).kind) := (hnx.cell (p := ⟨b, off + j * 3, none⟩) hb).trans hcx.1
      have c1 : wr.cell? ⟨b, off + j * 3 + 1, none⟩ = some (.int .i64 (ls.getD j Wd.d0).pos) := (hnx.cell (p := ⟨b, off + j * 3 + 1, none⟩) hb).trans hcx.2.1
      have c2 : wr.cell? ⟨b, off + j * 3 + 2, none⟩ = some (.slice (A j).1 (ls.getD j Wd.d0).data.length (A j).2) := (hnx.cell (p := ⟨b, off + j * 3 + 2, none⟩) hb).trans hcx.2.2
      obtain ⟨fn, tmps, assign, body, hy, hR⟩ := HY.out _ (Wd.back len ls A k) wr hJs (by rw [Wd.upto_length]; exact hlt)
      have eb : (Wd.back len ls A k).enc = #[.int .i64 (j : Int), .agg #[.int .i64 (ls.getD j Wd.d0).kind, .int .i64 (ls.getD j Wd.d0).pos, .slice (A j).1 (ls.getD j Wd.d0).data.length (A j).2]] := by simp only [Wd.back, Wd.El.enc, ← hj]
      rw [eb] at hy
      rw [ej]
      clear hcx
      generalize (ls.getD j Wd.d0).kind = kk at *
      generalize (ls.getD j Wd.d0).pos = pp at *
      generalize (ls.getD j Wd.d0).data.length = nn at *
      generalize A j = aa at *
      have HJ := Wc.hid hj
      have EJ := Wc.hid ej
      clear hj ej
      gi_wp2
      refine hR.mono ?_
      rintro e W3 (⟨rfl, hJ3, hk3⟩ | ⟨rfl, hJx3⟩)
      · -- THE ROUND GOES ON
        gi_wp2
        go_roundw
        case rel => exact ⟨k + 1, by omega, by have := HJ.out; simp; omega, by rw [Wd.upto_succ]; exact hJ3, hnx.trans hk3⟩
        case measure => simp [intOf]
      · gi_wp2
        refine bodyPost_ret (results_none rfl _ _ _) rfl ?_
        exact ⟨⟨_, rfl⟩, .inr ⟨_, ⟨k + 1, by omega, (Wd.upto_succ _ _).symm⟩, hJx3⟩⟩
    · obtain rfl : k = len := by omega
      gi_wp2
      go_end0
      exact ⟨⟨_, rfl⟩, .inl ⟨_, rfl, hJs⟩⟩

set_option maxRecDepth 100000 in
set_option maxHeartbeats 1000000 in
theorem backward1_nil_in (F : Fence) (n : Nat) (h8 : F.fn 34) (hro : F.round = none) (l Bs cap : Nat) (a : Option Addr) (J : List Wd.El → World → Prop) (W : World) (hBs : W.cell? ⟨Bs, 0, none⟩ = some (.slice a 0 cap)) (h0 : J [] W) :
    CallsIn F n Try.prog 34 #[.func (.yield l) #[] #[], .pointer (some ⟨Bs, 0, none⟩)] W fun e W' => (∃ v, e = .returned v) ∧ J [] W' := by
  refine callsIn_of_wp Try.func34 rfl h8 ?_ hro
  simp only [Try.ntmps34, List.size_toArray, List.length_cons, List.length_nil, Nat.reduceAdd, Nat.reduceSub, Array.replicate_succ, Array.replicate_zero, List.push_toArray, List.append_toArray, List.nil_append, List.cons_append]
  gi_wp2
  gi_loopw [3] (fun i wr => i = .int .i64 (-1) ∧ J [] wr) (fun _ _ => 0)
  case atStart => exact ⟨rfl, h0⟩
  case round =>
    obtain ⟨rfl, hJs⟩ := hrel
    gi_wp2
    go_end0
    exact ⟨⟨_, rfl⟩, hJs⟩

/-- The iterator's contract: all from behind, or the first k of them. -/
theorem backward_stops (F : Fence) (n : Nat) (h8 : F.fn 34) (hro : F.round = none) (hn : 1 ≤ n) (Bs : Nat) (sv : Value) (ls : List Wd.Io) (w : World) (hBs : Bs < w.heap.size)
    (hc : w.cell? ⟨Bs, 0, none⟩ = some sv) (hI : Wd.Is w sv ls) :
    ∃ A : Nat → Option Addr × Nat, SeqStopsK F n Try.prog 34 #[.pointer (some ⟨Bs, 0, none⟩)] Wd.El.enc (Below w.heap.size) (fun ys => ys = Wd.upto (Wd.back ls.length ls A) ls.length)
      (fun pre => ∃ k, k ≤ ls.length ∧ pre = Wd.upto (Wd.back ls.length ls A) k) ls.length w := by
  rcases hI.open with ⟨rfl, a, cap, rfl, _⟩ | ⟨b, off, len, cap, rfl, h0, hl, _, _, hr, hb, hcs⟩
  · refine ⟨fun _ => (none, 0), fun l J Jx W hW _ _ hY h0 => ?_⟩
    have hc' := (hW.cell (p := ⟨Bs, 0, none⟩) hBs).trans hc
    exact (backward1_nil_in F n h8 hro l Bs cap a J W hc' h0).mono fun e W' ⟨he, hj⟩ => ⟨he, .inl ⟨_, rfl, hj⟩⟩
  · obtain ⟨A, hA⟩ := Deep.choose_lt (α := Option Addr × Nat) (p := fun i x => Wd.At w b (off + i * 3) (ls.getD i Wd.d0) x.1 x.2) (n := len) (fun i hi => by obtain ⟨a', c', h⟩ := hcs i hi; exact ⟨(a', c'), h⟩)
    refine ⟨A, fun l J Jx W hW _ _ hY h0' => ?_⟩
    have hc' := (hW.cell (p := ⟨Bs, 0, none⟩) hBs).trans hc
    rw [hl] at hY ⊢
    exact backward1_in F n h8 hro hn l Bs w.heap.size b off len cap ls A h0 hr hb hBs J Jx hY W hc' (fun j hj => ⟨(hW.cell (p := ⟨b, off + j * 3, none⟩) hb).trans (hA j hj).1, (hW.cell (p := ⟨b, off + j * 3 + 1, none⟩) hb).trans (hA j hj).2.1, (hW.cell (p := ⟨b, off + j * 3 + 2, none⟩) hb).trans (hA j hj).2.2.1⟩) h0'

end Go.Proofs.Ytjacpmbdmbahhaa
