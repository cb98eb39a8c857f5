/-
  What commit.moved returns: the first records from behind. It ranges over slices.Backward.
-/
import Derived.RangeFuncNested
import Derived.RangeFuncLeaves
import Derived.RangeFuncBox
import Derived.Shelf.Abstract
import Derived.WalkKit
import Derived.OwnWalkIn
import Derived.TacticsInMore
import Derived.LoopNIn
import Derived.LoopIn
import Derived.Maps.AppendAt
import Derived.Test.YtfflhiajbioheaaGreatEb
namespace Wq
open Go Go.RowKit Wr

/-- What comes out of an iterator over records. -/
structure Er where
  i : Nat
  r : Rec
def recV (r : Rec) : Value := .agg #[.int .i64 r.next, .int .i64 r.id, .int .i64 r.parent, .int .i64 r.root, .int .i64 r.size, .int .i64 r.kind, .int .i64 r.frames, .int .i64 r.digest]
def Er.enc (x : Er) : Array Value := #[.int .i64 (x.i : Int), recV x.r]
/-- The round k of a walk from behind. -/
def bk (n : Nat) (l : List Rec) (j : Nat) : Er := ⟨n - 1 - j, l.getD (n - 1 - j) r0⟩
theorem bk_all (l : List Rec) : (Wd.upto (bk l.length l) l.length).map Er.r = l.reverse := by
  apply List.ext_getElem (by simp [Wd.upto])
  intro i h1 h2
  have hi : i < l.length := by simpa using h2
  simp only [Wd.upto, List.map_map, List.getElem_map, List.getElem_range, List.getElem_reverse, Function.comp_apply, bk]
  rw [List.getD_eq_getElem?_getD, List.getElem?_eq_getElem (by omega)]; rfl
end Wq
namespace Go.Proofs.YtfflhiajbioheaaGreat
open Go.RowKit Go.Shelf

theorem Tryz.size52 : (Tryz.prog.info? 39).map (·.size) = some 8 := by kernel_rfl
theorem map_zero8 (a : Option Addr) : a.map (·.add (0 * 8)) = a := by cases a <;> rfl
/-- A part of a slice of records, up to t. -/
theorem slice_recsTo (a : Option Addr) (n cap t : Nat) (h : t ≤ n) (hc : n ≤ cap) (w : World) :
    (Instr.slice 24 (.slice a n cap) none (some (.int .i64 (t : Int))) none).run Tryz.prog w = .ok (.slice a t cap) w := by
  have h0 := Tryz.size52
  have hm := map_zero8 a
  cases hq : Tryz.prog.info? 39 with
  | none => rw [hq] at h0; cases h0
  | some i =>
    have htc : t ≤ cap := by omega
    simp [Instr.slice, run_underlying Tryz.underlying24, Instr.sliceBounds, run_sliceBound, sizeOf, typeInfo, hq, htc]
    exact fun _ => by simpa using hm
theorem rs_take {w : World} {a : Option Addr} {n cap : Nat} {l : List Wr.Rec} (h : Wi.Rs w (.slice a n cap) l) (q : Nat) (hq : q ≤ n) : Wi.Rs w (.slice a q cap) (l.take q) := by
  obtain ⟨a', n', c', h1, h2, h3, h4, h5, h6⟩ := h
  cases h1
  refine ⟨_, _, _, rfl, by rw [List.length_take, h2]; omega, by omega, by omega, by omega, fun h0 => ?_⟩
  obtain ⟨b, off, rfl, k2, k3⟩ := h6 (by omega)
  refine ⟨b, off, rfl, k2, fun i hi => ?_⟩
  rw [Wq.getD_take hi]
  exact k3 i (by omega)

/-- What lay stays, and the block Bs. -/
def KpR (n₀ Bs : Nat) (A B : World) : Prop := Below n₀ A B ∧ B.heap[Bs]? = A.heap[Bs]?
theorem KpR.refl (n₀ Bs : Nat) (A : World) : KpR n₀ Bs A A := ⟨Below.refl _ _, rfl⟩
theorem KpR.trans {n₀ Bs : Nat} {A B C : World} (h : KpR n₀ Bs A B) (k : KpR n₀ Bs B C) : KpR n₀ Bs A C := ⟨h.1.trans k.1, k.2.trans h.2⟩
theorem KpR.cell {n₀ Bs : Nat} {A B : World} (h : KpR n₀ Bs A B) : B.cell? ⟨Bs, 0, none⟩ = A.cell? ⟨Bs, 0, none⟩ := by
  have := h.2
  simp only [World.cell?, this]

/-- A new row of one record. -/
theorem bs_rec (r : Wr.Rec) (w : World) : (Instr.buildSlice 24 1 #[(0, .agg #[.int .i64 r.next, .int .i64 r.id, .int .i64 r.parent, .int .i64 r.root, .int .i64 r.size, .int .i64 r.kind, .int .i64 r.frames, .int .i64 r.digest])]).run Tryz.prog w = .ok (.slice (some ⟨w.heap.size, 0, none⟩) 1 1) (w.alloc (.cells #[.int .i64 r.next, .int .i64 r.id, .int .i64 r.parent, .int .i64 r.root, .int .i64 r.size, .int .i64 r.kind, .int .i64 r.frames, .int .i64 r.digest] 39)) := by
  obtain ⟨i0, hi, hz0, hz1, hz2⟩ := info_parts Tryz.info41
  simp [Instr.buildSlice, run_underlying Tryz.underlying24, sizeOf, typeInfo, hi, hz1, hz0, zeroValue, go_sem]

theorem wpListIn_bs {F : Fence} {n : Nat} (w : World) {ops : Array Oper} {rest : List Oper} {o : Oper} {a : Act} {Q : Exit → Act → World → Prop} (hg : o.guard = none) (r : Wr.Rec) {x : Operand} (hop : o.op = .buildSlice 24 1 #[(0, x)])
    (hx : a.eval x = .agg #[.int .i64 r.next, .int .i64 r.id, .int .i64 r.parent, .int .i64 r.root, .int .i64 r.size, .int .i64 r.kind, .int .i64 r.frames, .int .i64 r.digest])
    (hK : wpListIn F n Tryz.prog ops Q rest (a.put o.dst (.slice (some ⟨w.heap.size, 0, none⟩) 1 1)) (w.alloc (.cells #[.int .i64 r.next, .int .i64 r.id, .int .i64 r.parent, .int .i64 r.root, .int .i64 r.size, .int .i64 r.kind, .int .i64 r.frames, .int .i64 r.digest] 39))) :
    wpListIn F n Tryz.prog ops Q (o :: rest) a w := by
  refine wpListIn_plain hg fun K hK' => ?_
  have hb := bs_rec r w
  unfold Oper.wpIn
  refine ⟨?_, ?_⟩
  · simp [Oper.about, hop]
  · rw [Oper.semAt_plain F _ _ (by rw [hop]; intro c hc'; cases hc')]
    simp [execOp, hop, hx, hb, Result.andThen]
    exact hK' _ _ hK

set_option maxHeartbeats 1000000 in
theorem backR_in (F : Fence) (n : Nat) (h5 : F.fn 49) (hro : F.round = none) (a : Option Addr) (len cap : Nat) (w : World) :
    CallsIn F n Tryz.prog 49 #[.slice a len cap] w fun e w' => e = .returned (.func (.func 68) #[] #[.pointer (some ⟨w.heap.size, 0, none⟩)]) ∧ w' = w.alloc (.cells #[.slice a len cap] 24) := by
  refine callsIn_of_wp Tryz.func49 rfl h5 ?_ hro
  simp only [Tryz.ntmps49, List.size_toArray, List.length_cons, List.length_nil, Nat.reduceAdd, Nat.reduceSub, Array.replicate_succ, Array.replicate_zero, List.push_toArray, List.append_toArray, List.nil_append, List.cons_append]
  gi_wp2
  go_ret
  exact ⟨rfl, rfl⟩

set_option maxRecDepth 100000 in
set_option maxHeartbeats 2000000 in
theorem backR1_in (F : Fence) (n : Nat) (h8 : F.fn 68) (hro : F.round = none) (hn : 1 ≤ n) (l Bs n₀ b off len cap : Nat) (ls : List Wr.Rec) (hl : 0 < len) (hreach : len ≤ 1099511627776) (hb : b < n₀) (J Jx : List Wq.Er → World → Prop)
    (hY : ∀ pre x W, J pre W → pre.length < len → YieldAt F (n - 1) Tryz.prog l x.enc W fun e W' =>
      (e = .returned (.bool true) ∧ J (pre ++ [x]) W' ∧ KpR n₀ Bs W W') ∨ (e = .returned (.bool false) ∧ Jx (pre ++ [x]) W'))
    (W : World) (hBs : W.cell? ⟨Bs, 0, none⟩ = some (.slice (some ⟨b, off, none⟩) len cap)) (hc : ∀ j, j < len → Wi.Ra W b (off + j * 8) (ls.getD j Wr.r0)) (h0 : J [] W) :
    CallsIn F n Tryz.prog 68 #[.func (.yield l) #[] #[], .pointer (some ⟨Bs, 0, none⟩)] W fun e W' => (∃ v, e = .returned v) ∧
      ((∃ ys, ys = Wd.upto (Wq.bk len ls) len ∧ J ys W') ∨ (∃ pre, (∃ k, k ≤ len ∧ pre = Wd.upto (Wq.bk len ls) k) ∧ Jx pre W')) := by
  have HC := Wc.hid hc
  have HY := Wc.hid hY
  clear hc hY
  refine callsIn_of_wp Tryz.func68 rfl h8 ?_ hro
  simp only [Tryz.ntmps68, List.size_toArray, List.length_cons, List.length_nil, Nat.reduceAdd, Nat.reduceSub, Array.replicate_succ, Array.replicate_zero, List.push_toArray, List.append_toArray, List.nil_append, List.cons_append]
  gi_wp2
  gi_loopw [3] (fun i wr => ∃ k : Nat, k ≤ len ∧ i = .int .i64 ((len : Int) - 1 - (k : Int)) ∧ J (Wd.upto (Wq.bk len ls) k) wr ∧ KpR n₀ Bs W wr)
    (fun i _ => ((intOf i) + 1).toNat)
  case atStart => exact ⟨0, Nat.zero_le _, by simp, h0, KpR.refl _ _ _⟩
  case round =>
    obtain ⟨k, hk, rfl, hJs, hnx⟩ := hrel
    have hbox : wr.cell? ⟨Bs, 0, none⟩ = some (.slice (some ⟨b, off, none⟩) len cap) := hnx.cell.trans hBs
    by_cases hlt : k < len
    · obtain ⟨j, hj⟩ : ∃ j : Nat, j = len - 1 - k := ⟨_, rfl⟩
      have hjl : j < len := by omega
      have ej : (len : Int) - 1 - (k : Int) = (j : Int) := by omega
      obtain ⟨c0, c1, c2, c3, c4, c5, c6, c7⟩ := HC.out j hjl
      replace c0 := (hnx.1.cell (p := ⟨b, off + j * 8, none⟩) hb).trans c0
      replace c1 := (hnx.1.cell (p := ⟨b, off + j * 8 + 1, none⟩) hb).trans c1
      replace c2 := (hnx.1.cell (p := ⟨b, off + j * 8 + 2, none⟩) hb).trans c2
      replace c3 := (hnx.1.cell (p := ⟨b, off + j * 8 + 3, none⟩) hb).trans c3
      replace c4 := (hnx.1.cell (p := ⟨b, off + j * 8 + 4, none⟩) hb).trans c4
      replace c5 := (hnx.1.cell (p := ⟨b, off + j * 8 + 5, none⟩) hb).trans c5
      replace c6 := (hnx.1.cell (p := ⟨b, off + j * 8 + 6, none⟩) hb).trans c6
      replace c7 := (hnx.1.cell (p := ⟨b, off + j * 8 + 7, none⟩) hb).trans c7
      obtain ⟨fn, tmps, assign, body, hy, hR⟩ := HY.out _ (Wq.bk len ls k) wr hJs (by rw [Wd.upto_length]; exact hlt)
      have eb : (Wq.bk len ls k).enc = #[.int .i64 (j : Int), Wq.recV (ls.getD j Wr.r0)] := by simp only [Wq.bk, Wq.Er.enc, ← hj]
      rw [eb] at hy
      unfold Wq.recV at hy
      rw [ej]
      clear eb
      generalize ls.getD j Wr.r0 = x at *
      have HJ := Wc.hid hj
      have EJ := Wc.hid ej
      clear hj ej
      gi_wp2
      refine hR.mono ?_
      rintro e W3 (⟨rfl, hJ3, hk3⟩ | ⟨rfl, hJx3⟩)
      · gi_wp2
        go_roundw
        case rel => exact ⟨k + 1, by omega, by have := HJ.out; simp; omega, by rw [Wd.upto_succ]; exact hJ3, hnx.trans hk3⟩
        case measure => simp [intOf]
      · gi_wp2
        refine bodyPost_ret (results_none rfl _ _ _) rfl ?_
        exact ⟨⟨_, rfl⟩, .inr ⟨_, ⟨k + 1, by omega, (Wd.upto_succ _ _).symm⟩, hJx3⟩⟩
    · obtain rfl : k = len := by omega
      gi_wp2
      go_end0
      exact ⟨⟨_, rfl⟩, .inl ⟨_, rfl, hJs⟩⟩

set_option maxRecDepth 100000 in
set_option maxHeartbeats 1000000 in
theorem backR1_nil_in (F : Fence) (n : Nat) (h8 : F.fn 68) (hro : F.round = none) (l Bs cap : Nat) (a : Option Addr) (J : List Wq.Er → World → Prop) (W : World) (hBs : W.cell? ⟨Bs, 0, none⟩ = some (.slice a 0 cap)) (h0 : J [] W) :
    CallsIn F n Tryz.prog 68 #[.func (.yield l) #[] #[], .pointer (some ⟨Bs, 0, none⟩)] W fun e W' => (∃ v, e = .returned v) ∧ J [] W' := by
  refine callsIn_of_wp Tryz.func68 rfl h8 ?_ hro
  simp only [Tryz.ntmps68, List.size_toArray, List.length_cons, List.length_nil, Nat.reduceAdd, Nat.reduceSub, Array.replicate_succ, Array.replicate_zero, List.push_toArray, List.append_toArray, List.nil_append, List.cons_append]
  gi_wp2
  gi_loopw [3] (fun i wr => i = .int .i64 (-1) ∧ J [] wr) (fun _ _ => 0)
  case atStart => exact ⟨rfl, h0⟩
  case round =>
    obtain ⟨rfl, hJs⟩ := hrel
    gi_wp2
    go_end0
    exact ⟨⟨_, rfl⟩, hJs⟩

/-- The iterator's contract. -/
theorem backR_stops (F : Fence) (n : Nat) (h8 : F.fn 68) (hro : F.round = none) (hn : 1 ≤ n) (Bs : Nat) (sv : Value) (ls : List Wr.Rec) (w0 w : World) (hw : Below w0.heap.size w0 w) (hBs : Bs < w.heap.size)
    (hc : w.cell? ⟨Bs, 0, none⟩ = some sv) (hI : Wi.Rs w0 sv ls) :
    SeqStopsK F n Tryz.prog 68 #[.pointer (some ⟨Bs, 0, none⟩)] Wq.Er.enc (KpR w0.heap.size Bs) (fun ys => ys = Wd.upto (Wq.bk ls.length ls) ls.length)
      (fun pre => ∃ k, k ≤ ls.length ∧ pre = Wd.upto (Wq.bk ls.length ls) k) ls.length w := by
  rcases hI.open with ⟨rfl, a, cap, rfl, _⟩ | ⟨b, off, len, cap, rfl, h0, hl, _, _, hr, hb, hcs⟩
  · refine fun l J Jx W hW _ _ hY h0 => ?_
    have hc' := (hW.cell (p := ⟨Bs, 0, none⟩) hBs).trans hc
    exact (backR1_nil_in F n h8 hro l Bs cap a J W hc' h0).mono fun e W' ⟨he, hj⟩ => ⟨he, .inl ⟨_, rfl, hj⟩⟩
  · refine fun l J Jx W hW _ _ hY h0' => ?_
    have hc' := (hW.cell (p := ⟨Bs, 0, none⟩) hBs).trans hc
    rw [hl] at hY ⊢
    exact backR1_in F n h8 hro hn l Bs w0.heap.size b off len cap ls h0 hr hb J Jx hY W hc' (fun j hj => ((hcs j hj).keep hw).keep hW) h0'

set_option maxRecDepth 100000 in
set_option maxHeartbeats 4000000 in
theorem moved15_in (F : Fence) (n : Nat) (h29 : F.fn 30) (h33 : F.fn 49) (h34 : F.fn 68) (hro : F.round = none) (hn : 3 ≤ n) (a : Option Addr) (len cap k m : Nat) (ls : List Wr.Rec) (w : World) (hI : Wi.Rs w (.slice a len cap) ls) (hk : k ≤ len) (hm : k - 1 = m) (hlen : len ≤ 1000000) :
    CallsIn F n Tryz.prog 30 #[.slice a len cap, .int .i64 (k : Int)] w fun e W' => ∃ v, e = .returned v ∧ Wi.Or 39 w.heap.size W' v (ls.take m).reverse ∧ Below w.heap.size w W' := by
  have h1 : 1 ≤ n := by omega
  have hsem := @Oper.semAt_some
  obtain ⟨i0, hi, hz0, hz1, hz2⟩ := info_parts Tryz.info41
  have hcap : len ≤ cap := by obtain ⟨_, _, _, he, _, h3, _⟩ := hI; cases he; exact h3
  have hs1 := fun w => slice_recsTo a len cap m (by omega) hcap w
  have hmx : (if (k : Int) < 1 then (1 : Int) else (k : Int)) - 1 = (m : Int) := by split <;> omega
  have hIm := rs_take hI m (by omega)
  have hml : (ls.take m).length = m := by rw [List.length_take, Wi.rs_len hI]; omega
  refine callsIn_of_wp_marks Tryz.func30 rfl h29 ?_ hro
  simp only [Tryz.ntmps30, List.size_toArray, List.length_cons, List.length_nil, Nat.reduceAdd, Nat.reduceSub, Array.replicate_succ, Array.replicate_zero, List.push_toArray, List.append_toArray, List.nil_append, List.cons_append]
  gi_wp2_with (gi_at_call 49; refine (backR_in F (n - 1) h33 hro _ _ _ _).mono ?_; rintro e w' ⟨rfl, rfl⟩)
  all_goals
    have bR := (Boxed.new w 24 (.slice none 0 0)).alloc (.cells #[.slice a m cap] 24)
    have bN := Boxed.new (w.alloc (.cells #[.slice none 0 0] 24)) 24 (.slice a m cap)
    rw [World.size_alloc] at bN
    have hB0 : Below w.heap.size w ((w.alloc (.cells #[.slice none 0 0] 24)).alloc (.cells #[.slice a m cap] 24)) := ((Below.refl _ w).alloc (Nat.le_refl _) _).alloc (by simp) _
    have hsz : ((w.alloc (.cells #[.slice none 0 0] 24)).alloc (.cells #[.slice a m cap] 24)).heap.size = w.heap.size + 2 := by simp
    obtain ⟨W0, hW0⟩ : ∃ W0, (w.alloc (.cells #[.slice none 0 0] 24)).alloc (.cells #[.slice a m cap] 24) = W0 := ⟨_, rfl⟩
    rw [hW0] at bR bN hB0 hsz ⊢
    clear hW0
    have hst := backR_stops F (n - 1) h34 hro (by omega) (w.heap.size + 1) _ (ls.take m) w W0 hB0 (by omega) bN.cell hIm
    refine wpIn_rangeFunc_ownH hro h1 (gf := 68) (lb := #[.pointer (some ⟨w.heap.size + 1, 0, none⟩)]) rfl h34 (enters_of Tryz.func68 (by kernel_rfl) rfl)
      hst KpR.trans (fun W l o o' h1 h2 h3 h4 => ⟨belowK_b (w := W0) (by omega) W l o o' h1 h2 h3 h4, World.putObj_heap_other (by omega)⟩) (Below.refl _ _) (fun _ => rfl)
      (fun pre W => (∃ v, Boxed W w.heap.size 24 v ∧ W.ownsRow w.heap.size 39 8 v pre.length ((pre.map Wq.Er.r).flatMap Wi.cells8) ∧ True) ∧ Boxed W (w.heap.size + 1) 24 (.slice a m cap) ∧ Below w.heap.size w W ∧ w.heap.size + 2 ≤ W.heap.size)
      (fun _ _ _ => False)
      ?_ (fun _ _ _ _ _ hs _ _ => hs)
      ⟨⟨_, bR, World.ownsRow_nil _ _ _ _, trivial⟩, bN, hB0, by omega⟩
      (fun x a' W => ∃ Bx, w.heap.size + 1 < Bx ∧ (∃ q, a' = { tmps := #[.slice a len cap, .int .i64 (k : Int), undef, undef, .slice none 0 0, .pointer (some ⟨w.heap.size, 0, none⟩), undef, .pointer (some ⟨Bx, 0, none⟩), .slice a len cap, .int .i64 (k : Int), .int .i64 q, .int .i64 (m : Int), .slice a m cap, .func (.func 68) #[] #[.pointer (some ⟨w.heap.size + 1, 0, none⟩)], .int .i64 (x.i : Int), Wq.recV x.r, undef, undef, undef, undef, undef], defers := [] }) ∧ Rh W Bx x.r)
      (fun x a' _ X Y row hs hg hr => by
        obtain ⟨Bx, h1, h2, h3⟩ := hs
        refine ⟨Bx, h1, h2, ?_⟩
        unfold Rh at h3 ⊢
        refine (hg.block Bx (Array.getElem?_eq_some_iff.1 h3).1 (fun e => ?_)).trans h3
        obtain ⟨-, o, ho, hc⟩ := hr Bx e.symm
        rw [h3] at ho; cases ho; cases hc)
      ?_ ?_ ?_ (fun _ _ _ _ _ _ h _ => h.elim)
    · exact OwnFrom.and (Own.from (holdsRow_own w.heap.size w.heap.size 24 39 8 (fun pre : List Wq.Er => pre.length) (fun pre => (pre.map Wq.Er.r).flatMap Wi.cells8) (fun _ _ => True)) _) (OwnFrom.and (Own.from (boxed_own (w.heap.size + 1) 24 (fun _ : List Wq.Er => .slice a m cap)) _) <| OwnFrom.and (ownFrom_below (Nat.le_refl _) (by omega)) (fun s X Y row hs hg hr => Nat.le_trans hs hg.size))
    · rintro l pre x W K ⟨⟨v, hv, hrow, -⟩, hbb, hB1, hs1⟩ hK
      simp only [Wq.Er.enc, Wq.recV]
      gi_wp2
      exact hK _ _ ((KeepsOthers.alloc _ _).from _) ⟨(Below.refl _ W).alloc (by omega) _, (hbb.alloc _).trans hbb.symm⟩ ⟨⟨v, hv.alloc _, hrow.alloc _, trivial⟩, hbb.alloc _, hB1.alloc hB1.size _, by simp; omega⟩ ⟨W.heap.size, by omega, ⟨_, rfl⟩, Rh.new W x.r⟩
    · rintro l pre x a' W hl ⟨r, hr⟩ ⟨⟨v, hv, hrow, -⟩, hbb, hB1, hs2⟩ ⟨Bx, hBx, ⟨q, rfl⟩, bX⟩ hlt
      have hc := hv.cell
      have ⟨d0, d1, d2, d3, d4, d5, d6, d7⟩ := bX.rc
      rw [hml] at hlt
      have HI := Wc.hid hi
      have HZ0 := Wc.hid hz0
      have HZ1 := Wc.hid hz1
      have HZ2 := Wc.hid hz2
      clear hi hz0 hz1 hz2 hst hs1
      have hf8 : ((pre.map Wq.Er.r).flatMap Wi.cells8) ++ Wi.cells8 x.r = ((pre ++ [x]).map Wq.Er.r).flatMap Wi.cells8 := by simp
      gi_wp2_with (first | (refine wpListIn_bs _ rfl x.r rfl rfl ?_) | (gi_at_builtin; refine wpListIn_append_own _ rfl _ _ 24 rfl w.heap.size 39 i0 _ 8 64 Tryz.underlying24 HI.out HZ0.out HZ1.out HZ2.out rfl (by decide) _ _ _ rfl (hrow.alloc _) ⟨W.heap.size, 0, none⟩ 1 1 (Wi.cells8 x.r) rfl rfl (Wi.lit8 _ x.r _ _ rfl) (by intro u hu; simp only [Wi.cells8, List.mem_cons, List.not_mem_nil, or_false] at hu; rcases hu with rfl | rfl | rfl | rfl | rfl | rfl | rfl | rfl <;> rfl) (by unfold maxLen; omega) (by omega) (by have := hB1.size; simp; omega) ?_; intro v' w1 hown' hgrow _; obtain ⟨g', cap', rfl⟩ := ownsRow_succ hown'; obtain ⟨hv1, hv2, hr2, hk2, hb2⟩ := hv.appended (by decide) hrow hB1.size (Nat.le_refl _) hown' hgrow; have hc1 := hv1.cell; have hf1 := hv1.frozen; have hbb2 := ((hbb.alloc _).kept hgrow (hbb.not_row (by decide) hrow)).other (B' := w.heap.size) (by omega) (.slice (some ⟨g', 0, none⟩) (pre.length + 1) cap')))
      rw [hf8] at hr2
      exact ⟨hk2.from _, ⟨hb2, hbb2.trans hbb.symm⟩, ⟨_, hv2, by rw [List.length_append]; exact hr2⟩, hbb2, hB1.trans hb2, Nat.le_trans hs2 hb2.size⟩
    · rintro D ys W hD rfl ⟨⟨v, hv, hrow, -⟩, -, hB1, hs1⟩ hK
      have hc := hv.cell
      gi_wp2
      refine ⟨by simp, .inl ⟨_, _, rfl, run_takeDeferred hK, ?_⟩⟩
      refine ⟨_, results_tmp rfl _ _ _, v, rfl, ⟨?_, by rw [List.length_reverse, hml]; omega⟩, hB1.trans (belowK_b (w := w) (Nat.le_refl _) W D _ _ (by omega) hK rfl rfl)⟩
      have := ownsRow_putObj hrow (.deferred none) hK rfl
      rw [Wq.bk_all, Wd.upto_length, hml] at this
      rw [List.length_reverse, hml]
      exact this

/-- The first records from behind, in memory of the call's own. -/
theorem moved15_any (a : Option Addr) (len cap k m : Nat) (ls : List Wr.Rec) (w : World) (hI : Wi.Rs w (.slice a len cap) ls) (hk : k ≤ len) (hm : k - 1 = m) (hlen : len ≤ 1000000) :
    Calls Tryz.prog 30 #[.slice a len cap, .int .i64 (k : Int)] w fun e W' => ∃ v, e = .returned v ∧ Wi.Or 39 w.heap.size W' v (ls.take m).reverse ∧ Below w.heap.size w W' :=
  (callsIn_wide (n := 3)).1 (moved15_in Fence.wide 3 trivial trivial trivial rfl (by omega) a len cap k m ls w hI hk hm hlen)
end Go.Proofs.YtfflhiajbioheaaGreat
