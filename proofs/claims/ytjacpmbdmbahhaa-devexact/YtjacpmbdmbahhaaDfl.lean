/-
  What dev.flushed returns, for every list of steps: the place behind the last flush.
-/
import Derived.Test.YtjacpmbdmbahhaaDflush
namespace Go.Proofs.Ytjacpmbdmbahhaa
open Go.RowKit Go.Shelf

set_option maxRecDepth 100000 in
set_option maxHeartbeats 4000000 in
theorem flushed_in (F : Fence) (n : Nat) (h29 : F.fn 29) (h33 : F.fn 33) (h34 : F.fn 34) (hro : F.round = none) (hn : 3 ≤ n) (a : Option Addr) (len cap : Nat) (ls : List Wd.Io) (w : World) (hI : Wd.Is w (.slice a len cap) ls) :
    CallsIn F n Try.prog 29 #[.slice a len cap] w fun e W' => e = .returned (.int .i64 (Wd.safeN ls ls.length : Nat)) ∧ Below w.heap.size w W' := by
  have h1 : 1 ≤ n := by omega
  have hsem := @Oper.semAt_some
  have hll : ls.length ≤ 1099511627776 := by have := Wd.is_len hI; have := Wd.is_cap hI; omega
  refine callsIn_of_wp_marks Try.func29 rfl h29 ?_ hro
  simp only [Try.ntmps29, List.size_toArray, List.length_cons, List.length_nil, Nat.reduceAdd, Nat.reduceSub, Array.replicate_succ, Array.replicate_zero, List.push_toArray, List.append_toArray, List.nil_append, List.cons_append]
  gi_wp2_with (gi_at_call 33; refine (backward_in F (n - 1) h33 hro _ _ _ _).mono ?_; rintro e w' ⟨rfl, rfl⟩)
  have bR := (Boxed.new w 3 (.int .i64 0)).alloc (.cells #[.slice a len cap] 23)
  have bN := Boxed.new (w.alloc (.cells #[.int .i64 0] 3)) 23 (.slice a len cap)
  rw [World.size_alloc] at bN
  have hB0 : Below w.heap.size w ((w.alloc (.cells #[.int .i64 0] 3)).alloc (.cells #[.slice a len cap] 23)) := ((Below.refl _ w).alloc (Nat.le_refl _) _).alloc (by simp) _
  have hsz : ((w.alloc (.cells #[.int .i64 0] 3)).alloc (.cells #[.slice a len cap] 23)).heap.size = w.heap.size + 2 := by simp
  obtain ⟨W0, hW0⟩ : ∃ W0, (w.alloc (.cells #[.int .i64 0] 3)).alloc (.cells #[.slice a len cap] 23) = W0 := ⟨_, rfl⟩
  rw [hW0] at bR bN hB0 hsz ⊢
  clear hW0
  obtain ⟨A, hst⟩ := backward_stops F (n - 1) h34 hro (by omega) (w.heap.size + 1) _ ls W0 (by omega) bN.cell (hI.keep hB0)
  refine wpIn_rangeFunc_ownH hro h1 (gf := 34) (lb := #[.pointer (some ⟨w.heap.size + 1, 0, none⟩)]) rfl h34 (enters_of Try.func34 (by kernel_rfl) rfl)
    hst belowK_t (belowK_b (Nat.le_refl _)) (Below.refl _ _) (fun _ => rfl)
    (fun pre W => ((∀ x ∈ pre, ¬ x.k = 2) ∧ Boxed W w.heap.size 3 (.int .i64 0)) ∧ Below w.heap.size w W ∧ W0.heap.size ≤ W.heap.size)
    (fun c pre W => (c = .ret ∧ ∃ ini last, pre = ini ++ [last] ∧ (∀ x ∈ ini, ¬ x.k = 2) ∧ last.k = 2 ∧ Boxed W w.heap.size 3 (.int .i64 (wrap64 ((last.i : Int) + 1)))) ∧ Below w.heap.size w W)
    ?hI ?hIx
    ⟨⟨by simp, bR⟩, hB0, Nat.le_refl _⟩
    (fun x a' W => ∃ Bx, w.heap.size + 1 < Bx ∧ W.cell? ⟨Bx, 0, none⟩ = some (.int .i64 x.k) ∧ a' = { tmps := #[.slice a len cap, undef, .pointer (some ⟨w.heap.size, 0, none⟩), .int .i64 (x.i : Int), .pointer (some ⟨Bx, 0, none⟩), .slice a len cap, .func (.func 34) #[] #[.pointer (some ⟨w.heap.size + 1, 0, none⟩)], .int .i64 (x.i : Int), .agg #[.int .i64 x.k, .int .i64 x.p, .slice x.a x.n x.c], undef, undef, undef, undef, undef], defers := [] })
    (fun x a' _ X Y row hs hg hr => by obtain ⟨Bx, h1, h2, h3⟩ := hs; exact ⟨Bx, h1, cell_kept h2 hg (fun r e => (hr r e).2), h3⟩)
    ?assign ?body ?done ?stop
  case hI =>
    exact OwnFrom.and (OwnFrom.and (ownFrom_pure _ (fun pre : List Wd.El => ∀ x ∈ pre, ¬ x.k = 2)) (Own.from (boxed_own _ _ _) _)) (OwnFrom.and (ownFrom_below (Nat.le_refl _) (by omega)) (fun s X Y row hs hg hr => Nat.le_trans hs hg.size))
  case hIx =>
    exact fun c => OwnFrom.and (fun s X Y row hs hg hr => by
      obtain ⟨hc, ini, last, e1, e2, e3, e4⟩ := hs
      exact ⟨hc, ini, last, e1, e2, e3, Own.from (boxed_own w.heap.size 3 (fun _ : Unit => Value.int .i64 (wrap64 ((last.i : Int) + 1)))) _ () X Y row e4 hg hr⟩) (ownFrom_below (Nat.le_refl _) (by omega))
  case assign =>
    rintro l pre x W K ⟨⟨hp, bR1⟩, hB1, hs1⟩ hK
    simp only [Wd.El.enc]
    gi_wp2
    exact hK _ _ ((KeepsOthers.alloc _ _).from _) ((Below.refl _ W).alloc hs1 _) ⟨⟨hp, bR1.alloc _⟩, hB1.alloc hB1.size _, by simp; omega⟩ ⟨W.heap.size, by omega, by simp, rfl⟩
  case body =>
    rintro l pre x a' W hl ⟨r, hr⟩ ⟨⟨hp, bR1⟩, hB1, hs1⟩ ⟨Bx, hBx, bX, rfl⟩ hlt
    have cR := bR1.cell
    have fR := bR1.frozen
    gi_wp2
    · have hx : x.k = 2 := by simpa using ‹(x.k == 2) = true›
      exact ⟨(KeepsOthers.setCell _ _ _).from _, ⟨rfl, pre, x, rfl, hp, hx, bR1.set _⟩, hB1.setCell (p := ⟨w.heap.size, 0, none⟩) (Nat.le_refl _) _⟩
    · have hx : ¬ x.k = 2 := by simpa using ‹(x.k == 2) = false›
      exact ⟨KeepsFrom.refl _ _, Below.refl _ _, ⟨fun y hy => (List.mem_append.1 hy).elim (hp y) (fun e => by simp at e; subst e; exact hx), bR1⟩, hB1, hs1⟩
  case done =>
    rintro D zs W hD rfl ⟨⟨hp, bR1⟩, hB1, hs1⟩ hK
    have cR := bR1.cell
    have fR := bR1.frozen
    gi_wp2
    have hK' := (KeepsOthers.setCell W ⟨w.heap.size, 0, none⟩ (.int .i64 0)).same D _ hK rfl
    refine ⟨by simp, .inl ⟨_, _, rfl, run_takeDeferred hK', ?_⟩⟩
    have hc5 := cell_kept (World.cell?_setCell_same' W ⟨w.heap.size, 0, none⟩ (.int .i64 0) (by rw [cR]; rfl)) (grownBy_putObj' _ D (.deferred none)) (fun r e => by cases e; exact ⟨_, hK', rfl⟩)
    refine ⟨.int .i64 0, ?_, ?_, (hB1.setCell (p := ⟨w.heap.size, 0, none⟩) (Nat.le_refl _) _).trans (belowK_b (w := w) (Nat.le_refl _) _ D _ _ (by omega) hK' rfl rfl)⟩
    · simp [results, Try.f29, go_sem, hc5]
    · rw [Wd.safe_none ls ls.length A ls.length (Nat.le_refl _) hp, Nat.sub_self]; rfl
  case stop =>
    rintro D c pre W hD ⟨k, hk, rfl⟩ ⟨⟨rfl, ini, last, e1, e2, e3, bR1⟩, hB1⟩ hK
    have cR := bR1.cell
    gi_wp2
    refine ⟨by simp, .inl ⟨_, _, rfl, run_takeDeferred hK, ?_⟩⟩
    have hc5 := cell_kept cR (grownBy_putObj' _ D (.deferred none)) (fun r e => by cases e; exact ⟨_, hK, rfl⟩)
    obtain ⟨k', rfl⟩ : ∃ k', k = k' + 1 := by
      cases k with
      | zero => simp [Wd.upto] at e1
      | succ k' => exact ⟨k', rfl⟩
    rw [Wd.upto_succ] at e1
    obtain ⟨rfl, e5⟩ := List.append_inj' e1 rfl
    obtain rfl : Wd.back ls.length ls A k' = last := by simpa using e5
    have hs := Wd.safe_hit ls ls.length A k' (by omega) e2 e3
    have hi : (Wd.back ls.length ls A k').i < ls.length := by show ls.length - 1 - k' < _; omega
    have ew : wrap64 (((Wd.back ls.length ls A k').i : Int) + 1) = ((Wd.safeN ls ls.length : Nat) : Int) := by
      rw [hs]; unfold wrap64; omega
    rw [ew] at hc5
    refine ⟨.int .i64 (Wd.safeN ls ls.length : Nat), ?_, rfl, hB1.trans (belowK_b (w := w) (Nat.le_refl _) W D _ _ (by omega) hK rfl rfl)⟩
    simp [results, Try.f29, go_sem, hc5]

theorem flushed_any (a : Option Addr) (len cap : Nat) (ls : List Wd.Io) (w : World) (hI : Wd.Is w (.slice a len cap) ls) :
    Calls Try.prog 29 #[.slice a len cap] w fun e W' => e = .returned (.int .i64 (Wd.safeN ls ls.length : Nat)) ∧ Below w.heap.size w W' :=
  (callsIn_wide (n := 3)).1 (flushed_in Fence.wide 3 trivial trivial trivial rfl (by omega) a len cap ls w hI)

end Go.Proofs.Ytjacpmbdmbahhaa
