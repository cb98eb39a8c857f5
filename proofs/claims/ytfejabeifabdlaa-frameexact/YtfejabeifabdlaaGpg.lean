/-
  What the page's ParseFrame returns, for all bytes, none among them.
-/
import Derived.Test.YtfejabeifabdlaaGpf
namespace Go.Proofs.Ytfejabeifabdlaa
open Go.RowKit

set_option maxRecDepth 100000 in
set_option maxHeartbeats 800000 in
theorem refParse9_nil (a : Option Addr) (cap : Nat) (w : World) :
    Calls Try.prog 14 #[.slice a 0 cap] w fun e w' => e = .returned (.tuple #[cv Wk.c0 (.slice none 0 0), .int .i64 0, .int .i64 0, .int .i64 16]) ∧ Below w.heap.size w w' := by
  have R0 : Hid (Wk.Ch ((w.alloc (.cells #[.int .i64 0, .int .i64 0, .int .i64 0, .int .i64 0, .int .i64 0, .int .i64 0, .int .i64 0, .int .i64 0, .slice none 0 0] 24)).alloc (.cells #[.int .i64 0, .int .i64 0, .int .i64 0, .int .i64 0, .int .i64 0, .int .i64 0, .int .i64 0, .int .i64 0, .slice none 0 0] 24)) w.heap.size Wk.c0 (.slice none 0 0)) := Wc.hid ((Wk.Ch.new w Wk.c0 (.slice none 0 0)).keep ((Below.refl _ _).alloc (Nat.le_refl _) _))
  have N0 : Hid (Wk.Ch ((w.alloc (.cells #[.int .i64 0, .int .i64 0, .int .i64 0, .int .i64 0, .int .i64 0, .int .i64 0, .int .i64 0, .int .i64 0, .slice none 0 0] 24)).alloc (.cells #[.int .i64 0, .int .i64 0, .int .i64 0, .int .i64 0, .int .i64 0, .int .i64 0, .int .i64 0, .int .i64 0, .slice none 0 0] 24)) (w.heap.size + 1) Wk.c0 (.slice none 0 0)) := Wc.hid (chAt (c := Wk.c0) (v := .slice none 0 0) _ (by simp))
  have B0 : Hid (Below w.heap.size w ((w.alloc (.cells #[.int .i64 0, .int .i64 0, .int .i64 0, .int .i64 0, .int .i64 0, .int .i64 0, .int .i64 0, .int .i64 0, .slice none 0 0] 24)).alloc (.cells #[.int .i64 0, .int .i64 0, .int .i64 0, .int .i64 0, .int .i64 0, .int .i64 0, .int .i64 0, .int .i64 0, .slice none 0 0] 24))) := Wc.hid (((Below.refl w.heap.size w).alloc (Nat.le_refl _) _).alloc (by simp) _)
  go_enter Try.func14, Try.ntmps14
  go_wp2_with fail
  go_loopw [8] (fun i wr => i = .int .i64 0 ∧ Hid (Wk.Ch wr w.heap.size Wk.c0 (.slice none 0 0)) ∧ Hid (Wk.Ch wr (w.heap.size + 1) Wk.c0 (.slice none 0 0)) ∧ Hid (Below w.heap.size w wr)) (fun _ _ => 0)
  case atStart => exact ⟨rfl, R0, N0, B0⟩
  case round =>
    obtain ⟨rfl, RR, NN, BB⟩ := hrel
    have ⟨r0, r1, r2, r3, r4, r5, r6, r7, r8⟩ := RR.out.cc
    have f0 := RR.out.frozen 0
    have f1 := RR.out.frozen 1
    have f2 := RR.out.frozen 2
    have f3 := RR.out.frozen 3
    have f4 := RR.out.frozen 4
    have f5 := RR.out.frozen 5
    have f6 := RR.out.frozen 6
    have f7 := RR.out.frozen 7
    have f8 := RR.out.frozen 8
    have ⟨n0, n1, n2, n3, n4, n5, n6, n7, n8⟩ := NN.out.cc
    go_wp2_with fail
    exact bodyPost_ret (ret_cell9q rfl rfl rfl rfl rfl (RR.out.over Wk.c0 (.slice none 0 0)).cc) rfl ⟨rfl, Wk.below_ovr BB.out (Nat.le_refl _) Wk.c0 (.slice none 0 0)⟩

theorem refParse9_any (v : Value) (xs : List Int) (w : World) (hv : Wc.Bs w v xs) :
    Calls Try.prog 14 #[v] w fun e w' => PfPost xs w e w' := by
  rcases hv.open with ⟨rfl, a, cap, rfl, _⟩ | ⟨b, off, n, cap, rfl, h0, _⟩
  · refine (refParse9_nil a cap w).mono ?_
    rintro e w' ⟨rfl, hb⟩
    exact pf_no (xs := []) (by decide) (by omega) hb
  · exact refParse9_pos b off n cap xs w hv h0

end Go.Proofs.Ytfejabeifabdlaa
