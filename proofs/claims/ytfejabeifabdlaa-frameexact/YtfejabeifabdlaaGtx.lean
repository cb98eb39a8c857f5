/-
  What keep.TwinCommands returns, of one command.
-/
import Derived.Test.YtfejabeifabdlaaFcom
import Derived.LoopN
namespace Go.Proofs.Ytfejabeifabdlaa
open Go.RowKit

theorem cell_new (w : World) (g : Nat) (hg : g = w.heap.size) (cs : Array Value) (Z : Array Value) (j : Nat) (x : Value) (hx : cs[j]? = some x) : (w.alloc (.cells (cs ++ Z) 24)).drew.cell? ⟨g, j, none⟩ = some x := by
  subst hg
  show (w.alloc (.cells (cs ++ Z) 24)).cell? _ = _
  rw [World.cell?_alloc_mark]
  have hj := (Array.getElem?_eq_some_iff.1 hx).1
  rw [Array.getElem?_append_left hj]; exact hx

set_option maxHeartbeats 1600000 in
theorem twinCmd_any (b : Nat) (c : Wk.Cmd) (a : Option Addr) (cap : Nat) (w : World) (hc : Wk.Ch w b c (.slice a c.data.length cap)) (hv : Wc.Bs w (.slice a c.data.length cap) c.data) (hsh : Wc.Shaped (.slice a c.data.length cap)) :
    Calls Try.prog 9 #[.slice (some ⟨b, 0, none⟩) 1 1] w fun e w' => ∃ g k a' q, e = .returned (.slice (some ⟨g, 0, none⟩) 1 k) ∧ Wk.Cc w' g c (.slice a' c.data.length q) ∧ g < w'.heap.size ∧ Wc.Bs w' (.slice a' c.data.length q) c.data ∧ Wc.Shaped (.slice a' c.data.length q) ∧ Below w.heap.size w w' := by
  have ⟨c0, c1, c2, c3, c4, c5, c6, c7, c8⟩ := hc.cc
  have HV := Wc.hid (hv.alloc (.cells #[.int .i64 c.kind, .int .i64 c.id, .int .i64 c.parent, .int .i64 c.size, .int .i64 c.start, .int .i64 c.count, .int .i64 c.source, .int .i64 c.digest, .slice a c.data.length cap] 24))
  have HSH := Wc.hid hsh
  have D0 := Wc.hid (Wk.Ch.new w c (.slice a c.data.length cap))
  have B0 := Wc.hid ((Below.refl w.heap.size w).alloc (Nat.le_refl _) (.cells #[.int .i64 c.kind, .int .i64 c.id, .int .i64 c.parent, .int .i64 c.size, .int .i64 c.start, .int .i64 c.count, .int .i64 c.source, .int .i64 c.digest, .slice a c.data.length cap] 24))
  clear hc hv hsh
  go_enter Try.func9, Try.ntmps9
  go_wp2_with fail
  refine wp_loop_rounds 2 ?_
  rw [rounds_succ]
  go_wp2_with fail
  refine (twin_ob _ _ _ HV.out HSH.out).mono ?_
  rintro e w1 ⟨v1, rfl, hO1, hb1⟩
  obtain ⟨a1, q1, rfl⟩ := ob_slice hO1
  have D1 := Wc.hid (D0.out.keep hb1)
  have B1 := Wc.hid (Wc.step B0.out (Nat.le_refl _) hb1)
  have O1 := Wc.hid hO1
  have ⟨d0, d1, d2, d3, d4, d5, d6, d7, d8⟩ := D1.out.cc
  have f8 := D1.out.frozen 8
  clear hO1 hb1
  have HDL := Wc.hid D0.out.lt
  go_wp2_with fail
  rw [rounds_succ]
  go_wp2_with fail
  go_ret
  have hg : ∀ X : Obj, w1.heap.size + 1 = ((w1.setCell ⟨w.heap.size, 8, none⟩ (.slice a1 c.data.length q1)).alloc X).heap.size := fun X => by simp [World.setCell]
  have B2 := B1.out.setCell (p := ⟨w.heap.size, 8, none⟩) (Nat.le_refl _) (.slice a1 c.data.length q1)
  have O2 := ob_other O1.out HDL.out 8 (.slice a1 c.data.length q1)
  refine ⟨w1.heap.size + 1, _, a1, q1, rfl, ⟨?_, ?_, ?_, ?_, ?_, ?_, ?_, ?_, ?_⟩, ?_, ?_, O1.out.shaped, ?_⟩
  · exact cell_new _ _ (hg _) _ _ 0 _ rfl
  · exact cell_new _ _ (hg _) _ _ 1 _ rfl
  · exact cell_new _ _ (hg _) _ _ 2 _ rfl
  · exact cell_new _ _ (hg _) _ _ 3 _ rfl
  · exact cell_new _ _ (hg _) _ _ 4 _ rfl
  · exact cell_new _ _ (hg _) _ _ 5 _ rfl
  · exact cell_new _ _ (hg _) _ _ 6 _ rfl
  · exact cell_new _ _ (hg _) _ _ 7 _ rfl
  · exact cell_new _ _ (hg _) _ _ 8 _ rfl
  · simp [World.setCell, World.drew]
  · exact ((O2.bs.alloc _).alloc _).keep (show_drew (Below.refl _ _))
  · exact show_drew ((B2.alloc B2.size _).alloc (B2.alloc B2.size _).size _)

end Go.Proofs.Ytfejabeifabdlaa
