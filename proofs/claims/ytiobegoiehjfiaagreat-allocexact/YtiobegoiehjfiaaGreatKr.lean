/-
  What the page's Open tells of bytes that are no device; of whatever bytes.
-/
import Derived.Test.YtiobegoiehjfiaaGreatXi
import Derived.Test.YtiobegoiehjfiaaGreatKd
namespace Go.Proofs.YtiobegoiehjfiaaGreat
open Go.RowKit

set_option maxRecDepth 100000 in
set_option maxHeartbeats 6400000 in
theorem refOpen_dev (v : Value) (xs : List Int) (w : World) (hv : Wc.Bs w v xs) (hd : Wd.devB xs.length = false) : Calls Tryz.prog 11 #[v] w (ROpenPost xs w) := by
  obtain ⟨ai, ni, ci, rfl, -⟩ := id hv
  have hxl := Wc.bs_len hv
  have hni : ni ≤ 140737488355328 := by obtain ⟨_, _, _, h1, _, _, _, h5, _⟩ := hv; cases h1; exact h5
  have hd0 : Wd.devB ni = false := by rw [← hxl]; exact hd
  have HD0 := Wc.hid hd0
  have HO : Hid (opnE xs = 2) := Wc.hid (opn_nopick (by unfold pickA; rw [if_neg (by rw [hd]; decide)]) (by decide))
  clear hv hd hxl hd0
  go_enter Tryz.func11, Tryz.ntmps11
  go_wp2_with fail
  obtain ⟨W0, hW0⟩ : ∃ W0, ((w.alloc (.cells #[.int .i64 0, .int .i64 0, .int .i64 0, .int .i64 0, .int .i64 0, .int .i64 0, .slice none 0 0, .slice none 0 0, .slice none 0 0, .slice none 0 0] 41)).alloc (.cells #[.int .i64 0, .int .i64 0] 43)).alloc (.cells #[.int .i64 0, .int .i64 0, .int .i64 0, .int .i64 0, .int .i64 0, .int .i64 0, .slice none 0 0, .slice none 0 0, .slice none 0 0, .slice none 0 0] 41) = W0 := ⟨_, rfl⟩
  have a1 := (Below.refl w.heap.size w).alloc (Nat.le_refl _) (.cells #[.int .i64 0, .int .i64 0, .int .i64 0, .int .i64 0, .int .i64 0, .int .i64 0, .slice none 0 0, .slice none 0 0, .slice none 0 0, .slice none 0 0] 41)
  have a2 := (Below.refl (w.alloc (.cells #[.int .i64 0, .int .i64 0, .int .i64 0, .int .i64 0, .int .i64 0, .int .i64 0, .slice none 0 0, .slice none 0 0, .slice none 0 0, .slice none 0 0] 41)).heap.size (w.alloc (.cells #[.int .i64 0, .int .i64 0, .int .i64 0, .int .i64 0, .int .i64 0, .int .i64 0, .slice none 0 0, .slice none 0 0, .slice none 0 0, .slice none 0 0] 41))).alloc (Nat.le_refl _) (.cells #[.int .i64 0, .int .i64 0] 43)
  have a3 := (Below.refl ((w.alloc (.cells #[.int .i64 0, .int .i64 0, .int .i64 0, .int .i64 0, .int .i64 0, .int .i64 0, .slice none 0 0, .slice none 0 0, .slice none 0 0, .slice none 0 0] 41)).alloc (.cells #[.int .i64 0, .int .i64 0] 43)).heap.size ((w.alloc (.cells #[.int .i64 0, .int .i64 0, .int .i64 0, .int .i64 0, .int .i64 0, .int .i64 0, .slice none 0 0, .slice none 0 0, .slice none 0 0, .slice none 0 0] 41)).alloc (.cells #[.int .i64 0, .int .i64 0] 43))).alloc (Nat.le_refl _) (.cells #[.int .i64 0, .int .i64 0, .int .i64 0, .int .i64 0, .int .i64 0, .int .i64 0, .slice none 0 0, .slice none 0 0, .slice none 0 0, .slice none 0 0] 41)
  have b1 : Ih (w.alloc (.cells #[.int .i64 0, .int .i64 0, .int .i64 0, .int .i64 0, .int .i64 0, .int .i64 0, .slice none 0 0, .slice none 0 0, .slice none 0 0, .slice none 0 0] 41)) w.heap.size Ws.s0 0 (.slice none 0 0) (.slice none 0 0) (.slice none 0 0) (.slice none 0 0) := Ih.new w Ws.s0 0 (.slice none 0 0) (.slice none 0 0) (.slice none 0 0) (.slice none 0 0)
  have b2 : Fh ((w.alloc (.cells #[.int .i64 0, .int .i64 0, .int .i64 0, .int .i64 0, .int .i64 0, .int .i64 0, .slice none 0 0, .slice none 0 0, .slice none 0 0, .slice none 0 0] 41)).alloc (.cells #[.int .i64 0, .int .i64 0] 43)) (w.heap.size + 1) 0 0 := by
    have := Fh.new (w.alloc (.cells #[.int .i64 0, .int .i64 0, .int .i64 0, .int .i64 0, .int .i64 0, .int .i64 0, .slice none 0 0, .slice none 0 0, .slice none 0 0, .slice none 0 0] 41)) 0 0
    rwa [show (w.alloc (.cells #[.int .i64 0, .int .i64 0, .int .i64 0, .int .i64 0, .int .i64 0, .int .i64 0, .slice none 0 0, .slice none 0 0, .slice none 0 0, .slice none 0 0] 41)).heap.size = w.heap.size + 1 by simp] at this
  have b3 : Ih (((w.alloc (.cells #[.int .i64 0, .int .i64 0, .int .i64 0, .int .i64 0, .int .i64 0, .int .i64 0, .slice none 0 0, .slice none 0 0, .slice none 0 0, .slice none 0 0] 41)).alloc (.cells #[.int .i64 0, .int .i64 0] 43)).alloc (.cells #[.int .i64 0, .int .i64 0, .int .i64 0, .int .i64 0, .int .i64 0, .int .i64 0, .slice none 0 0, .slice none 0 0, .slice none 0 0, .slice none 0 0] 41)) (w.heap.size + 1 + 1) Ws.s0 0 (.slice none 0 0) (.slice none 0 0) (.slice none 0 0) (.slice none 0 0) := by
    have := Ih.new ((w.alloc (.cells #[.int .i64 0, .int .i64 0, .int .i64 0, .int .i64 0, .int .i64 0, .int .i64 0, .slice none 0 0, .slice none 0 0, .slice none 0 0, .slice none 0 0] 41)).alloc (.cells #[.int .i64 0, .int .i64 0] 43)) Ws.s0 0 (.slice none 0 0) (.slice none 0 0) (.slice none 0 0) (.slice none 0 0)
    rwa [show ((w.alloc (.cells #[.int .i64 0, .int .i64 0, .int .i64 0, .int .i64 0, .int .i64 0, .int .i64 0, .slice none 0 0, .slice none 0 0, .slice none 0 0, .slice none 0 0] 41)).alloc (.cells #[.int .i64 0, .int .i64 0] 43)).heap.size = w.heap.size + 1 + 1 by simp] at this
  have j1 := (b1.keep a2).keep a3
  have j2 := b2.keep a3
  have bb := Wc.step (Wc.step a1 (Nat.le_refl _) a2) (Nat.le_refl _) a3
  rw [hW0] at j1 j2 b3 bb ⊢
  have J1 := Wc.hid j1
  have J2 := Wc.hid j2
  have J3 := Wc.hid b3
  have B0 := Wc.hid bb
  clear hW0 a1 a2 a3 b1 b2 b3 j1 j2 bb
  refine (blocks_any ai ni ci _ hni).mono ?_
  rintro e w1 ⟨rfl, rfl⟩
  rw [HD0.out]
  have ⟨c0, c1, c2, c3, c4, c5, c6, c7, c8, c9⟩ := J3.out.ic
  have ⟨d0, d1, d2, d3, d4, d5, d6, d7, d8, d9⟩ := J1.out.ic
  have ⟨e0, e1, ef⟩ := J2.out.fc
  have df := J1.out.frozen
  simp only [Ws.s0] at c0 c1 c2 c3 c4 d0 d1 d2 d3 d4
  go_wp2_with fail
  exact ropen_bad HO.out (by decide) J1.out J2.out (Nat.le_refl _) (Nat.le_succ _) B0.out rfl rfl rfl

/-- For whatever bytes. -/
theorem refOpen_full (v : Value) (xs : List Int) (w : World) (hv : Wc.Bs w v xs) : Calls Tryz.prog 11 #[v] w (ROpenPost xs w) := by
  cases hd : Wd.devB xs.length
  · exact refOpen_dev v xs w hv hd
  · exact refOpen_any v xs w hv hd
end Go.Proofs.YtiobegoiehjfiaaGreat
