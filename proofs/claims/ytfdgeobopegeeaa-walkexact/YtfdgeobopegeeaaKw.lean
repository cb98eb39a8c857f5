/-
  The statements' own wakes returns true.
-/
import Derived.Test.YtfdgeobopegeeaaKf
import Derived.Test.YtfdgeobopegeeaaJB
namespace Wj
/-- How often each of the first m blocks is met. -/
def cts (T : List Int) (m : Nat) : List Int := (List.range m).map fun (j : Nat) => ((T.count (j : Int) : Nat) : Int)
theorem cts_length (T : List Int) (m : Nat) : (cts T m).length = m := by simp [cts]
theorem cts_get (T : List Int) {m j : Nat} (h : j < m) : (cts T m).getD j 0 = ((T.count (j : Int) : Nat) : Int) := by
  simp [cts, List.getD_eq_getElem?_getD, h]
end Wj
namespace Go.Proofs.Ytfdgeobopegeeaa
open Go.RowKit

theorem cn_in {w : World} {g m : Nat} {T : List Int} (h : Wj.Cn w g m T) (hm : m ≤ 100000) : Wd.In w (.slice (some ⟨g, 0, none⟩) m m) (Wj.cts T m) := by
  refine ⟨_, _, _, rfl, Wj.cts_length T m, Nat.le_refl _, by omega, by omega, fun _ => ⟨g, 0, rfl, World.rowIs.lt h, fun i hi => ?_⟩⟩
  rw [Nat.zero_add, Wj.cts_get T hi]
  exact World.rowIs.cell h hi

theorem new8 (w : World) : Calls Try.prog 32 #[.int .i64 8] w fun e w' => ∃ g X, e = .returned (.tuple #[.slice (some ⟨g, 0, none⟩) 512 512, .int .i64 0]) ∧ Wc.Bs w' (.slice (some ⟨g, 0, none⟩) 512 512) X ∧
    (opnE X = 0 ∧ X.length / 64 = 8 ∧ cnt X = [0, 1]) ∧ Below w.heap.size w w' := by
  refine (new_yes 8 512 w (by decide) (by decide) rfl).mono ?_
  rintro e w1 ⟨g, rfl, hg, hO, hb⟩
  obtain ⟨h1, h2, h3, h4⟩ := new_open (m := 8) (by decide) (by decide)
  refine ⟨g, _, rfl, hO.bs, ⟨h1, by rw [Wi.newI_length (by decide)], ?_⟩, hb⟩
  unfold cnt opnL
  rw [h2, h4]
  decide

set_option maxRecDepth 100000 in
set_option maxHeartbeats 3200000 in
theorem wakes_any (w : World) : Calls Try.prog 14 #[] w fun e w' => e = .returned (.bool true) ∧ Below w.heap.size w w' := by
  go_enter Try.func14, Try.ntmps14
  go_wp2_with fail
  refine (new8 _).mono ?_
  rintro e w1 ⟨g, X, rfl, hX, ⟨o1, o2, o3⟩, hb1⟩
  have HX := Wc.hid hX
  have HB1 := Wc.hid hb1
  have O1 := Wc.hid o1
  have O2 := Wc.hid o2
  have O3 := Wc.hid o3
  clear hX hb1 o1 o2 o3
  go_wp2_with fail
  refine (counts_any _ X _ HX.out).mono ?_
  rintro e w2 ⟨hb2, hy, -⟩
  obtain ⟨g2, rfl, hg2, hc2⟩ := hy O1.out
  rw [O2.out] at hc2 ⊢
  rw [O3.out] at hc2
  have HC2 := Wc.hid hc2
  have HB2 := Wc.hid (Wc.step HB1.out (Nat.le_refl _) hb2)
  have HX2 := Wc.hid (HX.out.keep hb2)
  clear hy hc2 hb2 hg2
  go_wp2_with fail
  refine (used_any _ X _ HX2.out).mono ?_
  rintro e w3 ⟨hb3, hy, -⟩
  obtain rfl := hy O1.out
  rw [O2.out, O3.out, show Wj.usedN [0, 1] 8 = 2 by decide]
  have HC3 := Wc.hid (row_keep HC2.out hb3)
  have HB3 := Wc.hid (Wc.step HB2.out (Nat.le_refl _) hb3)
  have HX3 := Wc.hid (HX2.out.keep hb3)
  clear hy hb3
  go_wp2_with fail
  refine (shared_any _ X _ HX3.out).mono ?_
  rintro e w4 ⟨hb4, hy, -⟩
  obtain ⟨a, n, c, rfl, h4⟩ := hy O1.out
  rw [O2.out, O3.out, show Wj.shr [0, 1] 8 = [] by decide] at h4
  obtain rfl : n = 0 := by have := Wv.rv_len h4; simpa using this.symm
  have HC4 := Wc.hid (row_keep HC3.out hb4)
  have HB4 := Wc.hid (Wc.step HB3.out (Nat.le_refl _) hb4)
  clear hy hb4 h4
  go_wp2_with fail
  have bA : Below w4.heap.size w4 (w4.alloc (.cells #[.int .i64 1, .int .i64 1, .int .i64 0, .int .i64 0, .int .i64 0, .int .i64 0, .int .i64 0, .int .i64 0] 3)) := (Below.refl _ _).alloc (Nat.le_refl _) _
  have hL : Wd.In (w4.alloc (.cells #[.int .i64 1, .int .i64 1, .int .i64 0, .int .i64 0, .int .i64 0, .int .i64 0, .int .i64 0, .int .i64 0] 3)) (.slice (some ⟨w4.heap.size, 0, none⟩) 8 8) [1, 1, 0, 0, 0, 0, 0, 0] := Wv.Rv.lit w4 _ 3 8 _ rfl (by decide) rfl
  have hC := cn_in (row_keep HC4.out bA) (by decide)
  have HB5 := Wc.hid (Wc.step HB4.out (Nat.le_refl _) bA)
  refine (ints_any _ _ _ _ _ hC hL).mono ?_
  rintro e w5 ⟨rfl, hb5⟩
  rw [show (Wj.cts [0, 1] 8 == [1, 1, 0, 0, 0, 0, 0, 0]) = true by decide]
  have HB6 := Wc.hid (Wc.step HB5.out (Nat.le_refl _) hb5)
  clear bA hL hC hb5
  go_wp2_with fail
  go_ret
  exact ⟨rfl, HB6.out⟩
end Go.Proofs.Ytfdgeobopegeeaa
