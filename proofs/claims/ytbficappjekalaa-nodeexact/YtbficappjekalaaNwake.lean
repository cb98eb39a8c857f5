/-
  The statements' own wakes returns true.
-/
import Derived.Test.YtbficappjekalaaNpar
import Derived.Test.YtbficappjekalaaNplc
import Derived.Test.YtbficappjekalaaNeq
namespace Go.Proofs.Ytbficappjekalaa
open Go.RowKit

def wk : Wn.Nod := ⟨1, 0, 5, 0, 0, 0, 0, 0, 0⟩
theorem wk_nod : Wn.nodB wk = true := by decide
theorem wk_par : Wn.par (Wn.blk wk) = ⟨1, 0, 5, 0, 0, 0, 0, 0, 0⟩ ∧ Wn.parE (Wn.blk wk) = 0 := ⟨(Wn.par_blk wk_nod).2, (Wn.par_blk wk_nod).1⟩
theorem n0_no : Wn.nodE Wn.n0 = 1 := by decide
theorem wk_place : Wn.placeR 75 2 = (1, 11, 0) := by decide

theorem bytes7_wk (w : World) :
    Calls Try.prog 8 #[.agg #[.int .i64 1, .int .i64 0, .int .i64 5, .int .i64 0, .int .i64 0, .int .i64 0, .int .i64 0, .int .i64 0, .int .i64 0]] w fun e w' => ∃ g X, e = .returned (.tuple #[.slice (some ⟨g, 0, none⟩) 64 64, .int .i64 0]) ∧ Wc.Bs w' (.slice (some ⟨g, 0, none⟩) 64 64) X ∧ (Wn.par X = ⟨1, 0, 5, 0, 0, 0, 0, 0, 0⟩ ∧ Wn.parE X = 0) ∧ Below w.heap.size w w' := by
  refine (bytes7_ok wk w wk_nod).mono ?_
  rintro e w1 ⟨g, rfl, hg, hr, hb⟩
  exact ⟨g, _, rfl, hr.bs (Wn.blk_length _) (Wn.blk_bd _), wk_par, hb⟩

theorem eql_wk (w : World) : (binOp .eql 24 (.agg #[.int .i64 1, .int .i64 0, .int .i64 5, .int .i64 0, .int .i64 0, .int .i64 0, .int .i64 0, .int .i64 0, .int .i64 0]) (.agg #[.int .i64 1, .int .i64 0, .int .i64 5, .int .i64 0, .int .i64 0, .int .i64 0, .int .i64 0, .int .i64 0, .int .i64 0])).run Try.prog w = .ok (.bool true) w := by
  have h := eql_nod wk wk w
  rw [nodEq_iff.2 rfl] at h
  exact h

set_option maxHeartbeats 1600000 in
theorem wakes_any (w : World) :
    Calls Try.prog 15 #[] w fun e w' => e = .returned (.bool true) ∧ Below w.heap.size w w' := by
  go_enter Try.func15, Try.ntmps15
  go_wp2_with fail
  refine (bytes7_wk _).mono ?_
  rintro e w1 ⟨g, X, rfl, hX, hp, hb1⟩
  have A1 := Wc.hid ((Nh.new w ⟨1, 0, 5, 0, 0, 0, 0, 0, 0⟩).keep hb1)
  have HB1 := Wc.hid (Wc.step ((Below.refl w.heap.size w).alloc (Nat.le_refl _) _) (Nat.le_refl _) hb1)
  have HX := Wc.hid hX
  have HP := Wc.hid hp
  clear hX hp hb1
  go_wp2_with fail
  refine (parse7_any _ _ _ HX.out).mono ?_
  rintro e w2 ⟨rfl, hb2⟩
  rw [HP.out.1, HP.out.2]
  unfold nv
  have A2 := Wc.hid ((A1.out.keep hb2).keep ((Below.refl _ _).alloc (Nat.le_refl _) (.cells #[.int .i64 1, .int .i64 0, .int .i64 5, .int .i64 0, .int .i64 0, .int .i64 0, .int .i64 0, .int .i64 0, .int .i64 0] 24)))
  have A3 := Wc.hid (Nh.new w2 ⟨1, 0, 5, 0, 0, 0, 0, 0, 0⟩)
  have HB2 := Wc.hid ((Wc.step HB1.out (Nat.le_refl _) hb2).alloc (Wc.step HB1.out (Nat.le_refl _) hb2).size (.cells #[.int .i64 1, .int .i64 0, .int .i64 5, .int .i64 0, .int .i64 0, .int .i64 0, .int .i64 0, .int .i64 0, .int .i64 0] 24))
  clear hb2
  go_wp2_with fail
  refine (place_below 75 2 _).mono ?_
  rintro e w3 ⟨rfl, hb3⟩
  rw [wk_place]
  have A4 := Wc.hid (A2.out.keep hb3)
  have A5 := Wc.hid (A3.out.keep hb3)
  have HB4 := Wc.hid (Wc.step HB2.out (Nat.le_refl _) hb3)
  have ⟨c, c0, c1, c2, c3, c4, c5, c6, c7⟩ := A4.out.nc
  have ⟨d, d0, d1, d2, d3, d4, d5, d6, d7⟩ := A5.out.nc
  clear hb3
  have heq := eql_wk
  go_wp2_with fail
  refine (check7_any Wn.n0 _).mono ?_
  rintro e w4 ⟨rfl, hb4⟩
  rw [n0_no]
  go_wp2_with fail
  go_ret
  exact ⟨rfl, Wc.step HB4.out (Nat.le_refl _) hb4⟩

end Go.Proofs.Ytbficappjekalaa
