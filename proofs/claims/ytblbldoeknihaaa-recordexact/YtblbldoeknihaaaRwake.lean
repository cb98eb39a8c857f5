/-
  The statements' own wakes returns true.
-/
import Derived.Test.YtblbldoeknihaaaReq
namespace Go.Proofs.Ytblbldoeknihaaa
open Go.RowKit

def wk : Wr.Rec := ⟨0, 9, 3, 0, 4, 0, 0, 0⟩
def wq : Wr.Rec := ⟨0, 1, 1, 0, 0, 0, 0, 0⟩
theorem wk_rec : Wr.recB wk = true := by decide
theorem wk_par : Wr.par (Wr.blk wk) = ⟨0, 9, 3, 0, 4, 0, 0, 0⟩ ∧ Wr.parE (Wr.blk wk) = 0 := ⟨(Wr.par_blk wk_rec).2, (Wr.par_blk wk_rec).1⟩
theorem r0_no : Wr.recE Wr.r0 = 1 := by decide
theorem wq_no : Wr.recE wq = 1 := by decide

theorem bytes8_wk (w : World) :
    Calls Try.prog 7 #[.agg #[.int .i64 0, .int .i64 9, .int .i64 3, .int .i64 0, .int .i64 4, .int .i64 0, .int .i64 0, .int .i64 0]] w fun e w' => ∃ g X, e = .returned (.tuple #[.slice (some ⟨g, 0, none⟩) 64 64, .int .i64 0]) ∧ Wc.Bs w' (.slice (some ⟨g, 0, none⟩) 64 64) X ∧ (Wr.par X = ⟨0, 9, 3, 0, 4, 0, 0, 0⟩ ∧ Wr.parE X = 0) ∧ Below w.heap.size w w' := by
  refine (bytes8_ok wk w wk_rec).mono ?_
  rintro e w1 ⟨g, rfl, hg, hr, hb⟩
  exact ⟨g, _, rfl, hr.bs (Wr.blk_length _) (Wr.blk_bd _), wk_par, hb⟩

theorem eql_wk (w : World) : (binOp .eql 23 (.agg #[.int .i64 0, .int .i64 9, .int .i64 3, .int .i64 0, .int .i64 4, .int .i64 0, .int .i64 0, .int .i64 0]) (.agg #[.int .i64 0, .int .i64 9, .int .i64 3, .int .i64 0, .int .i64 4, .int .i64 0, .int .i64 0, .int .i64 0])).run Try.prog w = .ok (.bool true) w := by
  have h := eql_rec wk wk w
  rw [recEq_iff.2 rfl] at h
  exact h

set_option maxHeartbeats 1600000 in
theorem wakes_any (w : World) :
    Calls Try.prog 13 #[] w fun e w' => e = .returned (.bool true) ∧ Below w.heap.size w w' := by
  go_enter Try.func13, Try.ntmps13
  go_wp2_with fail
  refine (bytes8_wk _).mono ?_
  rintro e w1 ⟨g, X, rfl, hX, hp, hb1⟩
  have A1 := Wc.hid ((Rh.new w ⟨0, 9, 3, 0, 4, 0, 0, 0⟩).keep hb1)
  have HB1 := Wc.hid (Wc.step ((Below.refl w.heap.size w).alloc (Nat.le_refl _) _) (Nat.le_refl _) hb1)
  have HX := Wc.hid hX
  have HP := Wc.hid hp
  clear hX hp hb1
  go_wp2_with fail
  refine (parse8_any _ _ _ HX.out).mono ?_
  rintro e w2 ⟨rfl, hb2⟩
  rw [HP.out.1, HP.out.2]
  unfold rv
  have A2 := Wc.hid ((A1.out.keep hb2).keep ((Below.refl _ _).alloc (Nat.le_refl _) (.cells #[.int .i64 0, .int .i64 9, .int .i64 3, .int .i64 0, .int .i64 4, .int .i64 0, .int .i64 0, .int .i64 0] 23)))
  have A3 := Wc.hid (Rh.new w2 ⟨0, 9, 3, 0, 4, 0, 0, 0⟩)
  have HB2 := Wc.hid ((Wc.step HB1.out (Nat.le_refl _) hb2).alloc (Wc.step HB1.out (Nat.le_refl _) hb2).size (.cells #[.int .i64 0, .int .i64 9, .int .i64 3, .int .i64 0, .int .i64 4, .int .i64 0, .int .i64 0, .int .i64 0] 23))
  clear hb2
  have ⟨c0, c1, c2, c3, c4, c5, c6, c7⟩ := A2.out.rc
  have ⟨d0, d1, d2, d3, d4, d5, d6, d7⟩ := A3.out.rc
  have heq := eql_wk
  go_wp2_with fail
  refine (check8_any Wr.r0 _).mono ?_
  rintro e w4 ⟨rfl, hb4⟩
  rw [r0_no]
  have HB4 := Wc.hid (Wc.step HB2.out (Nat.le_refl _) hb4)
  clear hb4
  go_wp2_with fail
  refine (check8_any wq _).mono ?_
  rintro e w5 ⟨rfl, hb5⟩
  rw [wq_no]
  go_wp2_with fail
  go_ret
  exact ⟨rfl, Wc.step HB4.out (Nat.le_refl _) hb5⟩

end Go.Proofs.Ytblbldoeknihaaa
