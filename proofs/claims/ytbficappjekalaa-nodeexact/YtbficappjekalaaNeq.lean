/-
  What comparing two nodes tells.
-/
import Derived.Test.YtbficappjekalaaNchk
namespace Go.Proofs.Ytbficappjekalaa
open Go.RowKit

/-- Are two nodes one? -/
def nodEq (s t : Wn.Nod) : Bool := s.level == t.level && Wn.ptr s == Wn.ptr t

theorem nodEq_iff {s t : Wn.Nod} : nodEq s t = true ↔ s = t := by
  constructor
  · intro h
    simp only [nodEq, Bool.and_eq_true, beq_iff_eq] at h
    obtain ⟨h, hp⟩ := h
    simp only [Wn.ptr, List.cons.injEq, and_true] at hp
    exact Wn.nod_ext h hp.1 hp.2.1 hp.2.2.1 hp.2.2.2.1 hp.2.2.2.2.1 hp.2.2.2.2.2.1 hp.2.2.2.2.2.2.1 hp.2.2.2.2.2.2.2
  · rintro rfl; simp [nodEq]

theorem nodEq_no {s t : Wn.Nod} (h : ¬ s = t) : nodEq s t = false := by
  rw [Bool.eq_false_iff]
  exact fun e => h (nodEq_iff.1 e)

theorem equal_nod (s t : Wn.Nod) (w : World) : (Op.equalIn 10000 24 (.agg #[.int .i64 s.level, .int .i64 s.p0, .int .i64 s.p1, .int .i64 s.p2, .int .i64 s.p3, .int .i64 s.p4, .int .i64 s.p5, .int .i64 s.p6, .int .i64 s.p7]) (.agg #[.int .i64 t.level, .int .i64 t.p0, .int .i64 t.p1, .int .i64 t.p2, .int .i64 t.p3, .int .i64 t.p4, .int .i64 t.p5, .int .i64 t.p6, .int .i64 t.p7])).run Try.prog w = .ok (nodEq s t) w := by
  have hp := equal_ptr s t 9997 w
  unfold nodEq
  cases h : (s.level == t.level)
  · go_simp
  · go_simp
    by_cases hh : Wn.ptr s = Wn.ptr t <;> simp [hh]

theorem eql_nod (s t : Wn.Nod) (w : World) : (binOp .eql 24 (.agg #[.int .i64 s.level, .int .i64 s.p0, .int .i64 s.p1, .int .i64 s.p2, .int .i64 s.p3, .int .i64 s.p4, .int .i64 s.p5, .int .i64 s.p6, .int .i64 s.p7]) (.agg #[.int .i64 t.level, .int .i64 t.p0, .int .i64 t.p1, .int .i64 t.p2, .int .i64 t.p3, .int .i64 t.p4, .int .i64 t.p5, .int .i64 t.p6, .int .i64 t.p7])).run Try.prog w = .ok (.bool (nodEq s t)) w := by
  rw [run_eql_struct, equal_nod]
  rfl

theorem neq_nod (s t : Wn.Nod) (w : World) : (binOp .neq 24 (.agg #[.int .i64 s.level, .int .i64 s.p0, .int .i64 s.p1, .int .i64 s.p2, .int .i64 s.p3, .int .i64 s.p4, .int .i64 s.p5, .int .i64 s.p6, .int .i64 s.p7]) (.agg #[.int .i64 t.level, .int .i64 t.p0, .int .i64 t.p1, .int .i64 t.p2, .int .i64 t.p3, .int .i64 t.p4, .int .i64 t.p5, .int .i64 t.p6, .int .i64 t.p7])).run Try.prog w = .ok (.bool (!nodEq s t)) w := by
  rw [run_neq_struct, equal_nod]
  rfl

end Go.Proofs.Ytbficappjekalaa
