/-
  What comparing two records tells.
-/
import Derived.Test.YtblbldoeknihaaaRpar
namespace Go.Proofs.Ytblbldoeknihaaa
open Go.RowKit

/-- Are two records one? -/
def recEq (s t : Wr.Rec) : Bool := s.next == t.next && (s.id == t.id && (s.parent == t.parent && (s.root == t.root && (s.size == t.size && (s.kind == t.kind && (s.frames == t.frames && (s.digest == t.digest)))))))

theorem recEq_iff {s t : Wr.Rec} : recEq s t = true ↔ s = t := by
  constructor
  · intro h
    simp only [recEq, Bool.and_eq_true, beq_iff_eq] at h
    exact Wr.rec_ext h.1 h.2.1 h.2.2.1 h.2.2.2.1 h.2.2.2.2.1 h.2.2.2.2.2.1 h.2.2.2.2.2.2.1 h.2.2.2.2.2.2.2
  · rintro rfl; simp [recEq]

theorem recEq_no {s t : Wr.Rec} (h : ¬ s = t) : recEq s t = false := by
  rw [Bool.eq_false_iff]
  exact fun e => h (recEq_iff.1 e)

theorem eql_rec (s t : Wr.Rec) (w : World) : (binOp .eql 23 (.agg #[.int .i64 s.next, .int .i64 s.id, .int .i64 s.parent, .int .i64 s.root, .int .i64 s.size, .int .i64 s.kind, .int .i64 s.frames, .int .i64 s.digest]) (.agg #[.int .i64 t.next, .int .i64 t.id, .int .i64 t.parent, .int .i64 t.root, .int .i64 t.size, .int .i64 t.kind, .int .i64 t.frames, .int .i64 t.digest])).run Try.prog w = .ok (.bool (recEq s t)) w := by
  unfold recEq
  cases h0 : (s.next == t.next)
  · go_simp
  cases h1 : (s.id == t.id)
  · go_simp
  cases h2 : (s.parent == t.parent)
  · go_simp
  cases h3 : (s.root == t.root)
  · go_simp
  cases h4 : (s.size == t.size)
  · go_simp
  cases h5 : (s.kind == t.kind)
  · go_simp
  cases h6 : (s.frames == t.frames)
  · go_simp
  cases h7 : (s.digest == t.digest)
  · go_simp
  · go_simp

theorem neq_rec (s t : Wr.Rec) (w : World) : (binOp .neq 23 (.agg #[.int .i64 s.next, .int .i64 s.id, .int .i64 s.parent, .int .i64 s.root, .int .i64 s.size, .int .i64 s.kind, .int .i64 s.frames, .int .i64 s.digest]) (.agg #[.int .i64 t.next, .int .i64 t.id, .int .i64 t.parent, .int .i64 t.root, .int .i64 t.size, .int .i64 t.kind, .int .i64 t.frames, .int .i64 t.digest])).run Try.prog w = .ok (.bool (!recEq s t)) w := by
  unfold recEq
  cases h0 : (s.next == t.next)
  · go_simp
  cases h1 : (s.id == t.id)
  · go_simp
  cases h2 : (s.parent == t.parent)
  · go_simp
  cases h3 : (s.root == t.root)
  · go_simp
  cases h4 : (s.size == t.size)
  · go_simp
  cases h5 : (s.kind == t.kind)
  · go_simp
  cases h6 : (s.frames == t.frames)
  · go_simp
  cases h7 : (s.digest == t.digest)
  · go_simp
  · go_simp

end Go.Proofs.Ytblbldoeknihaaa
