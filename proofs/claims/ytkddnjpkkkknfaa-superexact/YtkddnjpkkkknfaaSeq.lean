/-
  What comparing two superblocks tells.
-/
import Derived.Test.YtkddnjpkkkknfaaSpar
namespace Go.Proofs.Ytkddnjpkkkknfaa
open Go.RowKit

/-- Are two superblocks one? -/
def supEq (s t : Ws.Sup) : Bool := s.gen == t.gen && (s.blocks == t.blocks && (s.root == t.root && (s.size == t.size && s.first == t.first)))

theorem supEq_iff {s t : Ws.Sup} : supEq s t = true ↔ s = t := by
  constructor
  · intro h
    simp only [supEq, Bool.and_eq_true, beq_iff_eq] at h
    exact Ws.sup_ext h.1 h.2.1 h.2.2.1 h.2.2.2.1 h.2.2.2.2
  · rintro rfl; simp [supEq]

theorem supEq_no {s t : Ws.Sup} (h : ¬ s = t) : supEq s t = false := by
  rw [Bool.eq_false_iff]
  exact fun e => h (supEq_iff.1 e)

theorem eql_sup (s t : Ws.Sup) (w : World) : (binOp .eql 23 (.agg #[.int .i64 s.gen, .int .i64 s.blocks, .int .i64 s.root, .int .i64 s.size, .int .i64 s.first]) (.agg #[.int .i64 t.gen, .int .i64 t.blocks, .int .i64 t.root, .int .i64 t.size, .int .i64 t.first])).run Try.prog w = .ok (.bool (supEq s t)) w := by
  unfold supEq
  cases h1 : (s.gen == t.gen)
  · go_simp
  cases h2 : (s.blocks == t.blocks)
  · go_simp
  cases h3 : (s.root == t.root)
  · go_simp
  cases h4 : (s.size == t.size)
  · go_simp
  cases h5 : (s.first == t.first)
  · go_simp
  · go_simp

theorem neq_sup (s t : Ws.Sup) (w : World) : (binOp .neq 23 (.agg #[.int .i64 s.gen, .int .i64 s.blocks, .int .i64 s.root, .int .i64 s.size, .int .i64 s.first]) (.agg #[.int .i64 t.gen, .int .i64 t.blocks, .int .i64 t.root, .int .i64 t.size, .int .i64 t.first])).run Try.prog w = .ok (.bool (!supEq s t)) w := by
  unfold supEq
  cases h1 : (s.gen == t.gen)
  · go_simp
  cases h2 : (s.blocks == t.blocks)
  · go_simp
  cases h3 : (s.root == t.root)
  · go_simp
  cases h4 : (s.size == t.size)
  · go_simp
  cases h5 : (s.first == t.first)
  · go_simp
  · go_simp

end Go.Proofs.Ytkddnjpkkkknfaa
