/-
  What keep.Command returns, for all commands; the statements' own wakes returns true.
-/
import Derived.Test.YtfejabeifabdlaaFpar
namespace Wk
/-- Are two commands alike? -/
def eqB (c d : Cmd) : Bool := c.kind == d.kind && (c.id == d.id && (c.parent == d.parent && (c.size == d.size && (c.start == d.start && (c.count == d.count && (c.source == d.source && (c.digest == d.digest && (c.data == d.data))))))))

theorem eqB_iff {c d : Cmd} : eqB c d = true ↔ c = d := by
  cases c; cases d; simp [eqB]
theorem eqB_self (c : Cmd) : eqB c c = true := eqB_iff.2 rfl

end Wk
namespace Go.Proofs.Ytfejabeifabdlaa
open Go.RowKit

set_option maxHeartbeats 3200000 in
theorem keepCmd_any (c d : Wk.Cmd) (v u : Value) (w : World) (hv : Wc.Bs w v c.data) (hu : Wc.Bs w u d.data) :
    Calls Try.prog 15 #[cv c v, cv d u] w fun e w' => e = .returned (.bool (Wk.eqB c d)) ∧ Below w.heap.size w w' := by
  have hdef : Wk.eqB c d = (c.kind == d.kind && (c.id == d.id && (c.parent == d.parent && (c.size == d.size && (c.start == d.start && (c.count == d.count && (c.source == d.source && (c.digest == d.digest && (c.data == d.data))))))))) := rfl
  have HD := Wc.hid hdef
  have HV := Wc.hid ((hv.alloc (.cells #[.int .i64 c.kind, .int .i64 c.id, .int .i64 c.parent, .int .i64 c.size, .int .i64 c.start, .int .i64 c.count, .int .i64 c.source, .int .i64 c.digest, v] 24)).alloc (.cells #[.int .i64 d.kind, .int .i64 d.id, .int .i64 d.parent, .int .i64 d.size, .int .i64 d.start, .int .i64 d.count, .int .i64 d.source, .int .i64 d.digest, u] 24))
  have HU := Wc.hid ((hu.alloc (.cells #[.int .i64 c.kind, .int .i64 c.id, .int .i64 c.parent, .int .i64 c.size, .int .i64 c.start, .int .i64 c.count, .int .i64 c.source, .int .i64 c.digest, v] 24)).alloc (.cells #[.int .i64 d.kind, .int .i64 d.id, .int .i64 d.parent, .int .i64 d.size, .int .i64 d.start, .int .i64 d.count, .int .i64 d.source, .int .i64 d.digest, u] 24))
  have HB := Wc.hid (((Below.refl w.heap.size w).alloc (Nat.le_refl _) (.cells #[.int .i64 c.kind, .int .i64 c.id, .int .i64 c.parent, .int .i64 c.size, .int .i64 c.start, .int .i64 c.count, .int .i64 c.source, .int .i64 c.digest, v] 24)).alloc (by simp) (.cells #[.int .i64 d.kind, .int .i64 d.id, .int .i64 d.parent, .int .i64 d.size, .int .i64 d.start, .int .i64 d.count, .int .i64 d.source, .int .i64 d.digest, u] 24))
  clear hdef hv hu
  unfold cv
  go_enter Try.func15, Try.ntmps15
  cases h0 : (c.kind == d.kind)
  · have E : Hid (Wk.eqB c d = false) := Wc.hid (by rw [HD.out, h0]; simp)
    clear HD
    go_wp2_with fail
    go_ret
    exact ⟨ret_bool (by rw [E.out]), HB.out⟩
  cases h1 : (c.id == d.id)
  · have E : Hid (Wk.eqB c d = false) := Wc.hid (by rw [HD.out, h0, h1]; simp)
    clear HD
    go_wp2_with fail
    go_ret
    exact ⟨ret_bool (by rw [E.out]), HB.out⟩
  cases h2 : (c.parent == d.parent)
  · have E : Hid (Wk.eqB c d = false) := Wc.hid (by rw [HD.out, h0, h1, h2]; simp)
    clear HD
    go_wp2_with fail
    go_ret
    exact ⟨ret_bool (by rw [E.out]), HB.out⟩
  cases h3 : (c.size == d.size)
  · have E : Hid (Wk.eqB c d = false) := Wc.hid (by rw [HD.out, h0, h1, h2, h3]; simp)
    clear HD
    go_wp2_with fail
    go_ret
    exact ⟨ret_bool (by rw [E.out]), HB.out⟩
  cases h4 : (c.start == d.start)
  · have E : Hid (Wk.eqB c d = false) := Wc.hid (by rw [HD.out, h0, h1, h2, h3, h4]; simp)
    clear HD
    go_wp2_with fail
    go_ret
    exact ⟨ret_bool (by rw [E.out]), HB.out⟩
  cases h5 : (c.count == d.count)
  · have E : Hid (Wk.eqB c d = false) := Wc.hid (by rw [HD.out, h0, h1, h2, h3, h4, h5]; simp)
    clear HD
    go_wp2_with fail
    go_ret
    exact ⟨ret_bool (by rw [E.out]), HB.out⟩
  cases h6 : (c.source == d.source)
  · have E : Hid (Wk.eqB c d = false) := Wc.hid (by rw [HD.out, h0, h1, h2, h3, h4, h5, h6]; simp)
    clear HD
    go_wp2_with fail
    go_ret
    exact ⟨ret_bool (by rw [E.out]), HB.out⟩
  cases h7 : (c.digest == d.digest)
  · have E : Hid (Wk.eqB c d = false) := Wc.hid (by rw [HD.out, h0, h1, h2, h3, h4, h5, h6, h7]; simp)
    clear HD
    go_wp2_with fail
    go_ret
    exact ⟨ret_bool (by rw [E.out]), HB.out⟩
  have E : Hid (Wk.eqB c d = (c.data == d.data)) := Wc.hid (by rw [HD.out, h0, h1, h2, h3, h4, h5, h6, h7]; simp)
  clear HD
  go_wp2_with fail
  refine (bytes_any _ _ _ _ _ HV.out HU.out).mono ?_
  rintro e w1 ⟨rfl, hb1⟩
  have B1 := Wc.hid (Wc.step HB.out (Nat.le_refl _) hb1)
  clear hb1
  go_wp2_with fail
  go_ret
  exact ⟨ret_bool (by rw [E.out]), B1.out⟩

end Go.Proofs.Ytfejabeifabdlaa
