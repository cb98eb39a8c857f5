/-
  FrameBack where the command is too long, or is none.
-/
import Derived.Test.YtfejabeifabdlaaFwake
import Derived.Deep.Cut
namespace Go.Proofs.Ytfejabeifabdlaa
open Go.RowKit

set_option maxRecDepth 100000 in
theorem back_long1 (c : Wk.Cmd) (q : Int) (a1 : Option Addr) (p1 : Nat) (a2 : Option Addr) (n2 p2 : Nat) (p x0 x1 x2 x3 : Int) (w : World) (h : 1500 < c.data.length) :
    Calls Try.prog 4 #[cv c (.slice a1 c.data.length p1), .int .i64 q, .slice a2 n2 p2, .int .i64 p, .agg #[.int .u8 x0, .int .u8 x1, .int .u8 x2, .int .u8 x3]] w fun e w' => e = .returned (.bool true) ∧ Below w.heap.size w w' := by
  have g1 : (1500 : Int) < (c.data.length : Int) := by omega
  unfold cv
  go_enter Try.func4, Try.ntmps4
  go_wp2_with fail
  go_ret
  exact ⟨rfl, ((Below.refl w.heap.size w).alloc (Nat.le_refl _) _).alloc (by simp) _⟩

set_option maxRecDepth 100000 in
theorem back_long2 (c : Wk.Cmd) (q : Int) (a1 : Option Addr) (p1 : Nat) (a2 : Option Addr) (n2 p2 : Nat) (p x0 x1 x2 x3 : Int) (w : World) (h : c.data.length ≤ 1500) (h2 : 200 < n2) :
    Calls Try.prog 4 #[cv c (.slice a1 c.data.length p1), .int .i64 q, .slice a2 n2 p2, .int .i64 p, .agg #[.int .u8 x0, .int .u8 x1, .int .u8 x2, .int .u8 x3]] w fun e w' => e = .returned (.bool true) ∧ Below w.heap.size w w' := by
  have g1 : ¬ (1500 : Int) < (c.data.length : Int) := by omega
  have g2 : (200 : Int) < (n2 : Int) := by omega
  unfold cv
  go_enter Try.func4, Try.ntmps4
  go_wp2_with fail
  go_ret
  exact ⟨rfl, ((Below.refl w.heap.size w).alloc (Nat.le_refl _) _).alloc (by simp) _⟩

/-- What frame.Bytes returns where it refuses. -/
theorem bytes9_no (q : Int) (c : Wk.Cmd) (a : Option Addr) (cap : Nat) (w : World) (hv : Wc.Bs w (.slice a c.data.length cap) c.data) (hsh : Wc.Shaped (.slice a c.data.length cap)) (hc : Wk.Held c) (hno : ¬ (Wk.cmdB c = true ∧ 0 ≤ q ∧ q ≤ 4294967295)) :
    Calls Try.prog 12 #[.int .i64 q, cv c (.slice a c.data.length cap)] w fun e w' => e = .returned (.tuple #[.slice none 0 0, .int .i64 1]) ∧ Below w.heap.size w w' := by
  have hl : c.data.length ≤ 140737488355328 := by obtain ⟨_, n, _, h, _, _, _, h5, _⟩ := hv; cases h; exact h5
  cases hb : Wk.cmdB c
  · exact bytes9_bad q c a cap w hl hc hb
  · exact bytes9_seq q c a cap w hv hsh hb (fun h => hno ⟨hb, h⟩)

set_option maxRecDepth 100000 in
set_option maxHeartbeats 1600000 in
theorem back_no (c : Wk.Cmd) (q : Int) (a1 : Option Addr) (p1 : Nat) (a2 : Option Addr) (n2 p2 : Nat) (p x0 x1 x2 x3 : Int) (w : World) (h : c.data.length ≤ 1500) (h2 : n2 ≤ 200) (hv : Wc.Bs w (.slice a1 c.data.length p1) c.data) (hsh : Wc.Shaped (.slice a1 c.data.length p1)) (hc : Wk.Held c) (hno : ¬ (Wk.cmdB c = true ∧ 0 ≤ q ∧ q ≤ 4294967295)) :
    Calls Try.prog 4 #[cv c (.slice a1 c.data.length p1), .int .i64 q, .slice a2 n2 p2, .int .i64 p, .agg #[.int .u8 x0, .int .u8 x1, .int .u8 x2, .int .u8 x3]] w fun e w' => e = .returned (.bool true) ∧ Below w.heap.size w w' := by
  have g1 : ¬ (1500 : Int) < (c.data.length : Int) := by omega
  have g2 : ¬ (200 : Int) < (n2 : Int) := by omega
  have HV := Wc.hid ((hv.alloc (.cells #[.int .i64 c.kind, .int .i64 c.id, .int .i64 c.parent, .int .i64 c.size, .int .i64 c.start, .int .i64 c.count, .int .i64 c.source, .int .i64 c.digest, .slice a1 c.data.length p1] 24)).alloc (.cells #[.int .u8 x0, .int .u8 x1, .int .u8 x2, .int .u8 x3] 42))
  have HSH := Wc.hid hsh
  have HC := Wc.hid hc
  have HN := Wc.hid hno
  have B0 := Wc.hid (((Below.refl w.heap.size w).alloc (Nat.le_refl _) (.cells #[.int .i64 c.kind, .int .i64 c.id, .int .i64 c.parent, .int .i64 c.size, .int .i64 c.start, .int .i64 c.count, .int .i64 c.source, .int .i64 c.digest, .slice a1 c.data.length p1] 24)).alloc (by simp) (.cells #[.int .u8 x0, .int .u8 x1, .int .u8 x2, .int .u8 x3] 42))
  clear hv hsh hc hno h h2
  unfold cv
  go_enter Try.func4, Try.ntmps4
  go_wp2_with fail
  refine (bytes9_no q c a1 p1 _ HV.out HSH.out HC.out HN.out).mono ?_
  rintro e w1 ⟨rfl, hb1⟩
  have B1 := Wc.hid (Wc.step B0.out (Nat.le_refl _) hb1)
  clear hb1
  go_wp2_with fail
  refine (wakes_any _).mono ?_
  rintro e wz ⟨rfl, hbz⟩
  go_wp2_with fail
  go_ret
  exact ⟨rfl, Wc.step B1.out (Nat.le_refl _) hbz⟩

end Go.Proofs.Ytfejabeifabdlaa
