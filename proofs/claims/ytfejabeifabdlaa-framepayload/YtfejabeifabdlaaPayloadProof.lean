/-
  For every two commands and every number, Go's FramePayload (commands of one kind that are unlike have unlike payloads; a frame is its payload and twenty bytes) returns true and leaves its arguments as they were; no condition.
-/
import Derived.Test.YtfejabeifabdlaaRows
import Derived.Test.YtfejabeifabdlaaFpld
import Derived.Test.YtfejabeifabdlaaFopen
import Derived.WalkKit
import Derived.ProofKit
import Derived.OpenShut
import Derived.ShutString
import Derived.ChangeOld
import Derived.Below
import Derived.Laws.Cover2
namespace Go.Proofs.Ytfejabeifabdlaa.framePayload
open Go.ChangeShapes Go.WideShapes Go.ChangeAt Go.RowKit
set_option linter.unusedVariables false

theorem own : ownKnob Try.prog.godebug = none := by kernel_rfl
theorem laidOut : laidOutB Try.prog = true := by kernel_rfl

theorem walk (a0 : Wk.Cmd) (d0 : Option Addr) (cap0 : Nat) (a1 : Wk.Cmd) (d1 : Option Addr) (cap1 : Nat) (a2 : Int) (w : World) (w0 : Wd.RawB w d0 a0.data.length cap0 a0.data ∧ Wk.Held a0) (w1 : Wd.RawB w d1 a1.data.length cap1 a1.data ∧ Wk.Held a1) (w2 : (Lit.int .i64 a2).wf = true) :
    Calls Try.prog 5 #[cv a0 (.slice d0 a0.data.length cap0), cv a1 (.slice d1 a1.data.length cap1), .int .i64 a2] w fun e w' => e = .returned (.bool true) ∧ Below w.heap.size w w' := by
  by_cases h1 : a0.data.length ≤ 1500
  · by_cases h2 : a1.data.length ≤ 1500
    · exact payload_law a0 a1 a2 d0 d1 cap0 cap1 w (w0.1.bs (by omega)) w0.1.2.2.2.2.1 (w1.1.bs (by omega)) w1.1.2.2.2.2.1 w0.2 w1.2 h1 h2
    · exact payload_long2 a0 a1 a2 d0 d1 cap0 cap1 w h1 (by omega)
  · exact payload_long1 a0 a1 a2 d0 d1 cap0 cap1 w (by omega)

set_option maxRecDepth 100000 in
theorem lifted (os : Os) (started : os.Started) (H : Type) (enc : TypeId × Value → H) :
    ReturnsInHanded {} Try.checked os 5 .any (Rows.framePayloadSpec.pre6 enc Try.prog Try.f5 Rows.framePayloadRow.domain false) (Rows.framePayloadSpec.post enc Try.prog Try.f5 false true false false) := by
  refine returnsInHanded_of_change (C := Try.checked) own started (by kernel_rfl) Try.func5
    (ChangeSpec.witness6 (enc := enc) (C := Try.checked) false ⟨#[], #[.agg #[.int .i64 0, .int .i64 0, .int .i64 0, .int .i64 0, .int .i64 0, .int .i64 0, .int .i64 0, .int .i64 0, .slice none 0 0], .agg #[.int .i64 0, .int .i64 0, .int .i64 0, .int .i64 0, .int .i64 0, .int .i64 0, .int .i64 0, .int .i64 0, .slice none 0 0], .int .i64 0], []⟩ 8 (by kernel_rfl) (by kernel_rfl) (by kernel_rfl) (by kernel_rfl)) ?_
  intro W base args ds gs before hval0 hW hcnd _
  have hval : ∀ (j : Nat) t v, Try.f5.params[j]? = some t → args[j]? = some v → Value.okWide Try.prog W .any base t v := hval0
  have hW' := hW
  obtain ⟨p, q, hA0, hV, rfl, hfz, hnd⟩ := hW
  have hA : DataW.TrodAll enc Try.prog W 0 (fun _ => true) true Try.f5.params.toList args.toList ds p := hA0
  rw [Try.params5] at hA hval
  obtain ⟨v0, vs0, d0, ds0, p0, q0, hargs, rfl, rfl, h0, r0⟩ := trodAll_cons hA
  obtain ⟨v1, vs1, d1, ds1, p1, q1, rfl, rfl, rfl, h1, r1⟩ := trodAll_cons r0
  obtain ⟨v2, vs2, d2, ds2, p2, q2, rfl, rfl, rfl, h2, r2⟩ := trodAll_cons r1
  obtain ⟨rfl, rfl, rfl⟩ := trodAll_nil r2
  obtain rfl : args = #[v0, v1, v2] := by cases args; simp_all
  obtain ⟨rfl, rfl⟩ := trodVars_none hV
  have k0 := h0
  have lt0 : ∀ x ∈ p0, x.block < W.heap.size := by obtain ⟨m, hm⟩ := k0; exact DataW.trod_lt m _ _ _ hm
  obtain ⟨a0, d0, cap0, rfl, w0⟩ := open_cmd Try.underlying24 rfl Try.underlying3 (by kernel_rfl) (by kernel_rfl) Try.underlying22 (by kernel_rfl) Try.underlying5 (by kernel_rfl) (hval 0 24 v0 rfl rfl) h0
  have k1 := h1
  have lt1 : ∀ x ∈ p1, x.block < W.heap.size := by obtain ⟨m, hm⟩ := k1; exact DataW.trod_lt m _ _ _ hm
  obtain ⟨a1, d1, cap1, rfl, w1⟩ := open_cmd Try.underlying24 rfl Try.underlying3 (by kernel_rfl) (by kernel_rfl) Try.underlying22 (by kernel_rfl) Try.underlying5 (by kernel_rfl) (hval 1 24 v1 rfl rfl) h1
  obtain ⟨a2, rfl, rfl, rfl, w2⟩ := open_int Try.underlying3 (hval 2 3 v2 rfl rfl) h2
  clear hA0 hval0
  refine (walk a0 d0 cap0 a1 d1 cap1 a2 W w0 w1 w2).mono fun e W' ⟨he, bel⟩ => ?_
  subst he
  exact ⟨_, rfl, _, _, _, [], _, [], hW', trodAll_mk1 (shut_bool Try.underlying4 _), (trodAll_cons_mk (Below.trod laidOut (by kernel_rfl) (of_decide_eq_true (by kernel_rfl)) k0 bel lt0) (trodAll_cons_mk (Below.trod laidOut (by kernel_rfl) (of_decide_eq_true (by kernel_rfl)) k1 bel lt1) (trodAll_cons_mk (shut_int Try.underlying3 w2) trodAll_mk0))), rfl, bel.frame _, fun h => by cases h⟩

theorem over : Rows.framePayloadRow.holds Try.pinned (OpenSpec.ofChange Rows.framePayloadSpec) :=
  OpenClaim.holds_of_wide 5 Try.f5 rfl rfl rfl rfl rfl rfl rfl ⟨rfl, rfl, rfl, rfl, rfl⟩ rfl rfl rfl rfl rfl (by kernel_rfl) Try.func5 (by kernel_rfl)
    (of_decide_eq_true (by kernel_rfl)) (by unfold Func.isWrapper; first | (rw [if_pos (by decide +kernel)]; kernel_rfl) | (rw [if_neg (by decide +kernel)]; exact ⟨rfl, rfl⟩))
    (fun os started H enc _ => lifted os started H enc)

theorem proved : Rows.FramePayloadSaid := over
end Go.Proofs.Ytfejabeifabdlaa.framePayload

namespace Go.Proofs.Ytfejabeifabdlaa
/-- For every two commands and every number, Go's FramePayload (commands of one kind that are unlike have unlike payloads; a frame is its payload and twenty bytes) returns true and leaves its arguments as they were; no condition. -/
theorem framePayload_holds : Rows.FramePayloadSaid := framePayload.proved
#print axioms framePayload_holds
end Go.Proofs.Ytfejabeifabdlaa
