/-
  For all bytes, every first block, every number of blocks, every id and every state, Go's OpenExact (the records of any device from any block on, any device's state, any new image, any id's record, or why not, are the page's) returns true, and what is handed in stays; no condition.
-/
import Derived.Test.YtifoghbacifhnaaRows
import Derived.Test.YtifoghbacifhnaaXp
import Derived.Test.YtifoghbacifhnaaXs
import Derived.WalkKit
import Derived.ProofKit
import Derived.OpenShut
import Derived.ShutString
import Derived.ChangeOld
import Derived.Below
import Derived.Laws.Cover2
namespace Go.Proofs.Ytifoghbacifhnaa.openExact
open Go.ChangeShapes Go.WideShapes Go.ChangeAt Go.RowKit
set_option linter.unusedVariables false

theorem own : ownKnob Try.prog.godebug = none := by kernel_rfl
theorem laidOut : laidOutB Try.prog = true := by kernel_rfl

theorem walk (a0 : Option Addr) (len0 cap0 : Nat) (z0 : List Int) (a1 : Int) (a2 : Int) (a3 : Int) (a4 : Ws.Sup) (t4 : Int) (d4 : Option Addr) (len4 cap4 : Nat) (z4 : List Wr.Rec) (w : World) (w0 : Wd.RawB w a0 len0 cap0 z0) (w1 : (Lit.int .i64 a1).wf = true) (w2 : (Lit.int .i64 a2).wf = true) (w3 : (Lit.int .i64 a3).wf = true) (w4 : Wi.RawR w d4 len4 cap4 z4) :
    Calls Try.prog 3 #[.slice a0 len0 cap0, .int .i64 a1, .int .i64 a2, .int .i64 a3, stv a4 t4 (.slice d4 len4 cap4)] w fun e w' => e = .returned (.bool true) ∧ Below w.heap.size w w' := by
  by_cases hn : len0 ≤ 19200
  · by_cases hz : 300 < a2 ∧ a2 ≤ 4096
    · exact exact_wide a0 len0 cap0 a1 a3 a2 a4 t4 d4 len4 cap4 w hn hz
    · by_cases hm : len4 ≤ 100
      · have hr := w4.rs (by omega)
        by_cases h4 : a2 < 4
        · exact exact_lo a0 len0 cap0 z0 a1 a3 a2 h4 a4 t4 d4 len4 cap4 z4 w (w0.bs (by omega)) w0.2.2.2.2.1 hn hr hm
        · by_cases h5 : 4096 < a2
          · exact exact_hi a0 len0 cap0 z0 a1 a3 a2 h5 a4 t4 d4 len4 cap4 z4 w (w0.bs (by omega)) w0.2.2.2.2.1 hn hr hm
          · obtain ⟨m, rfl⟩ : ∃ m : Nat, a2 = m := ⟨a2.toNat, by omega⟩
            exact exact_yes a0 len0 cap0 z0 a1 a3 m (m * 64) (by omega) (by omega) (by omega) rfl a4 t4 d4 len4 cap4 z4 w (w0.bs (by omega)) w0.2.2.2.2.1 hn hr hm
      · exact exact_long a0 len0 cap0 a1 a3 a2 a4 t4 d4 len4 cap4 w hn hz (by omega)
  · exact exact_heavy a0 len0 cap0 a1 a3 a2 a4 t4 d4 len4 cap4 w (by omega)

set_option maxRecDepth 100000 in
theorem lifted (os : Os) (started : os.Started) (H : Type) (enc : TypeId × Value → H) :
    ReturnsInHanded {} Try.checked os 3 .any (Rows.openExactSpec.pre6 enc Try.prog Try.f3 Rows.openExactRow.domain false) (Rows.openExactSpec.post enc Try.prog Try.f3 false true false false) := by
  refine returnsInHanded_of_change (C := Try.checked) own started (by kernel_rfl) Try.func3
    (ChangeSpec.witness6 (enc := enc) (C := Try.checked) false ⟨#[], #[.slice none 0 0, .int .i64 0, .int .i64 0, .int .i64 0, .agg #[.int .i64 0, .int .i64 0, .int .i64 0, .int .i64 0, .int .i64 0, .int .i64 0, .slice none 0 0]], []⟩ 8 (by kernel_rfl) (by kernel_rfl) (by kernel_rfl) (by kernel_rfl)) ?_
  intro W base args ds gs before hval0 hW hcnd _
  have hval : ∀ (j : Nat) t v, Try.f3.params[j]? = some t → args[j]? = some v → Value.okWide Try.prog W .any base t v := hval0
  have hW' := hW
  obtain ⟨p, q, hA0, hV, rfl, hfz, hnd⟩ := hW
  have hA : DataW.TrodAll enc Try.prog W 0 (fun _ => true) true Try.f3.params.toList args.toList ds p := hA0
  rw [Try.params3] at hA hval
  obtain ⟨v0, vs0, d0, ds0, p0, q0, hargs, rfl, rfl, h0, r0⟩ := trodAll_cons hA
  obtain ⟨v1, vs1, d1, ds1, p1, q1, rfl, rfl, rfl, h1, r1⟩ := trodAll_cons r0
  obtain ⟨v2, vs2, d2, ds2, p2, q2, rfl, rfl, rfl, h2, r2⟩ := trodAll_cons r1
  obtain ⟨v3, vs3, d3, ds3, p3, q3, rfl, rfl, rfl, h3, r3⟩ := trodAll_cons r2
  obtain ⟨v4, vs4, d4, ds4, p4, q4, rfl, rfl, rfl, h4, r4⟩ := trodAll_cons r3
  obtain ⟨rfl, rfl, rfl⟩ := trodAll_nil r4
  obtain rfl : args = #[v0, v1, v2, v3, v4] := by cases args; simp_all
  obtain ⟨rfl, rfl⟩ := trodVars_none hV
  obtain ⟨a0, len0, cap0, rfl⟩ := okWide_slice Try.underlying22 (hval 0 22 v0 rfl rfl)
  have k0 := h0
  have lt0 : ∀ x ∈ p0, x.block < W.heap.size := by obtain ⟨m, hm⟩ := k0; exact DataW.trod_lt m _ _ _ hm
  obtain ⟨z0, w0⟩ : ∃ zs, Wd.RawB W a0 len0 cap0 zs := by
    obtain ⟨fuel, hf⟩ := h0
    exact Wd.open_bytes Try.underlying22 Try.underlying5 (by kernel_rfl) hf
  obtain ⟨a1, rfl, rfl, rfl, w1⟩ := open_int Try.underlying3 (hval 1 3 v1 rfl rfl) h1
  obtain ⟨a2, rfl, rfl, rfl, w2⟩ := open_int Try.underlying3 (hval 2 3 v2 rfl rfl) h2
  obtain ⟨a3, rfl, rfl, rfl, w3⟩ := open_int Try.underlying3 (hval 3 3 v3 rfl rfl) h3
  have k4 := h4
  have lt4 : ∀ x ∈ p4, x.block < W.heap.size := by obtain ⟨m, hm⟩ := k4; exact DataW.trod_lt m _ _ _ hm
  obtain ⟨a4, t4, d4, len4, cap4, z4, rfl, w4⟩ := open_state Try.underlying27 rfl Try.underlying24 rfl Try.underlying3 (by kernel_rfl) (by kernel_rfl) (by kernel_rfl) Try.underlying25 (by kernel_rfl) Try.underlying41 (by kernel_rfl) rfl (hval 4 27 v4 rfl rfl) h4
  clear hA0 hval0
  refine (walk a0 len0 cap0 z0 a1 a2 a3 a4 t4 d4 len4 cap4 z4 W w0 w1 w2 w3 w4).mono fun e W' ⟨he, bel⟩ => ?_
  subst he
  exact ⟨_, rfl, _, _, _, [], _, [], hW', trodAll_mk1 (shut_bool Try.underlying4 _), (trodAll_cons_mk (Below.trod laidOut (by kernel_rfl) (of_decide_eq_true (by kernel_rfl)) k0 bel lt0) (trodAll_cons_mk (shut_int Try.underlying3 w1) (trodAll_cons_mk (shut_int Try.underlying3 w2) (trodAll_cons_mk (shut_int Try.underlying3 w3) (trodAll_cons_mk (Below.trod laidOut (by kernel_rfl) (of_decide_eq_true (by kernel_rfl)) k4 bel lt4) trodAll_mk0))))), rfl, bel.frame _, fun h => by cases h⟩

theorem over : Rows.openExactRow.holds Try.pinned (OpenSpec.ofChange Rows.openExactSpec) :=
  OpenClaim.holds_of_wide 3 Try.f3 rfl rfl rfl rfl rfl rfl rfl ⟨rfl, rfl, rfl, rfl, rfl⟩ rfl rfl rfl rfl rfl (by kernel_rfl) Try.func3 (by kernel_rfl)
    (of_decide_eq_true (by kernel_rfl)) (by unfold Func.isWrapper; first | (rw [if_pos (by decide +kernel)]; kernel_rfl) | (rw [if_neg (by decide +kernel)]; exact ⟨rfl, rfl⟩))
    (fun os started H enc _ => lifted os started H enc)

theorem proved : Rows.OpenExactSaid := over
end Go.Proofs.Ytifoghbacifhnaa.openExact

namespace Go.Proofs.Ytifoghbacifhnaa
/-- For all bytes, every first block, every number of blocks, every id and every state, Go's OpenExact (the records of any device from any block on, any device's state, any new image, any id's record, or why not, are the page's) returns true, and what is handed in stays; no condition. -/
theorem openExact_holds : Rows.OpenExactSaid := openExact.proved
#print axioms openExact_holds
end Go.Proofs.Ytifoghbacifhnaa
