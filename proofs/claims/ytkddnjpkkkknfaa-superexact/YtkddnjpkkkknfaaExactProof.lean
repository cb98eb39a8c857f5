/-
  For every superblock and every two slices of bytes, Go's SuperExact (whether any superblock is right, its block, what any block says, which slot is picked, or why not, are the page's) returns true and leaves its arguments as they were; no condition.
-/
import Derived.Test.YtkddnjpkkkknfaaRows
import Derived.Test.YtkddnjpkkkknfaaSex
import Derived.Test.YtkddnjpkkkknfaaSopen
import Derived.Test.YtkddnjpkkkknfaaDopen
import Derived.WalkKit
import Derived.ProofKit
import Derived.OpenShut
import Derived.ShutString
import Derived.ChangeOld
import Derived.Below
import Derived.Laws.Cover2
namespace Go.Proofs.Ytkddnjpkkkknfaa.superExact
open Go.ChangeShapes Go.WideShapes Go.ChangeAt Go.RowKit
set_option linter.unusedVariables false

theorem own : ownKnob Try.prog.godebug = none := by kernel_rfl
theorem laidOut : laidOutB Try.prog = true := by kernel_rfl

theorem walk (a0 : Ws.Sup) (a1 : Option Addr) (len1 cap1 : Nat) (z1 : List Int) (a2 : Option Addr) (len2 cap2 : Nat) (z2 : List Int) (w : World) (w0 : True) (w1 : Wd.RawB w a1 len1 cap1 z1) (w2 : Wd.RawB w a2 len2 cap2 z2) :
    Calls Try.prog 3 #[sv a0, .slice a1 len1 cap1, .slice a2 len2 cap2] w fun e w' => e = .returned (.bool true) ∧ Below w.heap.size w w' := by
  by_cases hn : len1 ≤ 300
  · by_cases hi : len2 ≤ 19200
    · cases hs : Ws.supB a0
      · exact superExact_no a0 a1 len1 cap1 z1 a2 len2 cap2 z2 w hs hn hi (w1.bs (by omega)) w1.2.2.2.2.1 (w2.bs (by omega)) w2.2.2.2.2.1
      · exact superExact_yes a0 a1 len1 cap1 z1 a2 len2 cap2 z2 w hs hn hi (w1.bs (by omega)) w1.2.2.2.2.1 (w2.bs (by omega)) w2.2.2.2.2.1
    · exact superExact_heavy a0 a1 len1 cap1 a2 len2 cap2 w hn (by omega)
  · exact superExact_long a0 a1 len1 cap1 a2 len2 cap2 w (by omega)

set_option maxRecDepth 100000 in
theorem lifted (os : Os) (started : os.Started) (H : Type) (enc : TypeId × Value → H) :
    ReturnsInHanded {} Try.checked os 3 .any (Rows.superExactSpec.pre6 enc Try.prog Try.f3 Rows.superExactRow.domain false) (Rows.superExactSpec.post enc Try.prog Try.f3 false true false false) := by
  refine returnsInHanded_of_change (C := Try.checked) own started (by kernel_rfl) Try.func3
    (ChangeSpec.witness6 (enc := enc) (C := Try.checked) false ⟨#[], #[.agg #[.int .i64 0, .int .i64 0, .int .i64 0, .int .i64 0, .int .i64 0], .slice none 0 0, .slice none 0 0], []⟩ 8 (by kernel_rfl) (by kernel_rfl) (by kernel_rfl) (by kernel_rfl)) ?_
  intro W base args ds gs before hval0 hW hcnd _
  have hval : ∀ (j : Nat) t v, Try.f3.params[j]? = some t → args[j]? = some v → Value.okWide Try.prog W .any base t v := hval0
  have hW' := hW
  obtain ⟨p, q, hA0, hV, rfl, hfz, hnd⟩ := hW
  have hA : DataW.TrodAll enc Try.prog W 0 (fun _ => true) true Try.f3.params.toList args.toList ds p := hA0
  rw [Try.params3] at hA hval
  obtain ⟨v0, vs0, d0, ds0, p0, q0, hargs, rfl, rfl, h0, r0⟩ := trodAll_cons hA
  obtain ⟨v1, vs1, d1, ds1, p1, q1, rfl, rfl, rfl, h1, r1⟩ := trodAll_cons r0
  obtain ⟨v2, vs2, d2, ds2, p2, q2, rfl, rfl, rfl, h2, r2⟩ := trodAll_cons r1
  obtain ⟨rfl, rfl, rfl⟩ := trodAll_nil r2
  obtain rfl : args = #[v0, v1, v2] := by cases args; simp_all
  obtain ⟨rfl, rfl⟩ := trodVars_none hV
  have k0 := h0
  have lt0 : ∀ x ∈ p0, x.block < W.heap.size := by obtain ⟨m, hm⟩ := k0; exact DataW.trod_lt m _ _ _ hm
  obtain ⟨a0, rfl⟩ := open_sup Try.underlying23 rfl Try.underlying3 (by kernel_rfl) (by kernel_rfl) (hval 0 23 v0 rfl rfl) h0
  have w0 : True := trivial
  obtain ⟨a1, len1, cap1, rfl⟩ := okWide_slice Try.underlying24 (hval 1 24 v1 rfl rfl)
  have k1 := h1
  have lt1 : ∀ x ∈ p1, x.block < W.heap.size := by obtain ⟨m, hm⟩ := k1; exact DataW.trod_lt m _ _ _ hm
  obtain ⟨z1, w1⟩ : ∃ zs, Wd.RawB W a1 len1 cap1 zs := by
    obtain ⟨fuel, hf⟩ := h1
    exact Wd.open_bytes Try.underlying24 Try.underlying5 (by kernel_rfl) hf
  obtain ⟨a2, len2, cap2, rfl⟩ := okWide_slice Try.underlying24 (hval 2 24 v2 rfl rfl)
  have k2 := h2
  have lt2 : ∀ x ∈ p2, x.block < W.heap.size := by obtain ⟨m, hm⟩ := k2; exact DataW.trod_lt m _ _ _ hm
  obtain ⟨z2, w2⟩ : ∃ zs, Wd.RawB W a2 len2 cap2 zs := by
    obtain ⟨fuel, hf⟩ := h2
    exact Wd.open_bytes Try.underlying24 Try.underlying5 (by kernel_rfl) hf
  clear hA0 hval0
  refine (walk a0 a1 len1 cap1 z1 a2 len2 cap2 z2 W w0 w1 w2).mono fun e W' ⟨he, bel⟩ => ?_
  subst he
  exact ⟨_, rfl, _, _, _, [], _, [], hW', trodAll_mk1 (shut_bool Try.underlying4 _), (trodAll_cons_mk (Below.trod laidOut (by kernel_rfl) (of_decide_eq_true (by kernel_rfl)) k0 bel lt0) (trodAll_cons_mk (Below.trod laidOut (by kernel_rfl) (of_decide_eq_true (by kernel_rfl)) k1 bel lt1) (trodAll_cons_mk (Below.trod laidOut (by kernel_rfl) (of_decide_eq_true (by kernel_rfl)) k2 bel lt2) trodAll_mk0))), rfl, bel.frame _, fun h => by cases h⟩

theorem over : Rows.superExactRow.holds Try.pinned (OpenSpec.ofChange Rows.superExactSpec) :=
  OpenClaim.holds_of_wide 3 Try.f3 rfl rfl rfl rfl rfl rfl rfl ⟨rfl, rfl, rfl, rfl, rfl⟩ rfl rfl rfl rfl rfl (by kernel_rfl) Try.func3 (by kernel_rfl)
    (of_decide_eq_true (by kernel_rfl)) (by unfold Func.isWrapper; first | (rw [if_pos (by decide +kernel)]; kernel_rfl) | (rw [if_neg (by decide +kernel)]; exact ⟨rfl, rfl⟩))
    (fun os started H enc _ => lifted os started H enc)

theorem proved : Rows.SuperExactSaid := over
end Go.Proofs.Ytkddnjpkkkknfaa.superExact

namespace Go.Proofs.Ytkddnjpkkkknfaa
/-- For every superblock and every two slices of bytes, Go's SuperExact (whether any superblock is right, its block, what any block says, which slot is picked, or why not, are the page's) returns true and leaves its arguments as they were; no condition. -/
theorem superExact_holds : Rows.SuperExactSaid := superExact.proved
#print axioms superExact_holds
end Go.Proofs.Ytkddnjpkkkknfaa
