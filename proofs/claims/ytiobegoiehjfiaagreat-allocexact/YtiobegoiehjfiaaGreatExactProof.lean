/-
  For all counts, every two numbers and all bytes, Go's AllocExact (what is free by any counts, what is taken of any, one more, one less, how many any image has left, or why not, are the page's) returns true, and the counts and the bytes stay; no condition.
-/
import Derived.Test.YtiobegoiehjfiaaGreatRows
import Derived.Test.YtiobegoiehjfiaaGreatNc
import Derived.Test.YtiobegoiehjfiaaGreatNd
import Derived.Test.YtiobegoiehjfiaaGreatNe
import Derived.Test.YtiobegoiehjfiaaGreatNf
import Derived.WalkKit
import Derived.ProofKit
import Derived.OpenShut
import Derived.ShutString
import Derived.ChangeOld
import Derived.Below
import Derived.Laws.Cover2
namespace Go.Proofs.YtiobegoiehjfiaaGreat.allocExact
open Go.ChangeShapes Go.WideShapes Go.ChangeAt Go.RowKit
set_option linter.unusedVariables false

theorem own : ownKnob Tryz.prog.godebug = none := by kernel_rfl
theorem laidOut : laidOutB Tryz.prog = true := by kernel_rfl

/-- WHAT THE WALK IS TOLD OF A SLICE OF INTEGERS THAT CAME IN: it is nil; or it leads to a row of 'cap' cells, the numbers 'zs', each fitting its kind. -/
def IsRow (k : IntKind) (w : World) (a : Option Addr) (len cap : Nat) (zs : List Int) : Prop :=
  (a = none ∧ len = 0 ∧ cap = 0 ∧ zs = []) ∨
  ∃ x, a = some x ∧ len ≤ cap ∧ cap ≤ maxLen ∧ zs.length = cap ∧ (∀ i, i < zs.length → w.cell? (x.add i) = some (.int k (zs.getD i 0))) ∧ ∀ n ∈ zs, (Lit.int k n).wf = true

theorem walk (a0 : Option Addr) (len0 cap0 : Nat) (z0 : List Int) (a1 : Int) (a2 : Int) (a3 : Option Addr) (len3 cap3 : Nat) (z3 : List Int) (w : World) (w0 : IsRow .i64 w a0 len0 cap0 z0) (w1 : (Lit.int .i64 a1).wf = true) (w2 : (Lit.int .i64 a2).wf = true) (w3 : Wd.RawB w a3 len3 cap3 z3) :
    Calls Tryz.prog 3 #[.slice a0 len0 cap0, .int .i64 a1, .int .i64 a2, .slice a3 len3 cap3] w fun e w' => e = .returned (.bool true) ∧ Below w.heap.size w w' := by
  by_cases hm : len0 ≤ 400 ∨ 4096 < len0 ∧ len0 ≤ 4106
  · by_cases hi : len3 ≤ 19200
    · have hv := w3.bs (by omega)
      have hu : Wd.In w (.slice a0 len0 cap0) (z0.take len0) := by
        rcases w0 with ⟨rfl, rfl, rfl, rfl⟩ | ⟨x, rfl, h1, h2, h3, h4, _⟩
        · exact Wv.Rv.nil w
        · refine Wv.Rv.of_row (by omega) (.inr ⟨x, rfl, h1, h2, by simp; omega, fun i hi => ?_⟩)
          rw [h4 i (by omega)]
          simp [hi]
      have hsh : Wv.Shaped (.slice a0 len0 cap0) := by
        rcases w0 with ⟨rfl, rfl, rfl, rfl⟩ | ⟨x, rfl, _⟩
        · exact .inl rfl
        · exact .inr ⟨x, _, _, rfl⟩
      rcases hm with hm | hm
      · by_cases hE : opnE z3 = 0
        · by_cases hp0 : a1 < 0
          · exact allocExact_short_some_low a0 len0 cap0 _ a1 a2 a3 len3 cap3 z3 w hu hsh hv hm hi hE hp0
          · by_cases hp1 : (len0 : Int) < a1
            · exact allocExact_short_some_far a0 len0 cap0 _ a1 a2 a3 len3 cap3 z3 w hu hsh hv hm hi hE hp0 hp1
            · exact allocExact_short_some_ok a0 len0 cap0 _ a1 a2 a3 len3 cap3 z3 w hu hsh hv hm hi hE hp0 hp1
        · by_cases hp0 : a1 < 0
          · exact allocExact_short_none_low a0 len0 cap0 _ a1 a2 a3 len3 cap3 z3 w hu hsh hv hm hi hE hp0
          · by_cases hp1 : (len0 : Int) < a1
            · exact allocExact_short_none_far a0 len0 cap0 _ a1 a2 a3 len3 cap3 z3 w hu hsh hv hm hi hE hp0 hp1
            · exact allocExact_short_none_ok a0 len0 cap0 _ a1 a2 a3 len3 cap3 z3 w hu hsh hv hm hi hE hp0 hp1
      · by_cases hE : opnE z3 = 0
        · exact allocExact_long_some a0 len0 cap0 _ a1 a2 a3 len3 cap3 z3 w hu hsh hv hm hi hE
        · exact allocExact_long_none a0 len0 cap0 _ a1 a2 a3 len3 cap3 z3 w hu hsh hv hm hi hE
    · exact allocExact_heavy a0 len0 cap0 a1 a2 a3 len3 cap3 w hm (by omega)
  · exact allocExact_far a0 len0 cap0 a1 a2 a3 len3 cap3 w (by omega)

set_option maxRecDepth 100000 in
theorem lifted (os : Os) (started : os.Started) (H : Type) (enc : TypeId × Value → H) :
    ReturnsInHanded {} Tryz.checked os 3 .any (Rows.allocExactSpec.pre6 enc Tryz.prog Tryz.f3 Rows.allocExactRow.domain false) (Rows.allocExactSpec.post enc Tryz.prog Tryz.f3 false true false false) := by
  refine returnsInHanded_of_change (C := Tryz.checked) own started (by kernel_rfl) Tryz.func3
    (ChangeSpec.witness6 (enc := enc) (C := Tryz.checked) false ⟨#[], #[.slice none 0 0, .int .i64 0, .int .i64 0, .slice none 0 0], []⟩ 8 (by kernel_rfl) (by kernel_rfl) (by kernel_rfl) (by kernel_rfl)) ?_
  intro W base args ds gs before hval0 hW hcnd _
  have hval : ∀ (j : Nat) t v, Tryz.f3.params[j]? = some t → args[j]? = some v → Value.okWide Tryz.prog W .any base t v := hval0
  have hW' := hW
  obtain ⟨p, q, hA0, hV, rfl, hfz, hnd⟩ := hW
  have hA : DataW.TrodAll enc Tryz.prog W 0 (fun _ => true) true Tryz.f3.params.toList args.toList ds p := hA0
  rw [Tryz.params3] at hA hval
  obtain ⟨v0, vs0, d0, ds0, p0, q0, hargs, rfl, rfl, h0, r0⟩ := trodAll_cons hA
  obtain ⟨v1, vs1, d1, ds1, p1, q1, rfl, rfl, rfl, h1, r1⟩ := trodAll_cons r0
  obtain ⟨v2, vs2, d2, ds2, p2, q2, rfl, rfl, rfl, h2, r2⟩ := trodAll_cons r1
  obtain ⟨v3, vs3, d3, ds3, p3, q3, rfl, rfl, rfl, h3, r3⟩ := trodAll_cons r2
  obtain ⟨rfl, rfl, rfl⟩ := trodAll_nil r3
  obtain rfl : args = #[v0, v1, v2, v3] := by cases args; simp_all
  obtain ⟨rfl, rfl⟩ := trodVars_none hV
  obtain ⟨a0, len0, cap0, rfl⟩ := okWide_slice Tryz.underlying22 (hval 0 22 v0 rfl rfl)
  have k0 := h0
  have lt0 : ∀ x ∈ p0, x.block < W.heap.size := by obtain ⟨m, hm⟩ := k0; exact DataW.trod_lt m _ _ _ hm
  obtain ⟨z0, w0⟩ : ∃ zs, IsRow .i64 W a0 len0 cap0 zs := by
    obtain ⟨fuel, hf⟩ := h0
    rcases open_ints Tryz.underlying22 Tryz.underlying3 (by kernel_rfl) hf with ⟨hcs, _⟩ | ⟨x, l, c, zs, hcs, _, hl, hm, hz, _, hcell, hwz⟩
    · simp [Value.cells] at hcs
      obtain ⟨rfl, rfl, rfl⟩ := hcs
      exact ⟨[], .inl ⟨rfl, rfl, rfl, rfl⟩⟩
    · simp [Value.cells] at hcs
      obtain ⟨rfl, rfl, rfl⟩ := hcs
      exact ⟨zs, .inr ⟨_, rfl, hl, hm, by simpa using hz, hcell, hwz⟩⟩
  obtain ⟨a1, rfl, rfl, rfl, w1⟩ := open_int Tryz.underlying3 (hval 1 3 v1 rfl rfl) h1
  obtain ⟨a2, rfl, rfl, rfl, w2⟩ := open_int Tryz.underlying3 (hval 2 3 v2 rfl rfl) h2
  obtain ⟨a3, len3, cap3, rfl⟩ := okWide_slice Tryz.underlying23 (hval 3 23 v3 rfl rfl)
  have k3 := h3
  have lt3 : ∀ x ∈ p3, x.block < W.heap.size := by obtain ⟨m, hm⟩ := k3; exact DataW.trod_lt m _ _ _ hm
  obtain ⟨z3, w3⟩ : ∃ zs, Wd.RawB W a3 len3 cap3 zs := by
    obtain ⟨fuel, hf⟩ := h3
    exact Wd.open_bytes Tryz.underlying23 Tryz.underlying5 (by kernel_rfl) hf
  clear hA0 hval0
  refine (walk a0 len0 cap0 z0 a1 a2 a3 len3 cap3 z3 W w0 w1 w2 w3).mono fun e W' ⟨he, bel⟩ => ?_
  subst he
  exact ⟨_, rfl, _, _, _, [], _, [], hW', trodAll_mk1 (shut_bool Tryz.underlying4 _), (trodAll_cons_mk (Below.trod laidOut (by kernel_rfl) (of_decide_eq_true (by kernel_rfl)) k0 bel lt0) (trodAll_cons_mk (shut_int Tryz.underlying3 w1) (trodAll_cons_mk (shut_int Tryz.underlying3 w2) (trodAll_cons_mk (Below.trod laidOut (by kernel_rfl) (of_decide_eq_true (by kernel_rfl)) k3 bel lt3) trodAll_mk0)))), rfl, bel.frame _, fun h => by cases h⟩

theorem over : Rows.allocExactRow.holds Tryz.pinned (OpenSpec.ofChange Rows.allocExactSpec) :=
  OpenClaim.holds_of_wide 3 Tryz.f3 rfl rfl rfl rfl rfl rfl rfl ⟨rfl, rfl, rfl, rfl, rfl⟩ rfl rfl rfl rfl rfl (by kernel_rfl) Tryz.func3 (by kernel_rfl)
    (of_decide_eq_true (by kernel_rfl)) (by unfold Func.isWrapper; first | (rw [if_pos (by decide +kernel)]; kernel_rfl) | (rw [if_neg (by decide +kernel)]; exact ⟨rfl, rfl⟩))
    (fun os started H enc _ => lifted os started H enc)

theorem proved : Rows.AllocExactSaid := over
end Go.Proofs.YtiobegoiehjfiaaGreat.allocExact

namespace Go.Proofs.YtiobegoiehjfiaaGreat
/-- For all counts, every two numbers and all bytes, Go's AllocExact (what is free by any counts, what is taken of any, one more, one less, how many any image has left, or why not, are the page's) returns true, and the counts and the bytes stay; no condition. -/
theorem allocExact_holds : Rows.AllocExactSaid := allocExact.proved
#print axioms allocExact_holds
end Go.Proofs.YtiobegoiehjfiaaGreat
