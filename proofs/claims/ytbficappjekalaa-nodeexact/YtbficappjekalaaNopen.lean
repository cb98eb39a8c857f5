/-
  A node that came in, by value. It speaks of no program but of its type.
-/
import Derived.Test.YtbficappjekalaaNchk
import Derived.Lib.SmallJoins
import Derived.OpenShut
namespace Go.Proofs.Ytbficappjekalaa
open Go Go.RowKit Go.ChangeShapes Go.WideShapes Go.Joins

theorem array9 {α : Type} {cs : Array α} (h : cs.size = 9) : ∃ c c0 c1 c2 c3 c4 c5 c6 c7, cs = #[c, c0, c1, c2, c3, c4, c5, c6, c7] := by
  obtain ⟨l⟩ := cs
  match l, h with
  | [c, c0, c1, c2, c3, c4, c5, c6, c7], _ => exact ⟨c, c0, c1, c2, c3, c4, c5, c6, c7, rfl⟩

theorem open_nod {P : Program} {W : World} {r : Reach} {b0 base : Nat} {t it at_ : TypeId} {f0 f1 : Field} {v : Value} {H : Type} {enc : TypeId × Value → H} {sp : Nat → Bool} {held : Bool} {d : DataW H} {ps : List MemPlace}
    (hu : P.underlying t = some (.struct #[f0, f1])) (ht : [f0, f1].map (fun f => (f.type, f.offset)) = [(it, 0), (at_, 1)]) (hi : P.underlying it = some (.int .i64)) (ha : P.underlying at_ = some (.array 8 it)) (hc1 : P.cellsOf it = 1) (hc8 : P.cellsOf at_ = 8) (hc : P.cellsOf t = 9)
    (hv : Value.okWide P W r b0 t v) (hd : DataW.Trod enc P W base sp held t v d ps) : ∃ s : Wn.Nod, v = nv s := by
  obtain ⟨cs, rfl, hsz⟩ := okWide_struct hu hv
  obtain ⟨c, c0, c1, c2, c3, c4, c5, c6, c7, rfl⟩ := array9 (hsz.trans hc)
  obtain ⟨fuel, hf⟩ := hd
  obtain ⟨xs, n, _, _, hl, hlen, hf⟩ := DataW.trod_struct hu hf
  simp only [List.map_cons, List.map_nil, List.cons.injEq, Prod.mk.injEq, and_true] at ht
  obtain ⟨⟨t0, o0⟩, t1, o1⟩ := ht
  match xs, hlen with
  | [y0, y1], _ =>
    have g0 := hf 0 f0 rfl
    have g1 := hf 1 f1 rfl
    rw [t0, o0, hc1] at g0
    rw [t1, o1, hc8] at g1
    obtain ⟨z, e, -⟩ := DataW.trod_int hi g0
    obtain ⟨zs, m, _, _, _, hzl, hz⟩ := DataW.trod_array ha g1
    rw [hc1] at hz
    match zs, hzl with
    | [q0, q1, q2, q3, q4, q5, q6, q7], _ =>
      obtain ⟨z0, e0, -⟩ := DataW.trod_int hi (hz 0 (by omega))
      obtain ⟨z1, e1, -⟩ := DataW.trod_int hi (hz 1 (by omega))
      obtain ⟨z2, e2, -⟩ := DataW.trod_int hi (hz 2 (by omega))
      obtain ⟨z3, e3, -⟩ := DataW.trod_int hi (hz 3 (by omega))
      obtain ⟨z4, e4, -⟩ := DataW.trod_int hi (hz 4 (by omega))
      obtain ⟨z5, e5, -⟩ := DataW.trod_int hi (hz 5 (by omega))
      obtain ⟨z6, e6, -⟩ := DataW.trod_int hi (hz 6 (by omega))
      obtain ⟨z7, e7, -⟩ := DataW.trod_int hi (hz 7 (by omega))
      simp [Value.cells] at e e0 e1 e2 e3 e4 e5 e6 e7
      subst e e0 e1 e2 e3 e4 e5 e6 e7
      exact ⟨⟨z, z0, z1, z2, z3, z4, z5, z6, z7⟩, rfl⟩

end Go.Proofs.Ytbficappjekalaa
