/-
  A record that came in, by value. It speaks of no program but of its type.
-/
import Derived.Test.YtblbldoeknihaaaRchk
import Derived.Lib.SmallJoins
namespace Go.Proofs.Ytblbldoeknihaaa
open Go Go.RowKit Go.ChangeShapes Go.WideShapes Go.Joins

theorem array8 {α : Type} {cs : Array α} (h : cs.size = 8) : ∃ c0 c1 c2 c3 c4 c5 c6 c7, cs = #[c0, c1, c2, c3, c4, c5, c6, c7] := by
  obtain ⟨l⟩ := cs
  match l, h with
  | [c0, c1, c2, c3, c4, c5, c6, c7], _ => exact ⟨c0, c1, c2, c3, c4, c5, c6, c7, rfl⟩

theorem open_rec {P : Program} {W : World} {r : Reach} {b0 base : Nat} {t it : TypeId} {f0 f1 f2 f3 f4 f5 f6 f7 : Field} {v : Value} {H : Type} {enc : TypeId × Value → H} {sp : Nat → Bool} {held : Bool} {d : DataW H} {ps : List MemPlace}
    (hu : P.underlying t = some (.struct #[f0, f1, f2, f3, f4, f5, f6, f7])) (ht : [f0, f1, f2, f3, f4, f5, f6, f7].map (fun f => (f.type, f.offset)) = [(it, 0), (it, 1), (it, 2), (it, 3), (it, 4), (it, 5), (it, 6), (it, 7)]) (hi : P.underlying it = some (.int .i64)) (hc1 : P.cellsOf it = 1) (hc : P.cellsOf t = 8)
    (hv : Value.okWide P W r b0 t v) (hd : DataW.Trod enc P W base sp held t v d ps) : ∃ s : Wr.Rec, v = rv s := by
  obtain ⟨cs, rfl, hsz⟩ := okWide_struct hu hv
  obtain ⟨c0, c1, c2, c3, c4, c5, c6, c7, rfl⟩ := array8 (hsz.trans hc)
  obtain ⟨fuel, hf⟩ := hd
  obtain ⟨xs, n, _, _, hl, hlen, hf⟩ := DataW.trod_struct hu hf
  simp only [List.map_cons, List.map_nil, List.cons.injEq, Prod.mk.injEq, and_true] at ht
  obtain ⟨⟨t0, o0⟩, ⟨t1, o1⟩, ⟨t2, o2⟩, ⟨t3, o3⟩, ⟨t4, o4⟩, ⟨t5, o5⟩, ⟨t6, o6⟩, t7, o7⟩ := ht
  match xs, hlen with
  | [y0, y1, y2, y3, y4, y5, y6, y7], _ =>
    have g0 := hf 0 f0 rfl
    have g1 := hf 1 f1 rfl
    have g2 := hf 2 f2 rfl
    have g3 := hf 3 f3 rfl
    have g4 := hf 4 f4 rfl
    have g5 := hf 5 f5 rfl
    have g6 := hf 6 f6 rfl
    have g7 := hf 7 f7 rfl
    rw [t0, o0, hc1] at g0
    rw [t1, o1, hc1] at g1
    rw [t2, o2, hc1] at g2
    rw [t3, o3, hc1] at g3
    rw [t4, o4, hc1] at g4
    rw [t5, o5, hc1] at g5
    rw [t6, o6, hc1] at g6
    rw [t7, o7, hc1] at g7
    obtain ⟨z0, e0, -⟩ := DataW.trod_int hi g0
    obtain ⟨z1, e1, -⟩ := DataW.trod_int hi g1
    obtain ⟨z2, e2, -⟩ := DataW.trod_int hi g2
    obtain ⟨z3, e3, -⟩ := DataW.trod_int hi g3
    obtain ⟨z4, e4, -⟩ := DataW.trod_int hi g4
    obtain ⟨z5, e5, -⟩ := DataW.trod_int hi g5
    obtain ⟨z6, e6, -⟩ := DataW.trod_int hi g6
    obtain ⟨z7, e7, -⟩ := DataW.trod_int hi g7
    simp [Value.cells] at e0 e1 e2 e3 e4 e5 e6 e7
    subst e0 e1 e2 e3 e4 e5 e6 e7
    exact ⟨⟨z0, z1, z2, z3, z4, z5, z6, z7⟩, rfl⟩

end Go.Proofs.Ytblbldoeknihaaa
