/-
  A command that came in, by value. It speaks of no program but of its type.
-/
import Derived.Test.YtfejabeifabdlaaFchk
import Derived.Test.YtfejabeifabdlaaDopen
import Derived.Lib.SmallJoins
namespace Go.Proofs.Ytfejabeifabdlaa
open Go Go.RowKit Go.ChangeShapes Go.WideShapes Go.Joins

theorem array9 {α : Type} {cs : Array α} (h : cs.size = 9) : ∃ c0 c1 c2 c3 c4 c5 c6 c7 c8, cs = #[c0, c1, c2, c3, c4, c5, c6, c7, c8] := by
  obtain ⟨l⟩ := cs
  match l, h with
  | [c0, c1, c2, c3, c4, c5, c6, c7, c8], _ => exact ⟨c0, c1, c2, c3, c4, c5, c6, c7, c8, rfl⟩

theorem i64_of {z : Int} (h : (Lit.int .i64 z).wf = true) : Wk.I64 z := by
  have := bounds_i64 h
  unfold Wk.I64; omega

theorem open_cmd {P : Program} {W : World} {r : Reach} {b0 base : Nat} {t it bt ut : TypeId} {f0 f1 f2 f3 f4 f5 f6 f7 f8 : Field} {v : Value} {H : Type} {enc : TypeId × Value → H} {sp : Nat → Bool} {held : Bool} {d : DataW H} {ps : List MemPlace}
    (hu : P.underlying t = some (.struct #[f0, f1, f2, f3, f4, f5, f6, f7, f8])) (ht : [f0, f1, f2, f3, f4, f5, f6, f7, f8].map (fun f => (f.type, f.offset)) = [(it, 0), (it, 1), (it, 2), (it, 3), (it, 4), (it, 5), (it, 6), (it, 7), (bt, 8)]) (hi : P.underlying it = some (.int .i64)) (hc1 : P.cellsOf it = 1) (hc : P.cellsOf t = 9)
    (hbt : P.underlying bt = some (.slice ut)) (hcb : P.cellsOf bt = 1) (hut : P.underlying ut = some (.int .u8)) (hcu : P.cellsOf ut = 1)
    (hv : Value.okWide P W r b0 t v) (hd : DataW.Trod enc P W base sp held t v d ps) : ∃ (c : Wk.Cmd) (a : Option Addr) (cap : Nat), v = cv c (.slice a c.data.length cap) ∧ Wd.RawB W a c.data.length cap c.data ∧ Wk.Held c := by
  obtain ⟨cs, rfl, hsz⟩ := okWide_struct hu hv
  obtain ⟨c0, c1, c2, c3, c4, c5, c6, c7, c8, rfl⟩ := array9 (hsz.trans hc)
  obtain ⟨fuel, hf⟩ := hd
  obtain ⟨xs, n, _, _, hl, hlen, hf⟩ := DataW.trod_struct hu hf
  simp only [List.map_cons, List.map_nil, List.cons.injEq, Prod.mk.injEq, and_true] at ht
  obtain ⟨⟨t0, o0⟩, ⟨t1, o1⟩, ⟨t2, o2⟩, ⟨t3, o3⟩, ⟨t4, o4⟩, ⟨t5, o5⟩, ⟨t6, o6⟩, ⟨t7, o7⟩, t8, o8⟩ := ht
  match xs, hlen with
  | [y0, y1, y2, y3, y4, y5, y6, y7, y8], _ =>
    have g0 := hf 0 f0 rfl
    have g1 := hf 1 f1 rfl
    have g2 := hf 2 f2 rfl
    have g3 := hf 3 f3 rfl
    have g4 := hf 4 f4 rfl
    have g5 := hf 5 f5 rfl
    have g6 := hf 6 f6 rfl
    have g7 := hf 7 f7 rfl
    have g8 := hf 8 f8 rfl
    rw [t0, o0, hc1] at g0
    rw [t1, o1, hc1] at g1
    rw [t2, o2, hc1] at g2
    rw [t3, o3, hc1] at g3
    rw [t4, o4, hc1] at g4
    rw [t5, o5, hc1] at g5
    rw [t6, o6, hc1] at g6
    rw [t7, o7, hc1] at g7
    rw [t8, o8, hcb] at g8
    obtain ⟨z0, e0, -, w0⟩ := DataW.trod_int hi g0
    obtain ⟨z1, e1, -, w1⟩ := DataW.trod_int hi g1
    obtain ⟨z2, e2, -, w2⟩ := DataW.trod_int hi g2
    obtain ⟨z3, e3, -, w3⟩ := DataW.trod_int hi g3
    obtain ⟨z4, e4, -, w4⟩ := DataW.trod_int hi g4
    obtain ⟨z5, e5, -, w5⟩ := DataW.trod_int hi g5
    obtain ⟨z6, e6, -, w6⟩ := DataW.trod_int hi g6
    obtain ⟨z7, e7, -, w7⟩ := DataW.trod_int hi g7
    simp [Value.cells] at e0 e1 e2 e3 e4 e5 e6 e7 g8
    subst e0 e1 e2 e3 e4 e5 e6 e7
    have hsl : ∃ a' n' c', c8 = .slice a' n' c' := by
      rcases open_ints hbt hut hcu g8 with ⟨h0, _⟩ | ⟨ad, len', cap', zs, h0, _⟩
      · simp at h0; exact ⟨_, _, _, h0⟩
      · simp at h0; exact ⟨_, _, _, h0⟩
    obtain ⟨a', n', c', rfl⟩ := hsl
    obtain ⟨zs, hz⟩ := Wd.open_bytes hbt hut hcu g8
    obtain rfl : n' = zs.length := hz.1.symm
    exact ⟨⟨z0, z1, z2, z3, z4, z5, z6, z7, zs⟩, a', c', rfl, hz, ⟨i64_of w0, i64_of w1, i64_of w2, i64_of w3, i64_of w4, i64_of w5, i64_of w6, i64_of w7⟩⟩

end Go.Proofs.Ytfejabeifabdlaa
