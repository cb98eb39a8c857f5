/-
  The region in which DevBad draws one of seven steps that are not right, whatever order it is done in.
-/
import Derived.Test.YtjacpmbdmbahhaaDord
import Derived.Test.YtjacpmbdmbahhaaDtwo
namespace Wd
open Go Go.RowKit

def z64 : List Int := List.replicate 64 0
def z63 : List Int := List.replicate 63 0
/-- The steps that are not right, for a device of m blocks. -/
def badL (m : Nat) : List Io := [⟨1, m, z64⟩, ⟨1, -1, z64⟩, ⟨1, 0, z63⟩, ⟨2, 1, []⟩, ⟨2, 0, [1]⟩, ⟨0, 0, []⟩, ⟨3, 0, []⟩]

/-- A slice with an address that holds bytes. -/
def Dat (w : World) (v : Value) (xs : List Int) : Prop := ∃ g c, v = .slice (some g) xs.length c ∧ Wc.Bs w v xs

theorem Dat.keep {w w' : World} {v : Value} {xs : List Int} (h : Dat w v xs) (hb : Below w.heap.size w w') : Dat w' v xs := by
  obtain ⟨g, c, h1, h2⟩ := h
  exact ⟨g, c, h1, h2.keep hb⟩

/-- What the j-th operation leaves in its slot. -/
def Fact (m hq : Nat) (y : Int) (base : Nat) (j : Nat) (x : Value) (w : World) : Prop :=
  match j with
  | 0 => x = .int .i64 m
  | 1 => Dat w x z64
  | 2 => ∃ v, x = .agg #[.int .i64 1, .int .i64 m, v] ∧ Dat w v z64
  | 3 => Dat w x z64
  | 4 => ∃ v, x = .agg #[.int .i64 1, .int .i64 (-1), v] ∧ Dat w v z64
  | 5 => Dat w x z63
  | 6 => ∃ v, x = .agg #[.int .i64 1, .int .i64 0, v] ∧ Dat w v z63
  | 7 => x = .agg #[.int .i64 2, .int .i64 1, .slice none 0 0]
  | 8 => Dat w x [1]
  | 9 => ∃ v, x = .agg #[.int .i64 2, .int .i64 0, v] ∧ Dat w v [1]
  | 10 => x = .agg #[.int .i64 0, .int .i64 0, .slice none 0 0]
  | 11 => x = .agg #[.int .i64 3, .int .i64 0, .slice none 0 0]
  | 12 => ∃ g, x = .slice (some ⟨g, 0, none⟩) 7 7 ∧ Is w x (badL m)
  | 13 => x = .int .i64 y
  | 14 => x = .int .u64 (IntKind.u64.wrap y)
  | 15 => x = .int .u64 ((IntKind.u64.wrap y).tmod 7)
  | 16 => x = .int .i64 hq
  | 17 => ∃ g a c, x = .pointer (some ⟨g, hq * 3, none⟩) ∧ At w g (hq * 3) ((badL m).getD hq d0) a c
  | 18 => ∃ a c, x = .agg #[.int .i64 ((badL m).getD hq d0).kind, .int .i64 ((badL m).getD hq d0).pos, .slice a ((badL m).getD hq d0).data.length c] ∧ Held w ((badL m).getD hq d0, (a, c))
  | 19 => ∃ g, x = .pointer (some ⟨g, 0, none⟩) ∧ base ≤ g ∧ w.heap[g]? = some (.cells #[.int .i64 0, .int .i64 0, .slice none 0 0] 38)
  | _ => True

theorem Fact.keep {m hq : Nat} {y : Int} {base j : Nat} {x : Value} {w w' : World} (h : Fact m hq y base j x w) (hb : Below w.heap.size w w') : Fact m hq y base j x w' := by
  unfold Fact at *
  split <;> simp only at h
  all_goals first
    | exact h
    | exact h.keep hb
    | (obtain ⟨v, h1, h2⟩ := h; exact ⟨v, h1, h2.keep hb⟩)
    | (obtain ⟨g, a, c, h1, h2⟩ := h; exact ⟨g, a, c, h1, h2.keep hb⟩)
    | (obtain ⟨a, c, h1, h2⟩ := h; exact ⟨a, c, h1, h2.keep hb⟩)
    | (obtain ⟨g, h1, h2, h3⟩ := h; exact ⟨g, h1, h2, (hb.block g (Array.getElem?_eq_some_iff.1 h3).1).trans h3⟩)

/-- The j-th operation's slot. -/
def slot (j : Nat) : Nat := if j = 19 then 10 else 48 + j
def slots : List Nat := [10, 48, 49, 50, 51, 52, 53, 54, 55, 56, 57, 58, 59, 60, 61, 62, 63, 64, 65, 66]

/-- What is left in the end. -/
def Left (m hq : Nat) (x : Value) (w : World) : Prop := ∃ g a c, x = .pointer (some ⟨g, 0, none⟩) ∧ At w g 0 ((badL m).getD hq d0) a c

/-- The invariant. -/
def Inv (m hq : Nat) (y : Int) (w0 : World) (t : Array Value) (d : List Deferred) (listed : Array Bool) (a : Act) (w : World) : Prop :=
  ∃ u, a = { tmps := Wo.setAll slots u t, defers := d } ∧ Below w0.heap.size w0 w ∧ (listed.getD 20 false = true → (∀ j, j < 20 → listed.getD j false = true) ∧ Left m hq (u 10) w) ∧
    (listed.getD 20 false = false → ∀ j, j < 20 → listed.getD j false = true → Fact m hq y w0.heap.size j (u (slot j)) w)

theorem slot_mem : ∀ j, j < 20 → slot j ∈ slots ∧ slot j < 148 := by decide
theorem slot_inj : ∀ i, i < 20 → ∀ j, j < 20 → slot i = slot j → i = j := by decide

end Wd
namespace Go.Proofs.Ytjacpmbdmbahhaa
open Go.RowKit

abbrev r8 : Array Oper :=
  #[{ dst := some 48, op := Op.move (Operand.tmp 0), type := 3, pos := "more.go:18", after := #[], guard := none },
    { dst := some 49, op := Op.makeSlice 22 (Operand.const (Value.int IntKind.i64 64)) (Operand.const (Value.int IntKind.i64 64)), type := 22, pos := "more.go:18", after := #[], guard := none },
    { dst := some 50, op := Op.build 38 #[(0, Operand.const (Value.int IntKind.i64 1)), (1, Operand.tmp 48), (2, Operand.tmp 49)], type := 38, pos := "more.go:18", after := #[{ on := 0, ground := Ground.data }, { on := 1, ground := Ground.data }], guard := none },
    { dst := some 51, op := Op.makeSlice 22 (Operand.const (Value.int IntKind.i64 64)) (Operand.const (Value.int IntKind.i64 64)), type := 22, pos := "more.go:18", after := #[], guard := none },
    { dst := some 52, op := Op.build 38 #[(0, Operand.const (Value.int IntKind.i64 1)), (1, Operand.const (Value.int IntKind.i64 (-1))), (2, Operand.tmp 51)], type := 38, pos := "more.go:18", after := #[{ on := 3, ground := Ground.data }], guard := none },
    { dst := some 53, op := Op.makeSlice 22 (Operand.const (Value.int IntKind.i64 63)) (Operand.const (Value.int IntKind.i64 63)), type := 22, pos := "more.go:18", after := #[], guard := none },
    { dst := some 54, op := Op.build 38 #[(0, Operand.const (Value.int IntKind.i64 1)), (2, Operand.tmp 53)], type := 38, pos := "more.go:18", after := #[{ on := 5, ground := Ground.data }], guard := none },
    { dst := some 55, op := Op.build 38 #[(0, Operand.const (Value.int IntKind.i64 2)), (1, Operand.const (Value.int IntKind.i64 1))], type := 38, pos := "more.go:18", after := #[], guard := none },
    { dst := some 56, op := Op.buildSlice 22 1 #[(0, Operand.const (Value.int IntKind.u8 1))], type := 22, pos := "more.go:18", after := #[], guard := none },
    { dst := some 57, op := Op.build 38 #[(0, Operand.const (Value.int IntKind.i64 2)), (2, Operand.tmp 56)], type := 38, pos := "more.go:18", after := #[{ on := 8, ground := Ground.data }], guard := none },
    { dst := some 58, op := Op.build 38 #[], type := 38, pos := "more.go:18", after := #[], guard := none },
    { dst := some 59, op := Op.build 38 #[(0, Operand.const (Value.int IntKind.i64 3))], type := 38, pos := "more.go:18", after := #[], guard := none },
    { dst := some 60, op := Op.buildSlice 23 7 #[(0, Operand.tmp 50), (1, Operand.tmp 52), (2, Operand.tmp 54), (3, Operand.tmp 55), (4, Operand.tmp 57), (5, Operand.tmp 58), (6, Operand.tmp 59)], type := 23, pos := "more.go:18", after := #[{ on := 2, ground := Ground.data }, { on := 4, ground := Ground.data }, { on := 6, ground := Ground.data }, { on := 7, ground := Ground.data }, { on := 9, ground := Ground.data }, { on := 10, ground := Ground.data }, { on := 11, ground := Ground.data }], guard := none },
    { dst := some 61, op := Op.move (Operand.tmp 2), type := 3, pos := "more.go:18", after := #[], guard := none },
    { dst := some 62, op := Op.convert 3 50 (Operand.tmp 61), type := 50, pos := "more.go:18", after := #[{ on := 13, ground := Ground.data }], guard := none },
    { dst := some 63, op := Op.binOp BinOp.rem 50 (Operand.tmp 62) (Operand.const (Value.int IntKind.u64 7)) 50, type := 50, pos := "more.go:18", after := #[{ on := 14, ground := Ground.data }], guard := none },
    { dst := some 64, op := Op.convert 50 3 (Operand.tmp 63), type := 3, pos := "more.go:18", after := #[{ on := 15, ground := Ground.data }], guard := none },
    { dst := some 65, op := Op.indexAddr 23 (Operand.tmp 60) (Operand.tmp 64), type := 0, pos := "more.go:18", after := #[{ on := 12, ground := Ground.data }, { on := 16, ground := Ground.data }], guard := none },
    { dst := some 66, op := Op.load 38 (Operand.tmp 65), type := 38, pos := "more.go:18", after := #[{ on := 17, ground := Ground.data }], guard := none },
    { dst := some 10, op := Op.alloc 38, type := 0, pos := "more.go:18", after := #[], guard := none },
    { dst := none, op := Op.store 38 (Operand.tmp 10) (Operand.tmp 66), type := 0, pos := "more.go:18", after := #[{ on := 19, ground := Ground.data }, { on := 18, ground := Ground.data }, { on := 0, ground := Ground.phase }, { on := 1, ground := Ground.phase }, { on := 2, ground := Ground.phase }, { on := 3, ground := Ground.phase }, { on := 4, ground := Ground.phase }, { on := 5, ground := Ground.phase }, { on := 6, ground := Ground.phase }, { on := 7, ground := Ground.phase }, { on := 8, ground := Ground.phase }, { on := 9, ground := Ground.phase }, { on := 10, ground := Ground.phase }, { on := 11, ground := Ground.phase }, { on := 12, ground := Ground.phase }, { on := 13, ground := Ground.phase }, { on := 14, ground := Ground.phase }, { on := 15, ground := Ground.phase }, { on := 16, ground := Ground.phase }, { on := 17, ground := Ground.phase }, { on := 18, ground := Ground.phase }, { on := 19, ground := Ground.phase }], guard := none }]

theorem r8_size : r8.size = 21 := rfl

/-- One of the first twenty operations. -/
theorem r8_step {m hq : Nat} {y : Int} {w0 : World} {t : Array Value} {d : List Deferred} {Q : Exit → Act → World → Prop} (ht : t.size = 148) {listed : Array Bool} {w : World} {i : Nat} {o : Oper} {u : Nat → Value} {v : Value} {w' : World}
    (hi : i < 20) (hb : Below w0.heap.size w0 w) (h20 : listed.getD 20 false = false)
    (hF : ∀ j, j < 20 → listed.getD j false = true → Wd.Fact m hq y w0.heap.size j (u (Wd.slot j)) w)
    (ho : r8[i]? = some o) (hg : o.guard = none) (hd : o.dst = some (Wd.slot i)) (hrun : (execOp (Act.eval { tmps := Wo.setAll Wd.slots u t, defers := d }) o).run Try.prog w = .ok (.value v) w') (hbw : Below w.heap.size w w') (hv : Wd.Fact m hq y w0.heap.size i v w') :
    wpOp Try.prog r8 Q i (Wd.Inv m hq y w0 t d (listed.setIfInBounds i true)) { tmps := Wo.setAll Wd.slots u t, defers := d } w := by
  refine Wo.wpOp_run ho hg hrun ?_
  have hsl := Wd.slot_mem i hi
  refine ⟨Wo.upd u (Wd.slot i) v, ?_, Wc.step hb (Nat.le_refl _) hbw, fun h => ?_, fun _ j hj hlj => ?_⟩
  · rw [hd]
    simp only [Act.put]
    rw [Wo.setAll_put _ _ _ _ _ hsl.1 (by omega)]
  · have hne : ¬ i = 20 := by omega
    have : (listed.setIfInBounds i true).getD 20 false = listed.getD 20 false := by simp [Array.getD_eq_getD_getElem?, hne]
    rw [this, h20] at h
    cases h
  · by_cases hij : i = j
    · subst hij
      have : Wo.upd u (Wd.slot i) v (Wd.slot i) = v := by simp [Wo.upd]
      rw [this]; exact hv
    · have hne : ¬ Wd.slot j = Wd.slot i := fun e => hij (Wd.slot_inj j hj i hi e).symm
      have e1 : Wo.upd u (Wd.slot i) v (Wd.slot j) = u (Wd.slot j) := by simp [Wo.upd, hne]
      have e2 : (listed.setIfInBounds i true).getD j false = listed.getD j false := by simp [Array.getD_eq_getD_getElem?, hij]
      rw [e1]
      rw [e2] at hlj
      exact (hF j hj hlj).keep hbw

end Go.Proofs.Ytjacpmbdmbahhaa
