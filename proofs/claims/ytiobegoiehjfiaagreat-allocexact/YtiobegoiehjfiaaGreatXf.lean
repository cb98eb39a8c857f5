/-
  The region in which the page's Open puts a tree's map and its nodes behind the elder ones, whatever order it is done in: the region itself.
-/
import Derived.Test.YtiobegoiehjfiaaGreatXe
namespace Go.Proofs.YtiobegoiehjfiaaGreat
open Go.RowKit

abbrev r25 : Array Oper :=
  #[
    { dst := some 113, op := Op.fieldAddr 41 (Operand.tmp 4) 2, type := 0, pos := "ref.go:160", after := #[], guard := none }, 
    { dst := some 114, op := Op.load 39 (Operand.tmp 113), type := 39, pos := "ref.go:160", after := #[{ on := 0, ground := Ground.data }], guard := none }, 
    { dst := some 115, op := Op.move (Operand.tmp 15), type := 22, pos := "ref.go:160", after := #[], guard := none }, 
    { dst := some 116, op := Op.buildSlice 39 1 #[(0, Operand.tmp 115)], type := 39, pos := "ref.go:160", after := #[{ on := 2, ground := Ground.data }], guard := none }, 
    { dst := some 117, op := Op.call { callee := Callee.builtin Builtin.append, args := #[Operand.tmp 114, Operand.tmp 116], argTypes := #[39, 39] }, type := 39, pos := "ref.go:160", after := #[{ on := 1, ground := Ground.data }, { on := 3, ground := Ground.data }], guard := none }, 
    { dst := some 118, op := Op.fieldAddr 41 (Operand.tmp 4) 3, type := 0, pos := "ref.go:160", after := #[], guard := none }, 
    { dst := some 119, op := Op.load 39 (Operand.tmp 118), type := 39, pos := "ref.go:160", after := #[{ on := 5, ground := Ground.data }], guard := none }, 
    { dst := some 120, op := Op.move (Operand.tmp 16), type := 22, pos := "ref.go:160", after := #[], guard := none }, 
    { dst := some 121, op := Op.buildSlice 39 1 #[(0, Operand.tmp 120)], type := 39, pos := "ref.go:160", after := #[{ on := 7, ground := Ground.data }], guard := none }, 
    { dst := some 122, op := Op.call { callee := Callee.builtin Builtin.append, args := #[Operand.tmp 119, Operand.tmp 121], argTypes := #[39, 39] }, type := 39, pos := "ref.go:160", after := #[{ on := 6, ground := Ground.data }, { on := 8, ground := Ground.data }, { on := 4, ground := Ground.chain }], guard := none }, 
    { dst := some 123, op := Op.fieldAddr 41 (Operand.tmp 4) 2, type := 0, pos := "ref.go:160", after := #[{ on := 0, ground := Ground.phase }, { on := 1, ground := Ground.phase }, { on := 2, ground := Ground.phase }, { on := 3, ground := Ground.phase }, { on := 4, ground := Ground.phase }, { on := 5, ground := Ground.phase }, { on := 6, ground := Ground.phase }, { on := 7, ground := Ground.textOnly Departure.lateStores }, { on := 8, ground := Ground.textOnly Departure.lateStores }, { on := 9, ground := Ground.textOnly Departure.lateStoresUnsure }], guard := none }, 
    { dst := none, op := Op.store 39 (Operand.tmp 123) (Operand.tmp 117), type := 0, pos := "ref.go:160", after := #[{ on := 10, ground := Ground.data }, { on := 4, ground := Ground.data }, { on := 9, ground := Ground.chain }, { on := 0, ground := Ground.phase }, { on := 1, ground := Ground.phase }, { on := 2, ground := Ground.phase }, { on := 3, ground := Ground.phase }, { on := 4, ground := Ground.phase }, { on := 5, ground := Ground.phase }, { on := 6, ground := Ground.phase }, { on := 7, ground := Ground.textOnly Departure.lateStores }, { on := 8, ground := Ground.textOnly Departure.lateStores }, { on := 9, ground := Ground.textOnly Departure.lateStoresUnsure }], guard := none }, 
    { dst := some 124, op := Op.fieldAddr 41 (Operand.tmp 4) 3, type := 0, pos := "ref.go:160", after := #[{ on := 0, ground := Ground.phase }, { on := 1, ground := Ground.phase }, { on := 2, ground := Ground.phase }, { on := 3, ground := Ground.phase }, { on := 4, ground := Ground.phase }, { on := 5, ground := Ground.phase }, { on := 6, ground := Ground.phase }, { on := 7, ground := Ground.phase }, { on := 8, ground := Ground.phase }, { on := 9, ground := Ground.phase }, { on := 10, ground := Ground.phase }, { on := 11, ground := Ground.phase }], guard := none }, 
    { dst := none, op := Op.store 39 (Operand.tmp 124) (Operand.tmp 122), type := 0, pos := "ref.go:160", after := #[{ on := 12, ground := Ground.data }, { on := 9, ground := Ground.data }, { on := 11, ground := Ground.chain }, { on := 0, ground := Ground.phase }, { on := 1, ground := Ground.phase }, { on := 2, ground := Ground.phase }, { on := 3, ground := Ground.phase }, { on := 4, ground := Ground.phase }, { on := 5, ground := Ground.phase }, { on := 6, ground := Ground.phase }, { on := 7, ground := Ground.phase }, { on := 8, ground := Ground.phase }, { on := 9, ground := Ground.phase }, { on := 10, ground := Ground.phase }, { on := 11, ground := Ground.phase }], guard := none }]

/-- The slots that are written. -/
def sl25 : List Nat := [113, 114, 115, 116, 117, 118, 119, 120, 121, 122, 123, 124]
/-- The j-th operation's slot. -/
def s25 (j : Nat) : Nat := if j = 12 then 124 else 113 + j
theorem s25_mem : ∀ j, j < 13 → j ≠ 11 → s25 j ∈ sl25 ∧ s25 j < 240 := by decide
theorem s25_inj : ∀ i, i < 13 → ∀ j, j < 13 → i ≠ 11 → j ≠ 11 → s25 i = s25 j → i = j := by decide
/-- What is known ahead of what the operations that only read leave. -/
def F25 (P : Nat) (vm vn vp vq : Value) (j : Nat) : Value :=
  match j with
  | 0 => .pointer (some ⟨P, 8, none⟩)
  | 1 => vm
  | 2 => vp
  | 5 => .pointer (some ⟨P, 9, none⟩)
  | 6 => vn
  | 7 => vq
  | 10 => .pointer (some ⟨P, 8, none⟩)
  | 12 => .pointer (some ⟨P, 9, none⟩)
  | _ => undef
def q25 (j : Nat) : Bool := j == 0 || j == 1 || j == 2 || j == 5 || j == 6 || j == 7 || j == 10 || j == 12
/-- What has come up ahead of what. -/
def Imp (l : Array Bool) : Prop := (l.getD 12 false = true → l.getD 11 false = true) ∧ (l.getD 13 false = true → l.getD 12 false = true) ∧ (l.getD 11 false = true → ∀ j, j < 11 → l.getD j false = true) ∧
  (l.getD 8 false = true → l.getD 7 false = true) ∧ (l.getD 9 false = true → l.getD 8 false = true ∧ l.getD 4 false = true) ∧ (l.getD 4 false = true → l.getD 3 false = true)
theorem get_set {l : Array Bool} (hs : l.size = 14) {i j : Nat} (hj : j < 14) : (l.setIfInBounds i true).getD j false = (if i = j then true else l.getD j false) := by
  by_cases e : i = j
  · subst e
    rw [if_pos rfl]
    simp [Array.getD_eq_getD_getElem?, show i < l.size by omega]
  · rw [if_neg e]
    simp [Array.getD_eq_getD_getElem?, e]
theorem Imp.set {l : Array Bool} (hs : l.size = 14) {i : Nat} (h : Imp l) (d12 : i = 12 → l.getD 11 false = true) (d13 : i = 13 → l.getD 12 false = true) (d11 : i = 11 → ∀ j, j < 11 → l.getD j false = true)
    (d8 : i = 8 → l.getD 7 false = true) (d9 : i = 9 → l.getD 8 false = true ∧ l.getD 4 false = true) (d4 : i = 4 → l.getD 3 false = true) : Imp (l.setIfInBounds i true) := by
  obtain ⟨h1, h2, h3, h4, h5, h6⟩ := h
  unfold Imp
  rw [get_set hs (by decide : 12 < 14), get_set hs (by decide : 11 < 14), get_set hs (by decide : 13 < 14), get_set hs (by decide : 8 < 14), get_set hs (by decide : 7 < 14), get_set hs (by decide : 9 < 14), get_set hs (by decide : 4 < 14), get_set hs (by decide : 3 < 14)]
  refine ⟨fun h => ?_, fun h => ?_, fun h j hj => ?_, fun h => ?_, fun h => ?_, fun h => ?_⟩
  · by_cases e : i = 11
    · rw [if_pos e]
    · rw [if_neg e]
      by_cases e2 : i = 12
      · exact d12 e2
      · rw [if_neg e2] at h; exact h1 h
  · by_cases e : i = 12
    · rw [if_pos e]
    · rw [if_neg e]
      by_cases e2 : i = 13
      · exact d13 e2
      · rw [if_neg e2] at h; exact h2 h
  · rw [get_set hs (by omega)]
    by_cases e : i = j
    · rw [if_pos e]
    · rw [if_neg e]
      by_cases e2 : i = 11
      · exact d11 e2 j hj
      · rw [if_neg e2] at h; exact h3 h j hj
  · by_cases e : i = 7
    · rw [if_pos e]
    · rw [if_neg e]
      by_cases e2 : i = 8
      · exact d8 e2
      · rw [if_neg e2] at h; exact h4 h
  · by_cases e2 : i = 9
    · have := d9 e2
      exact ⟨by rw [this.1]; split <;> rfl, by rw [this.2]; split <;> rfl⟩
    · rw [if_neg e2] at h
      have := h5 h
      exact ⟨by rw [this.1]; split <;> rfl, by rw [this.2]; split <;> rfl⟩
  · by_cases e : i = 3
    · rw [if_pos e]
    · rw [if_neg e]
      by_cases e2 : i = 4
      · exact d4 e2
      · rw [if_neg e2] at h; exact h6 h

section
variable {b0 P : Nat} {W : World} {s : Ws.Sup} {tt : Int} {rr bb vm vn : Value} {Ms Ns : List (List Int)} {lm ln : List Int} {vp vq : Value} {t : Array Value} {d : List Deferred}
/-- The invariant. -/
def Iv25 (b0 P : Nat) (W : World) (s : Ws.Sup) (tt : Int) (rr bb vm vn : Value) (Ms Ns : List (List Int)) (lm ln : List Int) (vp vq : Value) (t : Array Value) (d : List Deferred) (l : Array Bool) (a : Act) (w : World) : Prop :=
  ∃ u, a = { tmps := Wo.setAll sl25 u t, defers := d } ∧ Imp l ∧ (∀ j, j < 14 → q25 j = true → l.getD j false = true → u (s25 j) = F25 P vm vn vp vq j) ∧
    (l.getD 11 false = false → W1 b0 P W vm vn Ms Ns lm ln vp vq (l.getD 3 false) (l.getD 4 false) (l.getD 8 false) (l.getD 9 false) (u 116) (u 117) (u 121) (u 122) w) ∧
    (l.getD 11 false = true → W2 b0 P W s tt rr bb vn Ms Ns lm ln (l.getD 13 false) (u 117) (u 122) w)

/-- An operation that leaves memory as it is. -/
theorem r25_quiet {Q : Exit → Act → World → Prop} (ht : t.size = 240) {l : Array Bool} {w : World} {i : Nat} {o : Oper} {u : Nat → Value} (hs : l.size = 14) (hi : i < 14) (hq : q25 i = true) (hl : l.getD i false = false)
    (hI : Imp l) (hF : ∀ j, j < 14 → q25 j = true → l.getD j false = true → u (s25 j) = F25 P vm vn vp vq j)
    (h1 : l.getD 11 false = false → W1 b0 P W vm vn Ms Ns lm ln vp vq (l.getD 3 false) (l.getD 4 false) (l.getD 8 false) (l.getD 9 false) (u 116) (u 117) (u 121) (u 122) w)
    (h2 : l.getD 11 false = true → W2 b0 P W s tt rr bb vn Ms Ns lm ln (l.getD 13 false) (u 117) (u 122) w) (d12 : i = 12 → l.getD 11 false = true)
    (ho : r25[i]? = some o) (hg : o.guard = none) (hd : o.dst = some (s25 i)) (hrun : (execOp (Act.eval { tmps := Wo.setAll sl25 u t, defers := d }) o).run Tryz.prog w = .ok (.value (F25 P vm vn vp vq i)) w) :
    wpOp Tryz.prog r25 Q i (Iv25 b0 P W s tt rr bb vm vn Ms Ns lm ln vp vq t d (l.setIfInBounds i true)) { tmps := Wo.setAll sl25 u t, defers := d } w := by
  have hq' : i = 0 ∨ i = 1 ∨ i = 2 ∨ i = 5 ∨ i = 6 ∨ i = 7 ∨ i = 10 ∨ i = 12 := by
    unfold q25 at hq
    simp only [Bool.or_eq_true, beq_iff_eq] at hq
    omega
  refine Wo.wpOp_run ho hg hrun ?_
  have hm := s25_mem i (by omega) (by omega)
  have hne : ∀ k, k = 116 ∨ k = 117 ∨ k = 121 ∨ k = 122 → ¬ k = s25 i := by
    intro k hk
    rintro rfl
    rcases hq' with rfl | rfl | rfl | rfl | rfl | rfl | rfl | rfl <;> revert hk <;> decide
  have hu : ∀ k, k = 116 ∨ k = 117 ∨ k = 121 ∨ k = 122 → Wo.upd u (s25 i) (F25 P vm vn vp vq i) k = u k := fun k hk => if_neg (hne k hk)
  have hk : ∀ j, j < 14 → i ≠ j → (l.setIfInBounds i true).getD j false = l.getD j false := fun j hj e => by rw [get_set hs hj, if_neg e]
  refine ⟨Wo.upd u (s25 i) (F25 P vm vn vp vq i), ?_, hI.set hs d12 (by omega) (by omega) (by omega) (by omega) (by omega), fun j hj hqj hlj => ?_, fun h => ?_, fun h => ?_⟩
  · rw [hd]
    simp only [Act.put]
    rw [Wo.setAll_put _ _ _ _ _ hm.1 (by omega)]
  · by_cases e : i = j
    · subst e
      simp [Wo.upd]
    · have hj' : j ≠ 11 ∧ j < 13 := by
        unfold q25 at hqj
        simp only [Bool.or_eq_true, beq_iff_eq] at hqj
        omega
      have : ¬ s25 j = s25 i := fun h => e (s25_inj j hj'.2 i (by omega) hj'.1 (by omega) h).symm
      rw [hk j hj e] at hlj
      simp only [Wo.upd, if_neg this]
      exact hF j hj hqj hlj
  · rw [hk 11 (by decide) (by omega)] at h
    rw [hk 3 (by decide) (by omega), hk 4 (by decide) (by omega), hk 8 (by decide) (by omega), hk 9 (by decide) (by omega), hu 116 (by omega), hu 117 (by omega), hu 121 (by omega), hu 122 (by omega)]
    exact h1 h
  · rw [hk 11 (by decide) (by omega)] at h
    rw [hk 13 (by decide) (by omega), hu 117 (by omega), hu 122 (by omega)]
    exact h2 h
end
/-- Where nothing may come up, all has. -/
theorem all25 (l : Array Bool) (hs : l.size = r25.size) (hr : Region.ready .any r25 l = []) : ∀ i, i < 14 → l.getD i false = true := by
  have hfw : ∀ i, i < 14 → ((r25[i]?).map (·.after.all fun e => decide (e.on < i))).getD false = true := by decide +kernel
  intro i
  induction i using Nat.strongRecOn with
  | ind i ih =>
    intro hi
    have hs10 : l.size = 14 := hs
    cases h : l.getD i false with
    | true => rfl
    | false =>
      exfalso
      have hl : l.getD i true = false := by simpa [Array.getD_eq_getD_getElem?, show i < l.size by omega] using h
      have hm : i ∈ Region.ready .any r25 l := by
        unfold Region.ready
        rw [List.mem_filter]
        refine ⟨List.mem_range.2 hi, ?_⟩
        have h1 := hfw i hi
        cases ho : r25[i]? with
        | none => rw [ho] at h1; cases h1
        | some o =>
          rw [ho] at h1
          simp only [Option.map_some, Option.getD_some, Array.all_eq_true', decide_eq_true_eq] at h1
          simp only [hl, Bool.not_false, Bool.true_and, Option.map_some, Option.getD_some, Array.all_eq_true', Bool.or_eq_true]
          intro e he
          exact .inr (ih e.on (h1 e he) (by have := h1 e he; omega))
      rw [hr] at hm
      cases hm
end Go.Proofs.YtiobegoiehjfiaaGreat
