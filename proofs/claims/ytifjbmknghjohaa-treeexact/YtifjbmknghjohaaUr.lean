/-
  The region in which the page's Tree lays down its walk, whatever order it is done in.
-/
import Derived.Test.YtifjbmknghjohaaUy
import Derived.Test.YtifjbmknghjohaaDord
namespace Go.Proofs.Ytifjbmknghjohaa
open Go.RowKit

/-- A new row of marks. -/
def Mk (base m : Nat) (x : Value) (w : World) : Prop := ∃ g, x = .slice (some ⟨g, 0, none⟩) m m ∧ base ≤ g ∧ Marks w g m []
/-- A new row of sectors. -/
def Sk (base : Nat) (x : Value) (w : World) : Prop := ∃ g, x = .slice (some ⟨g, 0, none⟩) 512 512 ∧ base ≤ g ∧ w.rowIs g 3 512 (fun _ => .int .i64 0)

/-- What the j-th operation leaves in its slot. -/
def Fct (img : Value) (m base : Nat) (j : Nat) (x : Value) (w : World) : Prop :=
  match j with
  | 0 => x = img
  | 1 => x = .int .i64 m
  | 2 => x = .int .i64 m
  | 3 => Mk base m x w
  | 4 => x = .int .i64 m
  | 5 => Mk base m x w
  | 6 => Sk base x w
  | 7 => ∃ gs gd gm, x = .agg #[img, .int .i64 m, .slice none 0 0, .slice (some ⟨gs, 0, none⟩) m m, .slice (some ⟨gd, 0, none⟩) m m, .slice (some ⟨gm, 0, none⟩) 512 512, .bool true] ∧ base ≤ gs ∧ base ≤ gd ∧ base ≤ gm ∧ gs ≠ gd ∧ Marks w gs m [] ∧ Marks w gd m [] ∧ w.rowIs gm 3 512 (fun _ => .int .i64 0)
  | 8 => ∃ g, x = .pointer (some ⟨g, 0, none⟩) ∧ base ≤ g ∧ w.heap[g]? = some (.cells #[.slice none 0 0, .int .i64 0, .slice none 0 0, .slice none 0 0, .slice none 0 0, .slice none 0 0, .bool false] 69)
  | _ => True

theorem Marks.keep {w w' : World} {g m : Nat} {l : List Int} (h : Marks w g m l) (hb : Below w.heap.size w w') : Marks w' g m l := World.rowIs.of_block h (hb.block g (World.rowIs.lt h))
theorem row_keep {w w' : World} {g n T : Nat} {f : Nat → Value} (h : w.rowIs g T n f) (hb : Below w.heap.size w w') : w'.rowIs g T n f := h.of_block (hb.block g h.lt)

theorem Fct.keep {img : Value} {m base j : Nat} {x : Value} {w w' : World} (h : Fct img m base j x w) (hb : Below w.heap.size w w') : Fct img m base j x w' := by
  unfold Fct at *
  split <;> simp only at h
  all_goals first
    | exact h
    | (obtain ⟨g, h1, h2, h3⟩ := h; exact ⟨g, h1, h2, Marks.keep h3 hb⟩)
    | (obtain ⟨g, h1, h2, h3⟩ := h; exact ⟨g, h1, h2, row_keep h3 hb⟩)
    | (obtain ⟨gs, gd, gm, h1, h2, h3, h4, h5, h6, h7, h8⟩ := h; exact ⟨gs, gd, gm, h1, h2, h3, h4, h5, h6.keep hb, h7.keep hb, row_keep h8 hb⟩)
    | (obtain ⟨g, h1, h2, h3⟩ := h; exact ⟨g, h1, h2, (hb.block g (Array.getElem?_eq_some_iff.1 h3).1).trans h3⟩)

/-- The j-th operation's slot. -/
def slt (j : Nat) : Nat := if j = 8 then 9 else 16 + j
def slts : List Nat := [9, 16, 17, 18, 19, 20, 21, 22, 23]

/-- What is left in the end. -/
def Lft (img : Value) (m base : Nat) (x : Value) (w : World) : Prop :=
  ∃ B gs gd gm, x = .pointer (some ⟨B, 0, none⟩) ∧ base ≤ B ∧ base ≤ gs ∧ base ≤ gd ∧ base ≤ gm ∧ Wk w B img m gs gd gm w.heap.size [] [] (List.replicate 512 0) []

/-- The invariant. -/
def Iv (img : Value) (m : Nat) (w0 : World) (t : Array Value) (d : List Deferred) (listed : Array Bool) (a : Act) (w : World) : Prop :=
  ∃ u, a = { tmps := Wo.setAll slts u t, defers := d } ∧ Below w0.heap.size w0 w ∧ (listed.getD 9 false = true → (∀ j, j < 9 → listed.getD j false = true) ∧ Lft img m w0.heap.size (u 9) w) ∧
    (listed.getD 9 false = false → (∀ j, j < 9 → listed.getD j false = true → Fct img m w0.heap.size j (u (slt j)) w) ∧ (listed.getD 3 false = true → listed.getD 5 false = true → u 19 ≠ u 21))

theorem slt_mem : ∀ j, j < 9 → slt j ∈ slts ∧ slt j < 61 := by decide
theorem slt_inj : ∀ i, i < 9 → ∀ j, j < 9 → slt i = slt j → i = j := by decide

abbrev r2 : Array Oper :=
  #[{ dst := some 16, op := Op.move (Operand.tmp 0), type := 22, pos := "ref.go:59", after := #[], guard := none },
    { dst := some 17, op := Op.move (Operand.tmp 7), type := 3, pos := "ref.go:59", after := #[], guard := none },
    { dst := some 18, op := Op.move (Operand.tmp 7), type := 3, pos := "ref.go:59", after := #[], guard := none },
    { dst := some 19, op := Op.makeSlice 67 (Operand.tmp 18) (Operand.tmp 18), type := 67, pos := "ref.go:59", after := #[{ on := 2, ground := Ground.data }, { on := 2, ground := Ground.data }], guard := none },
    { dst := some 20, op := Op.move (Operand.tmp 7), type := 3, pos := "ref.go:59", after := #[], guard := none },
    { dst := some 21, op := Op.makeSlice 67 (Operand.tmp 20) (Operand.tmp 20), type := 67, pos := "ref.go:59", after := #[{ on := 4, ground := Ground.data }, { on := 4, ground := Ground.data }], guard := none },
    { dst := some 22, op := Op.makeSlice 23 (Operand.const (Value.int IntKind.i64 512)) (Operand.const (Value.int IntKind.i64 512)), type := 23, pos := "ref.go:59", after := #[], guard := none },
    { dst := some 23, op := Op.build 69 #[(0, Operand.tmp 16), (1, Operand.tmp 17), (3, Operand.tmp 19), (4, Operand.tmp 21), (5, Operand.tmp 22), (6, Operand.const (Value.bool true))], type := 69, pos := "ref.go:59", after := #[{ on := 0, ground := Ground.data }, { on := 1, ground := Ground.data }, { on := 3, ground := Ground.data }, { on := 5, ground := Ground.data }, { on := 6, ground := Ground.data }], guard := none },
    { dst := some 9, op := Op.alloc 69, type := 0, pos := "ref.go:59", after := #[], guard := none },
    { dst := none, op := Op.store 69 (Operand.tmp 9) (Operand.tmp 23), type := 0, pos := "ref.go:59", after := #[{ on := 8, ground := Ground.data }, { on := 7, ground := Ground.data }, { on := 0, ground := Ground.phase }, { on := 1, ground := Ground.phase }, { on := 2, ground := Ground.phase }, { on := 3, ground := Ground.phase }, { on := 4, ground := Ground.phase }, { on := 5, ground := Ground.phase }, { on := 6, ground := Ground.phase }, { on := 7, ground := Ground.phase }, { on := 8, ground := Ground.phase }], guard := none }]

/-- One of the first nine operations. -/
theorem r2_step {img : Value} {m : Nat} {w0 : World} {t : Array Value} {d : List Deferred} {Q : Exit → Act → World → Prop} (ht : t.size = 61) {listed : Array Bool} {w : World} {i : Nat} {o : Oper} {u : Nat → Value} {v : Value} {w' : World}
    (hi : i < 9) (hb : Below w0.heap.size w0 w) (h9 : listed.getD 9 false = false)
    (hF : (∀ j, j < 9 → listed.getD j false = true → Fct img m w0.heap.size j (u (slt j)) w) ∧ (listed.getD 3 false = true → listed.getD 5 false = true → u 19 ≠ u 21))
    (ho : r2[i]? = some o) (hg : o.guard = none) (hd : o.dst = some (slt i)) (hrun : (execOp (Act.eval { tmps := Wo.setAll slts u t, defers := d }) o).run Try.prog w = .ok (.value v) w') (hbw : Below w.heap.size w w') (hv : Fct img m w0.heap.size i v w')
    (hap : (i = 3 → listed.getD 5 false = true → v ≠ u 21) ∧ (i = 5 → listed.getD 3 false = true → u 19 ≠ v)) :
    wpOp Try.prog r2 Q i (Iv img m w0 t d (listed.setIfInBounds i true)) { tmps := Wo.setAll slts u t, defers := d } w := by
  refine Wo.wpOp_run ho hg hrun ?_
  have hsl := slt_mem i hi
  refine ⟨Wo.upd u (slt i) v, ?_, Wc.step hb (Nat.le_refl _) hbw, fun h => ?_, fun _ => ⟨fun j hj hlj => ?_, fun h3 h5 => ?_⟩⟩
  · rw [hd]
    simp only [Act.put]
    rw [Wo.setAll_put _ _ _ _ _ hsl.1 (by omega)]
  · have hne : ¬ i = 9 := by omega
    have : (listed.setIfInBounds i true).getD 9 false = listed.getD 9 false := by simp [Array.getD_eq_getD_getElem?, hne]
    rw [this, h9] at h
    cases h
  · by_cases hij : i = j
    · subst hij
      have : Wo.upd u (slt i) v (slt i) = v := by simp [Wo.upd]
      rw [this]; exact hv
    · have hne : ¬ slt j = slt i := fun e => hij (slt_inj j hj i hi e).symm
      have e1 : Wo.upd u (slt i) v (slt j) = u (slt j) := by simp [Wo.upd, hne]
      have e2 : (listed.setIfInBounds i true).getD j false = listed.getD j false := by simp [Array.getD_eq_getD_getElem?, hij]
      rw [e1]
      rw [e2] at hlj
      exact (hF.1 j hj hlj).keep hbw
  · have hget : ∀ j, ¬ i = j → (listed.setIfInBounds i true).getD j false = listed.getD j false := fun j hij => by simp [Array.getD_eq_getD_getElem?, hij]
    by_cases e3 : i = 3
    · have hs5 : ¬ 21 = slt i := by rw [e3]; decide
      have hs3 : 19 = slt i := by rw [e3]; rfl
      rw [hget 5 (by omega)] at h5
      simp only [Wo.upd, if_neg hs5, if_pos hs3]
      exact hap.1 e3 h5
    · by_cases e5 : i = 5
      · have hs5 : 21 = slt i := by rw [e5]; rfl
        have hs3 : ¬ 19 = slt i := by rw [e5]; decide
        rw [hget 3 (by omega)] at h3
        simp only [Wo.upd, if_neg hs3, if_pos hs5]
        exact hap.2 e5 h3
      · have hs5 : ¬ 21 = slt i := fun e => e5 (slt_inj 5 (by omega) i hi e).symm
        have hs3 : ¬ 19 = slt i := fun e => e3 (slt_inj 3 (by omega) i hi e).symm
        rw [hget 3 (by omega)] at h3
        rw [hget 5 (by omega)] at h5
        simp only [Wo.upd, if_neg hs3, if_neg hs5]
        exact hF.2 h3 h5

/-- Where nothing may come up, all has. -/
theorem all_listed (listed : Array Bool) (hs : listed.size = r2.size) (hr : Region.ready .any r2 listed = []) : ∀ i, i < 10 → listed.getD i false = true := by
  have hfw : ∀ i, i < 10 → ((r2[i]?).map (·.after.all fun e => decide (e.on < i))).getD false = true := by decide +kernel
  intro i
  induction i using Nat.strongRecOn with
  | ind i ih =>
    intro hi
    have hs10 : listed.size = 10 := hs
    cases h : listed.getD i false with
    | true => rfl
    | false =>
      exfalso
      have hl : listed.getD i true = false := by simpa [Array.getD_eq_getD_getElem?, show i < listed.size by omega] using h
      have hm : i ∈ Region.ready .any r2 listed := by
        unfold Region.ready
        rw [List.mem_filter]
        refine ⟨List.mem_range.2 hi, ?_⟩
        have h1 := hfw i hi
        cases ho : r2[i]? with
        | none => rw [ho] at h1; cases h1
        | some o =>
          rw [ho] at h1
          simp only [Option.map_some, Option.getD_some, Array.all_eq_true', decide_eq_true_eq] at h1
          simp only [hl, Bool.not_false, Bool.true_and, Option.map_some, Option.getD_some, Array.all_eq_true', Bool.or_eq_true]
          intro e he
          exact .inr (ih e.on (h1 e he) (by have := h1 e he; omega))
      rw [hr] at hm
      cases hm

theorem mk_new (w : World) (base m : Nat) (hb : base ≤ w.heap.size) : Mk base m (.slice (some ⟨w.heap.size, 0, none⟩) m m) (w.alloc (.cells (madeCells #[.bool false] m) 4)) := ⟨_, rfl, hb, Marks.new w m⟩
theorem mk_old {w : World} {base m : Nat} {x : Value} (h : Mk base m x w) : x ≠ .slice (some ⟨w.heap.size, 0, none⟩) m m := by
  obtain ⟨g, rfl, -, hg⟩ := h
  intro e
  have hlt := World.rowIs.lt hg
  injection e with e1
  injection e1 with e2
  injection e2 with e3
  omega

set_option maxRecDepth 100000 in
set_option maxHeartbeats 3200000 in
theorem region2 (img : Value) (ai : Option Addr) (ni ci : Nat) (himg : img = .slice ai ni ci) (m : Nat) (hm : m ≤ 1000000) (t : Array Value) (d : List Deferred) (w : World) {Q : Exit → Act → World → Prop} (ht : t.size = 61) (h0 : t.getD 0 undef = img) (h7 : t.getD 7 undef = .int .i64 m)
    (hQ : ∀ u w', Below w.heap.size w w' → Lft img m w.heap.size (u 9) w' → Q .normal { tmps := Wo.setAll slts u t, defers := d } w') :
    (Code.region 2 r2 true).wp Try.prog Q { tmps := t, defers := d } w := by
  subst himg
  obtain ⟨mc, hmk, hmc⟩ := made512
  have hmb := run_make_row' (P := Try.prog) 67 4 (.bool false) 1 Try.underlying67 Try.infoB rfl .i64 .i64 m (by omega) (by omega)
  refine wp_region_any (by kernel_rfl) ?_
  refine Wo.any_inv (Iv (.slice ai ni ci) m w t d) ?step ?fin 10 _ _ _ (by simp) ⟨fun j => t.getD j undef, by rw [Wo.setAll_self], (Below.refl _ _).drew, ?i1, ?i2⟩ (by simp)
  case i1 => intro h; simp [r2] at h
  case i2 =>
    intro _
    refine ⟨fun j hj h => ?_, fun h => ?_⟩
    · have hj2 : j < 10 := (by omega)
      simp [r2, Array.getD_eq_getD_getElem?, hj2] at h
    · simp [r2] at h
  case fin =>
    rintro listed a w1 hs ⟨u, rfl, hb, h9t, hF⟩ hr
    have hall := all_listed listed hs hr 9 (by omega)
    exact hQ u w1 hb (h9t hall).2
  case step =>
    rintro listed a w1 i hs ⟨u, rfl, hb, h9t, hF⟩ hi
    obtain ⟨hi10, hl, hdep⟩ := Wo.ready_spec hi
    have hs10 : listed.size = 10 := hs
    have hi10' : i < 10 := hi10
    have hli : listed.getD i false = false := by simpa [Array.getD_eq_getD_getElem?, show i < listed.size by omega] using hl
    have h9 : listed.getD 9 false = false := by
      cases h : listed.getD 9 false with
      | false => rfl
      | true =>
        by_cases h3 : i = 9
        · subst h3; rw [h] at hli; exact hli
        · have := (h9t h).1 i (by omega)
          rw [this] at hli; cases hli
    have hFF := hF h9
    clear hF h9t hi
    have ev : ∀ j, j < 9 → Act.eval { tmps := Wo.setAll slts u t, defers := d } (.tmp (slt j)) = u (slt j) := fun j hj => Wo.setAll_in _ _ _ _ (slt_mem j hj).1 (by have := (slt_mem j hj).2; omega) _
    have ev0 : Act.eval { tmps := Wo.setAll slts u t, defers := d } (.tmp 0) = .slice ai ni ci := (Wo.setAll_out _ _ _ _ (by decide) _).trans h0
    have ev7 : Act.eval { tmps := Wo.setAll slts u t, defers := d } (.tmp 7) = .int .i64 m := (Wo.setAll_out _ _ _ _ (by decide) _).trans h7
    have evc : ∀ c, Act.eval { tmps := Wo.setAll slts u t, defers := d } (.const c) = c := fun _ => rfl
    have hal : ∀ o, Below w1.heap.size w1 (w1.alloc o) := fun o => (Below.refl _ _).alloc (Nat.le_refl _) o
    rcases (by omega : i = 0 ∨ i = 1 ∨ i = 2 ∨ i = 3 ∨ i = 4 ∨ i = 5 ∨ i = 6 ∨ i = 7 ∨ i = 8 ∨ i = 9) with rfl | rfl | rfl | rfl | rfl | rfl | rfl | rfl | rfl | rfl
    · refine r2_step (v := .slice ai ni ci) (w' := w1) ht (by omega) hb h9 hFF rfl rfl rfl ?_ (Below.refl _ _) rfl (by constructor <;> intro h <;> omega)
      generalize Act.eval _ = ρ at *
      go_simp
    · refine r2_step (v := .int .i64 m) (w' := w1) ht (by omega) hb h9 hFF rfl rfl rfl ?_ (Below.refl _ _) rfl (by constructor <;> intro h <;> omega)
      generalize Act.eval _ = ρ at *
      go_simp
    · refine r2_step (v := .int .i64 m) (w' := w1) ht (by omega) hb h9 hFF rfl rfl rfl ?_ (Below.refl _ _) rfl (by constructor <;> intro h <;> omega)
      generalize Act.eval _ = ρ at *
      go_simp
    · have f1 := hFF.1 2 (by omega) (hdep _ rfl ⟨2, .data⟩ (by simp) rfl)
      simp only [Fct] at f1
      have e1 : Act.eval { tmps := Wo.setAll slts u t, defers := d } (.tmp 18) = .int .i64 m := (ev 2 (by omega)).trans f1
      refine r2_step (v := .slice (some ⟨w1.heap.size, 0, none⟩) m m) (w' := w1.alloc (.cells (madeCells #[.bool false] m) 4)) ht (by omega) hb h9 hFF rfl rfl rfl ?_ (hal _) (mk_new w1 _ m hb.size) ⟨fun _ h5 => ?_, fun h => by omega⟩
      · clear hFF
        generalize Act.eval _ = ρ at *
        go_simp
      · have f5 := hFF.1 5 (by omega) h5
        exact fun e => mk_old f5 e.symm
    · refine r2_step (v := .int .i64 m) (w' := w1) ht (by omega) hb h9 hFF rfl rfl rfl ?_ (Below.refl _ _) rfl (by constructor <;> intro h <;> omega)
      generalize Act.eval _ = ρ at *
      go_simp
    · have f1 := hFF.1 4 (by omega) (hdep _ rfl ⟨4, .data⟩ (by simp) rfl)
      simp only [Fct] at f1
      have e1 : Act.eval { tmps := Wo.setAll slts u t, defers := d } (.tmp 20) = .int .i64 m := (ev 4 (by omega)).trans f1
      refine r2_step (v := .slice (some ⟨w1.heap.size, 0, none⟩) m m) (w' := w1.alloc (.cells (madeCells #[.bool false] m) 4)) ht (by omega) hb h9 hFF rfl rfl rfl ?_ (hal _) (mk_new w1 _ m hb.size) ⟨fun h => by omega, fun _ h3 => ?_⟩
      · clear hFF
        generalize Act.eval _ = ρ at *
        go_simp
      · have f3 := hFF.1 3 (by omega) h3
        exact mk_old f3
    · refine r2_step (v := .slice (some ⟨w1.heap.size, 0, none⟩) 512 512) (w' := w1.alloc (.cells mc 3)) ht (by omega) hb h9 hFF rfl rfl rfl ?_ (hal _) ⟨_, rfl, hb.size, hmc w1⟩ (by constructor <;> intro h <;> omega)
      generalize Act.eval _ = ρ at *
      go_simp
    · have l3 := hdep _ rfl ⟨3, .data⟩ (by simp) rfl
      have l5 := hdep _ rfl ⟨5, .data⟩ (by simp) rfl
      have f0 := hFF.1 0 (by omega) (hdep _ rfl ⟨0, .data⟩ (by simp) rfl)
      have f1 := hFF.1 1 (by omega) (hdep _ rfl ⟨1, .data⟩ (by simp) rfl)
      have f3 := hFF.1 3 (by omega) l3
      have f5 := hFF.1 5 (by omega) l5
      have f6 := hFF.1 6 (by omega) (hdep _ rfl ⟨6, .data⟩ (by simp) rfl)
      have hne := hFF.2 l3 l5
      simp only [Fct] at f0 f1 f3 f5 f6
      obtain ⟨gs, hx3, hg3, hM3⟩ := f3
      obtain ⟨gd, hx5, hg5, hM5⟩ := f5
      obtain ⟨gm, hx6, hg6, hR6⟩ := f6
      have hsd : gs ≠ gd := by
        intro e
        apply hne
        have h3 : u 19 = .slice (some ⟨gs, 0, none⟩) m m := hx3
        have h5 : u 21 = .slice (some ⟨gd, 0, none⟩) m m := hx5
        rw [h3, h5, e]
      have e0 : Act.eval { tmps := Wo.setAll slts u t, defers := d } (.tmp 16) = .slice ai ni ci := (ev 0 (by omega)).trans f0
      have e1 : Act.eval { tmps := Wo.setAll slts u t, defers := d } (.tmp 17) = .int .i64 m := (ev 1 (by omega)).trans f1
      have e3 : Act.eval { tmps := Wo.setAll slts u t, defers := d } (.tmp 19) = .slice (some ⟨gs, 0, none⟩) m m := (ev 3 (by omega)).trans hx3
      have e5 : Act.eval { tmps := Wo.setAll slts u t, defers := d } (.tmp 21) = .slice (some ⟨gd, 0, none⟩) m m := (ev 5 (by omega)).trans hx5
      have e6 : Act.eval { tmps := Wo.setAll slts u t, defers := d } (.tmp 22) = .slice (some ⟨gm, 0, none⟩) 512 512 := (ev 6 (by omega)).trans hx6
      refine r2_step (v := .agg #[.slice ai ni ci, .int .i64 m, .slice none 0 0, .slice (some ⟨gs, 0, none⟩) m m, .slice (some ⟨gd, 0, none⟩) m m, .slice (some ⟨gm, 0, none⟩) 512 512, .bool true]) (w' := w1) ht (by omega) hb h9 hFF rfl rfl rfl ?_ (Below.refl _ _) ⟨gs, gd, gm, rfl, hg3, hg5, hg6, hsd, hM3, hM5, hR6⟩ (by constructor <;> intro h <;> omega)
      clear hFF hne
      generalize Act.eval _ = ρ at *
      go_simp
    · refine r2_step (v := .pointer (some ⟨w1.heap.size, 0, none⟩)) (w' := w1.alloc (.cells #[.slice none 0 0, .int .i64 0, .slice none 0 0, .slice none 0 0, .slice none 0 0, .slice none 0 0, .bool false] 69)) ht (by omega) hb h9 hFF rfl rfl rfl ?_ (hal _) ⟨w1.heap.size, rfl, hb.size, by show (w1.heap.push _)[_]? = _; simp⟩ (by constructor <;> intro h <;> omega)
      generalize Act.eval _ = ρ at *
      go_simp
    · have f7 := hFF.1 7 (by omega) (hdep _ rfl ⟨7, .data⟩ (by simp) rfl)
      have f8 := hFF.1 8 (by omega) (hdep _ rfl ⟨8, .data⟩ (by simp) rfl)
      have hph : ∀ j, j < 9 → listed.getD j false = true := fun j hj => hdep _ rfl ⟨j, .phase⟩ (by simp; omega) rfl
      simp only [Fct] at f7 f8
      obtain ⟨gs, gd, gm, hx, hg3, hg5, hg6, hsd, hM3, hM5, hR6⟩ := f7
      obtain ⟨g, hx2, hbg, hgh⟩ := f8
      have e7 : Act.eval { tmps := Wo.setAll slts u t, defers := d } (.tmp 23) = _ := (ev 7 (by omega)).trans hx
      have e8 : Act.eval { tmps := Wo.setAll slts u t, defers := d } (.tmp 9) = _ := (ev 8 (by omega)).trans hx2
      have q0 : w1.cell? ⟨g, 0, none⟩ = some (.slice none 0 0) := by simp [World.cell?, hgh]
      have q1 : w1.cell? ⟨g, 1, none⟩ = some (.int .i64 0) := by simp [World.cell?, hgh]
      have q2 : w1.cell? ⟨g, 2, none⟩ = some (.slice none 0 0) := by simp [World.cell?, hgh]
      have q3 : w1.cell? ⟨g, 3, none⟩ = some (.slice none 0 0) := by simp [World.cell?, hgh]
      have q4 : w1.cell? ⟨g, 4, none⟩ = some (.slice none 0 0) := by simp [World.cell?, hgh]
      have q5 : w1.cell? ⟨g, 5, none⟩ = some (.slice none 0 0) := by simp [World.cell?, hgh]
      have q6 : w1.cell? ⟨g, 6, none⟩ = some (.bool false) := by simp [World.cell?, hgh]
      have pf : ∀ i, w1.frozen? ⟨g, i, none⟩ = false := fun i => by simp [World.frozen?, hgh]
      refine Wo.wpOp_skip (w' := ((((((w1.setCell ⟨g, 0, none⟩ (.slice ai ni ci)).setCell ⟨g, 1, none⟩ (.int .i64 m)).setCell ⟨g, 2, none⟩ (.slice none 0 0)).setCell ⟨g, 3, none⟩ (.slice (some ⟨gs, 0, none⟩) m m)).setCell ⟨g, 4, none⟩ (.slice (some ⟨gd, 0, none⟩) m m)).setCell ⟨g, 5, none⟩ (.slice (some ⟨gm, 0, none⟩) 512 512)).setCell ⟨g, 6, none⟩ (.bool true)) rfl rfl rfl ?_ ?_
      · clear hFF hx hx2
        generalize Act.eval _ = ρ at *
        go_simp
      · clear hFF
        have n3 : gs ≠ g := fun e => by
          obtain ⟨c, hc, -⟩ := hM3
          rw [e, hgh] at hc; cases hc
        have n5 : gd ≠ g := fun e => by
          obtain ⟨c, hc, -⟩ := hM5
          rw [e, hgh] at hc; cases hc
        have n6 : gm ≠ g := fun e => by
          obtain ⟨c, hc, -⟩ := hR6
          rw [e, hgh] at hc; cases hc
        have ob : ∀ b, b ≠ g → (((((((w1.setCell ⟨g, 0, none⟩ (.slice ai ni ci)).setCell ⟨g, 1, none⟩ (.int .i64 m)).setCell ⟨g, 2, none⟩ (.slice none 0 0)).setCell ⟨g, 3, none⟩ (.slice (some ⟨gs, 0, none⟩) m m)).setCell ⟨g, 4, none⟩ (.slice (some ⟨gd, 0, none⟩) m m)).setCell ⟨g, 5, none⟩ (.slice (some ⟨gm, 0, none⟩) 512 512)).setCell ⟨g, 6, none⟩ (.bool true)).heap[b]? = w1.heap[b]? := fun b hne => by
          rw [heap_setCell_other _ _ _ _ hne, heap_setCell_other _ _ _ _ hne, heap_setCell_other _ _ _ _ hne, heap_setCell_other _ _ _ _ hne, heap_setCell_other _ _ _ _ hne, heap_setCell_other _ _ _ _ hne, heap_setCell_other _ _ _ _ hne]
        refine ⟨u, rfl, ?_, fun _ => ⟨fun j hj => ?_, g, gs, gd, gm, hx2, hbg, hg3, hg5, hg6, none, 0, 0, ?_, Wv.Ov.nil _ _ _, hM3.of_block (ob gs n3), hM5.of_block (ob gd n5), (hR6.of_block (ob gm n6)).congr (fun j _ => by rw [zeros_getD]), List.length_replicate, ?_, ?_, ?_, ?_, hsd, Nat.le_refl _⟩, fun h => ?_⟩
        · exact ((((((hb.setCell (p := ⟨g, 0, none⟩) hbg _).setCell (p := ⟨g, 1, none⟩) hbg _).setCell (p := ⟨g, 2, none⟩) hbg _).setCell (p := ⟨g, 3, none⟩) hbg _).setCell (p := ⟨g, 4, none⟩) hbg _).setCell (p := ⟨g, 5, none⟩) hbg _).setCell (p := ⟨g, 6, none⟩) hbg _
        · have hne : ¬ 9 = j := by omega
          have e2 : (listed.setIfInBounds 9 true).getD j false = listed.getD j false := by simp [Array.getD_eq_getD_getElem?, hne]
          rw [e2]; exact hph j hj
        · unfold Wh
          simp [World.setCell, Array.getElem?_modify, hgh]
        · have := (Array.getElem?_eq_some_iff.1 hgh).1
          simpa [World.setCell] using this
        · have := World.rowIs.lt hM3
          simpa [World.setCell] using this
        · have := World.rowIs.lt hM5
          simpa [World.setCell] using this
        · have := hR6.lt
          simpa [World.setCell] using this
        · have : (listed.setIfInBounds 9 true).getD 9 false = true := by simp [Array.getD_eq_getD_getElem?, hs10]
          rw [this] at h; cases h

end Go.Proofs.Ytifjbmknghjohaa
