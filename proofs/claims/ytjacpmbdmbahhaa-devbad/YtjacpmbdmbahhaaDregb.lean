/-
  The region in which DevBad draws one of seven steps that are not right: what it leaves, whatever order it is done in.
-/
import Derived.Test.YtjacpmbdmbahhaaDreg
namespace Go.Proofs.Ytjacpmbdmbahhaa
open Go.RowKit

theorem dat_made (w : World) (n : Nat) (hn : n ≤ 1000) (xs : List Int) (hx : xs = List.replicate n 0) : Wd.Dat (w.alloc (.cells (madeCells #[.int .u8 0] n) 5)) (.slice (some ⟨w.heap.size, 0, none⟩) n n) xs := by
  subst hx
  refine ⟨_, n, by rw [List.length_replicate], Wc.Bs.lit w _ 5 n _ (by simp) (by omega) (Wc.made_zero n) ?_⟩
  intro x h
  rw [List.mem_replicate] at h
  omega

theorem make_run (n : Nat) (hn : n ≤ 1000) (w : World) : (Instr.makeSlice 22 (.int .i64 (n : Int)) (.int .i64 (n : Int))).run Try.prog w = .ok (.slice (some ⟨w.heap.size, 0, none⟩) n n) (w.alloc (.cells (madeCells #[.int .u8 0] n) 5)) :=
  run_make_row' (P := Try.prog) 22 5 (.int .u8 0) 1 Try.underlying22 Try.infoU8 rfl .i64 .i64 n (by omega) (by omega) w

/-- Bytes lie apart from a block that holds none. -/
theorem bs_apart {w w' : World} {g e : Nat} {v : Value} {xs : List Int} (hg : w.heap[g]? = some (.cells #[.int .i64 0, .int .i64 0, .slice none 0 0] e)) (ho : ∀ b, b ≠ g → w'.heap[b]? = w.heap[b]?) (hs : w.heap.size ≤ w'.heap.size) (h : Wc.Bs w v xs) : Wc.Bs w' v xs := by
  obtain ⟨a, n, cap, h1, h2, h3, h4, h5, h6, h7⟩ := h
  refine ⟨a, n, cap, h1, h2, h3, h4, h5, h6, fun hn => ?_⟩
  obtain ⟨b, off, ha, hlt, hc⟩ := h7 hn
  have hne : b ≠ g := by
    rintro rfl
    have := hc 0 hn
    rw [Nat.add_zero] at this
    match off, this with
    | 0, this => simp [World.cell?, hg] at this
    | 1, this => simp [World.cell?, hg] at this
    | 2, this => simp [World.cell?, hg] at this
    | off + 3, this => simp [World.cell?, hg] at this
  refine ⟨b, off, ha, Nat.lt_of_lt_of_le hlt hs, fun i hi => ?_⟩
  rw [← hc i hi]
  simp only [World.cell?, ho b hne]

/-- Where nothing may come up, all has. -/
theorem all_listed (listed : Array Bool) (hs : listed.size = r8.size) (hr : Region.ready .any r8 listed = []) : ∀ i, i < 21 → listed.getD i false = true := by
  have hfw : ∀ i, i < 21 → ((r8[i]?).map (·.after.all fun e => decide (e.on < i))).getD false = true := by decide +kernel
  intro i
  induction i using Nat.strongRecOn with
  | ind i ih =>
    intro hi
    have hs21 : listed.size = 21 := hs
    cases h : listed.getD i false with
    | true => rfl
    | false =>
      exfalso
      have hl : listed.getD i true = false := by simpa [Array.getD_eq_getD_getElem?, show i < listed.size by omega] using h
      have hm : i ∈ Region.ready .any r8 listed := by
        unfold Region.ready
        rw [List.mem_filter]
        refine ⟨List.mem_range.2 hi, ?_⟩
        have h1 := hfw i hi
        cases ho : r8[i]? with
        | none => rw [ho] at h1; cases h1
        | some o =>
          rw [ho] at h1
          simp only [Option.map_some, Option.getD_some, Array.all_eq_true', decide_eq_true_eq] at h1
          simp only [hl, Bool.not_false, Bool.true_and, Option.map_some, Option.getD_some, Array.all_eq_true', Bool.or_eq_true]
          intro e he
          exact .inr (ih e.on (h1 e he) (by have := h1 e he; omega))
      rw [hr] at hm
      cases hm

set_option maxRecDepth 100000 in
set_option maxHeartbeats 3200000 in
theorem region8 (m hq : Nat) (y : Int) (t : Array Value) (d : List Deferred) (w : World) {Q : Exit → Act → World → Prop} (ht : t.size = 148) (h0 : t.getD 0 undef = .int .i64 m) (h2 : t.getD 2 undef = .int .i64 y)
    (hqe : IntKind.i64.wrap ((IntKind.u64.wrap y).tmod 7) = (hq : Int)) (hq7 : hq < 7)
    (hQ : ∀ u w', Below w.heap.size w w' → Wd.Left m hq (u 10) w' → Q .normal { tmps := Wo.setAll Wd.slots u t, defers := d } w') :
    (Code.region 8 r8 true).wp Try.prog Q { tmps := t, defers := d } w := by
  have m64 : ∀ w, (Instr.makeSlice 22 (.int .i64 64) (.int .i64 64)).run Try.prog w = .ok (.slice (some ⟨w.heap.size, 0, none⟩) 64 64) (w.alloc (.cells (madeCells #[.int .u8 0] 64) 5)) := make_run 64 (by omega)
  have m63 : ∀ w, (Instr.makeSlice 22 (.int .i64 63) (.int .i64 63)).run Try.prog w = .ok (.slice (some ⟨w.heap.size, 0, none⟩) 63 63) (w.alloc (.cells (madeCells #[.int .u8 0] 63) 5)) := make_run 63 (by omega)
  refine wp_region_any (by kernel_rfl) ?_
  refine Wo.any_inv (Wd.Inv m hq y w t d) ?step ?fin 21 _ _ _ (by simp) ⟨fun j => t.getD j undef, by rw [Wo.setAll_self], (Below.refl _ _).drew, ?i1, ?i2⟩ (by simp)
  case i1 => intro h; simp [r8] at h
  case i2 => intro _ j hj h; have hj2 : j < 21 := (by omega); simp [r8, Array.getD_eq_getD_getElem?, hj2] at h
  case fin =>
    rintro listed a w1 hs ⟨u, rfl, hb, h20t, hF⟩ hr
    have hall := all_listed listed hs hr 20 (by omega)
    exact hQ u w1 hb (h20t hall).2
  case step =>
    rintro listed a w1 i hs ⟨u, rfl, hb, h20t, hF⟩ hi
    obtain ⟨hi21, hl, hdep⟩ := Wo.ready_spec hi
    have hs21 : listed.size = 21 := hs
    have hi21' : i < 21 := hi21
    have hli : listed.getD i false = false := by simpa [Array.getD_eq_getD_getElem?, show i < listed.size by omega] using hl
    have h20 : listed.getD 20 false = false := by
      cases h : listed.getD 20 false with
      | false => rfl
      | true =>
        by_cases h3 : i = 20
        · subst h3; rw [h] at hli; exact hli
        · have := (h20t h).1 i (by omega)
          rw [this] at hli; cases hli
    have hFF := hF h20
    clear hF h20t hi
    have ev : ∀ j, j < 20 → Act.eval { tmps := Wo.setAll Wd.slots u t, defers := d } (.tmp (Wd.slot j)) = u (Wd.slot j) := fun j hj => Wo.setAll_in _ _ _ _ (Wd.slot_mem j hj).1 (by have := (Wd.slot_mem j hj).2; omega) _
    have ev0 : Act.eval { tmps := Wo.setAll Wd.slots u t, defers := d } (.tmp 0) = .int .i64 m := (Wo.setAll_out _ _ _ _ (by decide) _).trans h0
    have ev2 : Act.eval { tmps := Wo.setAll Wd.slots u t, defers := d } (.tmp 2) = .int .i64 y := (Wo.setAll_out _ _ _ _ (by decide) _).trans h2
    have evc : ∀ c, Act.eval { tmps := Wo.setAll Wd.slots u t, defers := d } (.const c) = c := fun _ => rfl
    have hal : ∀ o, Below w1.heap.size w1 (w1.alloc o) := fun o => (Below.refl _ _).alloc (Nat.le_refl _) o
    rcases (by omega : i = 0 ∨ i = 1 ∨ i = 2 ∨ i = 3 ∨ i = 4 ∨ i = 5 ∨ i = 6 ∨ i = 7 ∨ i = 8 ∨ i = 9 ∨ i = 10 ∨ i = 11 ∨ i = 12 ∨ i = 13 ∨ i = 14 ∨ i = 15 ∨ i = 16 ∨ i = 17 ∨ i = 18 ∨ i = 19 ∨ i = 20) with rfl | rfl | rfl | rfl | rfl | rfl | rfl | rfl | rfl | rfl | rfl | rfl | rfl | rfl | rfl | rfl | rfl | rfl | rfl | rfl | rfl
    · refine r8_step (v := .int .i64 m) (w' := w1) ht (by omega) hb h20 hFF rfl rfl rfl ?_ (Below.refl _ _) rfl
      generalize Act.eval _ = ρ at *
      go_simp
    · refine r8_step (v := .slice (some ⟨w1.heap.size, 0, none⟩) 64 64) (w' := w1.alloc (.cells (madeCells #[.int .u8 0] 64) 5)) ht (by omega) hb h20 hFF rfl rfl rfl ?_ (hal _) (dat_made w1 64 (by omega) _ rfl)
      generalize Act.eval _ = ρ at *
      go_simp
    · have f1 := hFF 1 (by omega) (hdep _ rfl ⟨1, .data⟩ (by simp) rfl)
      simp only [Wd.Fact] at f1
      obtain ⟨g, c, hx, hB⟩ := f1
      have e1 : Act.eval { tmps := Wo.setAll Wd.slots u t, defers := d } (.tmp 49) = .slice (some g) (Wd.z64).length c := (ev 1 (by omega)).trans hx
      have f0 := hFF 0 (by omega) (hdep _ rfl ⟨0, .data⟩ (by simp) rfl)
      simp only [Wd.Fact] at f0
      have e0 : Act.eval { tmps := Wo.setAll Wd.slots u t, defers := d } (.tmp 48) = .int .i64 m := (ev 0 (by omega)).trans f0
      refine r8_step (v := .agg #[.int .i64 1, .int .i64 m, .slice (some g) (Wd.z64).length c]) (w' := w1) ht (by omega) hb h20 hFF rfl rfl rfl ?_ (Below.refl _ _) ⟨_, rfl, g, c, rfl, by rw [← hx]; exact hB⟩
      generalize (Wd.z64).length = len at *
      generalize Act.eval _ = ρ at *
      go_simp
    · refine r8_step (v := .slice (some ⟨w1.heap.size, 0, none⟩) 64 64) (w' := w1.alloc (.cells (madeCells #[.int .u8 0] 64) 5)) ht (by omega) hb h20 hFF rfl rfl rfl ?_ (hal _) (dat_made w1 64 (by omega) _ rfl)
      generalize Act.eval _ = ρ at *
      go_simp
    · have f1 := hFF 3 (by omega) (hdep _ rfl ⟨3, .data⟩ (by simp) rfl)
      simp only [Wd.Fact] at f1
      obtain ⟨g, c, hx, hB⟩ := f1
      have e1 : Act.eval { tmps := Wo.setAll Wd.slots u t, defers := d } (.tmp 51) = .slice (some g) (Wd.z64).length c := (ev 3 (by omega)).trans hx
      refine r8_step (v := .agg #[.int .i64 1, .int .i64 (-1), .slice (some g) (Wd.z64).length c]) (w' := w1) ht (by omega) hb h20 hFF rfl rfl rfl ?_ (Below.refl _ _) ⟨_, rfl, g, c, rfl, by rw [← hx]; exact hB⟩
      generalize (Wd.z64).length = len at *
      generalize Act.eval _ = ρ at *
      go_simp
    · refine r8_step (v := .slice (some ⟨w1.heap.size, 0, none⟩) 63 63) (w' := w1.alloc (.cells (madeCells #[.int .u8 0] 63) 5)) ht (by omega) hb h20 hFF rfl rfl rfl ?_ (hal _) (dat_made w1 63 (by omega) _ rfl)
      generalize Act.eval _ = ρ at *
      go_simp
    · have f1 := hFF 5 (by omega) (hdep _ rfl ⟨5, .data⟩ (by simp) rfl)
      simp only [Wd.Fact] at f1
      obtain ⟨g, c, hx, hB⟩ := f1
      have e1 : Act.eval { tmps := Wo.setAll Wd.slots u t, defers := d } (.tmp 53) = .slice (some g) (Wd.z63).length c := (ev 5 (by omega)).trans hx
      refine r8_step (v := .agg #[.int .i64 1, .int .i64 0, .slice (some g) (Wd.z63).length c]) (w' := w1) ht (by omega) hb h20 hFF rfl rfl rfl ?_ (Below.refl _ _) ⟨_, rfl, g, c, rfl, by rw [← hx]; exact hB⟩
      generalize (Wd.z63).length = len at *
      generalize Act.eval _ = ρ at *
      go_simp
    · refine r8_step (v := .agg #[.int .i64 2, .int .i64 1, .slice none 0 0]) (w' := w1) ht (by omega) hb h20 hFF rfl rfl rfl ?_ (Below.refl _ _) rfl
      generalize Act.eval _ = ρ at *
      go_simp
    · refine r8_step (v := .slice (some ⟨w1.heap.size, 0, none⟩) 1 1) (w' := w1.alloc (.cells #[.int .u8 1] 5)) ht (by omega) hb h20 hFF rfl rfl rfl ?_ (hal _) ⟨_, 1, rfl, Wc.Bs.lit w1 _ 5 1 [1] rfl (by omega) rfl (by decide)⟩
      generalize Act.eval _ = ρ at *
      go_simp
    · have f1 := hFF 8 (by omega) (hdep _ rfl ⟨8, .data⟩ (by simp) rfl)
      simp only [Wd.Fact] at f1
      obtain ⟨g, c, hx, hB⟩ := f1
      have e1 : Act.eval { tmps := Wo.setAll Wd.slots u t, defers := d } (.tmp 56) = .slice (some g) (([1] : List Int)).length c := (ev 8 (by omega)).trans hx
      refine r8_step (v := .agg #[.int .i64 2, .int .i64 0, .slice (some g) (([1] : List Int)).length c]) (w' := w1) ht (by omega) hb h20 hFF rfl rfl rfl ?_ (Below.refl _ _) ⟨_, rfl, g, c, rfl, by rw [← hx]; exact hB⟩
      generalize (([1] : List Int)).length = len at *
      generalize Act.eval _ = ρ at *
      go_simp
    · refine r8_step (v := .agg #[.int .i64 0, .int .i64 0, .slice none 0 0]) (w' := w1) ht (by omega) hb h20 hFF rfl rfl rfl ?_ (Below.refl _ _) rfl
      generalize Act.eval _ = ρ at *
      go_simp
    · refine r8_step (v := .agg #[.int .i64 3, .int .i64 0, .slice none 0 0]) (w' := w1) ht (by omega) hb h20 hFF rfl rfl rfl ?_ (Below.refl _ _) rfl
      generalize Act.eval _ = ρ at *
      go_simp
    · have f2 := hFF 2 (by omega) (hdep _ rfl ⟨2, .data⟩ (by simp) rfl)
      have f4 := hFF 4 (by omega) (hdep _ rfl ⟨4, .data⟩ (by simp) rfl)
      have f6 := hFF 6 (by omega) (hdep _ rfl ⟨6, .data⟩ (by simp) rfl)
      have f7 := hFF 7 (by omega) (hdep _ rfl ⟨7, .data⟩ (by simp) rfl)
      have f9 := hFF 9 (by omega) (hdep _ rfl ⟨9, .data⟩ (by simp) rfl)
      have f10 := hFF 10 (by omega) (hdep _ rfl ⟨10, .data⟩ (by simp) rfl)
      have f11 := hFF 11 (by omega) (hdep _ rfl ⟨11, .data⟩ (by simp) rfl)
      simp only [Wd.Fact] at f2 f4 f6 f7 f9 f10 f11
      obtain ⟨v2, hx2, g2, c2, rfl, hB2⟩ := f2
      obtain ⟨v4, hx4, g4, c4, rfl, hB4⟩ := f4
      obtain ⟨v6, hx6, g6, c6, rfl, hB6⟩ := f6
      obtain ⟨v9, hx9, g9, c9, rfl, hB9⟩ := f9
      have e2 := (ev 2 (by omega)).trans hx2
      have e4 := (ev 4 (by omega)).trans hx4
      have e6 := (ev 6 (by omega)).trans hx6
      have e7 := (ev 7 (by omega)).trans f7
      have e9 := (ev 9 (by omega)).trans hx9
      have e10 := (ev 10 (by omega)).trans f10
      have e11 := (ev 11 (by omega)).trans f11
      change Act.eval { tmps := Wo.setAll Wd.slots u t, defers := d } (.tmp 50) = _ at e2
      change Act.eval { tmps := Wo.setAll Wd.slots u t, defers := d } (.tmp 52) = _ at e4
      change Act.eval { tmps := Wo.setAll Wd.slots u t, defers := d } (.tmp 54) = _ at e6
      change Act.eval { tmps := Wo.setAll Wd.slots u t, defers := d } (.tmp 55) = _ at e7
      change Act.eval { tmps := Wo.setAll Wd.slots u t, defers := d } (.tmp 57) = _ at e9
      change Act.eval { tmps := Wo.setAll Wd.slots u t, defers := d } (.tmp 58) = _ at e10
      change Act.eval { tmps := Wo.setAll Wd.slots u t, defers := d } (.tmp 59) = _ at e11
      refine r8_step (v := .slice (some ⟨w1.heap.size, 0, none⟩) 7 7) (w' := w1.alloc (.cells #[.int .i64 1, .int .i64 m, .slice (some g2) Wd.z64.length c2, .int .i64 1, .int .i64 (-1), .slice (some g4) Wd.z64.length c4, .int .i64 1, .int .i64 0, .slice (some g6) Wd.z63.length c6, .int .i64 2, .int .i64 1, .slice none 0 0, .int .i64 2, .int .i64 0, .slice (some g9) ([1] : List Int).length c9, .int .i64 0, .int .i64 0, .slice none 0 0, .int .i64 3, .int .i64 0, .slice none 0 0] 38)) ht (by omega) hb h20 hFF rfl rfl rfl ?_ (hal _) ⟨_, rfl, ?_⟩
      · generalize Wd.z64.length = len64 at *
        generalize Wd.z63.length = len63 at *
        generalize ([1] : List Int).length = len1 at *
        generalize Act.eval _ = ρ at *
        go_simp
      · refine Wd.Is.lit w1 _ 38 7 [(⟨1, m, Wd.z64⟩, (some g2, c2)), (⟨1, -1, Wd.z64⟩, (some g4, c4)), (⟨1, 0, Wd.z63⟩, (some g6, c6)), (⟨2, 1, []⟩, (none, 0)), (⟨2, 0, [1]⟩, (some g9, c9)), (⟨0, 0, []⟩, (none, 0)), (⟨3, 0, []⟩, (none, 0))] rfl (by omega) rfl ?_
        intro q hq
        simp only [List.mem_cons, List.not_mem_nil, or_false] at hq
        rcases hq with rfl | rfl | rfl | rfl | rfl | rfl | rfl
        · exact ⟨hB2, .inr ⟨_, _, _, rfl⟩⟩
        · exact ⟨hB4, .inr ⟨_, _, _, rfl⟩⟩
        · exact ⟨hB6, .inr ⟨_, _, _, rfl⟩⟩
        · exact ⟨Wc.Bs.nil _, .inl rfl⟩
        · exact ⟨hB9, .inr ⟨_, _, _, rfl⟩⟩
        · exact ⟨Wc.Bs.nil _, .inl rfl⟩
        · exact ⟨Wc.Bs.nil _, .inl rfl⟩
    · refine r8_step (v := .int .i64 y) (w' := w1) ht (by omega) hb h20 hFF rfl rfl rfl ?_ (Below.refl _ _) rfl
      generalize Act.eval _ = ρ at *
      go_simp
    · have f1 := hFF 13 (by omega) (hdep _ rfl ⟨13, .data⟩ (by simp) rfl)
      simp only [Wd.Fact] at f1
      have e1 := (ev 13 (by omega)).trans f1
      change Act.eval { tmps := Wo.setAll Wd.slots u t, defers := d } (.tmp 61) = _ at e1
      refine r8_step (v := .int .u64 (IntKind.u64.wrap y)) (w' := w1) ht (by omega) hb h20 hFF rfl rfl rfl ?_ (Below.refl _ _) rfl
      generalize Act.eval _ = ρ at *
      go_simp
    · have f1 := hFF 14 (by omega) (hdep _ rfl ⟨14, .data⟩ (by simp) rfl)
      simp only [Wd.Fact] at f1
      have e1 := (ev 14 (by omega)).trans f1
      change Act.eval { tmps := Wo.setAll Wd.slots u t, defers := d } (.tmp 62) = _ at e1
      refine r8_step (v := .int .u64 ((IntKind.u64.wrap y).tmod 7)) (w' := w1) ht (by omega) hb h20 hFF rfl rfl rfl ?_ (Below.refl _ _) rfl
      generalize Act.eval _ = ρ at *
      go_simp
    · have f1 := hFF 15 (by omega) (hdep _ rfl ⟨15, .data⟩ (by simp) rfl)
      simp only [Wd.Fact] at f1
      have e1 := (ev 15 (by omega)).trans f1
      change Act.eval { tmps := Wo.setAll Wd.slots u t, defers := d } (.tmp 63) = _ at e1
      refine r8_step (v := .int .i64 hq) (w' := w1) ht (by omega) hb h20 hFF rfl rfl rfl ?_ (Below.refl _ _) rfl
      generalize Act.eval _ = ρ at *
      go_simp
    · have f12 := hFF 12 (by omega) (hdep _ rfl ⟨12, .data⟩ (by simp) rfl)
      have f16 := hFF 16 (by omega) (hdep _ rfl ⟨16, .data⟩ (by simp) rfl)
      simp only [Wd.Fact] at f12 f16
      obtain ⟨g, hx, hI⟩ := f12
      have e12 := (ev 12 (by omega)).trans hx
      have e16 := (ev 16 (by omega)).trans f16
      change Act.eval { tmps := Wo.setAll Wd.slots u t, defers := d } (.tmp 60) = _ at e12
      change Act.eval { tmps := Wo.setAll Wd.slots u t, defers := d } (.tmp 64) = _ at e16
      rw [hx] at hI
      obtain ⟨a', c', hA⟩ := Wd.is_cells hI hq hq7
      rw [Nat.zero_add] at hA
      refine r8_step (v := .pointer (some ⟨g, hq * 3, none⟩)) (w' := w1) ht (by omega) hb h20 hFF rfl rfl rfl ?_ (Below.refl _ _) ⟨g, a', c', rfl, hA⟩
      clear hA hI hFF
      generalize Act.eval _ = ρ at *
      go_simp
      intro h
      omega
    · have f17 := hFF 17 (by omega) (hdep _ rfl ⟨17, .data⟩ (by simp) rfl)
      simp only [Wd.Fact] at f17
      obtain ⟨g, a', c', hx, hA⟩ := f17
      have e17 := (ev 17 (by omega)).trans hx
      change Act.eval { tmps := Wo.setAll Wd.slots u t, defers := d } (.tmp 65) = _ at e17
      obtain ⟨k0, k1, k2, k3, k4⟩ := hA
      refine r8_step (v := .agg #[.int .i64 ((Wd.badL m).getD hq Wd.d0).kind, .int .i64 ((Wd.badL m).getD hq Wd.d0).pos, .slice a' ((Wd.badL m).getD hq Wd.d0).data.length c']) (w' := w1) ht (by omega) hb h20 hFF rfl rfl rfl ?_ (Below.refl _ _) ⟨a', c', rfl, k3, k4⟩
      clear k3 k4 hFF hx
      generalize (Wd.badL m).getD hq Wd.d0 = bx at *
      generalize Act.eval _ = ρ at *
      go_simp
    · refine r8_step (v := .pointer (some ⟨w1.heap.size, 0, none⟩)) (w' := w1.alloc (.cells #[.int .i64 0, .int .i64 0, .slice none 0 0] 38)) ht (by omega) hb h20 hFF rfl rfl rfl ?_ (hal _) ⟨w1.heap.size, rfl, hb.size, by show (w1.heap.push _)[_]? = _; simp⟩
      generalize Act.eval _ = ρ at *
      go_simp
    · have f18 := hFF 18 (by omega) (hdep _ rfl ⟨18, .data⟩ (by simp) rfl)
      have f19 := hFF 19 (by omega) (hdep _ rfl ⟨19, .data⟩ (by simp) rfl)
      have hph : ∀ j, j < 20 → listed.getD j false = true := fun j hj => hdep _ rfl ⟨j, .phase⟩ (by simp; omega) rfl
      simp only [Wd.Fact] at f18 f19
      obtain ⟨a', c', hx, hH⟩ := f18
      obtain ⟨g, hx2, hbg, hgh⟩ := f19
      have e18 := (ev 18 (by omega)).trans hx
      have e19 := (ev 19 (by omega)).trans hx2
      change Act.eval { tmps := Wo.setAll Wd.slots u t, defers := d } (.tmp 66) = _ at e18
      change Act.eval { tmps := Wo.setAll Wd.slots u t, defers := d } (.tmp 10) = _ at e19
      have q0 : w1.cell? ⟨g, 0, none⟩ = some (.int .i64 0) := by simp [World.cell?, hgh]
      have q1 : w1.cell? ⟨g, 1, none⟩ = some (.int .i64 0) := by simp [World.cell?, hgh]
      have q2 : w1.cell? ⟨g, 2, none⟩ = some (.slice none 0 0) := by simp [World.cell?, hgh]
      have p0 : w1.frozen? ⟨g, 0, none⟩ = false := by simp [World.frozen?, hgh]
      have p1 : w1.frozen? ⟨g, 1, none⟩ = false := by simp [World.frozen?, hgh]
      have p2 : w1.frozen? ⟨g, 2, none⟩ = false := by simp [World.frozen?, hgh]
      refine Wo.wpOp_skip (w' := ((w1.setCell ⟨g, 0, none⟩ (.int .i64 ((Wd.badL m).getD hq Wd.d0).kind)).setCell ⟨g, 1, none⟩ (.int .i64 ((Wd.badL m).getD hq Wd.d0).pos)).setCell ⟨g, 2, none⟩ (.slice a' ((Wd.badL m).getD hq Wd.d0).data.length c')) rfl rfl rfl ?_ ?_
      · clear hFF hx hx2 hH
        generalize (Wd.badL m).getD hq Wd.d0 = bx at *
        generalize Act.eval _ = ρ at *
        go_simp
      · clear hFF
        obtain ⟨W', hW'⟩ : ∃ W', ((w1.setCell ⟨g, 0, none⟩ (.int .i64 ((Wd.badL m).getD hq Wd.d0).kind)).setCell ⟨g, 1, none⟩ (.int .i64 ((Wd.badL m).getD hq Wd.d0).pos)).setCell ⟨g, 2, none⟩ (.slice a' ((Wd.badL m).getD hq Wd.d0).data.length c') = W' := ⟨_, rfl⟩
        have hbw : Below w.heap.size w W' := by rw [← hW']; exact ((hb.setCell (p := ⟨g, 0, none⟩) hbg _).setCell (p := ⟨g, 1, none⟩) hbg _).setCell (p := ⟨g, 2, none⟩) hbg _
        have hh : W'.heap[g]? = some (.cells #[.int .i64 ((Wd.badL m).getD hq Wd.d0).kind, .int .i64 ((Wd.badL m).getD hq Wd.d0).pos, .slice a' ((Wd.badL m).getD hq Wd.d0).data.length c'] 38) := by
          rw [← hW']; simp [World.setCell, Array.getElem?_modify, hgh]
        have hsz : w1.heap.size ≤ W'.heap.size := by rw [← hW']; simp [World.setCell]
        have ho : ∀ b, b ≠ g → W'.heap[b]? = w1.heap[b]? := fun b hne => by
          rw [← hW', Deep.blk_setCell_other _ _ _ _ hne, Deep.blk_setCell_other _ _ _ _ hne, Deep.blk_setCell_other _ _ _ _ hne]
        rw [hW']
        clear hW'
        have hB2 := bs_apart hgh ho hsz hH.1
        have hS2 := hH.2
        dsimp only at hB2 hS2
        refine ⟨u, rfl, hbw, fun _ => ⟨fun j hj => ?_, g, a', c', hx2, ?_⟩, fun h => ?_⟩
        · have hne : ¬ 20 = j := by omega
          have e2 : (listed.setIfInBounds 20 true).getD j false = listed.getD j false := by simp [Array.getD_eq_getD_getElem?, hne]
          rw [e2]; exact hph j hj
        · generalize (Wd.badL m).getD hq Wd.d0 = bx at *
          exact ⟨by simp [World.cell?, hh], by simp [World.cell?, hh], by simp [World.cell?, hh], hB2, hS2⟩
        · have : (listed.setIfInBounds 20 true).getD 20 false = true := by simp [Array.getD_eq_getD_getElem?, hs21]
          rw [this] at h; cases h

end Go.Proofs.Ytjacpmbdmbahhaa
