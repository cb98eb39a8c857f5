/-
  What open.Open returns, for every device.
-/
import Derived.Test.YtiobegoiehjfiaaGreatQe
import Derived.Test.YtiobegoiehjfiaaGreatJC
namespace Go.Proofs.YtiobegoiehjfiaaGreat
open Go.RowKit

/-- A state as a value. -/
def stv (s : Ws.Sup) (t : Int) (v : Value) : Value := .agg #[.int .i64 s.gen, .int .i64 s.blocks, .int .i64 s.root, .int .i64 s.size, .int .i64 s.first, .int .i64 t, v]
/-- The block B is a state's own cells. -/
def Zh (w : World) (B : Nat) (s : Ws.Sup) (t : Int) (v : Value) : Prop := w.heap[B]? = some (.cells #[.int .i64 s.gen, .int .i64 s.blocks, .int .i64 s.root, .int .i64 s.size, .int .i64 s.first, .int .i64 t, v] 38 (0, 0))
theorem Zh.new (w : World) (s : Ws.Sup) (t : Int) (v : Value) : Zh (w.alloc (.cells #[.int .i64 s.gen, .int .i64 s.blocks, .int .i64 s.root, .int .i64 s.size, .int .i64 s.first, .int .i64 t, v] 38)) w.heap.size s t v := by
  show (w.heap.push _)[w.heap.size]? = _; simp
theorem Zh.lt {w : World} {B : Nat} {s : Ws.Sup} {t : Int} {v : Value} (h : Zh w B s t v) : B < w.heap.size := (Array.getElem?_eq_some_iff.1 h).1
theorem Zh.keep {w w' : World} {B : Nat} {s : Ws.Sup} {t : Int} {v : Value} (h : Zh w B s t v) (hb : Below w.heap.size w w') : Zh w' B s t v := by
  unfold Zh; rw [hb.block B h.lt]; exact h
theorem Zh.frozen {w : World} {B : Nat} {s : Ws.Sup} {t : Int} {v : Value} (h : Zh w B s t v) (i : Nat) : w.frozen? ⟨B, i, none⟩ = false := by
  simp [World.frozen?, show w.heap[B]? = _ from h]
def Zc (w : World) (B : Nat) (s : Ws.Sup) (t : Int) (v : Value) : Prop :=
  w.cell? ⟨B, 0, none⟩ = some (.int .i64 s.gen) ∧ w.cell? ⟨B, 1, none⟩ = some (.int .i64 s.blocks) ∧ w.cell? ⟨B, 2, none⟩ = some (.int .i64 s.root) ∧ w.cell? ⟨B, 3, none⟩ = some (.int .i64 s.size) ∧ w.cell? ⟨B, 4, none⟩ = some (.int .i64 s.first) ∧
  w.cell? ⟨B, 5, none⟩ = some (.int .i64 t) ∧ w.cell? ⟨B, 6, none⟩ = some v
theorem Zh.zc {w : World} {B : Nat} {s : Ws.Sup} {t : Int} {v : Value} (h : Zh w B s t v) : Zc w B s t v := by
  have e : w.heap[B]? = _ := h
  refine ⟨?_, ?_, ?_, ?_, ?_, ?_, ?_⟩ <;> simp [World.cell?, e]
theorem Zh.over {w : World} {B : Nat} {s : Ws.Sup} {t : Int} {v : Value} (h : Zh w B s t v) (s' : Ws.Sup) (t' : Int) (v' : Value) :
    Zh (((((((w.setCell ⟨B, 0, none⟩ (.int .i64 s'.gen)).setCell ⟨B, 1, none⟩ (.int .i64 s'.blocks)).setCell ⟨B, 2, none⟩ (.int .i64 s'.root)).setCell ⟨B, 3, none⟩ (.int .i64 s'.size)).setCell ⟨B, 4, none⟩ (.int .i64 s'.first)).setCell ⟨B, 5, none⟩ (.int .i64 t')).setCell ⟨B, 6, none⟩ v') B s' t' v' := by
  have h0 := heap_setCell_same w B 0 _ 38 (.int .i64 s'.gen) h
  have h1 := heap_setCell_same _ B 1 _ 38 (.int .i64 s'.blocks) h0
  have h2 := heap_setCell_same _ B 2 _ 38 (.int .i64 s'.root) h1
  have h3 := heap_setCell_same _ B 3 _ 38 (.int .i64 s'.size) h2
  have h4 := heap_setCell_same _ B 4 _ 38 (.int .i64 s'.first) h3
  have h5 := heap_setCell_same _ B 5 _ 38 (.int .i64 t') h4
  have h6 := heap_setCell_same _ B 6 _ 38 v' h5
  unfold Zh
  simpa using h6
theorem below7 {B0 B : Nat} {a w : World} (h : Below B0 a w) (hB : B0 ≤ B) (s : Ws.Sup) (t : Int) (v : Value) :
    Below B0 a (((((((w.setCell ⟨B, 0, none⟩ (.int .i64 s.gen)).setCell ⟨B, 1, none⟩ (.int .i64 s.blocks)).setCell ⟨B, 2, none⟩ (.int .i64 s.root)).setCell ⟨B, 3, none⟩ (.int .i64 s.size)).setCell ⟨B, 4, none⟩ (.int .i64 s.first)).setCell ⟨B, 5, none⟩ (.int .i64 t)).setCell ⟨B, 6, none⟩ v) :=
  ((((((h.setCell (p := ⟨B, 0, none⟩) hB _).setCell (p := ⟨B, 1, none⟩) hB _).setCell (p := ⟨B, 2, none⟩) hB _).setCell (p := ⟨B, 3, none⟩) hB _).setCell (p := ⟨B, 4, none⟩) hB _).setCell (p := ⟨B, 5, none⟩) hB _).setCell (p := ⟨B, 6, none⟩) hB _
theorem ret_cell27 {fn : Func} {tmps : Array Value} {w : World} {B : Nat} {s : Ws.Sup} {t : Int} {a : Option Addr} {n c : Nat} {v : Value} (hr : fn.results = #[.cell 2 38, .tmp 3]) (hp : tmps.getD 2 undef = .pointer (some ⟨B, 0, none⟩)) (hv : tmps.getD 3 undef = v) (h : Zc w B s t (.slice a n c)) :
    (results fn tmps).run Tryz.prog w = .ok (.tuple #[stv s t (.slice a n c), v]) w := by
  obtain ⟨c0, c1, c2, c3, c4, c5, c6⟩ := h
  rw [results_cell_tmp hr, hp, hv]
  simp [go_sem, c0, c1, c2, c3, c4, c5, c6, stv]
/-- Records stay where a block is written that holds none of them. -/
theorem rs_set {w : World} {v : Value} {l : List Wr.Rec} {B : Nat} (h : Wi.Rs w v l) (hB : ∀ b o n c, v = .slice (some ⟨b, o, none⟩) n c → 0 < n → ¬ b = B) (o : Nat) (u : Value) : Wi.Rs (w.setCell ⟨B, o, none⟩ u) v l := by
  obtain ⟨a, n, cap, rfl, h2, h3, h4, h5, h6⟩ := h
  refine ⟨a, n, cap, rfl, h2, h3, h4, h5, fun hn => ?_⟩
  obtain ⟨b, off, rfl, k2, k3⟩ := h6 hn
  have hne := hB b off n cap rfl hn
  have hc : ∀ i, (w.setCell ⟨B, o, none⟩ u).cell? ⟨b, i, none⟩ = w.cell? ⟨b, i, none⟩ := fun i => World.cell?_of_block (a := ⟨b, i, none⟩) (heap_setCell_other _ _ _ _ hne)
  refine ⟨b, off, rfl, by have := ((Below.refl 0 w).setCell (p := ⟨B, o, none⟩) (Nat.zero_le _) u).size; omega, fun i hi => ?_⟩
  obtain ⟨r0, r1, r2, r3, r4, r5, r6, r7⟩ := k3 i hi
  exact ⟨(hc _).trans r0, (hc _).trans r1, (hc _).trans r2, (hc _).trans r3, (hc _).trans r4, (hc _).trans r5, (hc _).trans r6, (hc _).trans r7⟩

/-- A state's cells hold no records: they are too few. -/
theorem rs_apart {w : World} {v u : Value} {l : List Wr.Rec} {B : Nat} {s : Ws.Sup} {t : Int} (h : Wi.Rs w v l) (hZ : Zh w B s t u) : ∀ b o n c, v = .slice (some ⟨b, o, none⟩) n c → 0 < n → ¬ b = B := by
  intro b o n c hv hn e
  subst e
  obtain ⟨a, n', cap, h1, h2, h3, h4, h5, h6⟩ := h
  rw [hv] at h1
  cases h1
  obtain ⟨b', off, e, k2, k3⟩ := h6 hn
  cases e
  have h7 := (k3 0 hn).2.2.2.2.2.2.2
  have hz : w.heap[b]? = _ := hZ
  simp [World.cell?, hz] at h7

/-- What is told of a superblock that is picked. -/
theorem slot_pos {n : Int} {b : List Int} (h : 0 < (Ws.slotS n b).gen) : Ws.supB (Ws.slotS n b) = true ∧ (Ws.slotS n b).blocks = n := by
  by_cases e : Ws.parE b = 0 ∧ (Ws.par b).blocks = n
  · rw [(Ws.slot_yes e).1]; exact ⟨(Ws.parE_zero e.1).2.2, e.2⟩
  · rw [Ws.slot_no e] at h; exact absurd h (by decide)
theorem pick_told {xs : List Int} (h : (pickA xs).2.2 = 0) : Wd.devB xs.length = true ∧ Ws.supB (pickA xs).1 = true ∧ (pickA xs).1.blocks = ((xs.length / 64 : Nat) : Int) ∧ ((pickA xs).2.1 = 0 ∨ (pickA xs).2.1 = 1) := by
  unfold pickA at *
  by_cases hd : Wd.devB xs.length = true
  · rw [if_pos hd] at *
    unfold Ws.pickR Ws.picks at *
    refine ⟨hd, ?_⟩
    generalize hx : Ws.slotS ((xs.length / 64 : Nat) : Int) (xs.take 64) = x at *
    generalize hy : Ws.slotS ((xs.length / 64 : Nat) : Int) ((xs.drop 64).take 64) = y at *
    by_cases c1 : (if 0 < x.gen then x else Ws.s0).gen < y.gen
    · rw [if_pos c1] at h ⊢
      have hp : 0 < y.gen := by
        by_cases e : 0 < x.gen
        · rw [if_pos e] at c1; omega
        · rw [if_neg e] at c1; exact c1
      have := slot_pos (by rw [hy]; exact hp)
      rw [hy] at this
      exact ⟨this.1, this.2, .inr rfl⟩
    · rw [if_neg c1] at h ⊢
      by_cases c2 : 0 < x.gen
      · rw [if_pos c2] at h ⊢
        have := slot_pos (by rw [hx]; exact c2)
        rw [hx] at this
        exact ⟨this.1, this.2, .inl rfl⟩
      · rw [if_neg c2] at h; cases h
  · rw [if_neg hd] at h; cases h

/-- What Open tells. -/
def opnE (xs : List Int) : Int := if (pickA xs).2.2 = 0 then (match Wi.recs xs (pickA xs).1.first with | none => 7 | some b => if Wi.sndB xs (pickA xs).1 b = true then 0 else 6) else (pickA xs).2.2
def opnS (xs : List Int) : Ws.Sup := if opnE xs = 0 then (pickA xs).1 else Ws.s0
def opnT (xs : List Int) : Int := if opnE xs = 0 then (pickA xs).2.1 else 0
def opnB (xs : List Int) : List Int := if opnE xs = 0 then Wi.recP xs (pickA xs).1.first else []
def opnL (xs : List Int) : List Wr.Rec := (opnB xs).map (Wi.recAt xs)
def OpenPost (xs : List Int) (w : World) : Ending → World → Prop := fun e w' =>
  ∃ a n c, e = .returned (.tuple #[stv (opnS xs) (opnT xs) (.slice a n c), .int .i64 (opnE xs)]) ∧ Wi.Rs w' (.slice a n c) (opnL xs) ∧ Below w.heap.size w w'
theorem opn_bad {xs : List Int} {w w' : World} {E : Int} (h : opnE xs = E) (hE : ¬ E = 0) (hb : Below w.heap.size w w') : OpenPost xs w (.returned (.tuple #[stv Ws.s0 0 (.slice none 0 0), .int .i64 E])) w' := by
  refine ⟨none, 0, 0, ?_, ?_, hb⟩
  · unfold opnS opnT; rw [if_neg (by rw [h]; exact hE), if_neg (by rw [h]; exact hE), h]
  · unfold opnL opnB; rw [if_neg (by rw [h]; exact hE)]; exact Wi.Rs.nil _
theorem opn_good {xs : List Int} (h : opnE xs = 0) : (pickA xs).2.2 = 0 ∧ opnS xs = (pickA xs).1 ∧ opnT xs = (pickA xs).2.1 ∧ Wi.recs xs (pickA xs).1.first = some (opnB xs) ∧ Wi.sndB xs (pickA xs).1 (opnB xs) = true := by
  have hp : (pickA xs).2.2 = 0 := by
    by_cases e : (pickA xs).2.2 = 0
    · exact e
    · unfold opnE at h; rw [if_neg e] at h; exact absurd h e
  refine ⟨hp, by rw [opnS, if_pos h], by rw [opnT, if_pos h], ?_⟩
  have h' := h
  unfold opnE at h'
  rw [if_pos hp] at h'
  have hd := (pick_told hp).1
  rw [opnB, if_pos h]
  cases hr : Wi.recs xs (pickA xs).1.first with
  | none => rw [hr] at h'; cases h'
  | some b =>
    rw [hr] at h'
    rw [(Wi.rec_some hd hr).2.1]
    refine ⟨rfl, ?_⟩
    by_cases e : Wi.sndB xs (pickA xs).1 b = true
    · exact e
    · simp only at h'
      rw [if_neg e] at h'; cases h'

set_option maxRecDepth 100000 in
set_option maxHeartbeats 6400000 in
theorem oopen_any (v : Value) (xs : List Int) (w : World) (hv : Wc.Bs w v xs) : Calls Tryz.prog 29 #[v] w (OpenPost xs w) := by
  obtain ⟨ai, ni, ci, rfl, -⟩ := id hv
  have b1 : Below w.heap.size w (w.alloc (.cells #[.int .i64 0, .int .i64 0, .int .i64 0, .int .i64 0, .int .i64 0, .int .i64 0, .slice none 0 0] 38)) := (Below.refl _ _).alloc (Nat.le_refl _) _
  have Z1 := Wc.hid (Zh.new w Ws.s0 0 (.slice none 0 0))
  have V0 := Wc.hid hv
  have V1 := Wc.hid (hv.keep b1)
  have B1 := Wc.hid b1
  clear hv b1
  obtain ⟨s, hs⟩ : ∃ s, (pickA xs).1 = s := ⟨_, rfl⟩
  obtain ⟨t, ht⟩ : ∃ t, (pickA xs).2.1 = t := ⟨_, rfl⟩
  obtain ⟨E, hE⟩ : ∃ E, (pickA xs).2.2 = E := ⟨_, rfl⟩
  have HS := Wc.hid hs
  have HT := Wc.hid ht
  have HE := Wc.hid hE
  clear hs ht hE
  go_enter Tryz.func29, Tryz.ntmps29
  go_wp2_with fail
  refine (pick_any ai ni ci xs _ V1.out).mono ?_
  rintro e w1 ⟨rfl, hb1⟩
  rw [HS.out, HT.out, HE.out]
  unfold sv
  have bA : Below w1.heap.size w1 (w1.alloc (.cells #[.int .i64 s.gen, .int .i64 s.blocks, .int .i64 s.root, .int .i64 s.size, .int .i64 s.first] 35)) := (Below.refl _ _).alloc (Nat.le_refl _) _
  have B2 := Wc.hid (Wc.step (Wc.step B1.out (Nat.le_refl _) hb1) (Nat.le_refl _) bA)
  have Z2 := Wc.hid ((Z1.out.keep hb1).keep bA)
  have S2 := Wc.hid (Sh.new w1 s)
  have ⟨c0, c1, c2, c3, c4⟩ := S2.out.sc
  have ⟨z0, z1, z2, z3, z4, z5, z6⟩ := Z2.out.zc
  have zf := Z2.out.frozen
  clear hb1 bA
  by_cases h0 : E = 0
  · subst h0
    have hpk := pick_told HE.out
    rw [HS.out, HT.out] at hpk
    obtain ⟨hd, hsb, hbl, hsl⟩ := hpk
    have HD := Wc.hid hd
    have HSB := Wc.hid hsb
    have HBL := Wc.hid hbl
    clear hd hsb hbl hsl z0 z1 z2 z3 z4 z5 z6 zf
    go_wp2_with fail
    refine (records_any _ xs s.first _ (V0.out.keep B2.out)).mono ?_
    rintro e w2 ⟨a, n, c, a', n', c', rfl, hR, hP, hb2⟩
    have B3 := Wc.hid (Wc.step B2.out (Nat.le_refl _) hb2)
    have Z3 := Wc.hid (Z2.out.keep hb2)
    have S3 := Wc.hid (S2.out.keep hb2)
    have ⟨d0, d1, d2, d3, d4⟩ := S3.out.sc
    clear hb2 c0 c1 c2 c3 c4
    cases hr : Wi.recs xs s.first with
    | none =>
      have h7 := Wi.rec_none HD.out hr
      rw [h7.1]
      have HO : Hid (opnE xs = 7) := Wc.hid (by unfold opnE; rw [if_pos HE.out, HS.out, hr])
      have ⟨z0, z1, z2, z3, z4, z5, z6⟩ := Z3.out.zc
      have zf := Z3.out.frozen
      clear h7 hr hR hP
      go_wp2_with fail
      exact bodyPost_ret (ret_cell27 rfl rfl rfl (Z3.out.over Ws.s0 0 (.slice none 0 0)).zc) rfl (opn_bad HO.out (by decide) (below7 B3.out (Nat.le_refl _) Ws.s0 0 (.slice none 0 0)))
    | some b =>
      have h7 := Wi.rec_some HD.out hr
      rw [h7.1]
      rw [h7.2.2] at hR
      rw [h7.2.1] at hP
      have HR := Wc.hid hR
      have HP := Wc.hid hP
      have HI := Wc.hid (Wi.recs_told hr).2.1
      have HRR := Wc.hid hr
      have HP1 := Wc.hid h7.2.1
      clear h7 hr hR hP
      obtain ⟨q, hq⟩ : ∃ q, Wi.sndB xs s b = q := ⟨_, rfl⟩
      have HQ := Wc.hid hq
      clear hq
      go_wp2_with fail
      refine (sound_any _ xs b s a a' n c n' c' _ (V0.out.keep B3.out) HD.out HSB.out HBL.out HR.out HP.out HI.out).mono ?_
      rintro e w3 ⟨rfl, hb3⟩
      rw [HQ.out]
      have B4 := Wc.hid (Wc.step B3.out (Nat.le_refl _) hb3)
      have Z4 := Wc.hid (Z3.out.keep hb3)
      have S4 := Wc.hid (S3.out.keep hb3)
      have R4 := Wc.hid (HR.out.keep hb3)
      have ⟨f0, f1, f2, f3, f4⟩ := S4.out.sc
      have ⟨z0, z1, z2, z3, z4, z5, z6⟩ := Z4.out.zc
      have zf := Z4.out.frozen
      clear hb3 d0 d1 d2 d3 d4
      cases q
      · have HO : Hid (opnE xs = 6) := Wc.hid (by unfold opnE; rw [if_pos HE.out, HS.out, HRR.out]; simp [HQ.out])
        go_wp2_with fail
        exact bodyPost_ret (ret_cell27 rfl rfl rfl (Z4.out.over Ws.s0 0 (.slice none 0 0)).zc) rfl (opn_bad HO.out (by decide) (below7 B4.out (Nat.le_refl _) Ws.s0 0 (.slice none 0 0)))
      · have HO : Hid (opnE xs = 0) := Wc.hid (by unfold opnE; rw [if_pos HE.out, HS.out, HRR.out]; simp [HQ.out])
        go_wp2_with fail
        refine bodyPost_ret (ret_cell27 rfl rfl rfl (Z4.out.over s t (.slice a n c)).zc) rfl ⟨a, n, c, ?_, ?_, below7 B4.out (Nat.le_refl _) s t (.slice a n c)⟩
        · unfold opnS opnT
          rw [if_pos HO.out, if_pos HO.out, HS.out, HT.out, HO.out]; rfl
        · unfold opnL opnB
          rw [if_pos HO.out, HS.out, HP1.out]
          have hne := rs_apart R4.out Z4.out
          exact rs_set (rs_set (rs_set (rs_set (rs_set (rs_set (rs_set R4.out hne _ _) hne _ _) hne _ _) hne _ _) hne _ _) hne _ _) hne _ _
  · have hEb : (E != 0) = true := by simpa using h0
    have HO : Hid (opnE xs = E) := Wc.hid (by unfold opnE; rw [if_neg (by rw [HE.out]; exact h0), HE.out])
    have HN := Wc.hid h0
    clear h0
    go_wp2_with fail
    exact bodyPost_ret (ret_cell27 rfl rfl rfl (Z2.out.over Ws.s0 0 (.slice none 0 0)).zc) rfl (opn_bad HO.out HN.out (below7 B2.out (Nat.le_refl _) Ws.s0 0 (.slice none 0 0)))

end Go.Proofs.YtiobegoiehjfiaaGreat
