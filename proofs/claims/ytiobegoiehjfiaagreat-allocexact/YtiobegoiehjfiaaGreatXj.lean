/-
  What the page's Open tells, and where it ends early.
-/
import Derived.Test.YtiobegoiehjfiaaGreatXh
import Derived.Test.YtiobegoiehjfiaaGreatQp
namespace Go.Proofs.YtiobegoiehjfiaaGreat
open Go.RowKit

theorem pickRpk {ys X Y : List Int} {m : Int} (hd : Wd.devB ys.length = true) (hm : ((ys.length / 64 : Nat) : Int) = m) (hX : ys.take 64 = X) (hY : (ys.drop 64).take 64 = Y) :
    pickA ys = ((rpk (onB m X) (onB m Y) (Ws.par X) (Ws.par Y)).1, (rpk (onB m X) (onB m Y) (Ws.par X) (Ws.par Y)).2.1, if (rpk (onB m X) (onB m Y) (Ws.par X) (Ws.par Y)).2.2 = true then 0 else 8) := by
  rw [← rpk_picks, pickA, if_pos hd]
  unfold Ws.pickR
  rw [hm, hX, hY]
/-- What the page's Open tells. -/
def ROpenPost (xs : List Int) (w : World) : Ending → World → Prop := fun e w' =>
  ∃ a n c a' nb cb m' nm cm n' nn cn k, e = .returned (.tuple #[imv (opnS xs) (opnT xs) (.slice a n c) (.slice a' nb cb) (.slice m' nm cm) (.slice n' nn cn), .agg #[.int .i64 k, .int .i64 (opnE xs)]]) ∧ Wi.Rs w' (.slice a n c) (opnL xs) ∧ Below w.heap.size w w' ∧
    (opnE xs = 0 → Nt w' (.slice a' nb cb) (opnB xs) ∧ Ol w.heap.size w' (.slice m' nm cm) ((Wi.trees (opnS xs) (opnL xs)).map fun t => Wt.treS xs t.1) ∧ Ol w.heap.size w' (.slice n' nn cn) ((Wi.trees (opnS xs) (opnL xs)).map fun t => Wt.treN xs t.1))
theorem opn_nopick {xs : List Int} {E : Int} (h : (pickA xs).2.2 = E) (hE : ¬ E = 0) : opnE xs = E := by
  unfold opnE
  rw [if_neg (by rw [h]; exact hE), h]
theorem ropen_bad {xs : List Int} {w w1 : World} {P2 P3 : Nat} {k E : Int} (h : opnE xs = E) (hE : ¬ E = 0) (hI : Ih w1 P2 Ws.s0 0 (.slice none 0 0) (.slice none 0 0) (.slice none 0 0) (.slice none 0 0)) (hF : Fh w1 P3 0 0) (h2 : w.heap.size ≤ P2) (h3 : w.heap.size ≤ P3) (hb : Below w.heap.size w w1)
    {tmps : Array Value} (t2 : tmps.getD 2 undef = .pointer (some ⟨P2, 0, none⟩)) (t3 : tmps.getD 3 undef = .pointer (some ⟨P3, 0, none⟩)) {d : List Deferred} (hd : d = []) :
    bodyPost Tryz.prog Tryz.f11 (ROpenPost xs w) .ret { tmps := tmps, defers := d } (over2 (over10 w1 P2 Ws.s0 0 (.slice none 0 0) (.slice none 0 0) (.slice none 0 0) (.slice none 0 0)) P3 k E) := by
  have hne : P3 ≠ P2 := fun e => by subst e; unfold Ih at hI; unfold Fh at hF; rw [hI] at hF; cases hF
  have hI2 := hI.over Ws.s0 0 (.slice none 0 0) (.slice none 0 0) (.slice none 0 0) (.slice none 0 0)
  have hF2 : Fh (over10 w1 P2 Ws.s0 0 (.slice none 0 0) (.slice none 0 0) (.slice none 0 0) (.slice none 0 0)) P3 0 0 := (over10_other w1 P2 Ws.s0 0 (.slice none 0 0) (.slice none 0 0) (.slice none 0 0) (.slice none 0 0) hne).trans hF
  have hF3 := hF2.over k E
  have hI3 : Ih (over2 (over10 w1 P2 Ws.s0 0 (.slice none 0 0) (.slice none 0 0) (.slice none 0 0) (.slice none 0 0)) P3 k E) P2 Ws.s0 0 (.slice none 0 0) (.slice none 0 0) (.slice none 0 0) (.slice none 0 0) := (over2_other _ P3 k E hne.symm).trans hI2
  subst hd
  have hB := over2_below (over10_below hb h2 Ws.s0 0 (.slice none 0 0) (.slice none 0 0) (.slice none 0 0) (.slice none 0 0)) h3 k E
  refine bodyPost_ret (ret_img rfl t2 t3 hI3.ic ⟨hF3.fc.1, hF3.fc.2.1⟩) rfl ⟨none, 0, 0, none, 0, 0, none, 0, 0, none, 0, 0, k, ?_, ?_, hB, fun h0 => absurd (h.symm.trans h0) hE⟩
  · unfold opnS opnT; rw [if_neg (by rw [h]; exact hE), if_neg (by rw [h]; exact hE), h]
  · unfold opnL opnB; rw [if_neg (by rw [h]; exact hE)]; exact Wi.Rs.nil _

/-- Records in a block of records. -/
def Rt (w : World) (v : Value) (l : List Wr.Rec) : Prop := Wi.Rs w v l ∧ Tk 63 w v
theorem Tk.keep {k : Nat} {w w' : World} {v : Value} (h : Tk k w v) (hb : Below w.heap.size w w') : Tk k w' v := fun b o n c e => by
  obtain ⟨cs, fr, h1⟩ := h b o n c e
  exact ⟨cs, fr, by rw [hb.block b (Array.getElem?_eq_some_iff.1 h1).1]; exact h1⟩
theorem Rt.stay {w w' : World} {v : Value} {l : List Wr.Rec} (h : Rt w v l) (hs : w.heap.size ≤ w'.heap.size) (hb : ∀ (b : Nat) (cs : Array Value) (fr : Nat × Nat), w.heap[b]? = some (.cells cs 63 fr) → w'.heap[b]? = some (.cells cs 63 fr)) : Rt w' v l := by
  obtain ⟨⟨a, n, cap, rfl, h2, h3, h4, h5, h6⟩, ht⟩ := h
  refine ⟨⟨a, n, cap, rfl, h2, h3, h4, h5, fun hn => ?_⟩, fun b o n' c' e => ?_⟩
  · obtain ⟨b, off, rfl, k2, k3⟩ := h6 hn
    obtain ⟨cs, fr, hc⟩ := ht b off n cap rfl
    have := hb b cs fr hc
    have hcell : ∀ j, w'.cell? ⟨b, j, none⟩ = w.cell? ⟨b, j, none⟩ := fun j => World.cell?_of_block (a := ⟨b, j, none⟩) (this.trans hc.symm)
    refine ⟨b, off, rfl, by omega, fun i hi => ?_⟩
    obtain ⟨r0, r1, r2, r3, r4, r5, r6, r7⟩ := k3 i hi
    exact ⟨(hcell _).trans r0, (hcell _).trans r1, (hcell _).trans r2, (hcell _).trans r3, (hcell _).trans r4, (hcell _).trans r5, (hcell _).trans r6, (hcell _).trans r7⟩
  · obtain ⟨cs, fr, hc⟩ := ht b o n' c' e
    exact ⟨cs, fr, hb b cs fr hc⟩
theorem Rt.keep {w w' : World} {v : Value} {l : List Wr.Rec} (h : Rt w v l) (hb : Below w.heap.size w w') : Rt w' v l := ⟨h.1.keep hb, h.2.keep hb⟩
/-- Eight cells of an image's written over. -/
def over8 (w : World) (P : Nat) (s : Ws.Sup) (t : Int) (r b : Value) : World :=
  (((((((w.setCell ⟨P, 0, none⟩ (.int .i64 s.gen)).setCell ⟨P, 1, none⟩ (.int .i64 s.blocks)).setCell ⟨P, 2, none⟩ (.int .i64 s.root)).setCell ⟨P, 3, none⟩ (.int .i64 s.size)).setCell ⟨P, 4, none⟩ (.int .i64 s.first)).setCell ⟨P, 5, none⟩ (.int .i64 t)).setCell ⟨P, 6, none⟩ r).setCell ⟨P, 7, none⟩ b
theorem over8_other (w : World) (P : Nat) (s : Ws.Sup) (t : Int) (r b : Value) {g : Nat} (hg : g ≠ P) : (over8 w P s t r b).heap[g]? = w.heap[g]? := by
  unfold over8
  rw [heap_setCell_other _ _ _ _ hg, heap_setCell_other _ _ _ _ hg, heap_setCell_other _ _ _ _ hg, heap_setCell_other _ _ _ _ hg, heap_setCell_other _ _ _ _ hg, heap_setCell_other _ _ _ _ hg, heap_setCell_other _ _ _ _ hg, heap_setCell_other _ _ _ _ hg]
theorem over8_below {b0 P : Nat} {a w : World} (h : Below b0 a w) (hP : b0 ≤ P) (s : Ws.Sup) (t : Int) (r b : Value) : Below b0 a (over8 w P s t r b) :=
  (((((((h.setCell (p := ⟨P, 0, none⟩) hP _).setCell (p := ⟨P, 1, none⟩) hP _).setCell (p := ⟨P, 2, none⟩) hP _).setCell (p := ⟨P, 3, none⟩) hP _).setCell (p := ⟨P, 4, none⟩) hP _).setCell (p := ⟨P, 5, none⟩) hP _).setCell (p := ⟨P, 6, none⟩) hP _).setCell (p := ⟨P, 7, none⟩) hP _
theorem over8_size (w : World) (P : Nat) (s : Ws.Sup) (t : Int) (r b : Value) : (over8 w P s t r b).heap.size = w.heap.size := by
  unfold over8; simp [World.setCell]
theorem Ih.eight {w : World} {P : Nat} {s : Ws.Sup} {t : Int} {r b m n : Value} (h : Ih w P s t r b m n) (s' : Ws.Sup) (t' : Int) (r' b' : Value) : Ih (over8 w P s' t' r' b') P s' t' r' b' m n := by
  have h0 := heap_setCell_same w P 0 _ 41 (.int .i64 s'.gen) h
  have h1 := heap_setCell_same _ P 1 _ 41 (.int .i64 s'.blocks) h0
  have h2 := heap_setCell_same _ P 2 _ 41 (.int .i64 s'.root) h1
  have h3 := heap_setCell_same _ P 3 _ 41 (.int .i64 s'.size) h2
  have h4 := heap_setCell_same _ P 4 _ 41 (.int .i64 s'.first) h3
  have h5 := heap_setCell_same _ P 5 _ 41 (.int .i64 t') h4
  have h6 := heap_setCell_same _ P 6 _ 41 r' h5
  have h7 := heap_setCell_same _ P 7 _ 41 b' h6
  unfold Ih over8
  simpa using h7

/-- What stays all the while: the results' cells, the superblock's, the records, their blocks. -/
def Frm (P2 P3 P7 : Nat) (s : Ws.Sup) (r b : Value) (L : List Wr.Rec) (B : List Int) (w : World) : Prop :=
  Ih w P2 Ws.s0 0 (.slice none 0 0) (.slice none 0 0) (.slice none 0 0) (.slice none 0 0) ∧ Fh w P3 0 0 ∧ Sh w P7 s ∧ Rt w r L ∧ Nt w b B
theorem Frm.keep {P2 P3 P7 : Nat} {s : Ws.Sup} {r b : Value} {L : List Wr.Rec} {B : List Int} {w w' : World} (h : Frm P2 P3 P7 s r b L B w) (hb : Below w.heap.size w w') : Frm P2 P3 P7 s r b L B w' :=
  ⟨h.1.keep hb, h.2.1.keep hb, h.2.2.1.keep hb, h.2.2.2.1.keep hb, h.2.2.2.2.keep hb⟩
theorem Frm.gp {P P2 P3 P7 : Nat} {s : Ws.Sup} {r b : Value} {L : List Wr.Rec} {B : List Int} {w w' : World} (h : Frm P2 P3 P7 s r b L B w) (hs : w.heap.size ≤ w'.heap.size) (hg : Gp P w w') (h2 : P2 ≠ P) {cs : Array Value} (hP : w.heap[P]? = some (.cells cs 41 (0, 0))) : Frm P2 P3 P7 s r b L B w' := by
  have hne : ∀ (g : Nat) (c : Array Value) (T : TypeId) (f : Nat × Nat), w.heap[g]? = some (.cells c T f) → T ≠ 41 → g ≠ P := fun g c T f hb hT e => by
    subst e; rw [hP] at hb; cases hb; exact hT rfl
  exact ⟨hg _ _ _ _ h.1 (by decide) h2, hg _ _ _ _ h.2.1 (by decide) (hne _ _ _ _ h.2.1 (by decide)), hg _ _ _ _ h.2.2.1 (by decide) (hne _ _ _ _ h.2.2.1 (by decide)),
    h.2.2.2.1.stay hs (fun g c f hc => hg g c 63 f hc (by decide) (hne g c 63 f hc (by decide))), h.2.2.2.2.stay hs (fun g c f hc => hg g c 3 f hc (by decide) (hne g c 3 f hc (by decide)))⟩
end Go.Proofs.YtiobegoiehjfiaaGreat
