/-
  The region in which the page's Open puts a tree's map and its nodes behind the elder ones: all its orders.
-/
import Derived.Test.YtiobegoiehjfiaaGreatXf
namespace Go.Proofs.YtiobegoiehjfiaaGreat
open Go.RowKit

section
variable {b0 P : Nat} {W : World} {s : Ws.Sup} {tt : Int} {rr bb vm vn : Value} {Ms Ns : List (List Int)} {lm ln : List Int} {vp vq : Value} {t : Array Value} {d : List Deferred}
/-- An operation that makes memory. -/
theorem r25_work {Q : Exit → Act → World → Prop} (ht : t.size = 240) {l : Array Bool} {w w' : World} {i : Nat} {o : Oper} {u : Nat → Value} {v : Value} (hs : l.size = 14) (hi : i = 3 ∨ i = 4 ∨ i = 8 ∨ i = 9)
    (hI : Imp l) (hF : ∀ j, j < 14 → q25 j = true → l.getD j false = true → u (s25 j) = F25 P vm vn vp vq j) (h11 : l.getD 11 false = false)
    (h1 : W1 b0 P W vm vn Ms Ns lm ln vp vq ((l.setIfInBounds i true).getD 3 false) ((l.setIfInBounds i true).getD 4 false) ((l.setIfInBounds i true).getD 8 false) ((l.setIfInBounds i true).getD 9 false) (Wo.upd u (s25 i) v 116) (Wo.upd u (s25 i) v 117) (Wo.upd u (s25 i) v 121) (Wo.upd u (s25 i) v 122) w')
    (d8 : i = 8 → l.getD 7 false = true) (d9 : i = 9 → l.getD 8 false = true ∧ l.getD 4 false = true) (d4 : i = 4 → l.getD 3 false = true)
    (ho : r25[i]? = some o) (hg : o.guard = none) (hd : o.dst = some (s25 i)) (hrun : (execOp (Act.eval { tmps := Wo.setAll sl25 u t, defers := d }) o).run Tryz.prog w = .ok (.value v) w') :
    wpOp Tryz.prog r25 Q i (Iv25 b0 P W s tt rr bb vm vn Ms Ns lm ln vp vq t d (l.setIfInBounds i true)) { tmps := Wo.setAll sl25 u t, defers := d } w := by
  refine Wo.wpOp_run ho hg hrun ?_
  have hm := s25_mem i (by omega) (by omega)
  have hk : ∀ j, j < 14 → i ≠ j → (l.setIfInBounds i true).getD j false = l.getD j false := fun j hj e => by rw [get_set hs hj, if_neg e]
  refine ⟨Wo.upd u (s25 i) v, ?_, hI.set hs (by omega) (by omega) (by omega) d8 d9 d4, fun j hj hqj hlj => ?_, fun _ => h1, fun h => ?_⟩
  · rw [hd]
    simp only [Act.put]
    rw [Wo.setAll_put _ _ _ _ _ hm.1 (by omega)]
  · have hj' : j ≠ 11 ∧ j < 13 ∧ i ≠ j := by
      unfold q25 at hqj
      simp only [Bool.or_eq_true, beq_iff_eq] at hqj
      omega
    have : ¬ s25 j = s25 i := fun h => hj'.2.2 (s25_inj j hj'.2.1 i (by omega) hj'.1 (by omega) h).symm
    rw [hk j hj hj'.2.2] at hlj
    simp only [Wo.upd, if_neg this]
    exact hF j hj hqj hlj
  · rw [hk 11 (by decide) (by omega), h11] at h
    cases h

set_option maxRecDepth 100000 in
set_option maxHeartbeats 6400000 in
theorem region25 {am an : Option Addr} {nm cm nn cn : Nat} {Q : Exit → Act → World → Prop} (ht : t.size = 240) (h4 : t.getD 4 undef = .pointer (some ⟨P, 0, none⟩)) (h15 : t.getD 15 undef = vp) (h16 : t.getD 16 undef = vq) (hvp : vp = .slice am nm cm) (hvq : vq = .slice an nn cn)
    (hI : Ih W P s tt rr bb vm vn) (hOm : Ol b0 W vm Ms) (hOn : Ol b0 W vn Ns) (hAp : Ap vm vn) (hNm : Nt W vp lm) (hNn : Nt W vq ln) (hb0 : b0 ≤ W.heap.size) (hbP : b0 ≤ P) (hlm : Ms.length ≤ 900) (hln : Ns.length ≤ 900)
    (hQ : ∀ u w', W2 b0 P W s tt rr bb vn Ms Ns lm ln true (u 117) (u 122) w' → Q .normal { tmps := Wo.setAll sl25 u t, defers := d } w') :
    (Code.region 25 r25 true).wp Tryz.prog Q { tmps := t, defers := d } W := by
  have hP : P < W.heap.size := (Array.getElem?_eq_some_iff.1 hI).1
  refine wp_region_any (by kernel_rfl) ?_
  refine Wo.any_inv (Iv25 b0 P W s tt rr bb vm vn Ms Ns lm ln vp vq t d) ?step ?fin 14 _ _ _ (by simp) ⟨fun j => t.getD j undef, by rw [Wo.setAll_self], ?i1, ?i2, ?i3, ?i4⟩ (by simp)
  case i1 =>
    refine ⟨?_, ?_, ?_, ?_, ?_, ?_⟩ <;> intro h <;> simp [r25] at h
  case i2 =>
    intro j hj _ h
    simp [r25, Array.getD_eq_getD_getElem?, hj] at h
  case i3 =>
    intro _
    have hdr : Below W.heap.size W W.drew := (Below.refl _ _).drew
    refine ⟨(Below.refl _ _).drew, hdr.size, Gp.below hdr, hdr.block P hP, ?_, ?_, ?_, fun h => ?_, fun h => ?_⟩
    · simp [r25]; exact hOm.keep hdr
    · simp [r25]; exact hOn.keep hdr
    · simp [r25]; exact hAp
    · simp [r25] at h
    · simp [r25] at h
  case i4 => intro h; simp [r25] at h
  case fin =>
    rintro l a w1 hs ⟨u, rfl, hImp, hF, h1, h2⟩ hr
    have hall := all25 l hs hr
    have := h2 (hall 11 (by decide))
    rw [hall 13 (by decide)] at this
    exact hQ u w1 this
  case step =>
    rintro l a w1 i hs ⟨u, rfl, hImp, hF, h1, h2⟩ hi
    obtain ⟨hi14, hl, hdep⟩ := Wo.ready_spec hi
    have hs14 : l.size = 14 := hs
    have hi14' : i < 14 := hi14
    have hli : l.getD i false = false := by simpa [Array.getD_eq_getD_getElem?, show i < l.size by omega] using hl
    clear hi hl
    have h11 : i < 11 ∨ i = 11 → l.getD 11 false = false := fun h => by
      cases e : l.getD 11 false with
      | false => rfl
      | true =>
        rcases h with h | h
        · have := hImp.2.2.1 e i h
          rw [hli] at this; cases this
        · rw [← h, hli] at e; cases e
    have ev : ∀ j, j < 13 → j ≠ 11 → Act.eval { tmps := Wo.setAll sl25 u t, defers := d } (.tmp (s25 j)) = u (s25 j) := fun j hj hj2 => Wo.setAll_in _ _ _ _ (s25_mem j hj hj2).1 (by have := (s25_mem j hj hj2).2; omega) _
    have ev4 : Act.eval { tmps := Wo.setAll sl25 u t, defers := d } (.tmp 4) = .pointer (some ⟨P, 0, none⟩) := (Wo.setAll_out _ _ _ _ (by decide) _).trans h4
    have ev15 : Act.eval { tmps := Wo.setAll sl25 u t, defers := d } (.tmp 15) = vp := (Wo.setAll_out _ _ _ _ (by decide) _).trans h15
    have ev16 : Act.eval { tmps := Wo.setAll sl25 u t, defers := d } (.tmp 16) = vq := (Wo.setAll_out _ _ _ _ (by decide) _).trans h16
    rcases (by omega : i = 0 ∨ i = 1 ∨ i = 2 ∨ i = 3 ∨ i = 4 ∨ i = 5 ∨ i = 6 ∨ i = 7 ∨ i = 8 ∨ i = 9 ∨ i = 10 ∨ i = 11 ∨ i = 12 ∨ i = 13) with rfl | rfl | rfl | rfl | rfl | rfl | rfl | rfl | rfl | rfl | rfl | rfl | rfl | rfl
    · refine r25_quiet ht hs14 hi14' rfl hli hImp hF h1 h2 (by omega) rfl rfl rfl ?_
      clear hF h1 h2
      generalize Act.eval _ = ρ at *
      go_simp
      rfl
    · have f0 := hF 0 (by decide) rfl (hdep _ rfl ⟨0, .data⟩ (by simp) rfl)
      have e0 : Act.eval { tmps := Wo.setAll sl25 u t, defers := d } (.tmp 113) = .pointer (some ⟨P, 8, none⟩) := (ev 0 (by decide) (by decide)).trans f0
      have hw := h1 (h11 (by decide))
      have hIw : Ih w1 P s tt rr bb vm vn := hw.2.2.2.1.trans hI
      have c8 : w1.cell? ⟨P, 8, none⟩ = some vm := by unfold Ih at hIw; simp [World.cell?, hIw]
      refine r25_quiet ht hs14 hi14' rfl hli hImp hF h1 h2 (by omega) rfl rfl rfl ?_
      clear hF h1 h2 hw hIw
      generalize Act.eval _ = ρ at *
      go_simp
      rfl
    · refine r25_quiet ht hs14 hi14' rfl hli hImp hF h1 h2 (by omega) rfl rfl rfl ?_
      clear hF h1 h2
      generalize Act.eval _ = ρ at *
      go_simp
      rfl
    · have f2 := hF 2 (by decide) rfl (hdep _ rfl ⟨2, .data⟩ (by simp) rfl)
      have e2 : Act.eval { tmps := Wo.setAll sl25 u t, defers := d } (.tmp 115) = vp := (ev 2 (by decide) (by decide)).trans f2
      have l4 : l.getD 4 false = false := by
        cases e : l.getD 4 false with
        | false => rfl
        | true => have := hImp.2.2.2.2.2 e; rw [hli] at this; cases this
      have hw := h1 (h11 (by decide))
      rw [hli, l4] at hw
      have hw' := hw.b3 hb0 hP
      have g3 : (l.setIfInBounds 3 true).getD 3 false = true := by rw [get_set hs14 (by decide)]; rfl
      have g4 : (l.setIfInBounds 3 true).getD 4 false = l.getD 4 false := by rw [get_set hs14 (by decide)]; rfl
      have g8 : (l.setIfInBounds 3 true).getD 8 false = l.getD 8 false := by rw [get_set hs14 (by decide)]; rfl
      have g9 : (l.setIfInBounds 3 true).getD 9 false = l.getD 9 false := by rw [get_set hs14 (by decide)]; rfl
      have q116 : Wo.upd u (s25 3) (.slice (some ⟨w1.heap.size, 0, none⟩) 1 1) 116 = (.slice (some ⟨w1.heap.size, 0, none⟩) 1 1) := rfl
      have q117 : Wo.upd u (s25 3) (.slice (some ⟨w1.heap.size, 0, none⟩) 1 1) 117 = u 117 := rfl
      have q121 : Wo.upd u (s25 3) (.slice (some ⟨w1.heap.size, 0, none⟩) 1 1) 121 = u 121 := rfl
      have q122 : Wo.upd u (s25 3) (.slice (some ⟨w1.heap.size, 0, none⟩) 1 1) 122 = u 122 := rfl
      refine r25_work (v := .slice (some ⟨w1.heap.size, 0, none⟩) 1 1) (w' := w1.alloc (.cells #[vp] 22)) ht hs14 (by decide) hImp hF (h11 (by decide)) (by rw [g3, g4, g8, g9, q116, q117, q121, q122, l4]; exact hw') (by omega) (by omega) (by omega) rfl rfl rfl ?_
      subst hvp
      clear hF h1 h2 hw hw' q116 q117 q121 q122
      generalize Act.eval _ = ρ at *
      go_simp
    · have l1 := hdep _ rfl ⟨1, .data⟩ (by simp) rfl
      have l3 : l.getD 3 false = true := hdep _ rfl ⟨3, .data⟩ (by simp) rfl
      have f1 := hF 1 (by decide) rfl l1
      have e1 : Act.eval { tmps := Wo.setAll sl25 u t, defers := d } (.tmp 114) = vm := (ev 1 (by decide) (by decide)).trans f1
      have e3 : Act.eval { tmps := Wo.setAll sl25 u t, defers := d } (.tmp 116) = u 116 := ev 3 (by decide) (by decide)
      have l9 : l.getD 9 false = false := by
        cases e : l.getD 9 false with
        | false => rfl
        | true => have := (hImp.2.2.2.2.1 e).2; rw [hli] at this; cases this
      have hw := h1 (h11 (by decide))
      rw [hli, l3, l9] at hw
      obtain ⟨v, w', hrun, hw'⟩ := hw.a4 hb0 hI hvp hNm hlm
      have g3 : (l.setIfInBounds 4 true).getD 3 false = l.getD 3 false := by rw [get_set hs14 (by decide)]; rfl
      have g4 : (l.setIfInBounds 4 true).getD 4 false = true := by rw [get_set hs14 (by decide)]; rfl
      have g8 : (l.setIfInBounds 4 true).getD 8 false = l.getD 8 false := by rw [get_set hs14 (by decide)]; rfl
      have g9 : (l.setIfInBounds 4 true).getD 9 false = l.getD 9 false := by rw [get_set hs14 (by decide)]; rfl
      have q116 : Wo.upd u (s25 4) v 116 = u 116 := rfl
      have q117 : Wo.upd u (s25 4) v 117 = v := rfl
      have q121 : Wo.upd u (s25 4) v 121 = u 121 := rfl
      have q122 : Wo.upd u (s25 4) v 122 = u 122 := rfl
      refine r25_work (v := v) (w' := w') ht hs14 (by decide) hImp hF (h11 (by decide)) (by rw [g3, g4, g8, g9, q116, q117, q121, q122, l3, l9]; exact hw') (by omega) (by omega) (fun _ => l3) rfl rfl rfl ?_
      clear hF h1 h2 hw hw' q116 q117 q121 q122
      generalize Act.eval _ = ρ at *
      simp [execOp, resolve, invoke, builtin, e1, e3, hrun, Result.andThen]
    · refine r25_quiet ht hs14 hi14' rfl hli hImp hF h1 h2 (by omega) rfl rfl rfl ?_
      clear hF h1 h2
      generalize Act.eval _ = ρ at *
      go_simp
      rfl
    · have f5 := hF 5 (by decide) rfl (hdep _ rfl ⟨5, .data⟩ (by simp) rfl)
      have e5 : Act.eval { tmps := Wo.setAll sl25 u t, defers := d } (.tmp 118) = .pointer (some ⟨P, 9, none⟩) := (ev 5 (by decide) (by decide)).trans f5
      have hw := h1 (h11 (by decide))
      have hIw : Ih w1 P s tt rr bb vm vn := hw.2.2.2.1.trans hI
      have c9 : w1.cell? ⟨P, 9, none⟩ = some vn := by unfold Ih at hIw; simp [World.cell?, hIw]
      clear hw hIw
      refine r25_quiet ht hs14 hi14' rfl hli hImp hF h1 h2 (by omega) rfl rfl rfl ?_
      clear hF h1 h2
      generalize Act.eval _ = ρ at *
      go_simp
      rfl
    · refine r25_quiet ht hs14 hi14' rfl hli hImp hF h1 h2 (by omega) rfl rfl rfl ?_
      clear hF h1 h2
      generalize Act.eval _ = ρ at *
      go_simp
      rfl
    · have f7 := hF 7 (by decide) rfl (hdep _ rfl ⟨7, .data⟩ (by simp) rfl)
      have e7 : Act.eval { tmps := Wo.setAll sl25 u t, defers := d } (.tmp 120) = vq := (ev 7 (by decide) (by decide)).trans f7
      have l9 : l.getD 9 false = false := by
        cases e : l.getD 9 false with
        | false => rfl
        | true => have := (hImp.2.2.2.2.1 e).1; rw [hli] at this; cases this
      have hw := h1 (h11 (by decide))
      rw [hli, l9] at hw
      have hw' := hw.b8 hb0 hP
      have g3 : (l.setIfInBounds 8 true).getD 3 false = l.getD 3 false := by rw [get_set hs14 (by decide)]; rfl
      have g4 : (l.setIfInBounds 8 true).getD 4 false = l.getD 4 false := by rw [get_set hs14 (by decide)]; rfl
      have g8 : (l.setIfInBounds 8 true).getD 8 false = true := by rw [get_set hs14 (by decide)]; rfl
      have g9 : (l.setIfInBounds 8 true).getD 9 false = l.getD 9 false := by rw [get_set hs14 (by decide)]; rfl
      have q116 : Wo.upd u (s25 8) (.slice (some ⟨w1.heap.size, 0, none⟩) 1 1) 116 = u 116 := rfl
      have q117 : Wo.upd u (s25 8) (.slice (some ⟨w1.heap.size, 0, none⟩) 1 1) 117 = u 117 := rfl
      have q121 : Wo.upd u (s25 8) (.slice (some ⟨w1.heap.size, 0, none⟩) 1 1) 121 = (.slice (some ⟨w1.heap.size, 0, none⟩) 1 1) := rfl
      have q122 : Wo.upd u (s25 8) (.slice (some ⟨w1.heap.size, 0, none⟩) 1 1) 122 = u 122 := rfl
      refine r25_work (v := .slice (some ⟨w1.heap.size, 0, none⟩) 1 1) (w' := w1.alloc (.cells #[vq] 22)) ht hs14 (by decide) hImp hF (h11 (by decide)) (by rw [g3, g4, g8, g9, q116, q117, q121, q122, l9]; exact hw') (fun _ => hdep _ rfl ⟨7, .data⟩ (by simp) rfl) (by omega) (by omega) rfl rfl rfl ?_
      subst hvq
      clear hF h1 h2 hw hw' q116 q117 q121 q122
      generalize Act.eval _ = ρ at *
      go_simp
    · have l6 := hdep _ rfl ⟨6, .data⟩ (by simp) rfl
      have l8 : l.getD 8 false = true := hdep _ rfl ⟨8, .data⟩ (by simp) rfl
      have l4 : l.getD 4 false = true := hdep _ rfl ⟨4, .chain⟩ (by simp) rfl
      have l3 := hImp.2.2.2.2.2 l4
      have f6 := hF 6 (by decide) rfl l6
      have e6 : Act.eval { tmps := Wo.setAll sl25 u t, defers := d } (.tmp 119) = vn := (ev 6 (by decide) (by decide)).trans f6
      have e8 : Act.eval { tmps := Wo.setAll sl25 u t, defers := d } (.tmp 121) = u 121 := ev 8 (by decide) (by decide)
      have hw := h1 (h11 (by decide))
      rw [hli, l3, l4, l8] at hw
      obtain ⟨v, w', hrun, hw'⟩ := hw.a9 hb0 hI hvq hNn hln
      have g3 : (l.setIfInBounds 9 true).getD 3 false = l.getD 3 false := by rw [get_set hs14 (by decide)]; rfl
      have g4 : (l.setIfInBounds 9 true).getD 4 false = l.getD 4 false := by rw [get_set hs14 (by decide)]; rfl
      have g8 : (l.setIfInBounds 9 true).getD 8 false = l.getD 8 false := by rw [get_set hs14 (by decide)]; rfl
      have g9 : (l.setIfInBounds 9 true).getD 9 false = true := by rw [get_set hs14 (by decide)]; rfl
      have q116 : Wo.upd u (s25 9) v 116 = u 116 := rfl
      have q117 : Wo.upd u (s25 9) v 117 = u 117 := rfl
      have q121 : Wo.upd u (s25 9) v 121 = u 121 := rfl
      have q122 : Wo.upd u (s25 9) v 122 = v := rfl
      refine r25_work (v := v) (w' := w') ht hs14 (by decide) hImp hF (h11 (by decide)) (by rw [g3, g4, g8, g9, q116, q117, q121, q122, l3, l4, l8]; exact hw') (by omega) (fun _ => ⟨l8, l4⟩) (by omega) rfl rfl rfl ?_
      clear hF h1 h2 hw hw' q116 q117 q121 q122
      generalize Act.eval _ = ρ at *
      simp [execOp, resolve, invoke, builtin, e6, e8, hrun, Result.andThen]
    · refine r25_quiet ht hs14 hi14' rfl hli hImp hF h1 h2 (by omega) rfl rfl rfl ?_
      clear hF h1 h2
      generalize Act.eval _ = ρ at *
      go_simp
      rfl
    · have l9 : l.getD 9 false = true := hdep _ rfl ⟨9, .chain⟩ (by simp) rfl
      have l10 : l.getD 10 false = true := hdep _ rfl ⟨10, .data⟩ (by simp) rfl
      obtain ⟨l8, l4⟩ := hImp.2.2.2.2.1 l9
      have l3 := hImp.2.2.2.2.2 l4
      have l7 := hImp.2.2.2.1 l8
      have hph : ∀ j, j < 7 → l.getD j false = true := fun j hj => hdep _ rfl ⟨j, .phase⟩ (by simp; omega) rfl
      have l13 : l.getD 13 false = false := by
        cases e : l.getD 13 false with
        | false => rfl
        | true => have := hImp.1 (hImp.2.1 e); rw [hli] at this; cases this
      have f10 := hF 10 (by decide) rfl l10
      have e10 : Act.eval { tmps := Wo.setAll sl25 u t, defers := d } (.tmp 123) = .pointer (some ⟨P, 8, none⟩) := (ev 10 (by decide) (by decide)).trans f10
      have e4 : Act.eval { tmps := Wo.setAll sl25 u t, defers := d } (.tmp 117) = u 117 := ev 4 (by decide) (by decide)
      have hw := h1 hli
      rw [l3, l4, l8, l9] at hw
      have hIw : Ih w1 P s tt rr bb vm vn := hw.2.2.2.1.trans hI
      have c8 : w1.cell? ⟨P, 8, none⟩ = some vm := by unfold Ih at hIw; simp [World.cell?, hIw]
      have fz : w1.frozen? ⟨P, 8, none⟩ = false := by unfold Ih at hIw; simp [World.frozen?, hIw]
      have hO : Ol b0 w1 (u 117) (Ms ++ [lm]) := hw.2.2.2.2.1
      obtain ⟨a5, k5, hform⟩ := hO.slice
      have hw2 := hw.s11 hI hbP
      refine Wo.wpOp_skip (w' := w1.setCell ⟨P, 8, none⟩ (u 117)) rfl rfl rfl ?_ ?_
      · clear hF h1 h2 hw hIw hO hw2
        rw [hform] at e4 ⊢
        generalize Act.eval _ = ρ at *
        go_simp
      · have hk : ∀ j, j < 14 → 11 ≠ j → (l.setIfInBounds 11 true).getD j false = l.getD j false := fun j hj e => by rw [get_set hs14 hj, if_neg e]
        refine ⟨u, rfl, hImp.set hs14 (by omega) (by omega) (fun _ j hj => ?_) (by omega) (by omega) (by omega), fun j hj hqj hlj => hF j hj hqj ?_, fun h => ?_, fun _ => ?_⟩
        · rcases (by omega : j < 7 ∨ j = 7 ∨ j = 8 ∨ j = 9 ∨ j = 10) with h | rfl | rfl | rfl | rfl
          · exact hph j h
          · exact l7
          · exact l8
          · exact l9
          · exact l10
        · rw [← hk j hj (by rintro rfl; cases hqj)]; exact hlj
        · rw [get_set hs14 (by decide), if_pos rfl] at h; cases h
        · rw [hk 13 (by decide) (by decide), l13]; exact hw2
    · refine r25_quiet ht hs14 hi14' rfl hli hImp hF h1 h2 (fun _ => hdep _ rfl ⟨11, .phase⟩ (by simp) rfl) rfl rfl rfl ?_
      clear hF h1 h2
      generalize Act.eval _ = ρ at *
      go_simp
      rfl
    · have l12 : l.getD 12 false = true := hdep _ rfl ⟨12, .data⟩ (by simp) rfl
      have l11 := hImp.1 l12
      have f12 := hF 12 (by decide) rfl l12
      have e12 : Act.eval { tmps := Wo.setAll sl25 u t, defers := d } (.tmp 124) = .pointer (some ⟨P, 9, none⟩) := (ev 12 (by decide) (by decide)).trans f12
      have e9 : Act.eval { tmps := Wo.setAll sl25 u t, defers := d } (.tmp 122) = u 122 := ev 9 (by decide) (by decide)
      have hw := h2 l11
      rw [hli] at hw
      have hIw : Ih w1 P s tt rr bb (u 117) vn := hw.2.2.2.2.2.2
      have c9 : w1.cell? ⟨P, 9, none⟩ = some vn := by unfold Ih at hIw; simp [World.cell?, hIw]
      have fz : w1.frozen? ⟨P, 9, none⟩ = false := by unfold Ih at hIw; simp [World.frozen?, hIw]
      have hO : Ol b0 w1 (u 122) (Ns ++ [ln]) := hw.2.2.2.2.1
      obtain ⟨a5, k5, hform⟩ := hO.slice
      have hw2 := hw.s13 hbP
      refine Wo.wpOp_skip (w' := w1.setCell ⟨P, 9, none⟩ (u 122)) rfl rfl rfl ?_ ?_
      · clear hF h1 h2 hw hIw hO hw2
        rw [hform] at e9 ⊢
        generalize Act.eval _ = ρ at *
        go_simp
      · have hk : ∀ j, j < 14 → 13 ≠ j → (l.setIfInBounds 13 true).getD j false = l.getD j false := fun j hj e => by rw [get_set hs14 hj, if_neg e]
        refine ⟨u, rfl, hImp.set hs14 (by omega) (fun _ => l12) (by omega) (by omega) (by omega) (by omega), fun j hj hqj hlj => hF j hj hqj ?_, fun h => ?_, fun _ => ?_⟩
        · rw [← hk j hj (by rintro rfl; cases hqj)]; exact hlj
        · rw [hk 11 (by decide) (by decide), l11] at h; cases h
        · rw [get_set hs14 (by decide), if_pos rfl]; exact hw2
end
end Go.Proofs.YtiobegoiehjfiaaGreat
