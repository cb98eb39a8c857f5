/-
  What build.Tree returns, for every device, root, map and free list.
-/
import Derived.Test.YtafpjnofccfmlaaCl
namespace Go.Proofs.Ytafpjnofccfmlaa
open Go.RowKit

theorem results_tmp4 {fn : Func} {t u v x : Tmp} (h : fn.results = #[.tmp t, .tmp u, .tmp v, .tmp x]) (tmps : Array Value) (P : Program) (w : World) :
    (results fn tmps).run P w = .ok (.tuple #[tmps.getD t undef, tmps.getD u undef, tmps.getD v undef, tmps.getD x undef]) w := by
  simp [results, h]

/-- What Tree returns. -/
def BtPost (xs : List Int) (r : Int) (m F : List Int) (w : World) : Ending → World → Prop := fun e w' =>
  Below w.heap.size w w' ∧ (Wb.treE' xs r m F = 0 → ∃ al cl ar cr, e = .returned (.tuple #[.int .i64 (Wb.root xs r m (Wt.treS xs r) F), .slice al (Wb.needN xs r m) cl, .slice ar (F.length - Wb.needN xs r m) cr, .int .i64 0]) ∧
      Wd.Oi 54 5 w.heap.size w' (.slice al (Wb.needN xs r m) cl) (Wb.ios F (Wb.new xs r m (Wt.treS xs r) F) (Wb.needN xs r m)) ∧ Wv.Ov (Value.int .i64) 3 w.heap.size w' (.slice ar (F.length - Wb.needN xs r m) cr) (F.drop (Wb.needN xs r m))) ∧
    (¬ Wb.treE' xs r m F = 0 → e = .returned (.tuple #[.int .i64 0, .slice none 0 0, .slice none 0 0, .int .i64 (Wb.treE' xs r m F)]))

theorem oi_base {e u base b0 : Nat} {w : World} {v : Value} {l : List Wd.Io} (h : Wd.Oi e u base w v l) (hb : b0 ≤ base) : Wd.Oi e u b0 w v l := by
  obtain ⟨P, h1, h2, h3, h4⟩ := h
  refine ⟨P, h1, ⟨h2.1, ?_⟩, h3, fun q hq => (h4 q hq).base hb⟩
  rcases h2.2 with hn | ⟨g, cap, cur, hv, hbg, rest⟩
  · exact .inl hn
  · exact .inr ⟨g, cap, cur, hv, Nat.le_trans hb hbg, rest⟩

theorem ios_take {F : List Int} {N : List Wn.Nod} {K : Nat} : Wb.ios (F.take K) N K = Wb.ios F N K := by
  unfold Wb.ios
  refine List.map_congr_left fun j hj => ?_
  have hj := List.mem_range.1 hj
  unfold Wb.wio
  rw [Wb.take_same hj]

theorem hrow_in {xs : List Int} {r : Int} {m : List Int} (h0 : Wb.begE xs r m = 0) (i : Nat) (x : Int) (hx : x ∈ Wb.hrow xs r m i) : 0 ≤ x ∧ x < ((xs.length / 64 : Nat) : Int) := by
  obtain ⟨ht, hme⟩ := Wb.begE_zero h0
  obtain ⟨hd, t, htr, hs, hn⟩ := Wb.treE_zero ht
  obtain ⟨hl, hmr⟩ := Wb.mapE_zero hme
  have hb := Wd.devB_iff.1 hd
  unfold Wb.hrow at hx
  by_cases hi : i < 4
  · rw [if_pos hi] at hx
    obtain ⟨j, hj, rfl⟩ := Wb.in_getD hx
    have := Wb.rw_in htr (3 - i) (by omega) j
    omega
  · rw [if_neg hi] at hx
    obtain ⟨j, hj, rfl⟩ := Wb.in_getD hx
    have := hmr j
    omega

set_option maxRecDepth 100000 in
set_option maxHeartbeats 6400000 in
theorem tree_bad (v : Value) (r : Int) (am : Option Addr) (nm cm : Nat) (af : Option Addr) (nf cf : Nat) (xs m F : List Int) (w : World) (hv : Wc.Bs w v xs) (hm : Wd.In w (.slice am nm cm) m) (h0 : ¬ Wb.begE xs r m = 0) :
    Calls Try.prog 11 #[v, .int .i64 r, .slice am nm cm, .slice af nf cf] w (BtPost xs r m F w) := by
  unfold BtPost
  have HV := Wc.hid hv
  have HM := Wc.hid hm
  have HT : Hid (Wb.treE' xs r m F = Wb.begE xs r m) := Wc.hid (by unfold Wb.treE'; rw [if_neg h0])
  clear hv hm
  obtain ⟨E, hE⟩ : ∃ E, Wb.begE xs r m = E := ⟨_, rfl⟩
  have H0 := Wc.hid h0
  rw [hE] at h0 HT
  have hne : (E != 0) = true := by rw [bne_iff_ne]; exact h0
  have HNE := Wc.hid h0
  have HE := Wc.hid hE
  clear h0 hE
  go_enter Try.func11, Try.ntmps11
  go_wp2_with fail
  refine (begin_any v r am nm cm xs m _ HV.out HM.out).mono ?_
  rintro e w1 ⟨hb1, -, hy⟩
  obtain rfl := hy H0.out
  rw [HE.out]
  have HB := Wc.hid hb1
  clear hb1 hy
  go_wp2_with fail
  refine bodyPost_ret (results_tmp4 rfl _ _ _) rfl ?_
  exact ⟨HB.out.alloc HB.out.size _, fun h => absurd (HT.out.symm.trans h) HNE.out, fun _ => by rw [HT.out]; rfl⟩

set_option maxRecDepth 100000 in
set_option maxHeartbeats 6400000 in
theorem tree_good (v : Value) (r : Int) (am : Option Addr) (nm cm : Nat) (af : Option Addr) (nf cf : Nat) (xs m F : List Int) (w : World) (hv : Wc.Bs w v xs) (hm : Wd.In w (.slice am nm cm) m) (hF : Wd.In w (.slice af nf cf) F) (h0 : Wb.begE xs r m = 0) :
    Calls Try.prog 11 #[v, .int .i64 r, .slice am nm cm, .slice af nf cf] w (BtPost xs r m F w) := by
  unfold BtPost
  have HV := Wc.hid hv
  have HM := Wc.hid hm
  have HF := Wc.hid hF
  have HFL := Wc.hid (Wv.rv_len hF)
  have H0 := Wc.hid h0
  have hn4 : xs.length / 64 ≤ 4096 := by
    have := Wd.devB_iff.1 (Wb.treE_zero (Wb.begE_zero h0).1).1
    omega
  have HR := Wc.hid (hrow_in h0)
  have hus : Wb.usB F (Wb.hall xs r m 5) (xs.length / 64) = Wb.usB F (Wb.treN' xs r m) (xs.length / 64) := by
    obtain ⟨hd, t, htr, hs, hn⟩ := Wb.treE_zero (Wb.begE_zero h0).1
    unfold Wb.treN'
    rw [hs, hn]
    exact Wb.usB_tre htr F m _
  have HUS := Wc.hid hus
  have HTE : Hid (Wb.treE' xs r m F = if Wb.usB F (Wb.treN' xs r m) (xs.length / 64) = true then (if Wb.needN xs r m ≤ F.length then 0 else 9) else 1) := Wc.hid (by unfold Wb.treE'; rw [if_pos h0])
  obtain ⟨n, hn⟩ : ∃ n, xs.length / 64 = n := ⟨_, rfl⟩
  have HN := Wc.hid hn
  rw [hn] at hn4 HR HUS HTE
  clear hv hm hF h0 hus hn
  obtain ⟨K, hK⟩ : ∃ K, Wb.needN xs r m = K := ⟨_, rfl⟩
  have HK := Wc.hid hK
  have hnf : nf ≤ 17592186044416 := by obtain ⟨_, _, _, h1, _, _, _, h5, _⟩ := HF.out; cases h1; exact h5
  rw [hK] at HTE ⊢
  rw [HFL.out] at HTE ⊢
  clear hK
  cases hu : Wb.usB F (Wb.treN' xs r m) n
  · have HU := Wc.hid hu
    have HE : Hid (Wb.treE' xs r m F = 1) := Wc.hid (by rw [HTE.out, hu]; rfl)
    clear hu
    go_enter Try.func11, Try.ntmps11
    go_wp2_with fail
    refine (begin_any v r am nm cm xs m _ HV.out HM.out).mono ?_
    rintro e w1 ⟨hb1, hy, -⟩
    obtain ⟨f, rfl, hf⟩ := hy H0.out
    rw [HN.out]
    obtain ⟨a0, n0, c0, a1, n1, c1, a2, n2, c2, a3, n3, c3, e0, e1, e2, e3⟩ := rows_sh hf
    have hA := (Below.refl w1.heap.size w1).alloc (Nat.le_refl _) (.cells #[f 0, f 1, f 2, f 3] 63)
    have HH := Wc.hid (held_any f am nm cm n xs m r _ (fun i hi => (hf i hi).keep hA) ((HM.out.keep hb1).keep hA) hn4 HR.out)
    have HB := Wc.hid (Wc.step hb1 (Nat.le_refl _) hA)
    rw [e0, e1, e2, e3] at HH HB ⊢
    clear hb1 hy hA hf
    go_wp2_with fail
    refine HH.out.mono ?_
    rintro e w2 ⟨g, rfl, hM, hb2⟩
    have HB2 := Wc.hid (Wc.step HB.out (Nat.le_refl _) hb2)
    have HMK := Wc.hid hM
    clear hM hb2
    go_wp2_with fail
    refine (usable_any af nf cf g n F _ w2 (HF.out.keep HB2.out) HMK.out).mono ?_
    rintro e w3 ⟨rfl, rfl⟩
    rw [HUS.out, HU.out]
    go_wp2_with fail
    refine bodyPost_ret (results_tmp4 rfl _ _ _) rfl ?_
    exact ⟨HB2.out, fun h => absurd (HE.out.symm.trans h) (by decide), fun _ => by rw [HE.out]; rfl⟩
  · have HU := Wc.hid hu
    clear hu
    by_cases hle : K ≤ nf
    · have HE : Hid (Wb.treE' xs r m F = 0) := Wc.hid (by rw [HTE.out, HU.out, if_pos rfl, if_pos hle])
      have HU' : Hid (Wb.usB F (Wb.treN' xs r m) (xs.length / 64) = true) := Wc.hid (by rw [HN.out]; exact HU.out)
      go_enter Try.func11, Try.ntmps11
      go_wp2_with fail
      refine (begin_any v r am nm cm xs m _ HV.out HM.out).mono ?_
      rintro e w1 ⟨hb1, hy, -⟩
      obtain ⟨f, rfl, hf⟩ := hy H0.out
      rw [HN.out]
      have hA := (Below.refl w1.heap.size w1).alloc (Nat.le_refl _) (.cells #[f 0, f 1, f 2, f 3] 63)
      have hTb : Tb (w1.alloc (.cells #[f 0, f 1, f 2, f 3] 63)) w1.heap.size f := by show (w1.heap.push _)[_]? = _; simp
      obtain ⟨a0, n0, c0, a1, n1, c1, a2, n2, c2, a3, n3, c3, e0, e1, e2, e3⟩ := rows_sh hf
      have HFI : Hid (∀ i, i < 4 → Wd.In (w1.alloc (.cells #[f 0, f 1, f 2, f 3] 63)) (f i) (Wb.rw xs r (3 - i))) := Wc.hid fun i hi => (hf i hi).keep hA
      have HH := Wc.hid (held_any f am nm cm n xs m r _ HFI.out ((HM.out.keep hb1).keep hA) hn4 HR.out)
      have HB := Wc.hid (Wc.step hb1 (Nat.le_refl _) hA)
      have HTB := Wc.hid hTb
      have HSZ := Wc.hid hTb.lt
      have HES := Wc.hid (And.intro e0 (And.intro e1 (And.intro e2 e3)))
      rw [e0, e1, e2, e3] at HH HB HTB HFI HSZ ⊢
      clear hb1 hy hA hf hTb
      go_wp2_with fail
      refine HH.out.mono ?_
      rintro e w2 ⟨g, rfl, hM, hb2⟩
      have HB2 := Wc.hid (Wc.step HB.out (Nat.le_refl _) hb2)
      have HTB2 := Wc.hid (HTB.out.keep hb2 HSZ.out)
      have HFI2 : Hid (∀ i, i < 4 → Wd.In w2 (f i) (Wb.rw xs r (3 - i))) := Wc.hid fun i hi => (HFI.out i hi).keep hb2
      have HMK := Wc.hid hM
      clear hM hb2
      go_wp2_with fail
      refine (usable_any af nf cf g n F _ w2 (HF.out.keep HB2.out) HMK.out).mono ?_
      rintro e w3 ⟨rfl, rfl⟩
      rw [HUS.out, HU.out]
      have r0 := HTB2.out.cell (k := 0) (by omega)
      have r1 := HTB2.out.cell (k := 1) (by omega)
      have r2 := HTB2.out.cell (k := 2) (by omega)
      have r3 := HTB2.out.cell (k := 3) (by omega)
      have HGC := Wc.hid (grow_count f am nm cm xs m r _ H0.out HFI2.out (HM.out.keep HB2.out))
      obtain ⟨e0, e1, e2, e3⟩ := HES.out
      rw [e0] at r0 HGC
      rw [e1] at r1 HGC
      rw [e2] at r2 HGC
      rw [e3] at r3 HGC
      rw [HK.out] at HGC
      clear e0 e1 e2 e3
      go_wp2_with fail
      refine HGC.out.mono ?_
      rintro e w3 ⟨a, c, z, rfl, hb3⟩
      have HB3 := Wc.hid (Wc.step HB2.out (Nat.le_refl _) hb3)
      have HTB3 := Wc.hid (HTB2.out.keep hb3 HTB2.out.lt)
      have HFI3 : Hid (∀ i, i < 4 → Wd.In w3 (f i) (Wb.rw xs r (3 - i))) := Wc.hid fun i hi => (HFI2.out i hi).keep hb3
      clear hb3 r0 r1 r2 r3
      go_wp2_with fail
      refine (take_yes af nf cf K F w3 (HF.out.keep HB3.out) hle).mono ?_
      rintro e w4 ⟨hb4, g4, h4, rfl, hO4, hP4⟩
      have hA4 := (Below.refl w4.heap.size w4).alloc (Nat.le_refl _) (.cells #[.slice (some ⟨g4, 0, none⟩) K K] 23)
      have hb4A := Wc.step hb4 (Nat.le_refl _) hA4
      have HB4 := Wc.hid (Wc.step HB3.out (Nat.le_refl _) hb4A)
      have HTB4 := HTB3.out.keep hb4A HTB3.out.lt
      have HFI4 : Hid (∀ i, i < 4 → Wd.In (w4.alloc (.cells #[.slice (some ⟨g4, 0, none⟩) K K] 23)) (f i) (Wb.rw xs r (3 - i))) := Wc.hid fun i hi => (HFI3.out i hi).keep hb4A
      have hone := One.new w4 (.slice (some ⟨g4, 0, none⟩) K K) 23
      have HONE := Wc.hid hone
      have hcT := hone.cell
      have HT4 : Hid (Wd.In (w4.alloc (.cells #[.slice (some ⟨g4, 0, none⟩) K K] 23)) (.slice (some ⟨g4, 0, none⟩) K K) (F.take K)) := Wc.hid (hO4.rv.keep hA4)
      have HP4 := Wc.hid ((hP4.keep hA4).base HB3.out.size)
      have HGL := grow_laid f am nm cm xs m F r w4.heap.size g4 _ H0.out HU'.out (by rw [HK.out, HFL.out]; exact hle) HFI4.out (HM.out.keep HB4.out) (by rw [HK.out]; exact hcT) (by rw [HK.out]; exact HT4.out)
      have HGL := Wc.hid HGL
      rw [HK.out] at HGL
      have r0 := HTB4.cell (k := 0) (by omega)
      have r1 := HTB4.cell (k := 1) (by omega)
      have r2 := HTB4.cell (k := 2) (by omega)
      have r3 := HTB4.cell (k := 3) (by omega)
      obtain ⟨e0, e1, e2, e3⟩ := HES.out
      rw [e0] at r0 HGL
      rw [e1] at r1 HGL
      rw [e2] at r2 HGL
      rw [e3] at r3 HGL
      have hmf : ∀ (fn : Fn) (first cap : Array Value) (w : World), (Instr.makeFunc fn first cap).run Try.prog w = .ok (.func fn first cap) w := fun _ _ _ _ => rfl
      clear e0 e1 e2 e3 hb4 hO4 hP4 hA4 hb4A hone HTB4
      go_wp2_with fail
      refine HGL.out.mono ?_
      rintro e w5 ⟨a5, c5, rfl, hN5, hb5⟩
      have HB5 := Wc.hid (Wc.step HB4.out (Nat.le_refl _) hb5)
      have hcT5 := (HONE.out.keep hb5).cell
      have HT5 := Wc.hid (HT4.out.keep hb5)
      have HP5 := Wc.hid (HP4.out.keep hb5)
      have HN5 := Wc.hid hN5
      have HLN := Wc.hid (Wb.ns_len hN5.ns)
      obtain ⟨rt, hrt⟩ : ∃ rt, Wb.root xs r m (Wt.treS xs r) F = rt := ⟨_, rfl⟩
      rw [hrt]
      have HRT := Wc.hid hrt
      clear hb5 hN5 r0 r1 r2 r3 hcT hrt
      go_wp2_with fail
      refine (writes_any (some ⟨g4, 0, none⟩) K K a5 K c5 (F.take K) (Wb.new xs r m (Wt.treS xs r) F) w5 HT5.out HN5.out.ns (by rw [HLN.out, List.length_take, HFL.out]; omega) (by rw [HLN.out, ← HK.out]; exact Nat.le_trans (Wb.needN_most _ _ _) (by decide)) (laid_right H0.out HU'.out (by rw [HK.out, HFL.out]; exact hle))).mono ?_
      rintro e w6 ⟨a6, c6, rfl, hO6, hb6⟩
      rw [HLN.out] at hO6 ⊢
      rw [ios_take] at hO6
      have HB6 := Wc.hid (Wc.step HB5.out (Nat.le_refl _) hb6)
      have HP6 := Wc.hid (HP5.out.keep hb6)
      have HO6 := Wc.hid hO6
      clear hb6 hO6
      go_wp2_with fail
      refine bodyPost_ret (results_tmp4 rfl _ _ _) rfl ?_
      refine ⟨HB6.out, fun _ => ⟨a6, c6, some ⟨h4, 0, none⟩, nf - K, by rw [HRT.out]; rfl, ?_, HP6.out⟩, fun h => absurd HE.out h⟩
      exact oi_base HO6.out HB5.out.size
    · have HE : Hid (Wb.treE' xs r m F = 9) := Wc.hid (by rw [HTE.out, HU.out, if_pos rfl, if_neg hle])
      go_enter Try.func11, Try.ntmps11
      go_wp2_with fail
      refine (begin_any v r am nm cm xs m _ HV.out HM.out).mono ?_
      rintro e w1 ⟨hb1, hy, -⟩
      obtain ⟨f, rfl, hf⟩ := hy H0.out
      rw [HN.out]
      have hA := (Below.refl w1.heap.size w1).alloc (Nat.le_refl _) (.cells #[f 0, f 1, f 2, f 3] 63)
      have hTb : Tb (w1.alloc (.cells #[f 0, f 1, f 2, f 3] 63)) w1.heap.size f := by show (w1.heap.push _)[_]? = _; simp
      obtain ⟨a0, n0, c0, a1, n1, c1, a2, n2, c2, a3, n3, c3, e0, e1, e2, e3⟩ := rows_sh hf
      have HFI : Hid (∀ i, i < 4 → Wd.In (w1.alloc (.cells #[f 0, f 1, f 2, f 3] 63)) (f i) (Wb.rw xs r (3 - i))) := Wc.hid fun i hi => (hf i hi).keep hA
      have HH := Wc.hid (held_any f am nm cm n xs m r _ HFI.out ((HM.out.keep hb1).keep hA) hn4 HR.out)
      have HB := Wc.hid (Wc.step hb1 (Nat.le_refl _) hA)
      have HTB := Wc.hid hTb
      have HSZ := Wc.hid hTb.lt
      have HES := Wc.hid (And.intro e0 (And.intro e1 (And.intro e2 e3)))
      rw [e0, e1, e2, e3] at HH HB HTB HFI HSZ ⊢
      clear hb1 hy hA hf hTb
      go_wp2_with fail
      refine HH.out.mono ?_
      rintro e w2 ⟨g, rfl, hM, hb2⟩
      have HB2 := Wc.hid (Wc.step HB.out (Nat.le_refl _) hb2)
      have HTB2 := Wc.hid (HTB.out.keep hb2 HSZ.out)
      have HFI2 : Hid (∀ i, i < 4 → Wd.In w2 (f i) (Wb.rw xs r (3 - i))) := Wc.hid fun i hi => (HFI.out i hi).keep hb2
      have HMK := Wc.hid hM
      clear hM hb2
      go_wp2_with fail
      refine (usable_any af nf cf g n F _ w2 (HF.out.keep HB2.out) HMK.out).mono ?_
      rintro e w3 ⟨rfl, rfl⟩
      rw [HUS.out, HU.out]
      have r0 := HTB2.out.cell (k := 0) (by omega)
      have r1 := HTB2.out.cell (k := 1) (by omega)
      have r2 := HTB2.out.cell (k := 2) (by omega)
      have r3 := HTB2.out.cell (k := 3) (by omega)
      have HGC := Wc.hid (grow_count f am nm cm xs m r _ H0.out HFI2.out (HM.out.keep HB2.out))
      obtain ⟨e0, e1, e2, e3⟩ := HES.out
      rw [e0] at r0 HGC
      rw [e1] at r1 HGC
      rw [e2] at r2 HGC
      rw [e3] at r3 HGC
      rw [HK.out] at HGC
      clear e0 e1 e2 e3
      go_wp2_with fail
      refine HGC.out.mono ?_
      rintro e w3 ⟨a, c, z, rfl, hb3⟩
      have HB3 := Wc.hid (Wc.step HB2.out (Nat.le_refl _) hb3)
      clear hb3 r0 r1 r2 r3
      go_wp2_with fail
      refine (take_far af nf cf (K : Int) w3 (by omega)).mono ?_
      rintro e w4 ⟨rfl, rfl⟩
      go_wp2_with fail
      refine bodyPost_ret (results_tmp4 rfl _ _ _) rfl ?_
      exact ⟨HB3.out.alloc HB3.out.size _, fun h => absurd (HE.out.symm.trans h) (by decide), fun _ => by rw [HE.out]; rfl⟩

theorem tree_any (v : Value) (r : Int) (am : Option Addr) (nm cm : Nat) (af : Option Addr) (nf cf : Nat) (xs m F : List Int) (w : World) (hv : Wc.Bs w v xs) (hm : Wd.In w (.slice am nm cm) m) (hF : Wd.In w (.slice af nf cf) F) :
    Calls Try.prog 11 #[v, .int .i64 r, .slice am nm cm, .slice af nf cf] w (BtPost xs r m F w) := by
  by_cases h0 : Wb.begE xs r m = 0
  · exact tree_good v r am nm cm af nf cf xs m F w hv hm hF h0
  · exact tree_bad v r am nm cm af nf cf xs m F w hv hm h0
end Go.Proofs.Ytafpjnofccfmlaa
