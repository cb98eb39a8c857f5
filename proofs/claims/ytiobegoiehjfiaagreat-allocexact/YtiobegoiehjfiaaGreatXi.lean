/-
  What the page's Open returns, for every right device.
-/
import Derived.Test.YtiobegoiehjfiaaGreatXl
namespace Go.Proofs.YtiobegoiehjfiaaGreat
open Go.RowKit

set_option maxRecDepth 100000 in
set_option maxHeartbeats 12800000 in
theorem refOpen_any (v : Value) (xs : List Int) (w : World) (hv : Wc.Bs w v xs) (hd : Wd.devB xs.length = true) : Calls Tryz.prog 11 #[v] w (ROpenPost xs w) := by
  obtain ⟨ai, ni, ci, rfl, -⟩ := id hv
  have hxl := Wc.bs_len hv
  have hdv := Wd.devB_iff.1 hd
  have hni : ni ≤ 140737488355328 := by omega
  obtain ⟨m, hm⟩ : ∃ m : Nat, ni / 64 = m := ⟨_, rfl⟩
  have hd0 : Wd.devB ni = true := by rw [← hxl]; exact hd
  obtain ⟨X, hX⟩ : ∃ X, xs.take 64 = X := ⟨_, rfl⟩
  obtain ⟨Y, hY⟩ : ∃ Y, (xs.drop 64).take 64 = Y := ⟨_, rfl⟩
  have hpk := pickRpk (m := (m : Int)) hd (by rw [hxl, hm]) hX hY
  have HV := Wc.hid hv
  have HD := Wc.hid hd
  have HD0 := Wc.hid hd0
  have HXL := Wc.hid hxl
  have HM := Wc.hid hm
  have HMX : Hid (xs.length / 64 = m) := Wc.hid (by rw [hxl]; exact hm)
  have hm4 : 4 ≤ m := by omega
  have hm5 : m ≤ 4096 := by omega
  have HX : Hid ((xs.drop (0 * 64)).take 64 = X) := Wc.hid (by rw [← hX]; simp)
  have HY : Hid ((xs.drop (1 * 64)).take 64 = Y) := Wc.hid (by rw [← hY, Nat.one_mul])
  obtain ⟨R, hR⟩ : ∃ R, rpk (onB (m : Int) X) (onB (m : Int) Y) (Ws.par X) (Ws.par Y) = R := ⟨_, rfl⟩
  rw [hR] at hpk
  have HR := Wc.hid hR
  have HPK := Wc.hid hpk
  clear hv hd hxl hdv hd0 hm hX hY hpk hR
  go_enter Tryz.func11, Tryz.ntmps11
  go_wp2_with fail
  obtain ⟨W0, hW0⟩ : ∃ W0, ((w.alloc (.cells #[.int .i64 0, .int .i64 0, .int .i64 0, .int .i64 0, .int .i64 0, .int .i64 0, .slice none 0 0, .slice none 0 0, .slice none 0 0, .slice none 0 0] 41)).alloc (.cells #[.int .i64 0, .int .i64 0] 43)).alloc (.cells #[.int .i64 0, .int .i64 0, .int .i64 0, .int .i64 0, .int .i64 0, .int .i64 0, .slice none 0 0, .slice none 0 0, .slice none 0 0, .slice none 0 0] 41) = W0 := ⟨_, rfl⟩
  have a1 := (Below.refl w.heap.size w).alloc (Nat.le_refl _) (.cells #[.int .i64 0, .int .i64 0, .int .i64 0, .int .i64 0, .int .i64 0, .int .i64 0, .slice none 0 0, .slice none 0 0, .slice none 0 0, .slice none 0 0] 41)
  have a2 := (Below.refl (w.alloc (.cells #[.int .i64 0, .int .i64 0, .int .i64 0, .int .i64 0, .int .i64 0, .int .i64 0, .slice none 0 0, .slice none 0 0, .slice none 0 0, .slice none 0 0] 41)).heap.size (w.alloc (.cells #[.int .i64 0, .int .i64 0, .int .i64 0, .int .i64 0, .int .i64 0, .int .i64 0, .slice none 0 0, .slice none 0 0, .slice none 0 0, .slice none 0 0] 41))).alloc (Nat.le_refl _) (.cells #[.int .i64 0, .int .i64 0] 43)
  have a3 := (Below.refl ((w.alloc (.cells #[.int .i64 0, .int .i64 0, .int .i64 0, .int .i64 0, .int .i64 0, .int .i64 0, .slice none 0 0, .slice none 0 0, .slice none 0 0, .slice none 0 0] 41)).alloc (.cells #[.int .i64 0, .int .i64 0] 43)).heap.size ((w.alloc (.cells #[.int .i64 0, .int .i64 0, .int .i64 0, .int .i64 0, .int .i64 0, .int .i64 0, .slice none 0 0, .slice none 0 0, .slice none 0 0, .slice none 0 0] 41)).alloc (.cells #[.int .i64 0, .int .i64 0] 43))).alloc (Nat.le_refl _) (.cells #[.int .i64 0, .int .i64 0, .int .i64 0, .int .i64 0, .int .i64 0, .int .i64 0, .slice none 0 0, .slice none 0 0, .slice none 0 0, .slice none 0 0] 41)
  have b1 : Ih (w.alloc (.cells #[.int .i64 0, .int .i64 0, .int .i64 0, .int .i64 0, .int .i64 0, .int .i64 0, .slice none 0 0, .slice none 0 0, .slice none 0 0, .slice none 0 0] 41)) w.heap.size Ws.s0 0 (.slice none 0 0) (.slice none 0 0) (.slice none 0 0) (.slice none 0 0) := Ih.new w Ws.s0 0 (.slice none 0 0) (.slice none 0 0) (.slice none 0 0) (.slice none 0 0)
  have b2 : Fh ((w.alloc (.cells #[.int .i64 0, .int .i64 0, .int .i64 0, .int .i64 0, .int .i64 0, .int .i64 0, .slice none 0 0, .slice none 0 0, .slice none 0 0, .slice none 0 0] 41)).alloc (.cells #[.int .i64 0, .int .i64 0] 43)) (w.heap.size + 1) 0 0 := by
    have := Fh.new (w.alloc (.cells #[.int .i64 0, .int .i64 0, .int .i64 0, .int .i64 0, .int .i64 0, .int .i64 0, .slice none 0 0, .slice none 0 0, .slice none 0 0, .slice none 0 0] 41)) 0 0
    rwa [show (w.alloc (.cells #[.int .i64 0, .int .i64 0, .int .i64 0, .int .i64 0, .int .i64 0, .int .i64 0, .slice none 0 0, .slice none 0 0, .slice none 0 0, .slice none 0 0] 41)).heap.size = w.heap.size + 1 by simp] at this
  have b3 : Ih (((w.alloc (.cells #[.int .i64 0, .int .i64 0, .int .i64 0, .int .i64 0, .int .i64 0, .int .i64 0, .slice none 0 0, .slice none 0 0, .slice none 0 0, .slice none 0 0] 41)).alloc (.cells #[.int .i64 0, .int .i64 0] 43)).alloc (.cells #[.int .i64 0, .int .i64 0, .int .i64 0, .int .i64 0, .int .i64 0, .int .i64 0, .slice none 0 0, .slice none 0 0, .slice none 0 0, .slice none 0 0] 41)) (w.heap.size + 1 + 1) Ws.s0 0 (.slice none 0 0) (.slice none 0 0) (.slice none 0 0) (.slice none 0 0) := by
    have := Ih.new ((w.alloc (.cells #[.int .i64 0, .int .i64 0, .int .i64 0, .int .i64 0, .int .i64 0, .int .i64 0, .slice none 0 0, .slice none 0 0, .slice none 0 0, .slice none 0 0] 41)).alloc (.cells #[.int .i64 0, .int .i64 0] 43)) Ws.s0 0 (.slice none 0 0) (.slice none 0 0) (.slice none 0 0) (.slice none 0 0)
    rwa [show ((w.alloc (.cells #[.int .i64 0, .int .i64 0, .int .i64 0, .int .i64 0, .int .i64 0, .int .i64 0, .slice none 0 0, .slice none 0 0, .slice none 0 0, .slice none 0 0] 41)).alloc (.cells #[.int .i64 0, .int .i64 0] 43)).heap.size = w.heap.size + 1 + 1 by simp] at this
  have j1 := (b1.keep a2).keep a3
  have j2 := b2.keep a3
  have bb := Wc.step (Wc.step a1 (Nat.le_refl _) a2) (Nat.le_refl _) a3
  rw [hW0] at j1 j2 b3 bb ⊢
  have J1 := Wc.hid j1
  have J2 := Wc.hid j2
  have J3 := Wc.hid b3
  have B0 := Wc.hid bb
  clear hW0 a1 a2 a3 b1 b2 b3 j1 j2 bb
  refine (blocks_any ai ni ci _ hni).mono ?_
  rintro e w1 ⟨rfl, rfl⟩
  rw [HM.out, HD0.out]
  go_wp2_with fail
  refine (refPick_any ai ni ci xs X Y (m : Int) _ (HV.out.keep B0.out) HD0.out (by rw [HM.out]) HX.out HY.out).mono ?_
  rintro e w1 ⟨rfl, hb1⟩
  rw [HR.out]
  obtain ⟨s, t, f⟩ := R
  have J1b := Wc.hid (J1.out.keep hb1)
  have J2b := Wc.hid (J2.out.keep hb1)
  have J3b := Wc.hid (J3.out.keep hb1)
  have B1 := Wc.hid (Wc.step B0.out (Nat.le_refl _) hb1)
  clear hb1 J1 J2 J3 B0
  simp only
  unfold sv
  have bA := (Below.refl w1.heap.size w1).alloc (Nat.le_refl _) (.cells #[.int .i64 s.gen, .int .i64 s.blocks, .int .i64 s.root, .int .i64 s.size, .int .i64 s.first] 35)
  have S1 := Wc.hid (Sh.new w1 s)
  have J1c := Wc.hid (J1b.out.keep bA)
  have J2c := Wc.hid (J2b.out.keep bA)
  have J3c := Wc.hid (J3b.out.keep bA)
  have B2 := Wc.hid (Wc.step B1.out (Nat.le_refl _) bA)
  clear bA J1b J2b J3b B1
  cases f
  · have HO : Hid (opnE xs = 8) := Wc.hid (opn_nopick (by rw [HPK.out]; rfl) (by decide))
    have ⟨c0, c1, c2, c3, c4, c5, c6, c7, c8, c9⟩ := J3c.out.ic
    have ⟨d0, d1, d2, d3, d4, d5, d6, d7, d8, d9⟩ := J1c.out.ic
    have ⟨e0, e1, ef⟩ := J2c.out.fc
    have df := J1c.out.frozen
    simp only [Ws.s0] at c0 c1 c2 c3 c4 d0 d1 d2 d3 d4
    go_wp2_with fail
    exact ropen_bad HO.out (by decide) J1c.out J2c.out (Nat.le_refl _) (Nat.le_succ _) B2.out rfl rfl rfl
  · have hp0 : (pickA xs).2.2 = 0 := by rw [HPK.out]; rfl
    have hp1 : (pickA xs).1 = s := by rw [HPK.out]
    have hp2 : (pickA xs).2.1 = t := by rw [HPK.out]
    have hpt := pick_told hp0
    rw [hp1, hp2, HMX.out] at hpt
    have HSB := Wc.hid hpt.2.1
    have HSBL := Wc.hid hpt.2.2.1
    have HP : Hid (pickA xs = (s, t, 0)) := Wc.hid (by rw [HPK.out]; rfl)
    have ⟨e0, e1, e2, e3, e4⟩ := S1.out.sc
    clear hp0 hp1 hp2 hpt
    go_wp2_with fail
    refine (refRecs_any _ xs s.first _ (HV.out.keep B2.out) HD.out).mono ?_
    rintro e w3 ⟨a, n, c, a', n', c', bad, rfl, hR, hP, hb3, hT41, hT3⟩
    have J1d := Wc.hid (J1c.out.keep hb3)
    have J2d := Wc.hid (J2c.out.keep hb3)
    have J3d := Wc.hid (J3c.out.keep hb3)
    have S3 := Wc.hid (S1.out.keep hb3)
    have B3 := Wc.hid (Wc.step B2.out (Nat.le_refl _) hb3)
    clear e0 e1 e2 e3 e4 hb3 J1c J2c J3c S1 B2
    have ⟨c0, c1, c2, c3, c4, c5, c6, c7, c8, c9⟩ := J3d.out.ic
    simp only [Ws.s0] at c0 c1 c2 c3 c4
    cases hr : Wi.recs xs s.first with
    | none =>
      have HO : Hid (opnE xs = 7) := Wc.hid (opn_norecs HP.out hr)
      have ⟨d0, d1, d2, d3, d4, d5, d6, d7, d8, d9⟩ := J1d.out.ic
      have ⟨e0, e1, ef⟩ := J2d.out.fc
      have df := J1d.out.frozen
      simp only [Ws.s0] at d0 d1 d2 d3 d4
      clear hr hR hP hT41 hT3
      go_wp2_with fail
      exact ropen_bad HO.out (by decide) J1d.out J2d.out (Nat.le_refl _) (Nat.le_succ _) B3.out rfl rfl rfl
    | some b =>
      have h3 := Wi.rec_some HD.out hr
      rw [h3.2.2] at hR
      rw [h3.2.1] at hP
      have HRC := Wc.hid hr
      have HIV := Wc.hid (Wi.recs_told hr).2.1
      obtain ⟨L, hL⟩ : ∃ L, b.map (Wi.recAt xs) = L := ⟨_, rfl⟩
      rw [hL] at hR
      have HL := Wc.hid hL
      have HRT : Hid (Rt w3 (.slice a n c) L) := Wc.hid ⟨hR, hT41⟩
      have HPT : Hid (Nt w3 (.slice a' n' c') b) := Wc.hid ⟨hP, hT3⟩
      have df := J3d.out.frozen
      have ⟨e0, e1, e2, e3, e4⟩ := S3.out.sc
      clear h3 hr hR hP hT41 hT3 hL
      go_wp2_with fail
      have I4 := J3d.out.eight s t (.slice a n c) (.slice a' n' c')
      have L4 := Lp.start (xs := xs) (b0 := w.heap.size) J1d.out J2d.out S3.out HRT.out HPT.out J3d.out (s := s) (t := t) (by omega)
      have b4 := over8_below B3.out (show w.heap.size ≤ w.heap.size + 1 + 1 by omega) s t (.slice a n c) (.slice a' n' c')
      obtain ⟨W4, hW4⟩ : ∃ W4, over8 w3 (w.heap.size + 1 + 1) s t (.slice a n c) (.slice a' n' c') = W4 := ⟨_, rfl⟩
      rw [hW4] at L4 b4
      unfold over8 at hW4
      rw [hW4]
      have LP4 := Wc.hid L4
      have B4 := Wc.hid b4
      have HLN : Hid (L.length = n) := Wc.hid (Wi.rs_len HRT.out.1)
      have hn61 : n ≤ 61 := by rw [← HLN.out, ← HL.out, List.length_map]; exact HIV.out.len
      have HSZ := Wc.hid (Ws.supB_iff.1 HSB.out).2.2.1
      clear hW4 I4 L4 b4 J1d J2d J3d S3 B3 HRT HPT c0 c1 c2 c3 c4 c5 c6 c7 c8 c9 e0 e1 e2 e3 e4 df
      go_loopw [12] (fun i wr => ∃ (qi : Int) (k : Nat) (m1 : Option Addr) (m2 m3 : Nat) (n1 : Option Addr) (n2 n3 : Nat), i = .int .i64 qi ∧ Hid (qi + 1 = (k : Int)) ∧ k ≤ n + 1 ∧ Hid (Below w.heap.size w wr) ∧ Hid (Lp xs w.heap.size (w.heap.size + 1 + 1) w.heap.size (w.heap.size + 1) w1.heap.size s t (.slice a n c) (.slice a' n' c') L b wr (.slice m1 m2 m3) (.slice n1 n2 n3) k)) (fun i _ => n + 2 - (intOf i + 1).toNat)
      case atStart => exact ⟨-1, 0, none, 0, 0, none, 0, 0, rfl, Wc.hid rfl, by omega, B4, LP4⟩
      case round =>
        obtain ⟨qi, k, m1, m2, m3, n1, n2, n3, rfl, HQK, hk, BW, LW⟩ := hrel
        by_cases hlt : k < n + 1
        · have HK : Hid (k < (Wi.trees s L).length) := Wc.hid (by rw [Wi.trees_length, HLN.out]; exact hlt)
          by_cases hk0 : k = 0
          · subst hk0
            obtain rfl : qi = -1 := by have := HQK.out; omega
            obtain ⟨z, hz⟩ : ∃ z : Nat, s.size = z := ⟨s.size.toNat, by have := HSZ.out; omega⟩
            have hz512 : z ≤ 512 := by have := HSZ.out; omega
            have HTK : Hid ((Wi.trees s L).getD 0 (0, 0) = (s.root, s.size)) := Wc.hid (Wi.trees_zero s L)
            have HZ : Hid ((s.root, s.size).2 = (z : Int)) := Wc.hid hz
            have HZ0 := Wc.hid hz
            clear hz
            have ⟨e0, e1, e2, e3, e4⟩ := LW.out.1.2.2.1.sc
            have hcn : (-1 : Int) < (n : Int) := by omega
            go_wp2_with fail
            go_quiet (fail)
            go_wp2_with fail
            refine (refTreeT_any _ xs s.root _ (HV.out.keep (below_drewN BW.out _)) HD.out).mono ?_
            rintro e w5 ⟨am, nm, cm, an, nn, cn, rfl, hS, hN, hb5, hTm, hTn⟩
            have LP5 := Wc.hid ((LW.out.keep (below_drewN (Below.refl _ _) _)).keep hb5)
            have B5 := Wc.hid (Wc.step (below_drewN BW.out _) (Nat.le_refl _) hb5)
            have NM5 := Wc.hid (show Nt w5 (.slice am nm cm) (Wt.treS xs s.root) from ⟨hS, hTm⟩)
            have NN5 := Wc.hid (show Nt w5 (.slice an nn cn) (Wt.treN xs s.root) from ⟨hN, hTn⟩)
            clear hS hN hb5 hTm hTn
            cases ht : Wt.tre xs s.root with
            | none =>
              have HO : Hid (opnE xs = 6) := Wc.hid (opn_unsound HP.out HRC.out (Wi.unsound_at (k := 0) (t := (s.root, s.size)) (Wi.iv_pos HIV.out) (by rw [HL.out]; exact HK.out) (by rw [HL.out]; exact HTK.out) (Wi.szB_none ht)))
              clear ht
              go_wp2_with fail
              go_loopw [17, 18] (fun o j wr2 => o = .bool false ∧ j = .int .i64 s.size ∧ w5 = wr2) (fun _ _ _ => 0)
              case atStart => exact ⟨rfl, rfl, rfl⟩
              case round =>
                obtain ⟨rfl, rfl, rfl⟩ := hrel
                have ⟨d0, d1, d2, d3, d4, d5, d6, d7, d8, d9⟩ := LP5.out.1.1.ic
                have ⟨e0, e1, ef⟩ := LP5.out.1.2.1.fc
                have df := LP5.out.1.1.frozen
                simp only [Ws.s0] at d0 d1 d2 d3 d4
                go_wp2_with fail
                all_goals exact ropen_bad HO.out (by decide) LP5.out.1.1 LP5.out.1.2.1 (Nat.le_refl _) (Nat.le_succ _) B5.out rfl rfl rfl
            | some tr =>
              have HIS : Hid ((Wt.tre xs s.root).isSome = true) := Wc.hid (by rw [ht]; rfl)
              obtain ⟨S, hSe⟩ : ∃ S, Wt.treS xs s.root = S := ⟨_, rfl⟩
              have hSl : S.length = 512 := by rw [← hSe]; exact Wt.treS_len (Wt.tre_some HD.out ht).1
              have HSE := Wc.hid hSe
              have HSL := Wc.hid hSl
              have HNM : Hid (Nt w5 (.slice am nm cm) S) := Wc.hid (by rw [← hSe]; exact NM5.out)
              obtain rfl : nm = 512 := by rw [← Wv.rv_len HNM.out.1]; exact hSl
              obtain ⟨_, _, _, h1, -, hmc, hmc2, hmn, hpos⟩ := HNM.out.1
              cases h1
              obtain ⟨gm, om, rfl, hgm, hcm⟩ := hpos (by omega)
              have HCM := Wc.hid hcm
              clear ht hSe hSl hpos hcm hgm
              go_wp2_with fail
              go_loopw [17, 18] (fun o j wr2 => ∃ (jI : Int) (jj : Nat) (q : Bool), o = .bool q ∧ j = .int .i64 jI ∧ Hid (jI = (jj : Int)) ∧ z ≤ jj ∧ jj ≤ 512 ∧ w5 = wr2 ∧ Hid (((S.drop z).take (jj - z)).all (· == 0) = q)) (fun _ j _ => 513 - (intOf j).toNat)
              case atStart => exact ⟨s.size, z, true, rfl, rfl, HZ0, Nat.le_refl _, hz512, rfl, Wc.hid (by simp)⟩
              case round =>
                obtain ⟨jI, jj, q, rfl, rfl, HJ, hzj, hj5, rfl, RQ⟩ := hrel
                obtain rfl : jI = (jj : Int) := HJ.out
                clear HJ
                cases q
                · have HO : Hid (opnE xs = 6) := Wc.hid (opn_unsound HP.out HRC.out (Wi.unsound_at (k := 0) (t := (s.root, s.size)) (Wi.iv_pos HIV.out) (by rw [HL.out]; exact HK.out) (by rw [HL.out]; exact HTK.out) (Wi.szB_bad (t := (s.root, s.size)) (j := jj - z) HZ.out (by rw [HSE.out]; exact RQ.out))))
                  have ⟨d0, d1, d2, d3, d4, d5, d6, d7, d8, d9⟩ := LP5.out.1.1.ic
                  have ⟨e0, e1, ef⟩ := LP5.out.1.2.1.fc
                  have df := LP5.out.1.1.frozen
                  simp only [Ws.s0] at d0 d1 d2 d3 d4
                  by_cases hlt5 : jj < 512
                  · go_wp2_with fail
                    exact ropen_bad HO.out (by decide) LP5.out.1.1 LP5.out.1.2.1 (Nat.le_refl _) (Nat.le_succ _) B5.out rfl rfl rfl
                  · go_wp2_with fail
                    exact ropen_bad HO.out (by decide) LP5.out.1.1 LP5.out.1.2.1 (Nat.le_refl _) (Nat.le_succ _) B5.out rfl rfl rfl
                · by_cases hlt5 : jj < 512
                  · have hx := HCM.out jj hlt5
                    have HDS := Wc.hid (Wi.drop_snoc (S := S) hzj (by rw [HSL.out]; exact hlt5))
                    obtain ⟨y, hye⟩ : ∃ y, S.getD jj 0 = y := ⟨_, rfl⟩
                    rw [hye] at hx HDS
                    obtain ⟨q2, hq2⟩ : ∃ q2, (y == (0 : Int)) = q2 := ⟨_, rfl⟩
                    have HQ2 := Wc.hid hq2
                    clear hye
                    go_wp2_with fail
                    go_roundw
                    case rel => exact ⟨(jj : Int) + 1, jj + 1, q2, by rfl, by rfl, Wc.hid (by omega), by omega, by omega, trivial, Wc.hid (by rw [HDS.out, RQ.out, HQ2.out]; rfl)⟩
                    case measure => simp [intOf]; omega
                  · have HZB : Hid (Wi.szB xs (s.root, s.size) = true) := Wc.hid (Wi.szB_good (t := (s.root, s.size)) (z := z) (j := jj - z) HIS.out HZ.out (by rw [HSE.out, HSL.out]; omega) (by rw [HSE.out]; exact RQ.out))
                    go_wp2_with fail
                    refine region25 (b0 := w.heap.size) (P := (w.heap.size + 1 + 1)) (s := s) (tt := t) (rr := .slice a n c) (bb := .slice a' n' c') (vm := .slice m1 m2 m3) (vn := .slice n1 n2 n3) (Ms := ((Wi.trees s L).take 0).map fun t => Wt.treS xs t.1) (Ns := ((Wi.trees s L).take 0).map fun t => Wt.treN xs t.1) (lm := Wt.treS xs s.root) (ln := Wt.treN xs s.root) (vp := .slice (some ⟨gm, om, none⟩) 512 cm) (vq := .slice an nn cn) rfl rfl rfl rfl rfl rfl LP5.out.2.1 LP5.out.2.2.1 LP5.out.2.2.2.1 LP5.out.2.2.2.2.1 NM5.out NN5.out B5.out.size (by omega) (by rw [List.length_map, List.length_take, Wi.trees_length]; have := HLN.out; omega) (by rw [List.length_map, List.length_take, Wi.trees_length]; have := HLN.out; omega) ?_
                    intro u w6 hW6
                    obtain ⟨y1, y3, hy⟩ := hW6.2.2.2.1.slice
                    obtain ⟨y4, y6, hy2⟩ := hW6.2.2.2.2.1.slice
                    have LP6 := Wc.hid (LP5.out.next (by omega) HK.out HTK.out HZB.out hW6)
                    have B6 := Wc.hid (B5.out.trans hW6.1)
                    rw [hy, hy2] at LP6
                    simp only [Wo.setAll, sl25, List.foldl_cons, List.foldl_nil, List.setIfInBounds_toArray, List.set_cons_zero, List.set_cons_succ]
                    clear hW6 hy hy2
                    go_wp2_with fail
                    go_roundw
                    case rel => exact ⟨0, 0 + 1, _, _, _, _, _, _, (by first | rfl | go_num), Wc.hid (by first | rfl | (have := HQK.out; omega)), by omega, B6, LP6⟩
                    case measure => have := HQK.out; simp [intOf] <;> omega
          · obtain ⟨j, rfl⟩ : ∃ j, k = j + 1 := ⟨k - 1, by omega⟩
            obtain rfl : qi = (j : Int) := by have := HQK.out; omega
            have hjn : j < n := by omega
            obtain ⟨_, _, _, h1, -, hlc, hlc2, hln, hpos⟩ := LW.out.1.2.2.2.1.1
            cases h1
            obtain ⟨g, off, rfl, hblt, hcs⟩ := hpos (by omega)
            have hx := hcs j hjn
            have HTK : Hid ((Wi.trees s L).getD (j + 1) (0, 0) = ((L.getD j Wr.r0).root, (L.getD j Wr.r0).size)) := Wc.hid (Wi.trees_succ s L (by rw [HLN.out]; exact hjn))
            have hxs : 0 ≤ (L.getD j Wr.r0).size ∧ (L.getD j Wr.r0).size ≤ 512 := by
              have hbl : j < b.length := by rw [← HLN.out, ← HL.out, List.length_map] at hjn; exact hjn
              have e : L.getD j Wr.r0 = Wi.recAt xs (b.getD j 0) := by rw [← HL.out]; simp [hbl]
              rw [e]
              refine Wi.rec_size (Wi.recOk_in (HIV.out.2.2 _ ?_)).2.2.2
              rw [List.getD_eq_getElem?_getD, List.getElem?_eq_getElem hbl]
              exact List.getElem_mem hbl
            obtain ⟨x, hxe⟩ : ∃ x, L.getD j Wr.r0 = x := ⟨_, rfl⟩
            rw [hxe] at hx hxs HTK
            obtain ⟨z, hz⟩ : ∃ z : Nat, x.size = z := ⟨x.size.toNat, by omega⟩
            have hz512 : z ≤ 512 := by omega
            have HZ : Hid ((x.root, x.size).2 = (z : Int)) := Wc.hid hz
            have HZ0 := Wc.hid hz
            have ⟨d0, d1, d2, d3, d4, d5, d6, d7⟩ := hx
            have ⟨e0, e1, e2, e3, e4⟩ := LW.out.1.2.2.1.sc
            have hcn : (j : Int) < (n : Int) := by omega
            clear hz hxs hxe hcs hx hpos
            go_wp2_with fail
            go_quiet (fail)
            go_wp2_with fail
            go_quiet (fail)
            go_wp2_with fail
            refine (refTreeT_any _ xs x.root _ (HV.out.keep (below_drewN BW.out _)) HD.out).mono ?_
            rintro e w5 ⟨am, nm, cm, an, nn, cn, rfl, hS, hN, hb5, hTm, hTn⟩
            have LP5 := Wc.hid ((LW.out.keep (below_drewN (Below.refl _ _) _)).keep hb5)
            have B5 := Wc.hid (Wc.step (below_drewN BW.out _) (Nat.le_refl _) hb5)
            have NM5 := Wc.hid (show Nt w5 (.slice am nm cm) (Wt.treS xs x.root) from ⟨hS, hTm⟩)
            have NN5 := Wc.hid (show Nt w5 (.slice an nn cn) (Wt.treN xs x.root) from ⟨hN, hTn⟩)
            clear hS hN hb5 hTm hTn
            cases ht : Wt.tre xs x.root with
            | none =>
              have HO : Hid (opnE xs = 6) := Wc.hid (opn_unsound HP.out HRC.out (Wi.unsound_at (k := (j + 1)) (t := (x.root, x.size)) (Wi.iv_pos HIV.out) (by rw [HL.out]; exact HK.out) (by rw [HL.out]; exact HTK.out) (Wi.szB_none ht)))
              clear ht
              go_wp2_with fail
              go_loopw [17, 18] (fun o j wr2 => o = .bool false ∧ j = .int .i64 x.size ∧ w5 = wr2) (fun _ _ _ => 0)
              case atStart => exact ⟨rfl, rfl, rfl⟩
              case round =>
                obtain ⟨rfl, rfl, rfl⟩ := hrel
                have ⟨d0, d1, d2, d3, d4, d5, d6, d7, d8, d9⟩ := LP5.out.1.1.ic
                have ⟨e0, e1, ef⟩ := LP5.out.1.2.1.fc
                have df := LP5.out.1.1.frozen
                simp only [Ws.s0] at d0 d1 d2 d3 d4
                go_wp2_with fail
                all_goals exact ropen_bad HO.out (by decide) LP5.out.1.1 LP5.out.1.2.1 (Nat.le_refl _) (Nat.le_succ _) B5.out rfl rfl rfl
            | some tr =>
              have HIS : Hid ((Wt.tre xs x.root).isSome = true) := Wc.hid (by rw [ht]; rfl)
              obtain ⟨S, hSe⟩ : ∃ S, Wt.treS xs x.root = S := ⟨_, rfl⟩
              have hSl : S.length = 512 := by rw [← hSe]; exact Wt.treS_len (Wt.tre_some HD.out ht).1
              have HSE := Wc.hid hSe
              have HSL := Wc.hid hSl
              have HNM : Hid (Nt w5 (.slice am nm cm) S) := Wc.hid (by rw [← hSe]; exact NM5.out)
              obtain rfl : nm = 512 := by rw [← Wv.rv_len HNM.out.1]; exact hSl
              obtain ⟨_, _, _, h1, -, hmc, hmc2, hmn, hpos⟩ := HNM.out.1
              cases h1
              obtain ⟨gm, om, rfl, hgm, hcm⟩ := hpos (by omega)
              have HCM := Wc.hid hcm
              clear ht hSe hSl hpos hcm hgm
              go_wp2_with fail
              go_loopw [17, 18] (fun o j wr2 => ∃ (jI : Int) (jj : Nat) (q : Bool), o = .bool q ∧ j = .int .i64 jI ∧ Hid (jI = (jj : Int)) ∧ z ≤ jj ∧ jj ≤ 512 ∧ w5 = wr2 ∧ Hid (((S.drop z).take (jj - z)).all (· == 0) = q)) (fun _ j _ => 513 - (intOf j).toNat)
              case atStart => exact ⟨x.size, z, true, rfl, rfl, HZ0, Nat.le_refl _, hz512, rfl, Wc.hid (by simp)⟩
              case round =>
                obtain ⟨jI, jj, q, rfl, rfl, HJ, hzj, hj5, rfl, RQ⟩ := hrel
                obtain rfl : jI = (jj : Int) := HJ.out
                clear HJ
                cases q
                · have HO : Hid (opnE xs = 6) := Wc.hid (opn_unsound HP.out HRC.out (Wi.unsound_at (k := (j + 1)) (t := (x.root, x.size)) (Wi.iv_pos HIV.out) (by rw [HL.out]; exact HK.out) (by rw [HL.out]; exact HTK.out) (Wi.szB_bad (t := (x.root, x.size)) (j := jj - z) HZ.out (by rw [HSE.out]; exact RQ.out))))
                  have ⟨d0, d1, d2, d3, d4, d5, d6, d7, d8, d9⟩ := LP5.out.1.1.ic
                  have ⟨e0, e1, ef⟩ := LP5.out.1.2.1.fc
                  have df := LP5.out.1.1.frozen
                  simp only [Ws.s0] at d0 d1 d2 d3 d4
                  by_cases hlt5 : jj < 512
                  · go_wp2_with fail
                    exact ropen_bad HO.out (by decide) LP5.out.1.1 LP5.out.1.2.1 (Nat.le_refl _) (Nat.le_succ _) B5.out rfl rfl rfl
                  · go_wp2_with fail
                    exact ropen_bad HO.out (by decide) LP5.out.1.1 LP5.out.1.2.1 (Nat.le_refl _) (Nat.le_succ _) B5.out rfl rfl rfl
                · by_cases hlt5 : jj < 512
                  · have hx := HCM.out jj hlt5
                    have HDS := Wc.hid (Wi.drop_snoc (S := S) hzj (by rw [HSL.out]; exact hlt5))
                    obtain ⟨y, hye⟩ : ∃ y, S.getD jj 0 = y := ⟨_, rfl⟩
                    rw [hye] at hx HDS
                    obtain ⟨q2, hq2⟩ : ∃ q2, (y == (0 : Int)) = q2 := ⟨_, rfl⟩
                    have HQ2 := Wc.hid hq2
                    clear hye
                    go_wp2_with fail
                    go_roundw
                    case rel => exact ⟨(jj : Int) + 1, jj + 1, q2, by rfl, by rfl, Wc.hid (by omega), by omega, by omega, trivial, Wc.hid (by rw [HDS.out, RQ.out, HQ2.out]; rfl)⟩
                    case measure => simp [intOf]; omega
                  · have HZB : Hid (Wi.szB xs (x.root, x.size) = true) := Wc.hid (Wi.szB_good (t := (x.root, x.size)) (z := z) (j := jj - z) HIS.out HZ.out (by rw [HSE.out, HSL.out]; omega) (by rw [HSE.out]; exact RQ.out))
                    go_wp2_with fail
                    refine region25 (b0 := w.heap.size) (P := (w.heap.size + 1 + 1)) (s := s) (tt := t) (rr := .slice (some ⟨g, off, none⟩) n c) (bb := .slice a' n' c') (vm := .slice m1 m2 m3) (vn := .slice n1 n2 n3) (Ms := ((Wi.trees s L).take (j + 1)).map fun t => Wt.treS xs t.1) (Ns := ((Wi.trees s L).take (j + 1)).map fun t => Wt.treN xs t.1) (lm := Wt.treS xs x.root) (ln := Wt.treN xs x.root) (vp := .slice (some ⟨gm, om, none⟩) 512 cm) (vq := .slice an nn cn) rfl rfl rfl rfl rfl rfl LP5.out.2.1 LP5.out.2.2.1 LP5.out.2.2.2.1 LP5.out.2.2.2.2.1 NM5.out NN5.out B5.out.size (by omega) (by rw [List.length_map, List.length_take, Wi.trees_length]; have := HLN.out; omega) (by rw [List.length_map, List.length_take, Wi.trees_length]; have := HLN.out; omega) ?_
                    intro u w6 hW6
                    obtain ⟨y1, y3, hy⟩ := hW6.2.2.2.1.slice
                    obtain ⟨y4, y6, hy2⟩ := hW6.2.2.2.2.1.slice
                    have LP6 := Wc.hid (LP5.out.next (by omega) HK.out HTK.out HZB.out hW6)
                    have B6 := Wc.hid (B5.out.trans hW6.1)
                    rw [hy, hy2] at LP6
                    simp only [Wo.setAll, sl25, List.foldl_cons, List.foldl_nil, List.setIfInBounds_toArray, List.set_cons_zero, List.set_cons_succ]
                    clear hW6 hy hy2
                    go_wp2_with fail
                    go_roundw
                    case rel => exact ⟨(j : Int) + 1, (j + 1) + 1, _, _, _, _, _, _, (by first | rfl | go_num), Wc.hid (by first | rfl | (have := HQK.out; omega)), by omega, B6, LP6⟩
                    case measure => have := HQK.out; simp [intOf] <;> omega
        · have hkn : k = n + 1 := by omega
          subst hkn
          obtain rfl : qi = (n : Int) := by have := HQK.out; omega
          have htk : (Wi.trees s L).take (n + 1) = Wi.trees s L := List.take_of_length_le (by rw [Wi.trees_length, HLN.out]; exact Nat.le_refl _)
          obtain ⟨f1, f2, f3, f4, -, f6⟩ := LW.out
          rw [htk] at f3 f4 f6
          have HTL : Hid ((Wi.trees s L).length = n + 1) := Wc.hid (by rw [Wi.trees_length, HLN.out])
          obtain ⟨W8, rfl⟩ : ∃ W8 : World, W8 = wr := ⟨_, rfl⟩
          have F1 := Wc.hid f1
          have F2 := Wc.hid f2
          have F3 := Wc.hid f3
          have F4 := Wc.hid f4
          have F6 := Wc.hid f6
          have hmk := run_make_row' (P := Tryz.prog) 22 3 (.int .i64 0) 8 Tryz.underlying22 Tryz.infoI rfl .i64 .i64 m (by omega) (by omega)
          have R8 := World.rowIs_made W8 (.int .i64 0) m 3
          have HR8 := Wc.hid R8
          have al := (Below.refl W8.heap.size W8).alloc (Nat.le_refl _) (.cells (madeCells #[.int .i64 0] m) 3)
          have AL := Wc.hid al
          have BW8 := Wc.hid BW.out
          obtain rfl : n' = b.length := (Wv.rv_len f1.2.2.2.2.1).symm
          clear f1 f2 f3 f4 f6 htk R8 al LW BW
          go_wp2_with fail
          obtain ⟨_, _, hm2⟩ := F3.out.slice
          obtain ⟨_, _, hn2⟩ := F4.out.slice
          obtain rfl : m2 = n + 1 := by cases hm2; rw [List.length_map]; exact HTL.out
          obtain rfl : n2 = n + 1 := by cases hn2; rw [List.length_map]; exact HTL.out
          have hb61 := HIV.out.len
          clear hm2 hn2
          go_loopw [20] (fun i w9 => ∃ k : Nat, i = .int .i64 k ∧ k ≤ b.length ∧ Hid (Below W8.heap.size W8 w9) ∧ Hid (w9.rowIs W8.heap.size 3 m (fun j => .int .i64 (Wi.cd (b.take k) [] [] j)))) (fun i _ => b.length - (intOf i).toNat)
          case atStart => exact ⟨0, rfl, by omega, AL, Wc.hid (HR8.out.congr fun j _ => by simp [Wi.cd])⟩
          case round =>
            obtain ⟨k, rfl, hk, RW, RR⟩ := hrel
            by_cases hlt : k < b.length
            · obtain ⟨_, _, _, h1, -, -, -, -, hpos⟩ := F1.out.2.2.2.2.1
              cases h1
              obtain ⟨g, off, rfl, hblt, hcs⟩ := hpos (by omega)
              have hx := (RW.out.cell (p := ⟨g, off + k, none⟩) hblt).trans (hcs k hlt)
              have hq := Wi.recOk_in (HIV.out.2.2 (b.getD k 0) (by rw [List.getD_eq_getElem?_getD, List.getElem?_eq_getElem hlt]; exact List.getElem_mem hlt))
              rw [HMX.out] at hq
              obtain ⟨q, hqe⟩ : ∃ q : Nat, b.getD k 0 = q := ⟨(b.getD k 0).toNat, by omega⟩
              rw [hqe] at hx hq
              have hqm : q < m := by omega
              have hcq := RR.out.cell hqm
              have fz := RR.out.frozen q
              have HTKE : Hid (b.take (k + 1) = b.take k ++ [(q : Int)]) := Wc.hid (by rw [Wi.take_getD b 0 hlt, hqe])
              clear hq hcs hpos hqe
              go_wp2_with fail
              go_roundw
              case rel => exact ⟨k + 1, by go_num, by omega, Wc.hid (RW.out.setCell (Nat.le_refl _) _), Wc.hid (row_put RR.out (fun j => by rw [HTKE.out, Wi.cd_rec]))⟩
              case measure => simp [intOf]; omega
            · have hkb : k = b.length := by omega
              have HRR : Hid (wr.rowIs W8.heap.size 3 m (fun j => .int .i64 (Wi.cd b (Wi.allN xs ((Wi.trees s L).take 0)) (Wi.allDp xs ((Wi.trees s L).take 0)) j))) := Wc.hid (RR.out.congr fun j _ => by rw [List.take_of_length_le (by omega)]; rfl)
              have HRW := Wc.hid RW.out
              clear hkb RR RW
              go_wp2_with fail
              go_loopw [11, 21] (fun bd i w9 => ∃ (bI : Int) (k : Nat), bd = .int .i64 bI ∧ i = .int .i64 k ∧ k ≤ n + 1 ∧ Hid (Wi.Bd m b (Wi.allN xs ((Wi.trees s L).take k)) (Wi.allDp xs ((Wi.trees s L).take k)) bI) ∧ Hid (Below W8.heap.size W8 w9) ∧ Hid (w9.rowIs W8.heap.size 3 m (fun j => .int .i64 (Wi.cd b (Wi.allN xs ((Wi.trees s L).take k)) (Wi.allDp xs ((Wi.trees s L).take k)) j)))) (fun _ i _ => n + 1 - (intOf i).toNat)
              case atStart => exact ⟨(m : Int), 0, rfl, rfl, by omega, Wc.hid (Wi.Bd.start m b), HRW, HRR⟩
              case round =>
                obtain ⟨bI, i4, rfl, rfl, hk, RBD, RW, RR⟩ := hrel
                have ⟨p0, p1, p2, p3, p4, p5, p6, p7, p8, p9⟩ := (F2.out.keep RW.out).ic
                clear p0 p1 p2 p3 p4 p5 p6 p7
                by_cases hlt : i4 < n + 1
                · have hTlt : i4 < (Wi.trees s L).length := by rw [HTL.out]; exact hlt
                  obtain ⟨tk, htk⟩ : ∃ tk, (Wi.trees s L).getD i4 (0, 0) = tk := ⟨_, rfl⟩
                  obtain ⟨TK, hTK⟩ : ∃ TK, (Wi.trees s L).take i4 = TK := ⟨_, rfl⟩
                  have HTS : Hid ((Wi.trees s L).take (i4 + 1) = TK ++ [tk]) := Wc.hid (by rw [Wi.take_getD _ (0, 0) hTlt, htk, hTK])
                  rw [hTK] at RBD RR
                  obtain ⟨gN, cN, eN, -, hgN, an, nn, cn, hcN, hNN⟩ := F4.out.at (i := i4) (by rw [List.length_map]; exact hTlt)
                  obtain ⟨gM, cM, eM, -, hgM, am, nm, cm, hcM, hNM⟩ := F3.out.at (i := i4) (by rw [List.length_map]; exact hTlt)
                  have e1 : ((Wi.trees s L).map fun t => Wt.treN xs t.1).getD i4 [] = Wt.treN xs tk.1 := by rw [← htk]; simp [hTlt]
                  have e2 : ((Wi.trees s L).map fun t => Wt.treS xs t.1).getD i4 [] = Wt.treS xs tk.1 := by rw [← htk]; simp [hTlt]
                  rw [e1] at hNN
                  rw [e2] at hNM
                  injection eN with a1 a2 a3
                  subst a1 a3
                  clear a2
                  injection eM with a1 a2 a3
                  subst a1 a3
                  clear a2
                  have HTZ : Hid (Wi.szB xs tk = true) := Wc.hid (by
                    have := F6.out
                    rw [List.all_eq_true] at this
                    exact this tk (by rw [← htk, List.getD_eq_getElem?_getD, List.getElem?_eq_getElem hTlt]; exact List.getElem_mem hTlt))
                  have HCN := Wc.hid hcN
                  have HCM := Wc.hid hcM
                  have HNN := Wc.hid hNN
                  have HNM := Wc.hid hNM
                  have HGN := Wc.hid hgN
                  have HGM := Wc.hid hgM
                  clear e1 e2 hcN hcM hNN hNM hgN hgM htk hTK hTlt
                  go_wp2_with fail
                  clear p8 p9
                  have HNL : Hid ((Wt.treN xs tk.1).length = nn) := Wc.hid (Wv.rv_len HNN.out.1)
                  have hnb : nn ≤ 17592186044416 := by obtain ⟨_, _, _, h1, -, -, -, h5, -⟩ := HNN.out.1; cases h1; exact h5
                  go_loopw [11, 22] (fun bd j w10 => ∃ (bI : Int) (kk : Nat), bd = .int .i64 bI ∧ j = .int .i64 kk ∧ kk ≤ nn ∧ Hid (Wi.Bd m b (Wi.allN xs TK ++ (Wt.treN xs tk.1).take kk) (Wi.allDp xs TK) bI) ∧ Hid (Below W8.heap.size W8 w10) ∧ Hid (w10.rowIs W8.heap.size 3 m (fun j => .int .i64 (Wi.cd b (Wi.allN xs TK ++ (Wt.treN xs tk.1).take kk) (Wi.allDp xs TK) j)))) (fun _ j _ => nn - (intOf j).toNat)
                  case atStart => exact ⟨bI, 0, rfl, rfl, by omega, Wc.hid (by rw [List.take_zero, List.append_nil]; exact RBD.out), RW, Wc.hid (by rw [List.take_zero, List.append_nil]; exact RR.out)⟩
                  case round =>
                    clear RBD RW RR
                    obtain ⟨bI, kk, rfl, rfl, hkk, RBD, RW, RR⟩ := hrel
                    have ⟨p0, p1, p2, p3, p4, p5, p6, p7, p8, p9⟩ := (F2.out.keep RW.out).ic
                    have hcn := (RW.out.cell (p := ⟨gN, i4, none⟩) HGN.out).trans HCN.out
                    clear p0 p1 p2 p3 p4 p5 p6 p7 p8
                    by_cases hltk : kk < nn
                    · obtain ⟨_, _, _, h1, -, -, -, -, hpos⟩ := HNN.out.1
                      cases h1
                      obtain ⟨g, off, rfl, hblt, hcs⟩ := hpos (by omega)
                      have hx := (RW.out.cell (p := ⟨g, off + kk, none⟩) hblt).trans (hcs kk hltk)
                      have HKN : Hid (kk < (Wt.treN xs tk.1).length) := Wc.hid (by rw [HNL.out]; exact hltk)
                      have hq := Wi.treN_bounds xs tk.1 ((Wt.treN xs tk.1).getD kk 0) (by rw [List.getD_eq_getElem?_getD, List.getElem?_eq_getElem HKN.out]; exact List.getElem_mem HKN.out)
                      rw [HMX.out] at hq
                      obtain ⟨q, hqe⟩ : ∃ q : Nat, (Wt.treN xs tk.1).getD kk 0 = q := ⟨((Wt.treN xs tk.1).getD kk 0).toNat, by omega⟩
                      have HQE := Wc.hid hqe
                      rw [hqe] at hx hq
                      have hqm : q < m := by omega
                      have hcq := RR.out.cell hqm
                      have fz := RR.out.frozen q
                      clear hq hcs hpos hqe
                      by_cases h1 : (q : Int) ∈ Wi.allN xs TK ++ (Wt.treN xs tk.1).take kk
                      · by_cases h2 : (q : Int) ∈ b
                        · by_cases h3 : (q : Int) ∈ Wi.allDp xs TK
                          · have hv : Wi.cd b (Wi.allN xs TK ++ (Wt.treN xs tk.1).take kk) (Wi.allDp xs TK) q = 7 := by rw [Wi.cd_val, if_pos h1, if_pos h2, if_pos h3]; rfl
                            have hrow : ∀ j : Nat, Wi.cd b (Wi.allN xs TK ++ (Wt.treN xs tk.1).take (kk + 1)) (Wi.allDp xs TK) j = if j = q then 7 else Wi.cd b (Wi.allN xs TK ++ (Wt.treN xs tk.1).take kk) (Wi.allDp xs TK) j := fun j => by
                              rw [Wi.take_getD _ 0 HKN.out, HQE.out, ← List.append_assoc]
                              exact Wi.cd_node (by rw [hv, if_pos h1]; rfl)
                            have HROW := Wc.hid hrow
                            have HV := Wc.hid hv
                            rw [hv] at hcq
                            by_cases hmn : (q : Int) < bI
                            · have hmin : min bI (q : Int) = (q : Int) := by omega
                              have HBN : Hid (Wi.Bd m b (Wi.allN xs TK ++ (Wt.treN xs tk.1).take (kk + 1)) (Wi.allDp xs TK) (q : Int)) := Wc.hid (by
                                rw [Wi.take_getD _ 0 HKN.out, HQE.out, ← List.append_assoc]
                                exact RBD.out.nodeYes (.inl h2) (by have := RBD.out.1; omega) (by have := RBD.out.2.1; omega))
                              clear hv hrow h1 h2 h3
                              go_wp2_with fail
                              go_roundw
                              case rel => exact ⟨(q : Int), kk + 1, rfl, by go_num, by omega, HBN, Wc.hid (RW.out), Wc.hid (row_same RR.out HROW.out HV.out)⟩
                              case measure => simp [intOf]; omega
                            · have hmin : min bI (q : Int) = bI := by omega
                              have HBN : Hid (Wi.Bd m b (Wi.allN xs TK ++ (Wt.treN xs tk.1).take (kk + 1)) (Wi.allDp xs TK) bI) := Wc.hid (by
                                rw [Wi.take_getD _ 0 HKN.out, HQE.out, ← List.append_assoc]
                                exact RBD.out.nodeYes (.inl h2) (by have := RBD.out.1; omega) (by have := RBD.out.2.1; omega))
                              clear hv hrow h1 h2 h3
                              go_wp2_with fail
                              go_roundw
                              case rel => exact ⟨bI, kk + 1, rfl, by go_num, by omega, HBN, Wc.hid (RW.out), Wc.hid (row_same RR.out HROW.out HV.out)⟩
                              case measure => simp [intOf]; omega
                          · have hv : Wi.cd b (Wi.allN xs TK ++ (Wt.treN xs tk.1).take kk) (Wi.allDp xs TK) q = 3 := by rw [Wi.cd_val, if_pos h1, if_pos h2, if_neg h3]; rfl
                            have hrow : ∀ j : Nat, Wi.cd b (Wi.allN xs TK ++ (Wt.treN xs tk.1).take (kk + 1)) (Wi.allDp xs TK) j = if j = q then 3 else Wi.cd b (Wi.allN xs TK ++ (Wt.treN xs tk.1).take kk) (Wi.allDp xs TK) j := fun j => by
                              rw [Wi.take_getD _ 0 HKN.out, HQE.out, ← List.append_assoc]
                              exact Wi.cd_node (by rw [hv, if_pos h1]; rfl)
                            have HROW := Wc.hid hrow
                            have HV := Wc.hid hv
                            rw [hv] at hcq
                            by_cases hmn : (q : Int) < bI
                            · have hmin : min bI (q : Int) = (q : Int) := by omega
                              have HBN : Hid (Wi.Bd m b (Wi.allN xs TK ++ (Wt.treN xs tk.1).take (kk + 1)) (Wi.allDp xs TK) (q : Int)) := Wc.hid (by
                                rw [Wi.take_getD _ 0 HKN.out, HQE.out, ← List.append_assoc]
                                exact RBD.out.nodeYes (.inl h2) (by have := RBD.out.1; omega) (by have := RBD.out.2.1; omega))
                              clear hv hrow h1 h2 h3
                              go_wp2_with fail
                              go_roundw
                              case rel => exact ⟨(q : Int), kk + 1, rfl, by go_num, by omega, HBN, Wc.hid (RW.out), Wc.hid (row_same RR.out HROW.out HV.out)⟩
                              case measure => simp [intOf]; omega
                            · have hmin : min bI (q : Int) = bI := by omega
                              have HBN : Hid (Wi.Bd m b (Wi.allN xs TK ++ (Wt.treN xs tk.1).take (kk + 1)) (Wi.allDp xs TK) bI) := Wc.hid (by
                                rw [Wi.take_getD _ 0 HKN.out, HQE.out, ← List.append_assoc]
                                exact RBD.out.nodeYes (.inl h2) (by have := RBD.out.1; omega) (by have := RBD.out.2.1; omega))
                              clear hv hrow h1 h2 h3
                              go_wp2_with fail
                              go_roundw
                              case rel => exact ⟨bI, kk + 1, rfl, by go_num, by omega, HBN, Wc.hid (RW.out), Wc.hid (row_same RR.out HROW.out HV.out)⟩
                              case measure => simp [intOf]; omega
                        · by_cases h3 : (q : Int) ∈ Wi.allDp xs TK
                          · have hv : Wi.cd b (Wi.allN xs TK ++ (Wt.treN xs tk.1).take kk) (Wi.allDp xs TK) q = 5 := by rw [Wi.cd_val, if_pos h1, if_neg h2, if_pos h3]; rfl
                            have hrow : ∀ j : Nat, Wi.cd b (Wi.allN xs TK ++ (Wt.treN xs tk.1).take (kk + 1)) (Wi.allDp xs TK) j = if j = q then 5 else Wi.cd b (Wi.allN xs TK ++ (Wt.treN xs tk.1).take kk) (Wi.allDp xs TK) j := fun j => by
                              rw [Wi.take_getD _ 0 HKN.out, HQE.out, ← List.append_assoc]
                              exact Wi.cd_node (by rw [hv, if_pos h1]; rfl)
                            have HROW := Wc.hid hrow
                            have HV := Wc.hid hv
                            rw [hv] at hcq
                            by_cases hmn : (q : Int) < bI
                            · have hmin : min bI (q : Int) = (q : Int) := by omega
                              have HBN : Hid (Wi.Bd m b (Wi.allN xs TK ++ (Wt.treN xs tk.1).take (kk + 1)) (Wi.allDp xs TK) (q : Int)) := Wc.hid (by
                                rw [Wi.take_getD _ 0 HKN.out, HQE.out, ← List.append_assoc]
                                exact RBD.out.nodeYes (.inr h3) (by have := RBD.out.1; omega) (by have := RBD.out.2.1; omega))
                              clear hv hrow h1 h2 h3
                              go_wp2_with fail
                              go_roundw
                              case rel => exact ⟨(q : Int), kk + 1, rfl, by go_num, by omega, HBN, Wc.hid (RW.out), Wc.hid (row_same RR.out HROW.out HV.out)⟩
                              case measure => simp [intOf]; omega
                            · have hmin : min bI (q : Int) = bI := by omega
                              have HBN : Hid (Wi.Bd m b (Wi.allN xs TK ++ (Wt.treN xs tk.1).take (kk + 1)) (Wi.allDp xs TK) bI) := Wc.hid (by
                                rw [Wi.take_getD _ 0 HKN.out, HQE.out, ← List.append_assoc]
                                exact RBD.out.nodeYes (.inr h3) (by have := RBD.out.1; omega) (by have := RBD.out.2.1; omega))
                              clear hv hrow h1 h2 h3
                              go_wp2_with fail
                              go_roundw
                              case rel => exact ⟨bI, kk + 1, rfl, by go_num, by omega, HBN, Wc.hid (RW.out), Wc.hid (row_same RR.out HROW.out HV.out)⟩
                              case measure => simp [intOf]; omega
                          · have hv : Wi.cd b (Wi.allN xs TK ++ (Wt.treN xs tk.1).take kk) (Wi.allDp xs TK) q = 1 := by rw [Wi.cd_val, if_pos h1, if_neg h2, if_neg h3]; rfl
                            have hrow : ∀ j : Nat, Wi.cd b (Wi.allN xs TK ++ (Wt.treN xs tk.1).take (kk + 1)) (Wi.allDp xs TK) j = if j = q then 1 else Wi.cd b (Wi.allN xs TK ++ (Wt.treN xs tk.1).take kk) (Wi.allDp xs TK) j := fun j => by
                              rw [Wi.take_getD _ 0 HKN.out, HQE.out, ← List.append_assoc]
                              exact Wi.cd_node (by rw [hv, if_pos h1]; rfl)
                            have HROW := Wc.hid hrow
                            have HV := Wc.hid hv
                            rw [hv] at hcq
                            have HBN : Hid (Wi.Bd m b (Wi.allN xs TK ++ (Wt.treN xs tk.1).take (kk + 1)) (Wi.allDp xs TK) bI) := Wc.hid (by
                              rw [Wi.take_getD _ 0 HKN.out, HQE.out, ← List.append_assoc]
                              exact RBD.out.nodeNo h2 h3)
                            clear hv hrow h1 h2 h3
                            go_wp2_with fail
                            go_roundw
                            case rel => exact ⟨bI, kk + 1, rfl, by go_num, by omega, HBN, Wc.hid (RW.out), Wc.hid (row_same RR.out HROW.out HV.out)⟩
                            case measure => simp [intOf]; omega
                      · by_cases h2 : (q : Int) ∈ b
                        · by_cases h3 : (q : Int) ∈ Wi.allDp xs TK
                          · have hv : Wi.cd b (Wi.allN xs TK ++ (Wt.treN xs tk.1).take kk) (Wi.allDp xs TK) q = 6 := by rw [Wi.cd_val, if_neg h1, if_pos h2, if_pos h3]; rfl
                            have hrow : ∀ j : Nat, Wi.cd b (Wi.allN xs TK ++ (Wt.treN xs tk.1).take (kk + 1)) (Wi.allDp xs TK) j = if j = q then 7 else Wi.cd b (Wi.allN xs TK ++ (Wt.treN xs tk.1).take kk) (Wi.allDp xs TK) j := fun j => by
                              rw [Wi.take_getD _ 0 HKN.out, HQE.out, ← List.append_assoc]
                              exact Wi.cd_node (by rw [hv, if_neg h1]; rfl)
                            have HROW := Wc.hid hrow
                            have HV := Wc.hid hv
                            rw [hv] at hcq
                            by_cases hmn : (q : Int) < bI
                            · have hmin : min bI (q : Int) = (q : Int) := by omega
                              have HBN : Hid (Wi.Bd m b (Wi.allN xs TK ++ (Wt.treN xs tk.1).take (kk + 1)) (Wi.allDp xs TK) (q : Int)) := Wc.hid (by
                                rw [Wi.take_getD _ 0 HKN.out, HQE.out, ← List.append_assoc]
                                exact RBD.out.nodeYes (.inl h2) (by have := RBD.out.1; omega) (by have := RBD.out.2.1; omega))
                              clear hv hrow h1 h2 h3
                              go_wp2_with fail
                              go_roundw
                              case rel => exact ⟨(q : Int), kk + 1, rfl, by go_num, by omega, HBN, Wc.hid (RW.out.setCell (Nat.le_refl _) _), Wc.hid (row_put RR.out HROW.out)⟩
                              case measure => simp [intOf]; omega
                            · have hmin : min bI (q : Int) = bI := by omega
                              have HBN : Hid (Wi.Bd m b (Wi.allN xs TK ++ (Wt.treN xs tk.1).take (kk + 1)) (Wi.allDp xs TK) bI) := Wc.hid (by
                                rw [Wi.take_getD _ 0 HKN.out, HQE.out, ← List.append_assoc]
                                exact RBD.out.nodeYes (.inl h2) (by have := RBD.out.1; omega) (by have := RBD.out.2.1; omega))
                              clear hv hrow h1 h2 h3
                              go_wp2_with fail
                              go_roundw
                              case rel => exact ⟨bI, kk + 1, rfl, by go_num, by omega, HBN, Wc.hid (RW.out.setCell (Nat.le_refl _) _), Wc.hid (row_put RR.out HROW.out)⟩
                              case measure => simp [intOf]; omega
                          · have hv : Wi.cd b (Wi.allN xs TK ++ (Wt.treN xs tk.1).take kk) (Wi.allDp xs TK) q = 2 := by rw [Wi.cd_val, if_neg h1, if_pos h2, if_neg h3]; rfl
                            have hrow : ∀ j : Nat, Wi.cd b (Wi.allN xs TK ++ (Wt.treN xs tk.1).take (kk + 1)) (Wi.allDp xs TK) j = if j = q then 3 else Wi.cd b (Wi.allN xs TK ++ (Wt.treN xs tk.1).take kk) (Wi.allDp xs TK) j := fun j => by
                              rw [Wi.take_getD _ 0 HKN.out, HQE.out, ← List.append_assoc]
                              exact Wi.cd_node (by rw [hv, if_neg h1]; rfl)
                            have HROW := Wc.hid hrow
                            have HV := Wc.hid hv
                            rw [hv] at hcq
                            by_cases hmn : (q : Int) < bI
                            · have hmin : min bI (q : Int) = (q : Int) := by omega
                              have HBN : Hid (Wi.Bd m b (Wi.allN xs TK ++ (Wt.treN xs tk.1).take (kk + 1)) (Wi.allDp xs TK) (q : Int)) := Wc.hid (by
                                rw [Wi.take_getD _ 0 HKN.out, HQE.out, ← List.append_assoc]
                                exact RBD.out.nodeYes (.inl h2) (by have := RBD.out.1; omega) (by have := RBD.out.2.1; omega))
                              clear hv hrow h1 h2 h3
                              go_wp2_with fail
                              go_roundw
                              case rel => exact ⟨(q : Int), kk + 1, rfl, by go_num, by omega, HBN, Wc.hid (RW.out.setCell (Nat.le_refl _) _), Wc.hid (row_put RR.out HROW.out)⟩
                              case measure => simp [intOf]; omega
                            · have hmin : min bI (q : Int) = bI := by omega
                              have HBN : Hid (Wi.Bd m b (Wi.allN xs TK ++ (Wt.treN xs tk.1).take (kk + 1)) (Wi.allDp xs TK) bI) := Wc.hid (by
                                rw [Wi.take_getD _ 0 HKN.out, HQE.out, ← List.append_assoc]
                                exact RBD.out.nodeYes (.inl h2) (by have := RBD.out.1; omega) (by have := RBD.out.2.1; omega))
                              clear hv hrow h1 h2 h3
                              go_wp2_with fail
                              go_roundw
                              case rel => exact ⟨bI, kk + 1, rfl, by go_num, by omega, HBN, Wc.hid (RW.out.setCell (Nat.le_refl _) _), Wc.hid (row_put RR.out HROW.out)⟩
                              case measure => simp [intOf]; omega
                        · by_cases h3 : (q : Int) ∈ Wi.allDp xs TK
                          · have hv : Wi.cd b (Wi.allN xs TK ++ (Wt.treN xs tk.1).take kk) (Wi.allDp xs TK) q = 4 := by rw [Wi.cd_val, if_neg h1, if_neg h2, if_pos h3]; rfl
                            have hrow : ∀ j : Nat, Wi.cd b (Wi.allN xs TK ++ (Wt.treN xs tk.1).take (kk + 1)) (Wi.allDp xs TK) j = if j = q then 5 else Wi.cd b (Wi.allN xs TK ++ (Wt.treN xs tk.1).take kk) (Wi.allDp xs TK) j := fun j => by
                              rw [Wi.take_getD _ 0 HKN.out, HQE.out, ← List.append_assoc]
                              exact Wi.cd_node (by rw [hv, if_neg h1]; rfl)
                            have HROW := Wc.hid hrow
                            have HV := Wc.hid hv
                            rw [hv] at hcq
                            by_cases hmn : (q : Int) < bI
                            · have hmin : min bI (q : Int) = (q : Int) := by omega
                              have HBN : Hid (Wi.Bd m b (Wi.allN xs TK ++ (Wt.treN xs tk.1).take (kk + 1)) (Wi.allDp xs TK) (q : Int)) := Wc.hid (by
                                rw [Wi.take_getD _ 0 HKN.out, HQE.out, ← List.append_assoc]
                                exact RBD.out.nodeYes (.inr h3) (by have := RBD.out.1; omega) (by have := RBD.out.2.1; omega))
                              clear hv hrow h1 h2 h3
                              go_wp2_with fail
                              go_roundw
                              case rel => exact ⟨(q : Int), kk + 1, rfl, by go_num, by omega, HBN, Wc.hid (RW.out.setCell (Nat.le_refl _) _), Wc.hid (row_put RR.out HROW.out)⟩
                              case measure => simp [intOf]; omega
                            · have hmin : min bI (q : Int) = bI := by omega
                              have HBN : Hid (Wi.Bd m b (Wi.allN xs TK ++ (Wt.treN xs tk.1).take (kk + 1)) (Wi.allDp xs TK) bI) := Wc.hid (by
                                rw [Wi.take_getD _ 0 HKN.out, HQE.out, ← List.append_assoc]
                                exact RBD.out.nodeYes (.inr h3) (by have := RBD.out.1; omega) (by have := RBD.out.2.1; omega))
                              clear hv hrow h1 h2 h3
                              go_wp2_with fail
                              go_roundw
                              case rel => exact ⟨bI, kk + 1, rfl, by go_num, by omega, HBN, Wc.hid (RW.out.setCell (Nat.le_refl _) _), Wc.hid (row_put RR.out HROW.out)⟩
                              case measure => simp [intOf]; omega
                          · have hv : Wi.cd b (Wi.allN xs TK ++ (Wt.treN xs tk.1).take kk) (Wi.allDp xs TK) q = 0 := by rw [Wi.cd_val, if_neg h1, if_neg h2, if_neg h3]; rfl
                            have hrow : ∀ j : Nat, Wi.cd b (Wi.allN xs TK ++ (Wt.treN xs tk.1).take (kk + 1)) (Wi.allDp xs TK) j = if j = q then 1 else Wi.cd b (Wi.allN xs TK ++ (Wt.treN xs tk.1).take kk) (Wi.allDp xs TK) j := fun j => by
                              rw [Wi.take_getD _ 0 HKN.out, HQE.out, ← List.append_assoc]
                              exact Wi.cd_node (by rw [hv, if_neg h1]; rfl)
                            have HROW := Wc.hid hrow
                            have HV := Wc.hid hv
                            rw [hv] at hcq
                            have HBN : Hid (Wi.Bd m b (Wi.allN xs TK ++ (Wt.treN xs tk.1).take (kk + 1)) (Wi.allDp xs TK) bI) := Wc.hid (by
                              rw [Wi.take_getD _ 0 HKN.out, HQE.out, ← List.append_assoc]
                              exact RBD.out.nodeNo h2 h3)
                            clear hv hrow h1 h2 h3
                            go_wp2_with fail
                            go_roundw
                            case rel => exact ⟨bI, kk + 1, rfl, by go_num, by omega, HBN, Wc.hid (RW.out.setCell (Nat.le_refl _) _), Wc.hid (row_put RR.out HROW.out)⟩
                            case measure => simp [intOf]; omega
                    · have HBD : Hid (Wi.Bd m b (Wi.allN xs (TK ++ [tk])) (Wi.allDp xs TK ++ ((Wt.treS xs tk.1).take 0).filter (fun p => !(p == 0))) bI) := Wc.hid (by
                        have := RBD.out
                        rw [List.take_of_length_le (by rw [HNL.out]; omega)] at this
                        rw [Wi.allN_snoc, List.take_zero, List.filter_nil, List.append_nil]; exact this)
                      have HRR : Hid (wr.rowIs W8.heap.size 3 m (fun j => .int .i64 (Wi.cd b (Wi.allN xs (TK ++ [tk])) (Wi.allDp xs TK ++ ((Wt.treS xs tk.1).take 0).filter (fun p => !(p == 0))) j))) := Wc.hid (by
                        have := RR.out
                        rw [List.take_of_length_le (by rw [HNL.out]; omega)] at this
                        rw [Wi.allN_snoc, List.take_zero, List.filter_nil, List.append_nil]; exact this)
                      have HRW := Wc.hid RW.out
                      have hSl : (Wt.treS xs tk.1).length = 512 := by
                        have hz := HTZ.out
                        unfold Wi.szB at hz
                        rw [Bool.and_eq_true] at hz
                        obtain ⟨tr, htr⟩ := Option.isSome_iff_exists.1 hz.1
                        exact Wt.treS_len (Wt.tre_some HD.out htr).1
                      have HSL := Wc.hid hSl
                      obtain rfl : nm = 512 := by rw [← Wv.rv_len HNM.out.1]; exact hSl
                      clear RBD RR RW hSl
                      go_wp2_with fail
                      go_loopw [11, 24] (fun bd j w10 => ∃ (bI : Int) (kk : Nat), bd = .int .i64 bI ∧ j = .int .i64 kk ∧ kk ≤ 512 ∧ Hid (Wi.Bd m b (Wi.allN xs (TK ++ [tk])) (Wi.allDp xs TK ++ ((Wt.treS xs tk.1).take kk).filter (fun p => !(p == 0))) bI) ∧ Hid (Below W8.heap.size W8 w10) ∧ Hid (w10.rowIs W8.heap.size 3 m (fun j => .int .i64 (Wi.cd b (Wi.allN xs (TK ++ [tk])) (Wi.allDp xs TK ++ ((Wt.treS xs tk.1).take kk).filter (fun p => !(p == 0))) j)))) (fun _ j _ => 512 - (intOf j).toNat)
                      case atStart => exact ⟨bI, 0, rfl, rfl, by omega, HBD, HRW, HRR⟩
                      case round =>
                        clear hcn p9
                        obtain ⟨bI, kk, rfl, rfl, hkk, RBD, RW, RR⟩ := hrel
                        have ⟨p0, p1, p2, p3, p4, p5, p6, p7, p8, p9⟩ := (F2.out.keep RW.out).ic
                        have hcm := (RW.out.cell (p := ⟨gM, i4, none⟩) HGM.out).trans HCM.out
                        clear p0 p1 p2 p3 p4 p5 p6 p7 p9
                        by_cases hltk : kk < 512
                        · obtain ⟨_, _, _, h1, -, -, -, -, hpos⟩ := HNM.out.1
                          cases h1
                          obtain ⟨g, off, rfl, hblt, hcs⟩ := hpos (by omega)
                          have hx := (RW.out.cell (p := ⟨g, off + kk, none⟩) hblt).trans (hcs kk hltk)
                          have HKN : Hid (kk < (Wt.treS xs tk.1).length) := Wc.hid (by rw [HSL.out]; exact hltk)
                          have hq := Wi.treS_bounds xs tk.1 ((Wt.treS xs tk.1).getD kk 0) (by rw [List.getD_eq_getElem?_getD, List.getElem?_eq_getElem HKN.out]; exact List.getElem_mem HKN.out)
                          rw [HMX.out] at hq
                          by_cases hx0 : (Wt.treS xs tk.1).getD kk 0 = 0
                          · have HFS : Hid (((Wt.treS xs tk.1).take (kk + 1)).filter (fun p => !(p == 0)) = ((Wt.treS xs tk.1).take kk).filter (fun p => !(p == 0))) := Wc.hid (by rw [Wi.filt_snoc HKN.out, if_pos hx0, List.append_nil])
                            rw [hx0] at hx
                            clear hq hcs hpos hx0
                            go_wp2_with fail
                            go_roundw
                            case rel => exact ⟨bI, kk + 1, rfl, by go_num, by omega, Wc.hid (by rw [HFS.out]; exact RBD.out), RW, Wc.hid (by rw [HFS.out]; exact RR.out)⟩
                            case measure => simp [intOf]; omega
                          · obtain ⟨q, hqe⟩ : ∃ q : Nat, (Wt.treS xs tk.1).getD kk 0 = q := ⟨((Wt.treS xs tk.1).getD kk 0).toNat, by omega⟩
                            have HQE := Wc.hid hqe
                            rw [hqe] at hx hq hx0
                            have hqm : q < m := by omega
                            have hq0 : ((q : Int) == 0) = false := by rw [beq_eq_false_iff_ne]; exact hx0
                            have hcq := RR.out.cell hqm
                            have fz := RR.out.frozen q
                            have HX0 := Wc.hid hx0
                            clear hq hcs hpos hqe hx0
                            by_cases h1 : (q : Int) ∈ Wi.allN xs (TK ++ [tk])
                            · by_cases h2 : (q : Int) ∈ b
                              · by_cases h3 : (q : Int) ∈ Wi.allDp xs TK ++ ((Wt.treS xs tk.1).take kk).filter (fun p => !(p == 0))
                                · have hv : Wi.cd b (Wi.allN xs (TK ++ [tk])) (Wi.allDp xs TK ++ ((Wt.treS xs tk.1).take kk).filter (fun p => !(p == 0))) q = 7 := by rw [Wi.cd_val, if_pos h1, if_pos h2, if_pos h3]; rfl
                                  have hrow : ∀ j : Nat, Wi.cd b (Wi.allN xs (TK ++ [tk])) (Wi.allDp xs TK ++ ((Wt.treS xs tk.1).take (kk + 1)).filter (fun p => !(p == 0))) j = if j = q then 7 else Wi.cd b (Wi.allN xs (TK ++ [tk])) (Wi.allDp xs TK ++ ((Wt.treS xs tk.1).take kk).filter (fun p => !(p == 0))) j := fun j => by
                                    rw [Wi.filt_snoc HKN.out, HQE.out, if_neg HX0.out, ← List.append_assoc]
                                    exact Wi.cd_sec (by rw [hv, if_pos h3]; rfl)
                                  have HROW := Wc.hid hrow
                                  have HV := Wc.hid hv
                                  rw [hv] at hcq
                                  by_cases hmn : (q : Int) < bI
                                  · have hmin : min bI (q : Int) = (q : Int) := by omega
                                    have HBN : Hid (Wi.Bd m b (Wi.allN xs (TK ++ [tk])) (Wi.allDp xs TK ++ ((Wt.treS xs tk.1).take (kk + 1)).filter (fun p => !(p == 0))) (q : Int)) := Wc.hid (by
                                      rw [Wi.filt_snoc HKN.out, HQE.out, if_neg HX0.out, ← List.append_assoc]
                                      exact RBD.out.secYes (.inl h2) (by have := RBD.out.1; omega) (by have := RBD.out.2.1; omega))
                                    clear hv hrow h1 h2 h3
                                    go_wp2_with fail
                                    go_roundw
                                    case rel => exact ⟨(q : Int), kk + 1, rfl, by go_num, by omega, HBN, Wc.hid (RW.out), Wc.hid (row_same RR.out HROW.out HV.out)⟩
                                    case measure => simp [intOf]; omega
                                  · have hmin : min bI (q : Int) = bI := by omega
                                    have HBN : Hid (Wi.Bd m b (Wi.allN xs (TK ++ [tk])) (Wi.allDp xs TK ++ ((Wt.treS xs tk.1).take (kk + 1)).filter (fun p => !(p == 0))) bI) := Wc.hid (by
                                      rw [Wi.filt_snoc HKN.out, HQE.out, if_neg HX0.out, ← List.append_assoc]
                                      exact RBD.out.secYes (.inl h2) (by have := RBD.out.1; omega) (by have := RBD.out.2.1; omega))
                                    clear hv hrow h1 h2 h3
                                    go_wp2_with fail
                                    go_roundw
                                    case rel => exact ⟨bI, kk + 1, rfl, by go_num, by omega, HBN, Wc.hid (RW.out), Wc.hid (row_same RR.out HROW.out HV.out)⟩
                                    case measure => simp [intOf]; omega
                                · have hv : Wi.cd b (Wi.allN xs (TK ++ [tk])) (Wi.allDp xs TK ++ ((Wt.treS xs tk.1).take kk).filter (fun p => !(p == 0))) q = 3 := by rw [Wi.cd_val, if_pos h1, if_pos h2, if_neg h3]; rfl
                                  have hrow : ∀ j : Nat, Wi.cd b (Wi.allN xs (TK ++ [tk])) (Wi.allDp xs TK ++ ((Wt.treS xs tk.1).take (kk + 1)).filter (fun p => !(p == 0))) j = if j = q then 7 else Wi.cd b (Wi.allN xs (TK ++ [tk])) (Wi.allDp xs TK ++ ((Wt.treS xs tk.1).take kk).filter (fun p => !(p == 0))) j := fun j => by
                                    rw [Wi.filt_snoc HKN.out, HQE.out, if_neg HX0.out, ← List.append_assoc]
                                    exact Wi.cd_sec (by rw [hv, if_neg h3]; rfl)
                                  have HROW := Wc.hid hrow
                                  have HV := Wc.hid hv
                                  rw [hv] at hcq
                                  by_cases hmn : (q : Int) < bI
                                  · have hmin : min bI (q : Int) = (q : Int) := by omega
                                    have HBN : Hid (Wi.Bd m b (Wi.allN xs (TK ++ [tk])) (Wi.allDp xs TK ++ ((Wt.treS xs tk.1).take (kk + 1)).filter (fun p => !(p == 0))) (q : Int)) := Wc.hid (by
                                      rw [Wi.filt_snoc HKN.out, HQE.out, if_neg HX0.out, ← List.append_assoc]
                                      exact RBD.out.secYes (.inl h2) (by have := RBD.out.1; omega) (by have := RBD.out.2.1; omega))
                                    clear hv hrow h1 h2 h3
                                    go_wp2_with fail
                                    go_roundw
                                    case rel => exact ⟨(q : Int), kk + 1, rfl, by go_num, by omega, HBN, Wc.hid (RW.out.setCell (Nat.le_refl _) _), Wc.hid (row_put RR.out HROW.out)⟩
                                    case measure => simp [intOf]; omega
                                  · have hmin : min bI (q : Int) = bI := by omega
                                    have HBN : Hid (Wi.Bd m b (Wi.allN xs (TK ++ [tk])) (Wi.allDp xs TK ++ ((Wt.treS xs tk.1).take (kk + 1)).filter (fun p => !(p == 0))) bI) := Wc.hid (by
                                      rw [Wi.filt_snoc HKN.out, HQE.out, if_neg HX0.out, ← List.append_assoc]
                                      exact RBD.out.secYes (.inl h2) (by have := RBD.out.1; omega) (by have := RBD.out.2.1; omega))
                                    clear hv hrow h1 h2 h3
                                    go_wp2_with fail
                                    go_roundw
                                    case rel => exact ⟨bI, kk + 1, rfl, by go_num, by omega, HBN, Wc.hid (RW.out.setCell (Nat.le_refl _) _), Wc.hid (row_put RR.out HROW.out)⟩
                                    case measure => simp [intOf]; omega
                              · by_cases h3 : (q : Int) ∈ Wi.allDp xs TK ++ ((Wt.treS xs tk.1).take kk).filter (fun p => !(p == 0))
                                · have hv : Wi.cd b (Wi.allN xs (TK ++ [tk])) (Wi.allDp xs TK ++ ((Wt.treS xs tk.1).take kk).filter (fun p => !(p == 0))) q = 5 := by rw [Wi.cd_val, if_pos h1, if_neg h2, if_pos h3]; rfl
                                  have hrow : ∀ j : Nat, Wi.cd b (Wi.allN xs (TK ++ [tk])) (Wi.allDp xs TK ++ ((Wt.treS xs tk.1).take (kk + 1)).filter (fun p => !(p == 0))) j = if j = q then 5 else Wi.cd b (Wi.allN xs (TK ++ [tk])) (Wi.allDp xs TK ++ ((Wt.treS xs tk.1).take kk).filter (fun p => !(p == 0))) j := fun j => by
                                    rw [Wi.filt_snoc HKN.out, HQE.out, if_neg HX0.out, ← List.append_assoc]
                                    exact Wi.cd_sec (by rw [hv, if_pos h3]; rfl)
                                  have HROW := Wc.hid hrow
                                  have HV := Wc.hid hv
                                  rw [hv] at hcq
                                  by_cases hmn : (q : Int) < bI
                                  · have hmin : min bI (q : Int) = (q : Int) := by omega
                                    have HBN : Hid (Wi.Bd m b (Wi.allN xs (TK ++ [tk])) (Wi.allDp xs TK ++ ((Wt.treS xs tk.1).take (kk + 1)).filter (fun p => !(p == 0))) (q : Int)) := Wc.hid (by
                                      rw [Wi.filt_snoc HKN.out, HQE.out, if_neg HX0.out, ← List.append_assoc]
                                      exact RBD.out.secYes (.inr h1) (by have := RBD.out.1; omega) (by have := RBD.out.2.1; omega))
                                    clear hv hrow h1 h2 h3
                                    go_wp2_with fail
                                    go_roundw
                                    case rel => exact ⟨(q : Int), kk + 1, rfl, by go_num, by omega, HBN, Wc.hid (RW.out), Wc.hid (row_same RR.out HROW.out HV.out)⟩
                                    case measure => simp [intOf]; omega
                                  · have hmin : min bI (q : Int) = bI := by omega
                                    have HBN : Hid (Wi.Bd m b (Wi.allN xs (TK ++ [tk])) (Wi.allDp xs TK ++ ((Wt.treS xs tk.1).take (kk + 1)).filter (fun p => !(p == 0))) bI) := Wc.hid (by
                                      rw [Wi.filt_snoc HKN.out, HQE.out, if_neg HX0.out, ← List.append_assoc]
                                      exact RBD.out.secYes (.inr h1) (by have := RBD.out.1; omega) (by have := RBD.out.2.1; omega))
                                    clear hv hrow h1 h2 h3
                                    go_wp2_with fail
                                    go_roundw
                                    case rel => exact ⟨bI, kk + 1, rfl, by go_num, by omega, HBN, Wc.hid (RW.out), Wc.hid (row_same RR.out HROW.out HV.out)⟩
                                    case measure => simp [intOf]; omega
                                · have hv : Wi.cd b (Wi.allN xs (TK ++ [tk])) (Wi.allDp xs TK ++ ((Wt.treS xs tk.1).take kk).filter (fun p => !(p == 0))) q = 1 := by rw [Wi.cd_val, if_pos h1, if_neg h2, if_neg h3]; rfl
                                  have hrow : ∀ j : Nat, Wi.cd b (Wi.allN xs (TK ++ [tk])) (Wi.allDp xs TK ++ ((Wt.treS xs tk.1).take (kk + 1)).filter (fun p => !(p == 0))) j = if j = q then 5 else Wi.cd b (Wi.allN xs (TK ++ [tk])) (Wi.allDp xs TK ++ ((Wt.treS xs tk.1).take kk).filter (fun p => !(p == 0))) j := fun j => by
                                    rw [Wi.filt_snoc HKN.out, HQE.out, if_neg HX0.out, ← List.append_assoc]
                                    exact Wi.cd_sec (by rw [hv, if_neg h3]; rfl)
                                  have HROW := Wc.hid hrow
                                  have HV := Wc.hid hv
                                  rw [hv] at hcq
                                  by_cases hmn : (q : Int) < bI
                                  · have hmin : min bI (q : Int) = (q : Int) := by omega
                                    have HBN : Hid (Wi.Bd m b (Wi.allN xs (TK ++ [tk])) (Wi.allDp xs TK ++ ((Wt.treS xs tk.1).take (kk + 1)).filter (fun p => !(p == 0))) (q : Int)) := Wc.hid (by
                                      rw [Wi.filt_snoc HKN.out, HQE.out, if_neg HX0.out, ← List.append_assoc]
                                      exact RBD.out.secYes (.inr h1) (by have := RBD.out.1; omega) (by have := RBD.out.2.1; omega))
                                    clear hv hrow h1 h2 h3
                                    go_wp2_with fail
                                    go_roundw
                                    case rel => exact ⟨(q : Int), kk + 1, rfl, by go_num, by omega, HBN, Wc.hid (RW.out.setCell (Nat.le_refl _) _), Wc.hid (row_put RR.out HROW.out)⟩
                                    case measure => simp [intOf]; omega
                                  · have hmin : min bI (q : Int) = bI := by omega
                                    have HBN : Hid (Wi.Bd m b (Wi.allN xs (TK ++ [tk])) (Wi.allDp xs TK ++ ((Wt.treS xs tk.1).take (kk + 1)).filter (fun p => !(p == 0))) bI) := Wc.hid (by
                                      rw [Wi.filt_snoc HKN.out, HQE.out, if_neg HX0.out, ← List.append_assoc]
                                      exact RBD.out.secYes (.inr h1) (by have := RBD.out.1; omega) (by have := RBD.out.2.1; omega))
                                    clear hv hrow h1 h2 h3
                                    go_wp2_with fail
                                    go_roundw
                                    case rel => exact ⟨bI, kk + 1, rfl, by go_num, by omega, HBN, Wc.hid (RW.out.setCell (Nat.le_refl _) _), Wc.hid (row_put RR.out HROW.out)⟩
                                    case measure => simp [intOf]; omega
                            · by_cases h2 : (q : Int) ∈ b
                              · by_cases h3 : (q : Int) ∈ Wi.allDp xs TK ++ ((Wt.treS xs tk.1).take kk).filter (fun p => !(p == 0))
                                · have hv : Wi.cd b (Wi.allN xs (TK ++ [tk])) (Wi.allDp xs TK ++ ((Wt.treS xs tk.1).take kk).filter (fun p => !(p == 0))) q = 6 := by rw [Wi.cd_val, if_neg h1, if_pos h2, if_pos h3]; rfl
                                  have hrow : ∀ j : Nat, Wi.cd b (Wi.allN xs (TK ++ [tk])) (Wi.allDp xs TK ++ ((Wt.treS xs tk.1).take (kk + 1)).filter (fun p => !(p == 0))) j = if j = q then 6 else Wi.cd b (Wi.allN xs (TK ++ [tk])) (Wi.allDp xs TK ++ ((Wt.treS xs tk.1).take kk).filter (fun p => !(p == 0))) j := fun j => by
                                    rw [Wi.filt_snoc HKN.out, HQE.out, if_neg HX0.out, ← List.append_assoc]
                                    exact Wi.cd_sec (by rw [hv, if_pos h3]; rfl)
                                  have HROW := Wc.hid hrow
                                  have HV := Wc.hid hv
                                  rw [hv] at hcq
                                  by_cases hmn : (q : Int) < bI
                                  · have hmin : min bI (q : Int) = (q : Int) := by omega
                                    have HBN : Hid (Wi.Bd m b (Wi.allN xs (TK ++ [tk])) (Wi.allDp xs TK ++ ((Wt.treS xs tk.1).take (kk + 1)).filter (fun p => !(p == 0))) (q : Int)) := Wc.hid (by
                                      rw [Wi.filt_snoc HKN.out, HQE.out, if_neg HX0.out, ← List.append_assoc]
                                      exact RBD.out.secYes (.inl h2) (by have := RBD.out.1; omega) (by have := RBD.out.2.1; omega))
                                    clear hv hrow h1 h2 h3
                                    go_wp2_with fail
                                    go_roundw
                                    case rel => exact ⟨(q : Int), kk + 1, rfl, by go_num, by omega, HBN, Wc.hid (RW.out), Wc.hid (row_same RR.out HROW.out HV.out)⟩
                                    case measure => simp [intOf]; omega
                                  · have hmin : min bI (q : Int) = bI := by omega
                                    have HBN : Hid (Wi.Bd m b (Wi.allN xs (TK ++ [tk])) (Wi.allDp xs TK ++ ((Wt.treS xs tk.1).take (kk + 1)).filter (fun p => !(p == 0))) bI) := Wc.hid (by
                                      rw [Wi.filt_snoc HKN.out, HQE.out, if_neg HX0.out, ← List.append_assoc]
                                      exact RBD.out.secYes (.inl h2) (by have := RBD.out.1; omega) (by have := RBD.out.2.1; omega))
                                    clear hv hrow h1 h2 h3
                                    go_wp2_with fail
                                    go_roundw
                                    case rel => exact ⟨bI, kk + 1, rfl, by go_num, by omega, HBN, Wc.hid (RW.out), Wc.hid (row_same RR.out HROW.out HV.out)⟩
                                    case measure => simp [intOf]; omega
                                · have hv : Wi.cd b (Wi.allN xs (TK ++ [tk])) (Wi.allDp xs TK ++ ((Wt.treS xs tk.1).take kk).filter (fun p => !(p == 0))) q = 2 := by rw [Wi.cd_val, if_neg h1, if_pos h2, if_neg h3]; rfl
                                  have hrow : ∀ j : Nat, Wi.cd b (Wi.allN xs (TK ++ [tk])) (Wi.allDp xs TK ++ ((Wt.treS xs tk.1).take (kk + 1)).filter (fun p => !(p == 0))) j = if j = q then 6 else Wi.cd b (Wi.allN xs (TK ++ [tk])) (Wi.allDp xs TK ++ ((Wt.treS xs tk.1).take kk).filter (fun p => !(p == 0))) j := fun j => by
                                    rw [Wi.filt_snoc HKN.out, HQE.out, if_neg HX0.out, ← List.append_assoc]
                                    exact Wi.cd_sec (by rw [hv, if_neg h3]; rfl)
                                  have HROW := Wc.hid hrow
                                  have HV := Wc.hid hv
                                  rw [hv] at hcq
                                  by_cases hmn : (q : Int) < bI
                                  · have hmin : min bI (q : Int) = (q : Int) := by omega
                                    have HBN : Hid (Wi.Bd m b (Wi.allN xs (TK ++ [tk])) (Wi.allDp xs TK ++ ((Wt.treS xs tk.1).take (kk + 1)).filter (fun p => !(p == 0))) (q : Int)) := Wc.hid (by
                                      rw [Wi.filt_snoc HKN.out, HQE.out, if_neg HX0.out, ← List.append_assoc]
                                      exact RBD.out.secYes (.inl h2) (by have := RBD.out.1; omega) (by have := RBD.out.2.1; omega))
                                    clear hv hrow h1 h2 h3
                                    go_wp2_with fail
                                    go_roundw
                                    case rel => exact ⟨(q : Int), kk + 1, rfl, by go_num, by omega, HBN, Wc.hid (RW.out.setCell (Nat.le_refl _) _), Wc.hid (row_put RR.out HROW.out)⟩
                                    case measure => simp [intOf]; omega
                                  · have hmin : min bI (q : Int) = bI := by omega
                                    have HBN : Hid (Wi.Bd m b (Wi.allN xs (TK ++ [tk])) (Wi.allDp xs TK ++ ((Wt.treS xs tk.1).take (kk + 1)).filter (fun p => !(p == 0))) bI) := Wc.hid (by
                                      rw [Wi.filt_snoc HKN.out, HQE.out, if_neg HX0.out, ← List.append_assoc]
                                      exact RBD.out.secYes (.inl h2) (by have := RBD.out.1; omega) (by have := RBD.out.2.1; omega))
                                    clear hv hrow h1 h2 h3
                                    go_wp2_with fail
                                    go_roundw
                                    case rel => exact ⟨bI, kk + 1, rfl, by go_num, by omega, HBN, Wc.hid (RW.out.setCell (Nat.le_refl _) _), Wc.hid (row_put RR.out HROW.out)⟩
                                    case measure => simp [intOf]; omega
                              · by_cases h3 : (q : Int) ∈ Wi.allDp xs TK ++ ((Wt.treS xs tk.1).take kk).filter (fun p => !(p == 0))
                                · have hv : Wi.cd b (Wi.allN xs (TK ++ [tk])) (Wi.allDp xs TK ++ ((Wt.treS xs tk.1).take kk).filter (fun p => !(p == 0))) q = 4 := by rw [Wi.cd_val, if_neg h1, if_neg h2, if_pos h3]; rfl
                                  have hrow : ∀ j : Nat, Wi.cd b (Wi.allN xs (TK ++ [tk])) (Wi.allDp xs TK ++ ((Wt.treS xs tk.1).take (kk + 1)).filter (fun p => !(p == 0))) j = if j = q then 4 else Wi.cd b (Wi.allN xs (TK ++ [tk])) (Wi.allDp xs TK ++ ((Wt.treS xs tk.1).take kk).filter (fun p => !(p == 0))) j := fun j => by
                                    rw [Wi.filt_snoc HKN.out, HQE.out, if_neg HX0.out, ← List.append_assoc]
                                    exact Wi.cd_sec (by rw [hv, if_pos h3]; rfl)
                                  have HROW := Wc.hid hrow
                                  have HV := Wc.hid hv
                                  rw [hv] at hcq
                                  have HBN : Hid (Wi.Bd m b (Wi.allN xs (TK ++ [tk])) (Wi.allDp xs TK ++ ((Wt.treS xs tk.1).take (kk + 1)).filter (fun p => !(p == 0))) bI) := Wc.hid (by
                                    rw [Wi.filt_snoc HKN.out, HQE.out, if_neg HX0.out, ← List.append_assoc]
                                    exact RBD.out.secNo h2 h1)
                                  clear hv hrow h1 h2 h3
                                  go_wp2_with fail
                                  go_roundw
                                  case rel => exact ⟨bI, kk + 1, rfl, by go_num, by omega, HBN, Wc.hid (RW.out), Wc.hid (row_same RR.out HROW.out HV.out)⟩
                                  case measure => simp [intOf]; omega
                                · have hv : Wi.cd b (Wi.allN xs (TK ++ [tk])) (Wi.allDp xs TK ++ ((Wt.treS xs tk.1).take kk).filter (fun p => !(p == 0))) q = 0 := by rw [Wi.cd_val, if_neg h1, if_neg h2, if_neg h3]; rfl
                                  have hrow : ∀ j : Nat, Wi.cd b (Wi.allN xs (TK ++ [tk])) (Wi.allDp xs TK ++ ((Wt.treS xs tk.1).take (kk + 1)).filter (fun p => !(p == 0))) j = if j = q then 4 else Wi.cd b (Wi.allN xs (TK ++ [tk])) (Wi.allDp xs TK ++ ((Wt.treS xs tk.1).take kk).filter (fun p => !(p == 0))) j := fun j => by
                                    rw [Wi.filt_snoc HKN.out, HQE.out, if_neg HX0.out, ← List.append_assoc]
                                    exact Wi.cd_sec (by rw [hv, if_neg h3]; rfl)
                                  have HROW := Wc.hid hrow
                                  have HV := Wc.hid hv
                                  rw [hv] at hcq
                                  have HBN : Hid (Wi.Bd m b (Wi.allN xs (TK ++ [tk])) (Wi.allDp xs TK ++ ((Wt.treS xs tk.1).take (kk + 1)).filter (fun p => !(p == 0))) bI) := Wc.hid (by
                                    rw [Wi.filt_snoc HKN.out, HQE.out, if_neg HX0.out, ← List.append_assoc]
                                    exact RBD.out.secNo h2 h1)
                                  clear hv hrow h1 h2 h3
                                  go_wp2_with fail
                                  go_roundw
                                  case rel => exact ⟨bI, kk + 1, rfl, by go_num, by omega, HBN, Wc.hid (RW.out.setCell (Nat.le_refl _) _), Wc.hid (row_put RR.out HROW.out)⟩
                                  case measure => simp [intOf]; omega
                        · have HBD2 : Hid (Wi.Bd m b (Wi.allN xs ((Wi.trees s L).take (i4 + 1))) (Wi.allDp xs ((Wi.trees s L).take (i4 + 1))) bI) := Wc.hid (by
                            have := RBD.out
                            rw [List.take_of_length_le (by rw [HSL.out]; omega)] at this
                            rw [HTS.out, Wi.allDp_snoc]; exact this)
                          have HRR2 : Hid (wr.rowIs W8.heap.size 3 m (fun j => .int .i64 (Wi.cd b (Wi.allN xs ((Wi.trees s L).take (i4 + 1))) (Wi.allDp xs ((Wi.trees s L).take (i4 + 1))) j))) := Wc.hid (by
                            have := RR.out
                            rw [List.take_of_length_le (by rw [HSL.out]; omega)] at this
                            rw [HTS.out, Wi.allDp_snoc]; exact this)
                          go_wp2_with fail
                          go_roundw
                          case rel => exact ⟨bI, i4 + 1, rfl, by go_num, by omega, HBD2, RW, HRR2⟩
                          case measure => simp [intOf]; omega
                · have hTall : (Wi.trees s L).take i4 = Wi.trees s L := List.take_of_length_le (by rw [HTL.out]; omega)
                  have hbd := RBD.out
                  rw [hTall, Wi.allD_page F6.out] at hbd
                  have FR := Wc.hid (F1.out.keep RW.out)
                  have BZ := Wc.hid (Wc.step BW8.out (Nat.le_refl _) RW.out)
                  have ⟨d0, d1, d2, d3, d4, d5, d6, d7, d8, d9⟩ := FR.out.1.ic
                  have ⟨e0, e1, ef⟩ := FR.out.2.1.fc
                  have df := FR.out.1.frozen
                  simp only [Ws.s0] at d0 d1 d2 d3 d4
                  have hsi := Wi.sndB_iff (xs := xs) (s := s) (b := b) (Wi.iv_pos HIV.out)
                  rw [HL.out] at hsi
                  by_cases hbm : bI < (m : Int)
                  · have HO : Hid (opnE xs = 6) := Wc.hid (opn_unsound HP.out HRC.out (by
                      cases e : Wi.sndB xs s b with
                      | false => rfl
                      | true => exact absurd (hsi.1 e).2 (hbd.2.2.1 hbm)))
                    clear hbd hsi hTall
                    go_wp2_with fail
                    exact ropen_bad HO.out (by decide) FR.out.1 FR.out.2.1 (Nat.le_refl _) (Nat.le_succ _) BZ.out rfl rfl rfl
                  · have hdis : Wi.Dis b (Wi.allN xs (Wi.trees s L)) (Wi.allD xs (Wi.trees s L)) := Classical.byContradiction fun h => hbm (hbd.2.2.2 h)
                    have ho := opn_recs HP.out HRC.out (hsi.2 ⟨F6.out, hdis⟩)
                    have HO := Wc.hid ho
                    have HOL : Hid (opnL xs = L) := Wc.hid (by unfold opnL; rw [ho.2.2.2]; exact HL.out)
                    have ⟨c0, c1, c2, c3, c4, c5, c6, c7, c8, c9⟩ := (F2.out.keep RW.out).ic
                    clear hbd hsi hTall hdis ho
                    go_wp2_with fail
                    exact ropen_good HO.out.1 HO.out.2.1 HO.out.2.2.1 HOL.out HO.out.2.2.2 FR.out (F3.out.keep RW.out) (F4.out.keep RW.out) (Nat.le_refl _) (Nat.le_succ _) BZ.out rfl rfl rfl
end Go.Proofs.YtiobegoiehjfiaaGreat
