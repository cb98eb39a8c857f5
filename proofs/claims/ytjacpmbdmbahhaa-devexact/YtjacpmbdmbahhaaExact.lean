/-
  DevExact for every input.
-/
import Derived.Test.YtjacpmbdmbahhaaDrc
import Derived.Test.YtjacpmbdmbahhaaDhv
import Derived.Test.YtjacpmbdmbahhaaDios
import Derived.Test.YtjacpmbdmbahhaaDblk
import Derived.Test.YtjacpmbdmbahhaaDwake
namespace Go.Proofs.Ytjacpmbdmbahhaa
open Go.RowKit

set_option maxRecDepth 100000 in
set_option maxHeartbeats 3200000 in
theorem devExact_ok (ai : Option Addr) (ni ci : Nat) (a : Option Addr) (n cap : Nat) (p cut : Int) (ka : Option Addr) (kn kc : Nat) (xs : List Int) (l : List Wd.Io) (ks : List Bool) (w : World) (hB : Wc.Bs w (.slice ai ni ci) xs) (hsh : Wc.Shaped (.slice ai ni ci)) (hR : Wd.Raw w a n cap l) (hK : Kp w (.slice ka kn kc) ks) (hkn : kn ≤ 500) (hh : Wd.heavyB ni l = false) :
    Calls Try.prog 3 #[.slice ai ni ci, .slice a n cap, .int .i64 p, .int .i64 cut, .slice ka kn kc] w fun e w' => e = .returned (.bool true) ∧ Below w.heap.size w w' := by
  have hI := hR.light hh
  have hni : ni ≤ 140737488355328 := by obtain ⟨_, _, _, h1, _, _, _, h5, _⟩ := hB; cases h1; exact h5
  have hxl := Wc.bs_len hB
  have hll := Wd.is_len hI
  have hn4 : n ≤ 400 := by have h1 := (Wd.heavy_no hh).2.1; omega
  have g500 : decide ((500 : Int) < (kn : Int)) = false := by simp; omega
  have HR := Wc.hid hR
  have HB := Wc.hid hB
  have HSH := Wc.hid hsh
  have HI := Wc.hid hI
  have HK := Wc.hid hK
  obtain ⟨a', n', cap', h1, hl, -, -, -, hpos⟩ := hI
  cases h1
  have HP := Wc.hid hpos
  have HL := Wc.hid hll
  have HXL := Wc.hid hxl
  obtain ⟨i0, hi, hz0, hz1, hz2⟩ := info_parts Try.infoI64
  have HINF := Wc.hid (And.intro hi (And.intro hz0 (And.intro hz1 hz2)))
  clear hR hB hsh hK hpos hl hll hxl hi hz0 hz1 hz2
  go_enter Try.func3, Try.ntmps3
  go_wp2_with (first | (go_at_call 8; refine (heavy_raw _ _ _ _ _ _ l _ HR.out).mono ?_; rintro e w' ⟨rfl, rfl⟩; rw [hh]))
  clear hh g500 HR
  refine (twin_ob _ _ _ xs _ HB.out HSH.out).mono ?_
  rintro e w1 ⟨xa, xc, rfl, hO1, hb1⟩
  have HIN := Wc.hid hO1.bs
  have HB1 := Wc.hid hb1
  clear hO1 hb1
  go_wp2_with fail
  refine (twinIos_any _ _ _ l _ (HI.out.keep HB1.out) (by omega)).mono ?_
  rintro e w2 ⟨la, lc, rfl, hO2, hb2⟩
  have HIO := Wc.hid hO2.is
  have HIN2 := Wc.hid (HIN.out.keep hb2)
  have HB2 := Wc.hid (Wc.step HB1.out (Nat.le_refl _) hb2)
  clear hO2 hb2 HIN HB1
  go_wp2_with fail
  refine (check_any _ _ _ _ hni).mono ?_
  rintro e w3 ⟨rfl, rfl⟩
  obtain ⟨CN, hCN⟩ : ∃ CN, Wd.chkN ni = CN := ⟨_, rfl⟩
  obtain ⟨CE, hCE⟩ : ∃ CE, Wd.chkE ni = CE := ⟨_, rfl⟩
  rw [hCN, hCE]
  have HCN := Wc.hid hCN
  have HCE := Wc.hid hCE
  clear hCN hCE
  go_wp2_with fail
  refine (read_any _ _ _ p xs _ HIN2.out).mono ?_
  rintro e w4 ⟨ra, rc, rfl, hr, hb4⟩
  obtain ⟨RL, hRL⟩ : ∃ RL, (Wd.rdR xs p).length = RL := ⟨_, rfl⟩
  obtain ⟨RE, hRE⟩ : ∃ RE, Wd.rdE xs.length p = RE := ⟨_, rfl⟩
  rw [hRL] at hr
  rw [hRL, hRE]
  have HRL := Wc.hid hRL
  have HRE := Wc.hid hRE
  have HRD := Wc.hid hr
  have HIN4 := Wc.hid (HIN2.out.keep hb4)
  have HIO4 := Wc.hid (HIO.out.keep hb4)
  have HB4 := Wc.hid (Wc.step HB2.out (Nat.le_refl _) hb4)
  clear hRL hRE hr hb4 HIN2 HIO HB2
  go_wp2_with fail
  refine (apply_any _ _ _ _ _ _ xs l _ HIN4.out HIO4.out).mono ?_
  rintro e w5 ⟨pa, pc, rfl, hr, hb5⟩
  obtain ⟨AL, hAL⟩ : ∃ AL, (Wd.appR xs l).length = AL := ⟨_, rfl⟩
  obtain ⟨SE, hSE⟩ : ∃ SE, Wd.stepsE xs.length l = SE := ⟨_, rfl⟩
  rw [hAL] at hr
  rw [hAL, hSE]
  have HAL := Wc.hid hAL
  have HSE := Wc.hid hSE
  have HAP := Wc.hid hr
  have HRD5 := Wc.hid (HRD.out.keep hb5)
  have HIN5 := Wc.hid (HIN4.out.keep hb5)
  have HIO5 := Wc.hid (HIO4.out.keep hb5)
  have HB5 := Wc.hid (Wc.step HB4.out (Nat.le_refl _) hb5)
  clear hAL hSE hr hb5 HIN4 HIO4 HB4 HRD
  go_wp2_with fail
  refine (crash_any _ _ _ _ _ _ cut _ _ _ xs l ks _ HIN5.out HIO5.out (HK.out.keep HB5.out)).mono ?_
  rintro e w6 ⟨ca, cc, rfl, hr, hb6⟩
  obtain ⟨CL, hCL⟩ : ∃ CL, (Wd.crR xs l cut ks).length = CL := ⟨_, rfl⟩
  obtain ⟨KE, hKE⟩ : ∃ KE, Wd.crE xs.length l cut = KE := ⟨_, rfl⟩
  rw [hCL] at hr
  rw [hCL, hKE]
  have HCL := Wc.hid hCL
  have HKE := Wc.hid hKE
  have HCR := Wc.hid hr
  have HAP6 := Wc.hid (HAP.out.keep hb6)
  have HRD6 := Wc.hid (HRD5.out.keep hb6)
  have HIN6 := Wc.hid (HIN5.out.keep hb6)
  have HIO6 := Wc.hid (HIO5.out.keep hb6)
  have HB6 := Wc.hid (Wc.step HB5.out (Nat.le_refl _) hb6)
  clear hCL hKE hr hb6 HIN5 HIO5 HB5 HRD5 HAP
  go_wp2_with fail
  refine (flushes_any _ _ _ l _ HIO6.out).mono ?_
  rintro e w7 ⟨fv, rfl, hf, hb7⟩
  have HF := Wc.hid hf
  have HCR7 := Wc.hid (HCR.out.keep hb7)
  have HAP7 := Wc.hid (HAP6.out.keep hb7)
  have HRD7 := Wc.hid (HRD6.out.keep hb7)
  have HIN7 := Wc.hid (HIN6.out.keep hb7)
  have HIO7 := Wc.hid (HIO6.out.keep hb7)
  have HB7 := Wc.hid (Wc.step HB6.out (Nat.le_refl _) hb7)
  clear hf hb7 HIN6 HIO6 HB6 HRD6 HAP6 HCR
  go_wp2_with fail
  go_loopw [22, 23] (fun v i wr => ∃ k : Nat, i = .int .i64 k ∧ k ≤ n ∧ Below w7.heap.size w7 wr ∧ (∃ va vn vc, v = .slice va vn vc) ∧ Hid (Wv.Ov (Value.int .i64) 3 w7.heap.size wr v (Wd.flN l k))) (fun _ i _ => n - (intOf i).toNat)
  case atStart => exact ⟨0, rfl, by omega, Below.refl _ _, ⟨_, _, _, rfl⟩, Wv.Ov.nil _ _ _⟩
  case round =>
    obtain ⟨k, rfl, hk, hbr, ⟨va, vn, vc, rfl⟩, HO⟩ := hrel
    by_cases hlt : k < n
    · obtain ⟨b, off, rfl, hblt, hcs⟩ := HP.out (by omega)
      obtain ⟨a', c', hx⟩ := hcs k hlt
      have hfl : Wd.flN l (k + 1) = if (l.getD k Wd.d0).kind = 2 then Wd.flN l k ++ [(k : Int)] else Wd.flN l k := rfl
      obtain ⟨x, hxe⟩ : ∃ x, l.getD k Wd.d0 = x := ⟨_, rfl⟩
      rw [hxe] at hx hfl
      obtain ⟨c0, -, -, -, -⟩ := (hx.keep HB7.out).keep hbr
      clear hcs hx hxe
      by_cases hk2 : x.kind = 2
      · rw [if_pos hk2] at hfl
        have HF1 := Wc.hid hfl
        rw [hk2] at c0
        clear hfl hk2
        have hb2 : Below wr.heap.size wr (wr.alloc (.cells #[.int .i64 (k : Int)] 3)) := (Below.refl _ _).alloc (Nat.le_refl _) _
        obtain ⟨v', w', hrun, hO', hb'⟩ := Wv.append_run (P := Try.prog) (ty := 35) (d := (0 : Int)) (ys := [(k : Int)]) Try.underlying35 HINF.out.1 HINF.out.2.1 HINF.out.2.2.1 HINF.out.2.2.2 rfl (by omega) (fun _ => rfl) (HO.out.keep hb2) (Wv.Rv.lit _ #[.int .i64 (k : Int)] 3 1 [(k : Int)] rfl (by omega) rfl) (.inr ⟨_, _, _, rfl⟩) (by have := Wd.flN_length l k; simp; omega) (by have := hbr.size; simp; omega)
        have HO' := Wc.hid hO'
        have HB' := Wc.hid ((hbr.trans (hb2.mono hbr.size)).trans hb')
        clear hO' hb' hb2
        obtain ⟨sa, sn, sc, rfl⟩ : ∃ sa sn sc, v' = .slice sa sn sc := by
          rcases HO'.out.shaped with rfl | ⟨sa, sn, sc, rfl⟩
          · exact ⟨_, _, _, rfl⟩
          · exact ⟨_, _, _, rfl⟩
        go_wp2_with (at_builtin; refine Wv.wp_append hrun rfl rfl rfl rfl ?_)
        go_roundw
        case rel =>
          refine ⟨k + 1, by go_num, by omega, HB'.out, ⟨_, _, _, rfl⟩, Wc.hid ?_⟩
          rw [HF1.out]; exact HO'.out
        case measure => simp only [intOf]; omega
      · rw [if_neg hk2] at hfl
        have HF1 := Wc.hid hfl
        have hk2b : (x.kind == 2) = false := by simpa using hk2
        clear hfl hk2
        go_wp2
        go_roundw
        case rel =>
          refine ⟨k + 1, by go_num, by omega, hbr, ⟨_, _, _, rfl⟩, Wc.hid ?_⟩
          rw [HF1.out]; exact HO.out
        case measure => simp only [intOf]; omega
    · obtain rfl : k = n := by omega
      have HWT := Wc.hid (HO.out.rv (d := (0 : Int)))
      have HF8 := Wc.hid (HF.out.keep hbr)
      have HCR8 := Wc.hid (HCR7.out.keep hbr)
      have HAP8 := Wc.hid (HAP7.out.keep hbr)
      have HRD8 := Wc.hid (HRD7.out.keep hbr)
      have HIN8 := Wc.hid (HIN7.out.keep hbr)
      have HIO8 := Wc.hid (HIO7.out.keep hbr)
      have HB8 := Wc.hid (Wc.step HB7.out (Nat.le_refl _) hbr)
      clear hbr HO HF HCR7 HAP7 HRD7 HIN7 HIO7 HB7 HINF
      have hse : Wd.stepsE ni l = SE := by rw [← HXL.out]; exact HSE.out
      have hfw : (Wd.flN l l.length == Wd.flN l k) = true := by rw [HL.out]; exact beq_self_eq_true _
      obtain ⟨m, hm⟩ : ∃ m : Nat, ni / 64 = m := ⟨_, rfl⟩
      obtain ⟨D, hD⟩ : ∃ D, Wd.devB ni = D := ⟨_, rfl⟩
      go_wp2_with (first | (go_at_call 16; refine (blocks_any _ _ _ _ hni).mono ?_; rintro e w' ⟨rfl, rfl⟩; rw [hm, hD]) | (go_at_call 17; refine (refSteps_any _ _ _ _ _ _ l _ hni (HI.out.keep HB8.out)).mono ?_; rintro e w' ⟨rfl, rfl⟩; rw [hse]))
      refine (ints_any _ _ _ _ _ HF8.out HWT.out).mono ?_
      rintro e w9 ⟨rfl, hb9⟩
      rw [hfw]
      clear hfw
      have HCR9 := Wc.hid (HCR8.out.keep hb9)
      have HAP9 := Wc.hid (HAP8.out.keep hb9)
      have HRD9 := Wc.hid (HRD8.out.keep hb9)
      have HIN9 := Wc.hid (HIN8.out.keep hb9)
      have HIO9 := Wc.hid (HIO8.out.keep hb9)
      have HB9 := Wc.hid (Wc.step HB8.out (Nat.le_refl _) hb9)
      clear hb9 HCR8 HAP8 HRD8 HIN8 HIO8 HB8 HF8 HWT
      go_wp2_with fail
      refine (steps_any _ _ _ _ _ _ l _ hni HIO9.out).mono ?_
      rintro e w10 ⟨rfl, hb10⟩
      rw [hse]
      have hnn : (SE != SE) = false := by simp
      have HCR10 := Wc.hid (HCR9.out.keep hb10)
      have HAP10 := Wc.hid (HAP9.out.keep hb10)
      have HRD10 := Wc.hid (HRD9.out.keep hb10)
      have HIN10 := Wc.hid (HIN9.out.keep hb10)
      have HIO10 := Wc.hid (HIO9.out.keep hb10)
      have HB10 := Wc.hid (Wc.step HB9.out (Nat.le_refl _) hb10)
      clear hb10 HCR9 HAP9 HRD9 HIN9 HIO9 HB9
      go_wp2_with fail
      refine (bytes_any _ _ xs xs _ HIN10.out (HB.out.keep HB10.out)).mono ?_
      rintro e w11 ⟨rfl, hb11⟩
      rw [beq_self_eq_true]
      have HCR11 := Wc.hid (HCR10.out.keep hb11)
      have HAP11 := Wc.hid (HAP10.out.keep hb11)
      have HRD11 := Wc.hid (HRD10.out.keep hb11)
      have HIO11 := Wc.hid (HIO10.out.keep hb11)
      have HB11 := Wc.hid (Wc.step HB10.out (Nat.le_refl _) hb11)
      clear hb11 HCR10 HAP10 HRD10 HIN10 HIO10 HB10
      go_wp2_with fail
      refine (ios_same _ _ _ _ _ l _ HIO11.out (HI.out.keep HB11.out)).mono ?_
      rintro e w12 ⟨rfl, hb12⟩
      have HCR12 := Wc.hid (HCR11.out.keep hb12)
      have HAP12 := Wc.hid (HAP11.out.keep hb12)
      have HRD12 := Wc.hid (HRD11.out.keep hb12)
      have HB12 := Wc.hid (Wc.step HB11.out (Nat.le_refl _) hb12)
      have HM := Wc.hid hm
      have HD := Wc.hid hD
      have HSE' := Wc.hid hse
      clear hb12 HCR11 HAP11 HRD11 HIO11 HB11 hnn hse hm hD
      cases D
      · have hnd : ¬ (ni % 64 = 0 ∧ 256 ≤ ni ∧ ni ≤ 262144) := fun h => by have := Wd.devB_iff.2 h; rw [HD.out] at this; exact absurd this (by decide)
        have hr2 : Wd.rdE xs.length p = 2 := by unfold Wd.rdE; rw [HXL.out, if_neg (by rw [HD.out]; decide)]
        have hs2 : Wd.stepsE xs.length l = 2 := by rw [HXL.out]; exact Wd.stepsE_dev HD.out
        have h0 : Wd.rdR xs p = [] := by unfold Wd.rdR; rw [if_neg (by rw [hr2]; decide)]
        have h1 : Wd.appR xs l = [] := by unfold Wd.appR; rw [if_neg (by rw [hs2]; decide)]
        have h2 : Wd.crE xs.length l cut = 2 := by unfold Wd.crE; rw [if_neg (by rw [hs2]; decide), hs2]
        have h3 : Wd.crR xs l cut ks = [] := by unfold Wd.crR; rw [if_neg (by rw [h2]; decide)]
        obtain rfl : CN = 0 := by rw [← HCN.out]; exact (Wd.chk_no hnd).1.symm
        obtain rfl : CE = 2 := by rw [← HCE.out]; exact (Wd.chk_no hnd).2.symm
        obtain rfl : RE = 2 := by rw [← HRE.out]; exact hr2
        obtain rfl : RL = 0 := by rw [← HRL.out, h0]; rfl
        obtain rfl : SE = 2 := by rw [← HSE.out]; exact hs2
        obtain rfl : AL = 0 := by rw [← HAL.out, h1]; rfl
        obtain rfl : KE = 2 := by rw [← HKE.out]; exact h2
        obtain rfl : CL = 0 := by rw [← HCL.out, h3]; rfl
        clear hnd hr2 hs2 h0 h1 h2 h3
        go_wp2_with fail
        refine (wakes_any _).mono ?_
        rintro e w18 ⟨rfl, hb18⟩
        go_wp2_with fail
        go_ret
        exact ⟨rfl, Wc.step HB12.out (Nat.le_refl _) hb18⟩
      · obtain rfl : CN = (m : Int) := by have h1 := (Wd.chk_yes (Wd.devB_iff.1 HD.out)).1; have h2 := HCN.out; have h3 := HM.out; omega
        obtain rfl : CE = 0 := by rw [← HCE.out]; exact (Wd.chk_yes (Wd.devB_iff.1 HD.out)).2.symm
        have hmm : (ni : Int) / 64 = (m : Int) := by have := HM.out; omega
        have hmn : ((m : Int) != (m : Int)) = false := by simp
        by_cases hpb : 0 ≤ p ∧ p < (m : Int)
        · obtain ⟨q, rfl⟩ : ∃ q : Nat, p = q := ⟨p.toNat, by omega⟩
          have hqm : q < m := by omega
          have hrb := Wd.rdR_blk (xs := xs) (q := q) (by rw [HXL.out]; exact HD.out) (by rw [HXL.out, HM.out]; exact hqm)
          have hbl : (Wd.blk xs q).length = 64 := by have h1 := HXL.out; have h2 := HM.out; unfold Wd.blk; simp; omega
          obtain rfl : RE = 0 := by rw [← HRE.out]; exact hrb.1
          obtain rfl : RL = 64 := by rw [← HRL.out, hrb.2]; exact hbl
          have hg1 : decide ((q : Int) < 0) = false := by simp
          have hg2 : decide ((m : Int) ≤ (q : Int)) = false := by simp; omega
          have hqq : q * 64 + 64 ≤ ni := by have := HM.out; omega
          have HRB := Wc.hid hrb.2
          clear hrb hbl hpb hmm
          go_wp2_with fail
          refine (block_any _ _ _ q xs _ (HB.out.keep HB12.out) hqq).mono ?_
          rintro e w13 ⟨ba, bc, rfl, hbk, rfl⟩
          have HBK := Wc.hid hbk
          clear hbk
          go_wp2_with fail
          refine (bytes_any _ _ _ _ _ HRD12.out HBK.out).mono ?_
          rintro e w13 ⟨rfl, hb13⟩
          rw [HRB.out, show Wd.blk xs q = List.take 64 (List.drop (q * 64) xs) from rfl, beq_self_eq_true]
          have HCR13 := Wc.hid (HCR12.out.keep hb13)
          have HAP13 := Wc.hid (HAP12.out.keep hb13)
          have HB13 := Wc.hid (Wc.step HB12.out (Nat.le_refl _) hb13)
          clear hb13 HCR12 HAP12 HB12 HRD12 HBK hg1 hg2
          by_cases hsz : SE = 0
          · subst hsz
            have hst := Wd.stepsE_zero HSE'.out
            have hdv := Wd.devB_iff.1 HD.out
            obtain rfl : AL = ni := by
              have h1 : Wd.appR xs l = Wd.app xs l := by unfold Wd.appR; rw [if_pos HSE.out]
              rw [← HAL.out, h1, Wd.app_length (m := ni / 64) (by omega) _ _ (by rw [HXL.out]; omega) hst.2.2, HXL.out]
            have h1 : Wd.appR xs l = Wd.app xs l := by unfold Wd.appR; rw [if_pos HSE.out]
            have HAE := Wc.hid h1
            have HDV := Wc.hid hdv
            have HOK := Wc.hid hst.2.2
            clear h1 hdv hst
            go_wp2_with fail
            refine (refApply_any _ _ _ (AL / 64) _ _ _ xs l _ (HB.out.keep HB13.out) HSH.out (HI.out.keep HB13.out) (by have := HDV.out; omega) (by have := HDV.out; omega) HOK.out).mono ?_
            rintro e w14 ⟨ga, gc, rfl, hg, hb14⟩
            have HG := Wc.hid hg
            have HCR14 := Wc.hid (HCR13.out.keep hb14)
            have HAP14 := Wc.hid (HAP13.out.keep hb14)
            have HB14 := Wc.hid (Wc.step HB13.out (Nat.le_refl _) hb14)
            clear hg hb14 HCR13 HAP13 HB13
            go_wp2_with fail
            refine (bytes_any _ _ _ _ _ HAP14.out HG.out).mono ?_
            rintro e w15 ⟨rfl, hb15⟩
            rw [HAE.out, beq_self_eq_true]
            have HCR15 := Wc.hid (HCR14.out.keep hb15)
            have HB15 := Wc.hid (Wc.step HB14.out (Nat.le_refl _) hb15)
            clear hb15 HCR14 HAP14 HB14
            by_cases hcb : 0 ≤ cut ∧ cut ≤ (k : Int)
            · obtain ⟨c, rfl⟩ : ∃ c : Nat, cut = c := ⟨cut.toNat, by omega⟩
              have hck : c ≤ k := by omega
              have he0 : Wd.crE xs.length l c = 0 := by unfold Wd.crE; rw [if_pos HSE.out, HL.out, if_pos hcb]
              have he1 : Wd.crR xs l c ks = Wd.crashL xs l c ks := by unfold Wd.crR; rw [if_pos he0]; rfl
              obtain rfl : KE = 0 := by rw [← HKE.out]; exact he0
              have hg1 : decide ((c : Int) < 0) = false := by simp
              have hg2 : decide ((k : Int) < (c : Int)) = false := by simp; omega
              have HE1 := Wc.hid he1
              clear he0 he1 hcb
              go_wp2_with fail
              refine (refCrash_any _ _ _ (AL / 64) _ _ _ c _ _ _ xs l ks _ (HB.out.keep HB15.out) HSH.out (HI.out.keep HB15.out) (HK.out.keep HB15.out) (by have := HDV.out; omega) (by have := HDV.out; omega) HOK.out hck).mono ?_
              rintro e w16 ⟨ha, hc, rfl, hg, hb16⟩
              have HG16 := Wc.hid hg
              have HCR16 := Wc.hid (HCR15.out.keep hb16)
              have HB16 := Wc.hid (Wc.step HB15.out (Nat.le_refl _) hb16)
              clear hg hb16
              go_wp2_with fail
              refine (bytes_any _ _ _ _ _ HCR16.out HG16.out).mono ?_
              rintro e w17 ⟨rfl, hb17⟩
              rw [HE1.out, beq_self_eq_true]
              have HB17 := Wc.hid (Wc.step HB16.out (Nat.le_refl _) hb17)
              clear hb17
              go_wp2_with fail
              refine (wakes_any _).mono ?_
              rintro e w18 ⟨rfl, hb18⟩
              go_wp2_with fail
              go_ret
              exact ⟨rfl, Wc.step HB17.out (Nat.le_refl _) hb18⟩
            · have he0 : Wd.crE xs.length l cut = 1 := by unfold Wd.crE; rw [if_pos HSE.out, HL.out, if_neg hcb]
              have he1 : Wd.crR xs l cut ks = [] := by unfold Wd.crR; rw [if_neg (by rw [he0]; decide)]
              obtain rfl : KE = 1 := by rw [← HKE.out]; exact he0
              obtain rfl : CL = 0 := by rw [← HCL.out, he1]; rfl
              clear he0 he1
              by_cases h0 : cut < 0
              · have hg1 : decide (cut < 0) = true := by simpa using h0
                clear hcb h0
                go_wp2_with fail
                refine (wakes_any _).mono ?_
                rintro e w18 ⟨rfl, hb18⟩
                go_wp2_with fail
                go_ret
                exact ⟨rfl, Wc.step HB15.out (Nat.le_refl _) hb18⟩
              · have hg1 : decide (cut < 0) = false := by simpa using h0
                have hg2 : decide ((k : Int) < cut) = true := by simp; omega
                clear hcb h0
                go_wp2_with fail
                refine (wakes_any _).mono ?_
                rintro e w18 ⟨rfl, hb18⟩
                go_wp2_with fail
                go_ret
                exact ⟨rfl, Wc.step HB15.out (Nat.le_refl _) hb18⟩
          · have h1 : Wd.appR xs l = [] := by unfold Wd.appR; rw [if_neg (by rw [HSE.out]; exact hsz)]
            have h2 : Wd.crE xs.length l cut = SE := by unfold Wd.crE; rw [if_neg (by rw [HSE.out]; exact hsz)]; exact HSE.out
            have h3 : Wd.crR xs l cut ks = [] := by unfold Wd.crR; rw [if_neg (by rw [h2]; exact hsz)]
            obtain rfl : AL = 0 := by rw [← HAL.out, h1]; rfl
            obtain rfl : KE = SE := by rw [← HKE.out, h2]
            obtain rfl : CL = 0 := by rw [← HCL.out, h3]; rfl
            have hsb : (KE != 0) = true := by simpa using hsz
            have hsb2 : (KE == KE) = true := by simp
            clear h1 h2 h3 hsz
            go_wp2_with fail
            refine (wakes_any _).mono ?_
            rintro e w18 ⟨rfl, hb18⟩
            go_wp2_with fail
            go_ret
            exact ⟨rfl, Wc.step HB13.out (Nat.le_refl _) hb18⟩
        · have hr3 : Wd.rdE xs.length p = 3 := by unfold Wd.rdE; rw [HXL.out, if_pos HD.out, hmm, if_neg hpb]
          have h0 : Wd.rdR xs p = [] := by unfold Wd.rdR; rw [if_neg (by rw [hr3]; decide)]
          obtain rfl : RE = 3 := by rw [← HRE.out]; exact hr3
          obtain rfl : RL = 0 := by rw [← HRL.out, h0]; rfl
          clear hr3 h0 hmm
          have hgp : (decide (p < 0) = true) ∨ (decide (p < 0) = false ∧ decide ((m : Int) ≤ p) = true) := by
            by_cases h : p < 0
            · exact .inl (by simpa using h)
            · exact .inr ⟨by simpa using h, by simp; omega⟩
          clear hpb
          rcases hgp with hg1 | ⟨hg1, hg2⟩
          all_goals
            by_cases hsz : SE = 0
            · subst hsz
              have hst := Wd.stepsE_zero HSE'.out
              have hdv := Wd.devB_iff.1 HD.out
              obtain rfl : AL = ni := by
                have h1 : Wd.appR xs l = Wd.app xs l := by unfold Wd.appR; rw [if_pos HSE.out]
                rw [← HAL.out, h1, Wd.app_length (m := ni / 64) (by omega) _ _ (by rw [HXL.out]; omega) hst.2.2, HXL.out]
              have h1 : Wd.appR xs l = Wd.app xs l := by unfold Wd.appR; rw [if_pos HSE.out]
              have HAE := Wc.hid h1
              have HDV := Wc.hid hdv
              have HOK := Wc.hid hst.2.2
              clear h1 hdv hst
              go_wp2_with fail
              refine (refApply_any _ _ _ (AL / 64) _ _ _ xs l _ (HB.out.keep HB12.out) HSH.out (HI.out.keep HB12.out) (by have := HDV.out; omega) (by have := HDV.out; omega) HOK.out).mono ?_
              rintro e w14 ⟨ga, gc, rfl, hg, hb14⟩
              have HG := Wc.hid hg
              have HCR14 := Wc.hid (HCR12.out.keep hb14)
              have HAP14 := Wc.hid (HAP12.out.keep hb14)
              have HB14 := Wc.hid (Wc.step HB12.out (Nat.le_refl _) hb14)
              clear hg hb14 HCR12 HAP12 HB12
              go_wp2_with fail
              refine (bytes_any _ _ _ _ _ HAP14.out HG.out).mono ?_
              rintro e w15 ⟨rfl, hb15⟩
              rw [HAE.out, beq_self_eq_true]
              have HCR15 := Wc.hid (HCR14.out.keep hb15)
              have HB15 := Wc.hid (Wc.step HB14.out (Nat.le_refl _) hb15)
              clear hb15 HCR14 HAP14 HB14
              by_cases hcb : 0 ≤ cut ∧ cut ≤ (k : Int)
              · obtain ⟨c, rfl⟩ : ∃ c : Nat, cut = c := ⟨cut.toNat, by omega⟩
                have hck : c ≤ k := by omega
                have he0 : Wd.crE xs.length l c = 0 := by unfold Wd.crE; rw [if_pos HSE.out, HL.out, if_pos hcb]
                have he1 : Wd.crR xs l c ks = Wd.crashL xs l c ks := by unfold Wd.crR; rw [if_pos he0]; rfl
                obtain rfl : KE = 0 := by rw [← HKE.out]; exact he0
                have hg1 : decide ((c : Int) < 0) = false := by simp
                have hg2 : decide ((k : Int) < (c : Int)) = false := by simp; omega
                have HE1 := Wc.hid he1
                clear he0 he1 hcb
                go_wp2_with fail
                refine (refCrash_any _ _ _ (AL / 64) _ _ _ c _ _ _ xs l ks _ (HB.out.keep HB15.out) HSH.out (HI.out.keep HB15.out) (HK.out.keep HB15.out) (by have := HDV.out; omega) (by have := HDV.out; omega) HOK.out hck).mono ?_
                rintro e w16 ⟨ha, hc, rfl, hg, hb16⟩
                have HG16 := Wc.hid hg
                have HCR16 := Wc.hid (HCR15.out.keep hb16)
                have HB16 := Wc.hid (Wc.step HB15.out (Nat.le_refl _) hb16)
                clear hg hb16
                go_wp2_with fail
                refine (bytes_any _ _ _ _ _ HCR16.out HG16.out).mono ?_
                rintro e w17 ⟨rfl, hb17⟩
                rw [HE1.out, beq_self_eq_true]
                have HB17 := Wc.hid (Wc.step HB16.out (Nat.le_refl _) hb17)
                clear hb17
                go_wp2_with fail
                refine (wakes_any _).mono ?_
                rintro e w18 ⟨rfl, hb18⟩
                go_wp2_with fail
                go_ret
                exact ⟨rfl, Wc.step HB17.out (Nat.le_refl _) hb18⟩
              · have he0 : Wd.crE xs.length l cut = 1 := by unfold Wd.crE; rw [if_pos HSE.out, HL.out, if_neg hcb]
                have he1 : Wd.crR xs l cut ks = [] := by unfold Wd.crR; rw [if_neg (by rw [he0]; decide)]
                obtain rfl : KE = 1 := by rw [← HKE.out]; exact he0
                obtain rfl : CL = 0 := by rw [← HCL.out, he1]; rfl
                clear he0 he1
                by_cases h0 : cut < 0
                · have hg1 : decide (cut < 0) = true := by simpa using h0
                  clear hcb h0
                  go_wp2_with fail
                  refine (wakes_any _).mono ?_
                  rintro e w18 ⟨rfl, hb18⟩
                  go_wp2_with fail
                  go_ret
                  exact ⟨rfl, Wc.step HB15.out (Nat.le_refl _) hb18⟩
                · have hg1 : decide (cut < 0) = false := by simpa using h0
                  have hg2 : decide ((k : Int) < cut) = true := by simp; omega
                  clear hcb h0
                  go_wp2_with fail
                  refine (wakes_any _).mono ?_
                  rintro e w18 ⟨rfl, hb18⟩
                  go_wp2_with fail
                  go_ret
                  exact ⟨rfl, Wc.step HB15.out (Nat.le_refl _) hb18⟩
            · have h1 : Wd.appR xs l = [] := by unfold Wd.appR; rw [if_neg (by rw [HSE.out]; exact hsz)]
              have h2 : Wd.crE xs.length l cut = SE := by unfold Wd.crE; rw [if_neg (by rw [HSE.out]; exact hsz)]; exact HSE.out
              have h3 : Wd.crR xs l cut ks = [] := by unfold Wd.crR; rw [if_neg (by rw [h2]; exact hsz)]
              obtain rfl : AL = 0 := by rw [← HAL.out, h1]; rfl
              obtain rfl : KE = SE := by rw [← HKE.out, h2]
              obtain rfl : CL = 0 := by rw [← HCL.out, h3]; rfl
              have hsb : (KE != 0) = true := by simpa using hsz
              have hsb2 : (KE == KE) = true := by simp
              clear h1 h2 h3 hsz
              go_wp2_with fail
              refine (wakes_any _).mono ?_
              rintro e w18 ⟨rfl, hb18⟩
              go_wp2_with fail
              go_ret
              exact ⟨rfl, Wc.step HB12.out (Nat.le_refl _) hb18⟩

set_option maxRecDepth 100000 in
set_option maxHeartbeats 1600000 in
/-- DevExact is true of whatever comes in. -/
theorem devExact_any (ai : Option Addr) (ni ci : Nat) (a : Option Addr) (n cap : Nat) (p cut : Int) (ka : Option Addr) (kn kc : Nat) (xs : List Int) (l : List Wd.Io) (ks : List Bool) (w : World) (hB : Wd.RawB w ai ni ci xs) (hR : Wd.Raw w a n cap l) (hK : Wv.IsRowV Value.bool false w ka kn kc ks) :
    Calls Try.prog 3 #[.slice ai ni ci, .slice a n cap, .int .i64 p, .int .i64 cut, .slice ka kn kc] w fun e w' => e = .returned (.bool true) ∧ Below w.heap.size w w' := by
  cases hh : Wd.heavyB ni l
  · have hni := (Wd.heavy_no hh).1
    by_cases hkn : kn ≤ 500
    · exact devExact_ok ai ni ci a n cap p cut ka kn kc xs l ks w (hB.bs (by omega)) hB.2.2.2.2.1 hR (Wv.Rv.of_row (by omega) hK) hkn hh
    · have HR := Wc.hid hR
      have g500 : decide ((500 : Int) < (kn : Int)) = true := by simp; omega
      clear hB hR hK
      go_enter Try.func3, Try.ntmps3
      go_wp2_with (first | (go_at_call 8; refine (heavy_raw _ _ _ _ _ _ l _ HR.out).mono ?_; rintro e w' ⟨rfl, rfl⟩; rw [hh]))
      go_ret
      exact ⟨rfl, Below.refl _ _⟩
  · have HR := Wc.hid hR
    clear hB hR hK
    go_enter Try.func3, Try.ntmps3
    go_wp2_with (first | (go_at_call 8; refine (heavy_raw _ _ _ _ _ _ l _ HR.out).mono ?_; rintro e w' ⟨rfl, rfl⟩; rw [hh]))
    go_ret
    exact ⟨rfl, Below.refl _ _⟩

end Go.Proofs.Ytjacpmbdmbahhaa
