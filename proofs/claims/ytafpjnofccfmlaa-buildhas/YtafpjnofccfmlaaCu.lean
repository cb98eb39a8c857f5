/-
  BuildHas returns true.
-/
import Derived.Test.YtafpjnofccfmlaaCr
namespace Wb
open Wt Wn
theorem drop_at {K : Nat} {f : Int} (h : f ∈ fr.drop K) : ∃ i, K + i < 198 ∧ f = ((2 + (K + i) : Nat) : Int) := by
  obtain ⟨i, hi', e⟩ := List.mem_iff_getElem.1 h
  rw [List.getElem_drop] at e
  have hl : K + i < 198 := by rw [List.length_drop, fr_len] at hi'; omega
  have e2 : fr.getD (K + i) 0 = f := by rw [List.getD_eq_getElem?_getD, List.getElem?_eq_getElem (by rw [fr_len]; exact hl)]; exact e
  have e3 : fr.getD (K + i) 0 = ((2 + (K + i) : Nat) : Int) := rng_at hl 0
  exact ⟨i, hl, by rw [← e2, e3]⟩
theorem drop_len (K : Nat) : (fr.drop K).length = 198 - K := by rw [List.length_drop, fr_len]
theorem drop_getD {K t : Nat} (h : K + t < 198) (d : Int) : (fr.drop K).getD t d = ((2 + (K + t) : Nat) : Int) := by
  rw [List.getD_eq_getElem?_getD, List.getElem?_drop, ← List.getD_eq_getElem?_getD]
  exact rng_at h d
section
variable {o m X : List Int} {r : Int} {K : Nat} {u : St}
/-- The second tree beside the first one. -/
theorem Fst.next (h : Fst o X r K u) (ho : Mp o 202 300) (hm : Mp m 202 300) : Laid X r m (fr.drop K) u := by
  have hK := h.most
  have e : ((X.length / 64 : Nat) : Int) = 300 := by rw [h.len]; rfl
  refine laid h.dev h.tre hm.1 (fun i => by rw [e]; have := hm.2 i; omega) (fun i hi => ?_) ((rng_rises 2 198).sublist (List.drop_sublist _ _)) (fun f hf => ?_) (by rw [drop_len]; have := needN_most X r m; omega)
  · obtain ⟨j, hj, e2⟩ := h.nod _ hi
    have := hm.2 i
    omega
  · obtain ⟨i, hi, rfl⟩ := drop_at hf
    refine ⟨by omega, by rw [e]; omega, fun hmem => ?_, by rw [h.sec]; exact mp_not ho (by omega) (by omega), mp_not hm (by omega) (by omega)⟩
    obtain ⟨j, hj, e2⟩ := h.nod _ hmem
    omega
end
end Wb
namespace Go.Proofs.Ytafpjnofccfmlaa
open Go.RowKit

set_option maxRecDepth 100000 in
set_option maxHeartbeats 25600000 in
theorem hasit_any (aa : Option Addr) (na ca : Nat) (ab : Option Addr) (nb cb : Nat) (z : Int) (la lb : List (Int × Int)) (w : World) (hva : Wb.PrR w aa na ca la) (hvb : Wb.PrR w ab nb cb lb) :
    Calls Try.prog 4 #[.slice aa na ca, .slice ab nb cb, .int .i64 z] w fun e w' => e = .returned (.bool true) ∧ Below w.heap.size w w' := by
  have hca := hva.2.2.1
  have hna0 := hva.2.1
  have hcb := hvb.2.2.1
  have hnb0 := hvb.2.1
  have HA0 := Wc.hid hva
  have HB0 := Wc.hid hvb
  clear hva hvb
  by_cases hbig : 60 < na ∨ 60 < nb
  · by_cases h1 : 60 < na
    · go_enter Try.func4, Try.ntmps4
      go_wp2_with fail
      go_ret
      exact ⟨rfl, Below.refl _ _⟩
    · have h2 : 60 < nb := by omega
      go_enter Try.func4, Try.ntmps4
      go_wp2_with fail
      go_ret
      exact ⟨rfl, Below.refl _ _⟩
  have hna : na ≤ 60 := by omega
  have hnb : nb ≤ 60 := by omega
  clear hbig
  have HA := Wc.hid (HA0.out.pr (by omega))
  have HB := Wc.hid (HB0.out.pr (by omega))
  clear HA0 HB0 hca hcb hna0 hnb0
  have h60a : decide ((60 : Int) < (na : Int)) = false := decide_eq_false (by omega)
  have h60b : decide ((60 : Int) < (nb : Int)) = false := decide_eq_false (by omega)
  obtain ⟨A, hA, eA⟩ := lowN z 40 (by omega) (by omega)
  have eA : wrap64 ((IntKind.u64.wrap z).tmod 40) = (A : Int) := eA
  have eA2 : IntKind.i64.wrap ((IntKind.u64.wrap z).tmod 40) = (A : Int) := (wrap_wrap _).trans eA
  have hmk : ∀ w : World, (Instr.makeSlice 23 (.int .i64 512) (.int .i64 512)).run Try.prog w = .ok (.slice (some ⟨w.heap.size, 0, none⟩) 512 512) (w.alloc (.cells (madeCells #[.int .i64 0] 512) 3)) := fun w => makeI 512 (by omega) w
  have hmb : ∀ w : World, (Instr.makeSlice 22 (.int .i64 19200) (.int .i64 19200)).run Try.prog w = .ok (.slice (some ⟨w.heap.size, 0, none⟩) 19200 19200) (w.alloc (.cells (madeCells #[.int .u8 0] 19200) 5)) := fun w => makeN 19200 (by omega) w
  have hV0 := (made_ob 19200 (by omega) w).bs
  rw [zb_eq] at hV0
  have bA := (Below.refl w.heap.size w).alloc (Nat.le_refl _) (.cells (madeCells #[.int .u8 0] 19200) 5)
  have HV0 := Wc.hid hV0
  have HBA := Wc.hid bA
  have HA0 := Wc.hid (HA.out.keep bA)
  clear hV0 bA
  go_enter Try.func4, Try.ntmps4
  go_wp2_with fail
  obtain ⟨wA, hwA⟩ : ∃ wA, w.alloc (.cells (madeCells #[.int .u8 0] 19200) 5) = wA := ⟨_, rfl⟩
  have hs1w : wA.heap.size = w.heap.size + 1 := by rw [← hwA]; simp
  rw [hwA] at HV0 HBA HA0 ⊢
  obtain ⟨s1, hs1⟩ : ∃ s1, wA.heap.size = s1 := ⟨_, rfl⟩
  rw [hs1] at hs1w
  have HS1 := Wc.hid hs1
  have HS1W := Wc.hid (show w.heap.size ≤ s1 by omega)
  obtain ⟨bk, hbk⟩ : ∃ bk : Nat, bk = 20 + A := ⟨_, rfl⟩
  have hbk2 : (20 : Int) + (A : Int) = (bk : Int) := by omega
  have hbk3 : 3 ≤ bk ∧ bk ≤ 4096 := by omega
  have HBK := Wc.hid (show (bk : Int) ≤ 60 by omega)
  rw [hbk2]
  clear hwA hs1 hs1w hmb hbk hbk2 hmk eA eA2
  refine (some_any aa na ca bk la _ HA0.out hbk3).mono ?_
  rintro e w1 ⟨go, o0, rfl, hO1, hM1, hg1, hb1⟩
  have HB1 := Wc.hid (Wc.step HBA.out (Nat.le_refl _) hb1)
  rw [HS1.out] at hO1 hg1 hb1
  have HO1 := Wc.hid hO1
  have HM1 := Wc.hid (hM1.wide (lo' := 2) (hi' := 60) (by decide) HBK.out)
  have HT1 := Wc.hid hb1
  have HG1 := Wc.hid hg1
  obtain ⟨s2, hs2⟩ : ∃ s2, w1.heap.size = s2 := ⟨_, rfl⟩
  have HS2 := Wc.hid hs2
  have HGL := Wc.hid (show go < s2 by rw [← hs2]; exact ov_lt hO1)
  have HS12 := Wc.hid (show s1 ≤ s2 by rw [← hs2, ← HS1.out]; have := hb1.size; exact this)
  clear hO1 hM1 hb1 hg1 hs2
  go_wp2_with fail
  refine (some_any ab nb cb bk lb _ (HB.out.keep HB1.out) hbk3).mono ?_
  rintro e w2 ⟨gm, m0, rfl, hO2, hM2, hg2, hb2⟩
  have HB2 := Wc.hid (Wc.step HB1.out (Nat.le_refl _) hb2)
  have HO1b := Wc.hid (HO1.out.keep hb2)
  rw [HS2.out] at hO2 hg2 hb2
  have HO2 := Wc.hid hO2
  have HM2 := Wc.hid (hM2.wide (lo' := 2) (hi' := 60) (by decide) HBK.out)
  have HT2 := Wc.hid (HT1.out.trans (hb2.mono HS12.out))
  have HG2 := Wc.hid hg2
  have HNE := Wc.hid (show go ≠ gm by have := HGL.out; omega)
  clear hO2 hM2 hb2 hg2
  go_wp2_with fail
  go_loopw [10] (fun u wr => ∃ (j : Nat) (o m : List Int), u = .int .i64 j ∧ j ≤ 512 ∧ Hid (Wv.Ov (Value.int .i64) 3 s1 wr (.slice (some ⟨go, 0, none⟩) 512 512) o) ∧ Hid (Wb.Mj j o 2 60 202 260) ∧ Hid (Wv.Ov (Value.int .i64) 3 s2 wr (.slice (some ⟨gm, 0, none⟩) 512 512) m) ∧ Hid (Wb.Mj j m 2 60 202 260) ∧ Hid (Below s1 wA wr) ∧ Hid (Below w.heap.size w wr)) (fun u _ => 512 - (intOf u).toNat)
  case atStart => exact ⟨0, o0, m0, rfl, by omega, HO1b, Wc.hid (Wb.Mj.zero HM1.out), HO2, Wc.hid (Wb.Mj.zero HM2.out), HT2, HB2⟩
  case round =>
    obtain ⟨j, o, m, rfl, hj, RO, RP, RO2, RM, RS, RB⟩ := hrel
    by_cases hlt : j < 512
    · have hc := ov_cell RO.out hlt
      have hf := ov_frozen j RO.out
      have hc2 := ov_cell RO2.out hlt
      have hf2 := ov_frozen j RO2.out
      obtain ⟨x, hx⟩ : ∃ x, o.getD j 0 = x := ⟨_, rfl⟩
      obtain ⟨y, hy⟩ : ∃ y, m.getD j 0 = y := ⟨_, rfl⟩
      have hr := RP.out.2.2 j (Nat.le_refl _)
      have hr2 := RM.out.2.2 j (Nat.le_refl _)
      rw [hx] at hc hr
      rw [hy] at hc2 hr2
      have HX := Wc.hid hx
      have HY := Wc.hid hy
      have hj' : (j : Int) < 512 := by omega
      clear hx hy
      by_cases h0 : x = 0
      · subst h0
        by_cases h1 : y = 0
        · subst h1
          go_wp2_with fail
          go_roundw
          case rel => exact ⟨j + 1, o, m, by go_num, by omega, RO, Wc.hid (RP.out.skip HX.out), RO2, Wc.hid (RM.out.skip HY.out), RS, RB⟩
          case measure => simp [intOf]; omega
        · have hy2 : 0 < y := by omega
          have hy3 : y < 60 := by omega
          have K2 := Wc.hid (ov_set j RO2.out (y + 200))
          have K1 := Wc.hid (ov_other (z := .int .i64 (y + 200)) (Q := j) RO.out HNE.out)
          have M2 := Wc.hid (RM.out.step (y := y + 200) (by omega))
          have KS := Wc.hid (RS.out.setCell (p := ⟨gm, j, none⟩) (Nat.le_trans HS12.out HG2.out) (.int .i64 (y + 200)))
          have KB := Wc.hid (RB.out.setCell (p := ⟨gm, j, none⟩) (Nat.le_trans HS1W.out (Nat.le_trans HS12.out HG2.out)) (.int .i64 (y + 200)))
          clear hr hr2 h1
          go_wp2_with fail
          go_roundw
          case rel => exact ⟨j + 1, o, _, by go_num, by omega, K1, Wc.hid (RP.out.skip HX.out), K2, M2, KS, KB⟩
          case measure => simp [intOf]; omega
      · have hx2 : 0 < x := by omega
        have hx3 : x < 60 := by omega
        have L1 := ov_set j RO.out (x + 200)
        have L2 := ov_other (z := .int .i64 (x + 200)) (Q := j) RO2.out HNE.out.symm
        have M1 := Wc.hid (RP.out.step (y := x + 200) (by omega))
        have LS := RS.out.setCell (p := ⟨go, j, none⟩) HG1.out (.int .i64 (x + 200))
        have LB := RB.out.setCell (p := ⟨go, j, none⟩) (Nat.le_trans HS1W.out HG1.out) (.int .i64 (x + 200))
        have hc3 := ov_cell L2 hlt
        have hf3 := ov_frozen j L2
        rw [HY.out] at hc3
        by_cases h1 : y = 0
        · subst h1
          have K1 := Wc.hid L1
          have K2 := Wc.hid L2
          have KS := Wc.hid LS
          have KB := Wc.hid LB
          clear hr hr2 L1 L2 LS LB h0 hc2 hf2
          go_wp2_with fail
          go_roundw
          case rel => exact ⟨j + 1, _, m, by go_num, by omega, K1, M1, K2, Wc.hid (RM.out.skip HY.out), KS, KB⟩
          case measure => simp [intOf]; omega
        · have hy2 : 0 < y := by omega
          have hy3 : y < 60 := by omega
          have K2 := Wc.hid (ov_set j L2 (y + 200))
          have K1 := Wc.hid (ov_other (z := .int .i64 (y + 200)) (Q := j) L1 HNE.out)
          have M2 := Wc.hid (RM.out.step (y := y + 200) (by omega))
          have KS := Wc.hid (LS.setCell (p := ⟨gm, j, none⟩) (Nat.le_trans HS12.out HG2.out) (.int .i64 (y + 200)))
          have KB := Wc.hid (LB.setCell (p := ⟨gm, j, none⟩) (Nat.le_trans HS1W.out (Nat.le_trans HS12.out HG2.out)) (.int .i64 (y + 200)))
          clear hr hr2 L1 L2 LS LB h0 h1 hc2 hf2
          go_wp2_with fail
          go_roundw
          case rel => exact ⟨j + 1, _, _, by go_num, by omega, K1, M1, K2, M2, KS, KB⟩
          case measure => simp [intOf]; omega
    · obtain rfl : j = 512 := by omega
      have HMo := Wc.hid RP.out.done
      have HMm := Wc.hid RM.out.done
      obtain ⟨wo, rfl⟩ : ∃ wo, wo = wr := ⟨wr, rfl⟩
      have HVo := Wc.hid (HV0.out.keep (w' := wo) (by rw [HS1.out]; exact RS.out))
      have HOo := RO
      have HOm := RO2
      have HBo := RB
      clear RO RO2 RP RM RS RB HT1 HT2 HB1 HB2 HO1 HO1b HO2 HM1 HM2 HV0
      go_wp2_with fail
      rw [show ((512 : Nat) : Int) = (512 : Int) from rfl]
      go_loopw [11, 12] (fun v u wr => ∃ (k : Nat) (a : Option Addr) (n c : Nat), v = .slice a n c ∧ u = .int .i64 ((2 + k : Nat) : Int) ∧ k ≤ 198 ∧ Hid (Wv.Ov (Value.int .i64) 3 wo.heap.size wr (.slice a n c) (Wb.rng 2 k)) ∧ Hid (Below wo.heap.size wo wr)) (fun _ u _ => 200 - (intOf u).toNat)
      case atStart => exact ⟨0, none, 0, 0, rfl, rfl, by omega, Wc.hid (Wv.Ov.nil _ _ _), Wc.hid (Below.refl _ _)⟩
      case round =>
        obtain ⟨k, a, n, c, rfl, rfl, hk, RO, RB⟩ := hrel
        by_cases hlt : k < 198
        · obtain ⟨a4, n4, c4, w4, hrun, hO, hb4, -⟩ := push_wide wr wr.heap.size wo.heap.size rfl (.slice a n c) (Wb.rng 2 k) ((2 + k : Nat) : Int) RO.out (by rw [Wb.rng_length]; omega) RB.out.size
          rw [← Wb.rng_succ] at hO
          have HRUN := Wc.hid hrun
          have HO := Wc.hid hO
          have HB2 := Wc.hid ((RB.out.alloc RB.out.size (.cells #[.int .i64 ((2 + k : Nat) : Int)] 3)).trans hb4)
          have hk2 : ((2 + k : Nat) : Int) < 200 := by omega
          clear hrun hO hb4
          go_wp2_with (at_builtin; refine Wv.wp_append HRUN.out rfl rfl rfl rfl ?_)
          go_roundw
          case rel => exact ⟨k + 1, a4, n4, c4, rfl, by go_num, by omega, HO, HB2⟩
          case measure => simp [intOf]; omega
        · obtain rfl : k = 198 := by omega
          have hn : n = 198 := by have := Wv.rv_len (ov_in RO.out); rw [Wb.rng_length] at this; exact this.symm
          subst hn
          have HL := Wc.hid (show Wd.In wr (.slice a 198 c) Wb.fr from ov_in RO.out)
          have HV2 := Wc.hid (HVo.out.keep RB.out)
          have HP2 := Wc.hid (ov_in (HOo.out.keep RB.out))
          have HM2 := Wc.hid (ov_in (HOm.out.keep RB.out))
          have HB2 := Wc.hid (HBo.out.trans (RB.out.mono HBo.out.size))
          have HPw := Wc.hid (HMo.out.wide (lo' := 202) (hi' := 300) (by decide) (by decide))
          have HMw := Wc.hid (HMm.out.wide (lo' := 202) (hi' := 300) (by decide) (by decide))
          clear RO RB HVo HOo HOm HBo HMo HMm
          go_wp2_with fail
          refine (tree_any _ 0 _ _ _ _ _ _ Wb.zb o Wb.fr _ HV2.out HP2.out HL.out).mono ?_
          rintro e w3 ⟨hb3, hy, -⟩
          have hld := Wb.first_laid HPw.out
          obtain ⟨al, cl, ar, cr, rfl, hO3, hP3⟩ := hy hld.err
          obtain ⟨u, hfst⟩ := Wb.first_fst HPw.out
          have hst := hld.steps
          rw [Wb.zb_len] at hst
          obtain ⟨K, hK⟩ : ∃ K, Wb.needN Wb.zb 0 o = K := ⟨_, rfl⟩
          rw [hK] at hO3 hP3 hfst hst ⊢
          obtain ⟨L, hL⟩ : ∃ L, Wb.ios Wb.fr (Wb.new Wb.zb 0 o (Wt.treS Wb.zb 0) Wb.fr) K = L := ⟨_, rfl⟩
          rw [hL] at hO3 hfst hst
          obtain ⟨X, hX⟩ : ∃ X, Wd.app Wb.zb L = X := ⟨_, rfl⟩
          obtain ⟨r, hr⟩ : ∃ r, Wb.root Wb.zb 0 o (Wt.treS Wb.zb 0) Wb.fr = r := ⟨_, rfl⟩
          rw [hr] at hfst ⊢
          rw [hX] at hfst
          rw [Wb.fr_len] at hP3 ⊢
          have HNX := Wc.hid (hfst.next HPw.out HMw.out)
          have HFST := Wc.hid hfst
          have HST := Wc.hid hst
          have HX := Wc.hid hX
          have HV3 := Wc.hid (HV2.out.keep hb3)
          have HQ3 := Wc.hid (HP2.out.keep hb3)
          have HM3 := Wc.hid (HM2.out.keep hb3)
          have HO3 := Wc.hid hO3
          have HP3 := Wc.hid hP3
          have HB3 := Wc.hid (Wc.step HB2.out (Nat.le_refl _) hb3)
          clear hb3 hy hld hO3 hP3 hfst hst hK hL hX hr
          go_wp2_with fail
          refine (apply_ob _ 19200 19200 al K cl Wb.zb L w3 HV3.out HO3.out.is HST.out).mono ?_
          rintro e w4 ⟨g4, rfl, -, hO4, hb4⟩
          rw [HX.out] at hO4
          have HV4 := Wc.hid hO4.bs
          have HQ4 := Wc.hid (HQ3.out.keep hb4)
          have HM4 := Wc.hid (HM3.out.keep hb4)
          have HP4 := Wc.hid (HP3.out.keep hb4)
          have HB4 := Wc.hid (Wc.step HB3.out (Nat.le_refl _) hb4)
          clear hO4 hb4
          go_wp2_with fail
          refine (needs_any _ r _ _ _ X m w4 HV4.out HM4.out).mono ?_
          rintro e w5 ⟨hb5, hy, -⟩
          obtain rfl := hy HNX.out.beg
          have hN73 := Wb.needN_most X r m
          obtain ⟨N, hN⟩ : ∃ N, Wb.needN X r m = N := ⟨_, rfl⟩
          rw [hN] at hN73 ⊢
          have HN := Wc.hid hN
          have HV5 := Wc.hid (HV4.out.keep hb5)
          have HQ5 := Wc.hid (HQ4.out.keep hb5)
          have HM5 := Wc.hid (HM4.out.keep hb5)
          have HP5 := Wc.hid (ov_in (HP4.out.keep hb5))
          have HB5 := Wc.hid (Wc.step HB4.out (Nat.le_refl _) hb5)
          clear hy hb5 hN
          go_wp2_with fail
          refine (tree_any _ r _ _ _ _ _ _ X m (Wb.fr.drop K) w5 HV5.out HM5.out HP5.out).mono ?_
          rintro e w6 ⟨hb6, hy, -⟩
          obtain ⟨al6, cl6, ar6, cr6, rfl, hO6, hP6⟩ := hy HNX.out.err
          have hst6 := HNX.out.steps
          have hlen6 := HNX.out.len
          have hdev6 := HNX.out.dev
          obtain ⟨v, v1, v2, -, v4⟩ := HNX.out.is
          obtain ⟨v', o1, o2, -⟩ := HNX.out.old
          rw [HFST.out.len] at hst6 hlen6
          rw [HN.out] at hO6 hst6 hlen6 hdev6 v1 v4 o1 ⊢
          rw [Wb.drop_len]
          have HLN : Hid (∀ t, t < N → (Wb.ios (Wb.fr.drop K) (Wb.new X r m (Wt.treS X r) (Wb.fr.drop K)) N).getD t Wd.d0 = Wb.wio (Wb.fr.drop K) (Wb.new X r m (Wt.treS X r) (Wb.fr.drop K)) t) := Wc.hid fun t ht => Wb.ios_at ht
          have HWP : Hid (∀ t, (Wb.wio (Wb.fr.drop K) (Wb.new X r m (Wt.treS X r) (Wb.fr.drop K)) t).kind = 1 ∧ (Wb.wio (Wb.fr.drop K) (Wb.new X r m (Wt.treS X r) (Wb.fr.drop K)) t).pos = (Wb.fr.drop K).getD t 2) := Wc.hid fun t => ⟨rfl, rfl⟩
          obtain ⟨L6, hL6⟩ : ∃ L6, Wb.ios (Wb.fr.drop K) (Wb.new X r m (Wt.treS X r) (Wb.fr.drop K)) N = L6 := ⟨_, rfl⟩
          rw [hL6] at hO6 hst6 hlen6 hdev6 v1 o1 HLN
          obtain ⟨WW, hWW⟩ : ∃ WW, Wb.wio (Wb.fr.drop K) (Wb.new X r m (Wt.treS X r) (Wb.fr.drop K)) = WW := ⟨_, rfl⟩
          rw [hWW] at HLN HWP
          obtain ⟨Y, hY⟩ : ∃ Y, Wd.app X L6 = Y := ⟨_, rfl⟩
          rw [hY] at hlen6 hdev6 v1 o1
          obtain ⟨s, hs⟩ : ∃ s, Wb.root X r m (Wt.treS X r) (Wb.fr.drop K) = s := ⟨_, rfl⟩
          rw [hs] at v1 ⊢
          have HST6 := Wc.hid hst6
          have HY6 := Wc.hid hY
          have T1 := Wc.hid (Wt.tre_some hdev6 v1)
          have T2 := Wc.hid v2
          have T4 := Wc.hid v4
          have T5 := Wc.hid (Wt.tre_some hdev6 o1)
          have T6 := Wc.hid (o2.trans HFST.out.sec)
          have HV6 := Wc.hid (HV5.out.keep hb6)
          have HQ6 := Wc.hid (HQ5.out.keep hb6)
          have HM6 := Wc.hid (HM5.out.keep hb6)
          have HP6 := Wc.hid (HP5.out.keep hb6)
          have HO6 := Wc.hid hO6
          have HB6 := Wc.hid (Wc.step HB5.out (Nat.le_refl _) hb6)
          clear hy hb6 hO6 hP6 hst6 hlen6 hdev6 v1 v2 v4 o1 o2 hL6 hWW hY hs
          go_wp2_with fail
          refine (apply_ob _ 19200 19200 al6 N cl6 X L6 w6 HV6.out HO6.out.is HST6.out).mono ?_
          rintro e w7 ⟨g7, rfl, -, hO7, hb7⟩
          rw [HY6.out] at hO7
          have HV7 := Wc.hid hO7.bs
          have HQ7 := Wc.hid (HQ6.out.keep hb7)
          have HM7 := Wc.hid (HM6.out.keep hb7)
          have HP7 := Wc.hid (HP6.out.keep hb7)
          have HO7 := Wc.hid (HO6.out.is.keep hb7)
          have HB7 := Wc.hid (Wc.step HB6.out (Nat.le_refl _) hb7)
          have hK73 := HFST.out.most
          have e1 : ((198 : Int) - (K : Int)) = ((198 - K : Nat) : Int) := by omega
          have e2 : (((198 - K : Nat) : Int) - (N : Int)) = ((198 - K - N : Nat) : Int) := by omega
          clear hO7 hb7
          go_wp2_with fail
          clear e1 e2
          refine (map_any _ Y r w7 HV7.out).mono ?_
          rintro e w8 ⟨a8, n8, c8, rfl, hI8, hb8, -⟩
          rw [T5.out.2.2, T6.out] at hI8
          rw [T5.out.1]
          have HI8 := Wc.hid hI8
          have HV8 := Wc.hid (HV7.out.keep hb8)
          have HQ8 := Wc.hid (HQ7.out.keep hb8)
          have HM8 := Wc.hid (HM7.out.keep hb8)
          have HP8 := Wc.hid (HP7.out.keep hb8)
          have HO8 := Wc.hid (HO7.out.keep hb8)
          have HB8 := Wc.hid (Wc.step HB7.out (Nat.le_refl _) hb8)
          clear hI8 hb8
          go_wp2_with fail
          refine (map_any _ Y s w8 HV8.out).mono ?_
          rintro e w9 ⟨a9, n9, c9, rfl, hI9, hb9, -⟩
          rw [T1.out.2.2, T2.out] at hI9
          rw [T1.out.1]
          have HJ9 := Wc.hid hI9
          have HI9 := Wc.hid (HI8.out.keep hb9)
          have HV9 := Wc.hid (HV8.out.keep hb9)
          have HQ9 := Wc.hid (HQ8.out.keep hb9)
          have HM9 := Wc.hid (HM8.out.keep hb9)
          have HP9 := Wc.hid (HP8.out.keep hb9)
          have HO9 := Wc.hid (HO8.out.keep hb9)
          have HB9 := Wc.hid (Wc.step HB8.out (Nat.le_refl _) hb9)
          clear hI9 hb9
          go_wp2_with fail
          refine (nodes_any _ Y s w9 HV9.out).mono ?_
          rintro e w10 ⟨a10, n10, c10, rfl, hI10, hb10, -⟩
          rw [T1.out.2.1] at hI10
          rw [T1.out.1]
          have HK10 := Wc.hid hI10
          have HJ10 := Wc.hid (HJ9.out.keep hb10)
          have HI10 := Wc.hid (HI9.out.keep hb10)
          have HQ10 := Wc.hid (HQ9.out.keep hb10)
          have HM10 := Wc.hid (HM9.out.keep hb10)
          have HP10 := Wc.hid (HP9.out.keep hb10)
          have HO10 := Wc.hid (HO9.out.keep hb10)
          have HB10 := Wc.hid (Wc.step HB9.out (Nat.le_refl _) hb10)
          clear hI10 hb10
          go_wp2_with fail
          refine (ints_any _ _ _ _ _ HI10.out HQ10.out).mono ?_
          rintro e w11 ⟨rfl, hb11⟩
          rw [show (o == o) = true by simp]
          have HK11 := Wc.hid (HK10.out.keep hb11)
          have HJ11 := Wc.hid (HJ10.out.keep hb11)
          have HM11 := Wc.hid (HM10.out.keep hb11)
          have HP11 := Wc.hid (HP10.out.keep hb11)
          have HO11 := Wc.hid (HO10.out.keep hb11)
          have HB11 := Wc.hid (Wc.step HB10.out (Nat.le_refl _) hb11)
          clear hb11
          go_wp2_with fail
          refine (ints_any _ _ _ _ _ HJ11.out HM11.out).mono ?_
          rintro e w12 ⟨rfl, hb12⟩
          rw [show (m == m) = true by simp]
          have HK12 := Wc.hid (HK11.out.keep hb12)
          have HP12 := Wc.hid (HP11.out.keep hb12)
          have HO12 := Wc.hid (HO11.out.keep hb12)
          have HB12 := Wc.hid (Wc.step HB11.out (Nat.le_refl _) hb12)
          clear hb12
          go_wp2_with fail
          go_loopw [33] (fun u wr => ∃ t : Nat, u = .int .i64 t ∧ t ≤ N ∧ Hid (Below w12.heap.size w12 wr)) (fun u _ => N - (intOf u).toNat)
          case atStart => exact ⟨0, rfl, by omega, Wc.hid (Below.refl _ _)⟩
          case round =>
            obtain ⟨t, rfl, ht, RS⟩ := hrel
            by_cases hlt : t < N
            · obtain ⟨b, off, cap, he, hbl, hcells⟩ : ∃ b off cap, Value.slice al6 N cl6 = .slice (some ⟨b, off, none⟩) N cap ∧ b < w12.heap.size ∧ ∀ i, i < N → ∃ a' c', Wd.At w12 b (off + i * 3) (L6.getD i Wd.d0) a' c' := by
                rcases HO12.out.open with ⟨h0, aa, cc, h1, -⟩ | ⟨b, off, n', cap, h1, -, h3, -, -, -, h7, h8⟩
                · cases h1; omega
                · cases h1
                  exact ⟨b, off, _, rfl, h7, h8⟩
              cases he
              obtain ⟨a', c', hat⟩ := hcells t hlt
              have hat2 := hat.keep RS.out
              rw [HLN.out t hlt] at hat2
              obtain ⟨k0, k1, -⟩ := hat2
              rw [(HWP.out t).1] at k0
              rw [(HWP.out t).2] at k1
              have hg2 := Wb.drop_getD (K := K) (t := t) (by omega) 2
              have hg0 := Wb.drop_getD (K := K) (t := t) (by omega) 0
              have hin := T4.out t hlt
              rw [hg2] at k1 hin
              obtain ⟨b2, off2, cap2, he2, hbl2, hc2⟩ := in_open HP12.out (by rw [Wb.drop_len]; omega)
              rw [Wb.drop_len] at he2 hc2
              cases he2
              have hc3 := hc2 t (by omega)
              rw [hg0, ← RS.out.cell (p := ⟨b2, off2 + t, none⟩) hbl2] at hc3
              obtain ⟨q, hq⟩ : ∃ q : Int, ((2 + (K + t) : Nat) : Int) = q := ⟨_, rfl⟩
              rw [hq] at k1 hc3 hin
              have hhas := decide_eq_true hin
              have HKR := Wc.hid (HK12.out.keep RS.out)
              have ht2 : t < 198 - K := by omega
              clear hcells hat hg2 hg0 hin hc2 hq
              go_wp2_with fail
              go_quiet (first | (go_at_call 25; refine Wc.quiet_same (has_any _ _ _ v.nodes q _ (Wv.rv_drewN HKR.out _))) | fail)
              go_wp2_with fail
              go_roundw
              case rel => exact ⟨t + 1, by go_num, by omega, Wc.hid (below_drewN RS.out _)⟩
              case measure => simp [intOf]; omega
            · obtain rfl : t = N := by omega
              have HBF := Wc.hid (HB12.out.trans (RS.out.mono HB12.out.size))
              go_wp2_with fail
              refine (wakes_any _).mono ?_
              rintro e w13 ⟨rfl, hb13⟩
              have HB13 := Wc.hid (HBF.out.trans (hb13.mono HBF.out.size))
              clear hb13
              go_wp2_with fail
              go_ret
              exact ⟨rfl, HB13.out⟩
end Go.Proofs.Ytafpjnofccfmlaa
