/-
  BuildSame returns true.
-/
import Derived.Test.YtafpjnofccfmlaaCq
import Derived.Test.YtafpjnofccfmlaaCs
namespace Go.Proofs.Ytafpjnofccfmlaa
open Go.RowKit

theorem zb_eq : List.replicate 19200 (0 : Int) = Wb.zb := rfl
theorem zs_eq : List.replicate 512 (0 : Int) = Wb.zs := rfl

set_option maxRecDepth 100000 in
set_option maxHeartbeats 25600000 in
theorem same_any (aa : Option Addr) (na ca : Nat) (ab : Option Addr) (nb cb : Nat) (la lb : List (Int × Int)) (w : World) (hva : Wb.PrR w aa na ca la) (hvb : Wb.PrR w ab nb cb lb) :
    Calls Try.prog 5 #[.slice aa na ca, .slice ab nb cb] w fun e w' => e = .returned (.bool true) ∧ Below w.heap.size w w' := by
  have hca := hva.2.2.1
  have hna0 := hva.2.1
  have hcb := hvb.2.2.1
  have hnb0 := hvb.2.1
  have HA0 := Wc.hid hva
  have HB0 := Wc.hid hvb
  clear hva hvb
  by_cases hbig : 60 < na ∨ 60 < nb
  · by_cases h1 : 60 < na
    · go_enter Try.func5, Try.ntmps5
      go_wp2_with fail
      go_ret
      exact ⟨rfl, Below.refl _ _⟩
    · have h2 : 60 < nb := by omega
      go_enter Try.func5, Try.ntmps5
      go_wp2_with fail
      go_ret
      exact ⟨rfl, Below.refl _ _⟩
  have hna : na ≤ 60 := by omega
  have hnb : nb ≤ 60 := by omega
  clear hbig
  have HA := Wc.hid (HA0.out.pr (by omega))
  have HB := Wc.hid (HB0.out.pr (by omega))
  clear HA0 HB0 hca hcb hna0 hnb0
  have h60a : decide ((60 : Int) < (na : Int)) = false := decide_eq_false (by omega)
  have h60b : decide ((60 : Int) < (nb : Int)) = false := decide_eq_false (by omega)
  have hmk : ∀ w : World, (Instr.makeSlice 23 (.int .i64 512) (.int .i64 512)).run Try.prog w = .ok (.slice (some ⟨w.heap.size, 0, none⟩) 512 512) (w.alloc (.cells (madeCells #[.int .i64 0] 512) 3)) := fun w => makeI 512 (by omega) w
  have hmb : ∀ w : World, (Instr.makeSlice 22 (.int .i64 19200) (.int .i64 19200)).run Try.prog w = .ok (.slice (some ⟨w.heap.size, 0, none⟩) 19200 19200) (w.alloc (.cells (madeCells #[.int .u8 0] 19200) 5)) := fun w => makeN 19200 (by omega) w
  have hV0 := (made_ob 19200 (by omega) w).bs
  rw [zb_eq] at hV0
  have bA := (Below.refl w.heap.size w).alloc (Nat.le_refl _) (.cells (madeCells #[.int .u8 0] 19200) 5)
  have HV0 := Wc.hid hV0
  have HBA := Wc.hid bA
  have HA0 := Wc.hid (HA.out.keep bA)
  clear hV0 bA
  go_enter Try.func5, Try.ntmps5
  go_wp2_with fail
  obtain ⟨wA, hwA⟩ : ∃ wA, w.alloc (.cells (madeCells #[.int .u8 0] 19200) 5) = wA := ⟨_, rfl⟩
  have hs1w : wA.heap.size = w.heap.size + 1 := by rw [← hwA]; simp
  rw [hwA] at HV0 HBA HA0 ⊢
  obtain ⟨s1, hs1⟩ : ∃ s1, wA.heap.size = s1 := ⟨_, rfl⟩
  rw [hs1] at hs1w
  have HS1 := Wc.hid hs1
  have HS1W := Wc.hid hs1w
  clear hwA hs1 hs1w hmb
  refine (some_any aa na ca 50 la _ HA0.out (by omega)).mono ?_
  rintro e w1 ⟨gm, m0, rfl, hO1, hM1, hg1, hb1⟩
  have HB1 := Wc.hid (Wc.step HBA.out (Nat.le_refl _) hb1)
  rw [HS1.out] at hO1 hg1 hb1
  have HO1 := Wc.hid hO1
  have HM1 := Wc.hid hM1
  have HT1 := Wc.hid hb1
  have HG := Wc.hid hg1
  clear hO1 hM1 hb1 hg1
  go_wp2_with fail
  go_loopw [7] (fun u wr => ∃ (j : Nat) (m : List Int), u = .int .i64 j ∧ j ≤ 512 ∧ Hid (Wv.Ov (Value.int .i64) 3 s1 wr (.slice (some ⟨gm, 0, none⟩) 512 512) m) ∧ Hid (Wb.Mj j m 2 50 202 250) ∧ Hid (Below s1 wA wr) ∧ Hid (Below w.heap.size w wr)) (fun u _ => 512 - (intOf u).toNat)
  case atStart => exact ⟨0, m0, rfl, by omega, HO1, Wc.hid (Wb.Mj.zero HM1.out), HT1, HB1⟩
  case round =>
    obtain ⟨j, m, rfl, hj, RO, RM, RS, RB⟩ := hrel
    by_cases hlt : j < 512
    · have hc := ov_cell RO.out hlt
      have hf := ov_frozen j RO.out
      obtain ⟨y, hy⟩ : ∃ y, m.getD j 0 = y := ⟨_, rfl⟩
      have hr := RM.out.2.2 j (Nat.le_refl _)
      rw [hy] at hc hr
      have HY := Wc.hid hy
      have hj' : (j : Int) < 512 := by omega
      clear hy
      by_cases h0 : y = 0
      · subst h0
        go_wp2_with fail
        go_roundw
        case rel => exact ⟨j + 1, m, by go_num, by omega, RO, Wc.hid (RM.out.skip HY.out), RS, RB⟩
        case measure => simp [intOf]; omega
      · have hy2 : 0 < y := by omega
        have hy3 : y < 50 := by omega
        have HO2 := Wc.hid (ov_set j RO.out (y + 200))
        have HM2 := Wc.hid (RM.out.step (y := y + 200) (by omega))
        have HS2 := Wc.hid (RS.out.setCell (p := ⟨gm, j, none⟩) HG.out (.int .i64 (y + 200)))
        have HB2 := Wc.hid (RB.out.setCell (p := ⟨gm, j, none⟩) (by have := HG.out; have := HS1W.out; show w.heap.size ≤ gm; omega) (.int .i64 (y + 200)))
        clear hr h0
        go_wp2_with fail
        go_roundw
        case rel => exact ⟨j + 1, _, by go_num, by omega, HO2, HM2, HS2, HB2⟩
        case measure => simp [intOf]; omega
    · obtain rfl : j = 512 := by omega
      have HM := Wc.hid RM.out.done
      obtain ⟨wo, rfl⟩ : ∃ wo, wo = wr := ⟨wr, rfl⟩
      have HVo := Wc.hid (HV0.out.keep (w' := wo) (by rw [HS1.out]; exact RS.out))
      have HMo := RO
      have HBo := RB
      clear RO RM RS RB HT1 HB1 HO1 HM1 HV0
      go_wp2_with fail
      rw [show ((512 : Nat) : Int) = (512 : Int) from rfl]
      go_loopw [8, 9] (fun v u wr => ∃ (k : Nat) (a : Option Addr) (n c : Nat), v = .slice a n c ∧ u = .int .i64 ((2 + k : Nat) : Int) ∧ k ≤ 198 ∧ Hid (Wv.Ov (Value.int .i64) 3 wo.heap.size wr (.slice a n c) (Wb.rng 2 k)) ∧ Hid (Below wo.heap.size wo wr)) (fun _ u _ => 200 - (intOf u).toNat)
      case atStart => exact ⟨0, none, 0, 0, rfl, rfl, by omega, Wc.hid (Wv.Ov.nil _ _ _), Wc.hid (Below.refl _ _)⟩
      case round =>
        obtain ⟨k, a, n, c, rfl, rfl, hk, RO, RB⟩ := hrel
        by_cases hlt : k < 198
        · obtain ⟨a4, n4, c4, w4, hrun, hO, hb4, -⟩ := push_wide wr wr.heap.size wo.heap.size rfl (.slice a n c) (Wb.rng 2 k) ((2 + k : Nat) : Int) RO.out (by rw [Wb.rng_length]; omega) RB.out.size
          rw [← Wb.rng_succ] at hO
          have HRUN := Wc.hid hrun
          have HO := Wc.hid hO
          have HB2 := Wc.hid ((RB.out.alloc RB.out.size (.cells #[.int .i64 ((2 + k : Nat) : Int)] 3)).trans hb4)
          have hk2 : ((2 + k : Nat) : Int) < 200 := by omega
          clear hrun hO hb4
          go_wp2_with (at_builtin; refine Wv.wp_append HRUN.out rfl rfl rfl rfl ?_)
          go_roundw
          case rel => exact ⟨k + 1, a4, n4, c4, rfl, by go_num, by omega, HO, HB2⟩
          case measure => simp [intOf]; omega
        · obtain rfl : k = 198 := by omega
          have hn : n = 198 := by have := Wv.rv_len (ov_in RO.out); rw [Wb.rng_length] at this; exact this.symm
          subst hn
          have HL := Wc.hid (show Wd.In wr (.slice a 198 c) Wb.fr from ov_in RO.out)
          have HV2 := Wc.hid (HVo.out.keep RB.out)
          have HM2 := Wc.hid (HMo.out.keep RB.out)
          have HB2 := Wc.hid (HBo.out.trans (RB.out.mono HBo.out.size))
          have HMw := Wc.hid (HM.out.wide (lo' := 202) (hi' := 300) (by decide) (by decide))
          clear RO RB HVo HMo HBo
          go_wp2_with fail
          refine (tree_any _ 0 _ _ _ _ _ _ Wb.zb m Wb.fr _ HV2.out (ov_in HM2.out) HL.out).mono ?_
          rintro e w3 ⟨hb3, hy, -⟩
          have hld := Wb.first_laid HMw.out
          obtain ⟨al, cl, ar, cr, rfl, hO3, hP3⟩ := hy hld.err
          obtain ⟨u, hfst⟩ := Wb.first_fst HMw.out
          have hst := hld.steps
          rw [Wb.zb_len] at hst
          obtain ⟨K, hK⟩ : ∃ K, Wb.needN Wb.zb 0 m = K := ⟨_, rfl⟩
          rw [hK] at hO3 hP3 hfst hst ⊢
          obtain ⟨L, hL⟩ : ∃ L, Wb.ios Wb.fr (Wb.new Wb.zb 0 m (Wt.treS Wb.zb 0) Wb.fr) K = L := ⟨_, rfl⟩
          rw [hL] at hO3 hfst hst
          obtain ⟨X, hX⟩ : ∃ X, Wd.app Wb.zb L = X := ⟨_, rfl⟩
          obtain ⟨r, hr⟩ : ∃ r, Wb.root Wb.zb 0 m (Wt.treS Wb.zb 0) Wb.fr = r := ⟨_, rfl⟩
          rw [hr] at hfst ⊢
          rw [hX] at hfst
          rw [Wb.fr_len] at hP3 ⊢
          have HFST := Wc.hid hfst
          have HST := Wc.hid hst
          have HX := Wc.hid hX
          have HV3 := Wc.hid (HV2.out.keep hb3)
          have HM3 := Wc.hid (HM2.out.keep hb3)
          have HO3 := Wc.hid hO3
          have HP3 := Wc.hid hP3
          have HB3 := Wc.hid (Wc.step HB2.out (Nat.le_refl _) hb3)
          clear hb3 hy hld hO3 hP3 hfst hst hK hL hX hr
          go_wp2_with fail
          refine (apply_ob _ 19200 19200 al K cl Wb.zb L w3 HV3.out HO3.out.is HST.out).mono ?_
          rintro e w4 ⟨g4, rfl, -, hO4, hb4⟩
          rw [HX.out] at hO4
          have HV4 := Wc.hid hO4.bs
          have HM4 := Wc.hid (HM3.out.keep hb4)
          have HP4 := Wc.hid (HP3.out.keep hb4)
          have HB4 := Wc.hid (Wc.step HB3.out (Nat.le_refl _) hb4)
          clear hO4 hb4
          go_wp2_with fail
          refine (needs_any _ r _ _ _ X m w4 HV4.out (ov_in HM4.out)).mono ?_
          rintro e w5 ⟨hb5, hy, -⟩
          obtain ⟨q1, q2, q3, q4⟩ := HFST.out.same HMw.out
          obtain rfl := hy q1
          rw [q2]
          have Q3 := Wc.hid q3
          have Q4 := Wc.hid q4
          have Q2 := Wc.hid q2
          have HV5 := Wc.hid (HV4.out.keep hb5)
          have HM5 := Wc.hid (HM4.out.keep hb5)
          have HP5 := Wc.hid (HP4.out.keep hb5)
          have HB5 := Wc.hid (Wc.step HB4.out (Nat.le_refl _) hb5)
          clear hy hb5 q1 q2 q3 q4
          go_wp2_with fail
          refine (tree_any _ r _ _ _ _ _ _ X m (Wb.fr.drop K) w5 HV5.out (ov_in HM5.out) (ov_in HP5.out)).mono ?_
          rintro e w6 ⟨hb6, hy, -⟩
          obtain ⟨al6, cl6, ar6, cr6, rfl, -, -⟩ := hy Q3.out
          rw [Q2.out, Q4.out]
          have HV6 := Wc.hid (HV5.out.keep hb6)
          have HM6 := Wc.hid (HM5.out.keep hb6)
          have HB6 := Wc.hid (Wc.step HB5.out (Nat.le_refl _) hb6)
          have hz6 := made_ov 512 (by omega) w6
          have bz6 := (Below.refl w6.heap.size w6).alloc (Nat.le_refl _) (.cells (madeCells #[.int .i64 0] 512) 3)
          rw [zs_eq] at hz6
          have HZ6 := Wc.hid (ov_in hz6)
          have HV7 := Wc.hid (HV6.out.keep bz6)
          have HM7 := Wc.hid (HM6.out.keep bz6)
          have HB7 := Wc.hid (Wc.step HB6.out (Nat.le_refl _) bz6)
          obtain ⟨N6, hN6⟩ : ∃ N6, (Wb.fr.drop K).length - 0 = N6 := ⟨_, rfl⟩
          rw [hN6]
          clear hy hb6 hz6 bz6 hN6
          go_wp2_with fail
          refine (needs_any _ r _ _ _ X Wb.zs _ HV7.out HZ6.out).mono ?_
          rintro e w8 ⟨hb8, hy, -⟩
          obtain ⟨q1, q2, q3, q4⟩ := HFST.out.none
          obtain rfl := hy q1
          rw [q2]
          have Q5 := Wc.hid q3
          have Q6 := Wc.hid q4
          have Q7 := Wc.hid q2
          have hz8 := made_ov 512 (by omega) w8
          have bz8 := (Below.refl w8.heap.size w8).alloc (Nat.le_refl _) (.cells (madeCells #[.int .i64 0] 512) 3)
          rw [zs_eq] at hz8
          have HZ8 := Wc.hid (ov_in hz8)
          have bb := Wc.step hb8 (Nat.le_refl _) bz8
          have HV9 := Wc.hid (HV7.out.keep bb)
          have HM9 := Wc.hid (HM7.out.keep bb)
          have HB9 := Wc.hid (Wc.step HB7.out (Nat.le_refl _) bb)
          clear hy hb8 q1 q2 q3 q4 hz8 bz8 bb
          go_wp2_with fail
          refine (tree_any _ r _ _ _ _ _ _ X Wb.zs [] _ HV9.out HZ8.out (Wv.Rv.nil _)).mono ?_
          rintro e w10 ⟨hb10, hy, -⟩
          obtain ⟨al10, cl10, ar10, cr10, rfl, -, -⟩ := hy Q5.out
          rw [Q7.out, Q6.out]
          have HV10 := Wc.hid (HV9.out.keep hb10)
          have HM10 := Wc.hid (HM9.out.keep hb10)
          have HB10 := Wc.hid (Wc.step HB9.out (Nat.le_refl _) hb10)
          clear hy hb10
          go_wp2_with fail
          refine (twinInts_own _ m w10 (ov_in HM10.out) (.inr ⟨_, _, _, rfl⟩)).mono ?_
          rintro e w11 ⟨ac, nc, cc, rfl, hO11, hb11⟩
          have hncl := Wv.rv_len (ov_in hO11)
          rw [HMw.out.1] at hncl
          subst hncl
          obtain ⟨gc, cc', hce, hgc⟩ := ov_form hO11 (by rw [HMw.out.1]; decide)
          rw [HMw.out.1] at hce
          cases hce
          obtain ⟨bc, hbc⟩ : ∃ bc, w10.heap.size = bc := ⟨_, rfl⟩
          rw [hbc] at hO11 hgc hb11
          have HBC := Wc.hid hbc
          have HGC := Wc.hid hgc
          have HC11 := Wc.hid hO11
          have HS11 := Wc.hid hb11
          have HB11 := Wc.hid (HB10.out.trans (hb11.mono (by rw [← hbc]; exact HB10.out.size)))
          clear hO11 hgc hb11 hbc
          go_wp2_with fail
          go_loopw [29, 30] (fun z u wr => ∃ (k q : Nat) (cl' : List Int), z = .int .i64 q ∧ u = .int .i64 k ∧ k ≤ nb ∧ q ≤ k ∧ Hid (Wv.Ov (Value.int .i64) 3 bc wr (.slice (some ⟨gc, 0, none⟩) 512 cc) cl') ∧ Hid (Wb.Mp cl' 202 300) ∧ Hid (∀ i, cl'.getD i 0 = m.getD i 0 ∨ 260 ≤ cl'.getD i 0) ∧ Hid (Wb.chg cl' m 512 = q) ∧ Hid (Below bc w10 wr) ∧ Hid (Below w.heap.size w wr)) (fun _ u _ => nb - (intOf u).toNat)
          case atStart => exact ⟨0, 0, m, rfl, rfl, by omega, by omega, HC11, HMw, Wc.hid (fun i => .inl rfl), Wc.hid (Wb.chg_same (fun _ _ => rfl) 512 (Nat.le_refl _)), HS11, HB11⟩
          case round =>
            obtain ⟨k, q, cl', rfl, rfl, hk, hqk, RO, RM, RI, RC, RS, RB⟩ := hrel
            by_cases hlt : k < nb
            · obtain ⟨_, _, _, he, -, hnc, hcc, -, hpos⟩ := HB.out
              cases he
              obtain ⟨b, off, rfl, hbl, hcells⟩ := hpos (by omega)
              obtain ⟨h1, -⟩ := hcells k hlt
              obtain ⟨x, hx⟩ : ∃ x, (lb.getD k (0, 0)).1 = x := ⟨_, rfl⟩
              rw [hx, ← RB.out.cell (p := ⟨b, off + k * 2, none⟩) hbl] at h1
              obtain ⟨A, hA, eA⟩ := lowN x 512 (by omega) (by omega)
              have eA : wrap64 ((IntKind.u64.wrap x).tmod 512) = (A : Int) := eA
              have eA2 : IntKind.i64.wrap ((IntKind.u64.wrap x).tmod 512) = (A : Int) := (wrap_wrap _).trans eA
              have hcA := ov_cell RO.out hA
              have hfA := ov_frozen A RO.out
              have hmA := ov_cell (HM10.out.keep (by rw [HBC.out]; exact RS.out)) hA
              have hmr := HM.out.2 A
              have hstep := Wb.chg_set (c := cl') (m := m) (A := A) (y := 260 + (k : Int) % 30) (by rw [RM.out.1]; exact hA) hA (by omega)
              have HO2 : Hid (∀ n, Wv.Ov (Value.int .i64) 3 bc ((wr.drewN n).setCell ⟨gc, A, none⟩ (.int .i64 (260 + (k : Int) % 30))) (.slice (some ⟨gc, 0, none⟩) 512 cc) (cl'.set A (260 + (k : Int) % 30))) := Wc.hid fun n => ov_set A (RO.out.keep (below_drewN (Below.refl _ _) n)) _
              have HM2 := Wc.hid (RM.out.set A (y := 260 + (k : Int) % 30) (.inr (by omega)))
              have HI2 : Hid (∀ i, (cl'.set A (260 + (k : Int) % 30)).getD i 0 = m.getD i 0 ∨ 260 ≤ (cl'.set A (260 + (k : Int) % 30)).getD i 0) := Wc.hid fun i => by
                by_cases e : A = i
                · subst e
                  right
                  rw [List.getD_eq_getElem?_getD, List.getElem?_set_self (by rw [RM.out.1]; exact hA)]
                  show 260 ≤ 260 + (k : Int) % 30
                  omega
                · rw [List.getD_eq_getElem?_getD, List.getElem?_set_ne e, ← List.getD_eq_getElem?_getD]; exact RI.out i
              have HS2 : Hid (∀ n, Below bc w10 ((wr.drewN n).setCell ⟨gc, A, none⟩ (.int .i64 (260 + (k : Int) % 30)))) := Wc.hid fun n => (below_drewN RS.out n).setCell (p := ⟨gc, A, none⟩) HGC.out _
              have HB2 : Hid (∀ n, Below w.heap.size w ((wr.drewN n).setCell ⟨gc, A, none⟩ (.int .i64 (260 + (k : Int) % 30)))) := Wc.hid fun n => (below_drewN RB.out n).setCell (p := ⟨gc, A, none⟩) (by have := HGC.out; have := HB10.out.size; have := HBC.out; show w.heap.size ≤ gc; omega) _
              obtain ⟨y, hy⟩ : ∃ y, cl'.getD A 0 = y := ⟨_, rfl⟩
              obtain ⟨z, hz⟩ : ∃ z, m.getD A 0 = z := ⟨_, rfl⟩
              rw [hy] at hcA hstep
              rw [hz] at hmA hstep
              rw [RC.out] at hstep
              have HST2 := Wc.hid hstep
              clear hpos hcells hx hmr hstep hy hz
              by_cases hyz : y = z
              · have hq : (y == z) = true := by simpa using hyz
                have HYZ := Wc.hid (HST2.out.trans (by rw [if_pos hyz]))
                clear hyz HST2
                go_wp2_with fail
                go_quiet (fail)
                go_wp2_with fail
                go_roundw
                case rel => exact ⟨k + 1, q + 1, _, by go_num, by go_num, by omega, by omega, Wc.hid (HO2.out _), HM2, HI2, HYZ, Wc.hid (HS2.out _), Wc.hid (HB2.out _)⟩
                case measure => simp [intOf]; omega
              · have hq : (y == z) = false := by simpa using hyz
                have HYZ := Wc.hid (HST2.out.trans (by rw [if_neg hyz]))
                clear hyz HST2
                go_wp2_with fail
                go_quiet (fail)
                go_wp2_with fail
                go_roundw
                case rel => exact ⟨k + 1, q, _, rfl, by go_num, by omega, by omega, Wc.hid (HO2.out _), HM2, HI2, HYZ, Wc.hid (HS2.out _), Wc.hid (HB2.out _)⟩
                case measure => simp [intOf]; omega
            · obtain rfl : k = nb := by omega
              have HV12 := Wc.hid (HV10.out.keep (w' := wr) (by rw [HBC.out]; exact RS.out))
              obtain ⟨p1, p2, p3, p4⟩ := HFST.out.chgd RM.out RI.out
              rw [RC.out] at p2 p4
              have P1 := Wc.hid p1
              obtain ⟨N, hN⟩ : ∃ N, Wb.needN X r cl' = N := ⟨_, rfl⟩
              rw [hN] at p2 p3 p4
              have HN := Wc.hid hN
              clear p1 hN
              go_wp2_with fail
              refine (needs_any _ r _ _ _ X cl' wr HV12.out (ov_in RO.out)).mono ?_
              rintro e w13 ⟨hb13, hy, -⟩
              obtain rfl := hy P1.out
              rw [HN.out]
              have HB13 := Wc.hid (RB.out.trans (hb13.mono RB.out.size))
              clear hb13 hy
              have hq60 : q ≤ 60 := by omega
              by_cases hq0 : q = 0
              · subst hq0
                obtain rfl : N = 0 := p4.1 rfl
                clear p2 p3 p4 hk hqk hq60
                go_wp2_with fail
                refine (wakes_any _).mono ?_
                rintro e w14 ⟨rfl, hb14⟩
                have HB14 := Wc.hid (HB13.out.trans (hb14.mono HB13.out.size))
                clear hb14
                go_wp2_with fail
                go_ret
                exact ⟨rfl, HB14.out⟩
              · have hn0 : ¬ N = 0 := fun h => hq0 (p4.2 h)
                have g1 : ((q : Int) == 0) = false := by simpa using hq0
                have g2 : ((N : Int) == 0) = false := by simpa using hn0
                have g3 : (N : Int) ≤ 3 * (q : Int) := by omega
                have g4 : (N : Int) ≤ 73 := by omega
                obtain ⟨Q, hQ⟩ : ∃ Q : Int, (q : Int) = Q := ⟨_, rfl⟩
                obtain ⟨M, hM2⟩ : ∃ M : Int, (N : Int) = M := ⟨_, rfl⟩
                have hQ60 : 0 ≤ Q ∧ Q ≤ 60 := by omega
                rw [hQ] at g1 g3 ⊢
                rw [hM2] at g2 g3 g4 ⊢
                clear hk hqk p2 p3 p4 hQ hM2 hq0 hn0 hq60
                go_wp2_with fail
                refine (wakes_any _).mono ?_
                rintro e w14 ⟨rfl, hb14⟩
                have HB14 := Wc.hid (HB13.out.trans (hb14.mono HB13.out.size))
                clear hb14
                go_wp2_with fail
                go_ret
                exact ⟨rfl, HB14.out⟩
end Go.Proofs.Ytafpjnofccfmlaa
