/-
  What woodcutlaw14.free returns: may new nodes stand on all of the blocks?
-/
import Derived.Test.YtafpjnofccfmlaaCk
import Derived.BigQuiet
namespace Go.Proofs.Ytafpjnofccfmlaa
open Go.RowKit

set_option maxRecDepth 100000 in
set_option maxHeartbeats 6400000 in
theorem free_any (al : Option Addr) (nl cl : Nat) (am : Option Addr) (cm : Nat) (an : Option Addr) (nn cn : Nat) (aw : Option Addr) (cw : Nat) (l m nodes was : List Int) (n : Nat) (w : World)
   (hl : Wd.In w (.slice al nl cl) l) (hm : Wd.In w (.slice am 512 cm) m) (hn : Wd.In w (.slice an nn cn) nodes) (hw : Wd.In w (.slice aw 512 cw) was) :
    Calls Try.prog 19 #[.slice al nl cl, .slice am 512 cm, .slice an nn cn, .slice aw 512 cw, .int .i64 (n : Int)] w fun e w' => e = .returned (.bool (Wb.usB l (nodes ++ was ++ m) n)) ∧ Below w.heap.size w w' := by
  have HLL := Wc.hid (Wv.rv_len hl)
  have HML := Wc.hid (Wv.rv_len hm)
  have HNL := Wc.hid (Wv.rv_len hn)
  have HWL := Wc.hid (Wv.rv_len hw)
  have hnl : nl ≤ 17592186044416 := by obtain ⟨_, _, _, h1, _, _, _, h5, _⟩ := hl; cases h1; exact h5
  have hnn : nn ≤ 17592186044416 := by obtain ⟨_, _, _, h1, _, _, _, h5, _⟩ := hn; cases h1; exact h5
  obtain ⟨bm, om, km, em, hbm, hcm⟩ := in_open hm (by rw [HML.out]; decide)
  obtain ⟨bw, ow, kw, ew, hbw, hcw⟩ := in_open hw (by rw [HWL.out]; decide)
  rw [HML.out] at em hcm
  rw [HWL.out] at ew hcw
  cases em
  cases ew
  obtain ⟨h, hh⟩ : ∃ h, nodes ++ was ++ m = h := ⟨_, rfl⟩
  rw [hh]
  have HH := Wc.hid hh
  have HL := Wc.hid hl
  have HN := Wc.hid hn
  have HBM := Wc.hid hbm
  have HBW := Wc.hid hbw
  have HCM := Wc.hid hcm
  have HCW := Wc.hid hcw
  clear hl hm hn hw hbm hcm hbw hcw hh
  go_enter Try.func19, Try.ntmps19
  go_wp2_with fail
  go_loopw [11] (fun u wr => ∃ j : Nat, u = .int .i64 j ∧ j ≤ nl ∧ Hid (∀ i, i < j → Wb.usj l h n i = true) ∧ Hid (Below w.heap.size w wr)) (fun u _ => nl - (intOf u).toNat)
  case atStart => exact ⟨0, rfl, Nat.zero_le _, Wc.hid fun i hi => by omega, Wc.hid (Below.refl _ _)⟩
  case round =>
    obtain ⟨j, rfl, hj, HU, HB⟩ := hrel
    obtain ⟨wo, rfl⟩ : ∃ wo, wo = wr := ⟨wr, rfl⟩
    by_cases hlt : j < nl
    · obtain ⟨b, off, cap, he, hbl, hcells⟩ := in_open HL.out (by rw [HLL.out]; omega)
      rw [HLL.out] at he hcells
      cases he
      obtain ⟨x, hx⟩ : ∃ x, l.getD j 0 = x := ⟨_, rfl⟩
      have hcx := (HB.out.cell (p := ⟨b, off + j, none⟩) hbl).trans (hcells j hlt)
      rw [hx] at hcx
      have hlow := Wb.usj_low j HU.out
      have hus : Wb.usj l h n j = (decide (Wb.pre l j < x) && decide (x < (n : Int)) && !decide (x ∈ h)) := by unfold Wb.usj; rw [hx]
      have HNO : Hid (Wb.usj l h n j = false → Wb.usB l h n = false) := Wc.hid fun e => Wb.usB_no (by rw [HLL.out]; exact hlt) e
      have HUS := Wc.hid hus
      have HX := Wc.hid hx
      have HCL := Wc.hid hcells
      have HBLL := Wc.hid hbl
      have HLTJ := Wc.hid hlt
      have HIN : Hid (x ∈ h → Wb.usB l h n = false) := Wc.hid fun e => HNO.out (by rw [HUS.out, decide_eq_true e]; simp)
      clear hcells hbl hx
      by_cases c1 : x < 2
      · have d1 : decide (x < 2) = true := decide_eq_true c1
        have hno := Wc.hid (HNO.out (by rw [hus, decide_eq_false (show ¬ Wb.pre l j < x by omega)]; rfl))
        clear hus hlow
        go_wp2_with fail
        go_quiet (fail)
        go_wp2_with fail
        go_ret
        exact ⟨by rw [hno.out]; rfl, below_drewN HB.out _⟩
      · have d1 : decide (x < 2) = false := decide_eq_false c1
        by_cases c2 : (n : Int) ≤ x
        · have d2 : decide ((n : Int) ≤ x) = true := decide_eq_true c2
          have hno := Wc.hid (HNO.out (by rw [hus, decide_eq_false (show ¬ x < (n : Int) by omega), Bool.and_false]; rfl))
          clear hus hlow
          go_wp2_with fail
          go_quiet (fail)
          go_wp2_with fail
          go_ret
          exact ⟨by rw [hno.out]; rfl, below_drewN HB.out _⟩
        · have d2 : decide ((n : Int) ≤ x) = false := decide_eq_false c2
          have HC2 := Wc.hid (show x < (n : Int) by omega)
          by_cases c0 : j = 0
          · have d0 : decide (0 < j) = false := decide_eq_false (by omega)
            have d0' : decide ((0 : Int) < (j : Int)) = false := decide_eq_false (by omega)
            have hpre : Wb.pre l j < x := by unfold Wb.pre; rw [if_pos c0]; omega
            clear c0
            have HLTX := Wc.hid hpre
            clear hpre
            clear hus hlow
            go_wp2_with fail
            go_quiet (fail)
            go_wp2_with fail
            clear hcx
            go_loopw [12] (fun u ws => ∃ k : Nat, u = .int .i64 k ∧ k ≤ nn ∧ Hid (∀ i, i < k → ¬ nodes.getD i 0 = x) ∧ Hid (Below w.heap.size w ws)) (fun u _ => nn - (intOf u).toNat)
            case atStart => exact ⟨0, rfl, Nat.zero_le _, Wc.hid fun i hi => by omega, Wc.hid (below_drewN HB.out _)⟩
            case round =>
              clear d1 d2 d0 d0'
              obtain ⟨k, rfl, hk, HK, HB2⟩ := hrel
              have hcx2 := (HB2.out.cell (p := ⟨b, off + j, none⟩) HBLL.out).trans (HCL.out (j) HLTJ.out)
              rw [HX.out] at hcx2
              have hjl := HLTJ.out
              by_cases hkn : k < nn
              · obtain ⟨b2, off2, cap2, he2, hbl2, hcells2⟩ := in_open HN.out (by rw [HNL.out]; omega)
                rw [HNL.out] at he2 hcells2
                cases he2
                have hcz := (HB2.out.cell (p := ⟨b2, off2 + k, none⟩) hbl2).trans (hcells2 k hkn)
                obtain ⟨z, hz⟩ : ∃ z, nodes.getD k 0 = z := ⟨_, rfl⟩
                rw [hz] at hcz
                have HZ := Wc.hid hz
                clear hbl2 hcells2 hz
                by_cases hzx : z = x
                · have d1 : (z == x) = true := by simpa using hzx
                  have hno := Wc.hid (HIN.out (by
                    rw [← HH.out, ← hzx, ← HZ.out]
                    exact List.mem_append_left _ (List.mem_append_left _ (Wb.getD_in (by rw [HNL.out]; exact hkn)))))
                  clear hzx
                  go_wp2_with fail
                  go_quiet (fail)
                  go_wp2_with fail
                  go_ret
                  exact ⟨by rw [hno.out]; rfl, below_drewN HB2.out _⟩
                · have d1 : (z == x) = false := by simpa using hzx
                  have HK2 : Hid (∀ i, i < k + 1 → ¬ nodes.getD i 0 = x) := Wc.hid fun i hi => by
                    by_cases hik : i = k
                    · subst hik; rw [HZ.out]; exact hzx
                    · exact HK.out i (by omega)
                  clear hzx
                  go_wp2_with fail
                  go_quiet (fail)
                  go_wp2_with fail
                  go_roundw
                  case rel => exact ⟨k + 1, by go_num, by omega, HK2, Wc.hid (below_drewN HB2.out _)⟩
                  case measure => simp [intOf]; omega
              · obtain rfl : k = nn := by omega
                clear hcx2
                go_wp2_with fail
                go_loopw [13] (fun u ws => ∃ q : Nat, u = .int .i64 q ∧ q ≤ 512 ∧ Hid (∀ i, i < q → ¬ m.getD i 0 = x ∧ ¬ was.getD i 0 = x) ∧ Hid (Below w.heap.size w ws)) (fun u _ => 512 - (intOf u).toNat)
                case atStart => exact ⟨0, rfl, Nat.zero_le _, Wc.hid fun i hi => by omega, HB2⟩
                case round =>
                  clear HB2
                  obtain ⟨q, rfl, hq, HQ, HB3⟩ := hrel
                  by_cases hq5 : q < 512
                  · have hcx3 := (HB3.out.cell (p := ⟨b, off + j, none⟩) HBLL.out).trans (HCL.out (j) HLTJ.out)
                    rw [HX.out] at hcx3
                    have hcm := (HB3.out.cell (p := ⟨bm, om + q, none⟩) HBM.out).trans (HCM.out q hq5)
                    have hcw := (HB3.out.cell (p := ⟨bw, ow + q, none⟩) HBW.out).trans (HCW.out q hq5)
                    obtain ⟨z1, hz1⟩ : ∃ z, m.getD q 0 = z := ⟨_, rfl⟩
                    obtain ⟨z2, hz2⟩ : ∃ z, was.getD q 0 = z := ⟨_, rfl⟩
                    rw [hz1] at hcm
                    rw [hz2] at hcw
                    have HZ1 := Wc.hid hz1
                    have HZ2 := Wc.hid hz2
                    clear hz1 hz2
                    by_cases e1 : z1 = x
                    · have d1 : (z1 == x) = true := by simpa using e1
                      have hno := Wc.hid (HIN.out (by
                        rw [← HH.out, ← e1, ← HZ1.out]
                        exact List.mem_append_right _ (Wb.getD_in (by rw [HML.out]; exact hq5))))
                      clear e1
                      go_wp2_with fail
                      go_quiet (fail)
                      go_wp2_with fail
                      go_ret
                      exact ⟨by rw [hno.out]; rfl, below_drewN HB3.out _⟩
                    · have d1 : (z1 == x) = false := by simpa using e1
                      by_cases e2 : z2 = x
                      · have d2 : (z2 == x) = true := by simpa using e2
                        have hno := Wc.hid (HIN.out (by
                          rw [← HH.out, ← e2, ← HZ2.out]
                          exact List.mem_append_left _ (List.mem_append_right _ (Wb.getD_in (by rw [HWL.out]; exact hq5)))))
                        clear e1 e2
                        go_wp2_with fail
                        go_quiet (fail)
                        go_wp2_with fail
                        go_ret
                        exact ⟨by rw [hno.out]; rfl, below_drewN HB3.out _⟩
                      · have d2 : (z2 == x) = false := by simpa using e2
                        have HQ2 : Hid (∀ i, i < q + 1 → ¬ m.getD i 0 = x ∧ ¬ was.getD i 0 = x) := Wc.hid fun i hi => by
                          by_cases hik : i = q
                          · subst hik; rw [HZ1.out, HZ2.out]; exact ⟨e1, e2⟩
                          · exact HQ.out i (by omega)
                        clear e1 e2
                        go_wp2_with fail
                        go_quiet (fail)
                        go_wp2_with fail
                        go_roundw
                        case rel => exact ⟨q + 1, by go_num, by omega, HQ2, Wc.hid (below_drewN HB3.out _)⟩
                        case measure => simp [intOf]; omega
                  · obtain rfl : q = 512 := by omega
                    have hnin : ¬ x ∈ h := by
                      rw [← HH.out]
                      intro hx
                      rcases List.mem_append.1 hx with hx | hx
                      · rcases List.mem_append.1 hx with hx | hx
                        · obtain ⟨i, hi, he⟩ := Wb.in_getD hx
                          exact HK.out i (by rw [HNL.out] at hi; exact hi) he
                        · obtain ⟨i, hi, he⟩ := Wb.in_getD hx
                          exact (HQ.out i (by rw [HWL.out] at hi; exact hi)).2 he
                      · obtain ⟨i, hi, he⟩ := Wb.in_getD hx
                        exact (HQ.out i (by rw [HML.out] at hi; exact hi)).1 he
                    have hyes : Hid (∀ i, i < j + 1 → Wb.usj l h n i = true) := Wc.hid fun i hi => by
                      by_cases hij : i = j
                      · rw [hij, HUS.out, decide_eq_true HLTX.out, decide_eq_true (show x < (n : Int) from HC2.out), decide_eq_false hnin]; rfl
                      · exact HU.out i (by omega)
                    clear hnin
                    go_wp2_with fail
                    go_roundw
                    case rel => exact ⟨j + 1, by go_num, by omega, hyes, HB3⟩
                    case measure => simp [intOf]; omega
          · obtain ⟨i, hij⟩ : ∃ i, j = i + 1 := ⟨j - 1, by omega⟩
            have hji : (j : Int) - 1 = (i : Int) := by omega
            have hil : i < nl := by omega
            obtain ⟨y, hy⟩ : ∃ y, l.getD i 0 = y := ⟨_, rfl⟩
            have hcy := (HB.out.cell (p := ⟨b, off + i, none⟩) HBLL.out).trans (HCL.out i hil)
            rw [hy] at hcy
            have hpy : Wb.pre l j = y := by unfold Wb.pre; rw [if_neg c0, hij, Nat.add_sub_cancel]; exact hy
            have d0 : decide (0 < j) = true := decide_eq_true (by omega)
            have d0' : decide ((0 : Int) < (j : Int)) = true := decide_eq_true (by omega)
            clear hy hij c0
            by_cases c3 : x ≤ y
            · have d3 : decide (x ≤ y) = true := decide_eq_true c3
              have hno := Wc.hid (HNO.out (by rw [hus, hpy, decide_eq_false (show ¬ y < x by omega)]; rfl))
              clear hus hlow hpy
              go_wp2_with fail
              go_quiet (fail)
              go_wp2_with fail
              go_ret
              exact ⟨by rw [hno.out]; rfl, below_drewN HB.out _⟩
            · have d3 : decide (x ≤ y) = false := decide_eq_false c3
              have hpre : Wb.pre l j < x := by rw [hpy]; omega
              clear hpy
              have HLTX := Wc.hid hpre
              clear hpre
              clear hus hlow
              go_wp2_with fail
              go_quiet (fail)
              go_wp2_with fail
              clear hcx
              go_loopw [12] (fun u ws => ∃ k : Nat, u = .int .i64 k ∧ k ≤ nn ∧ Hid (∀ i, i < k → ¬ nodes.getD i 0 = x) ∧ Hid (Below w.heap.size w ws)) (fun u _ => nn - (intOf u).toNat)
              case atStart => exact ⟨0, rfl, Nat.zero_le _, Wc.hid fun i hi => by omega, Wc.hid (below_drewN HB.out _)⟩
              case round =>
                clear d1 d2 d3 d0 d0' hcy hji hil
                obtain ⟨k, rfl, hk, HK, HB2⟩ := hrel
                have hcx2 := (HB2.out.cell (p := ⟨b, off + j, none⟩) HBLL.out).trans (HCL.out (j) HLTJ.out)
                rw [HX.out] at hcx2
                have hjl := HLTJ.out
                by_cases hkn : k < nn
                · obtain ⟨b2, off2, cap2, he2, hbl2, hcells2⟩ := in_open HN.out (by rw [HNL.out]; omega)
                  rw [HNL.out] at he2 hcells2
                  cases he2
                  have hcz := (HB2.out.cell (p := ⟨b2, off2 + k, none⟩) hbl2).trans (hcells2 k hkn)
                  obtain ⟨z, hz⟩ : ∃ z, nodes.getD k 0 = z := ⟨_, rfl⟩
                  rw [hz] at hcz
                  have HZ := Wc.hid hz
                  clear hbl2 hcells2 hz
                  by_cases hzx : z = x
                  · have d1 : (z == x) = true := by simpa using hzx
                    have hno := Wc.hid (HIN.out (by
                      rw [← HH.out, ← hzx, ← HZ.out]
                      exact List.mem_append_left _ (List.mem_append_left _ (Wb.getD_in (by rw [HNL.out]; exact hkn)))))
                    clear hzx
                    go_wp2_with fail
                    go_quiet (fail)
                    go_wp2_with fail
                    go_ret
                    exact ⟨by rw [hno.out]; rfl, below_drewN HB2.out _⟩
                  · have d1 : (z == x) = false := by simpa using hzx
                    have HK2 : Hid (∀ i, i < k + 1 → ¬ nodes.getD i 0 = x) := Wc.hid fun i hi => by
                      by_cases hik : i = k
                      · subst hik; rw [HZ.out]; exact hzx
                      · exact HK.out i (by omega)
                    clear hzx
                    go_wp2_with fail
                    go_quiet (fail)
                    go_wp2_with fail
                    go_roundw
                    case rel => exact ⟨k + 1, by go_num, by omega, HK2, Wc.hid (below_drewN HB2.out _)⟩
                    case measure => simp [intOf]; omega
                · obtain rfl : k = nn := by omega
                  clear hcx2
                  go_wp2_with fail
                  go_loopw [13] (fun u ws => ∃ q : Nat, u = .int .i64 q ∧ q ≤ 512 ∧ Hid (∀ i, i < q → ¬ m.getD i 0 = x ∧ ¬ was.getD i 0 = x) ∧ Hid (Below w.heap.size w ws)) (fun u _ => 512 - (intOf u).toNat)
                  case atStart => exact ⟨0, rfl, Nat.zero_le _, Wc.hid fun i hi => by omega, HB2⟩
                  case round =>
                    clear HB2
                    obtain ⟨q, rfl, hq, HQ, HB3⟩ := hrel
                    by_cases hq5 : q < 512
                    · have hcx3 := (HB3.out.cell (p := ⟨b, off + j, none⟩) HBLL.out).trans (HCL.out (j) HLTJ.out)
                      rw [HX.out] at hcx3
                      have hcm := (HB3.out.cell (p := ⟨bm, om + q, none⟩) HBM.out).trans (HCM.out q hq5)
                      have hcw := (HB3.out.cell (p := ⟨bw, ow + q, none⟩) HBW.out).trans (HCW.out q hq5)
                      obtain ⟨z1, hz1⟩ : ∃ z, m.getD q 0 = z := ⟨_, rfl⟩
                      obtain ⟨z2, hz2⟩ : ∃ z, was.getD q 0 = z := ⟨_, rfl⟩
                      rw [hz1] at hcm
                      rw [hz2] at hcw
                      have HZ1 := Wc.hid hz1
                      have HZ2 := Wc.hid hz2
                      clear hz1 hz2
                      by_cases e1 : z1 = x
                      · have d1 : (z1 == x) = true := by simpa using e1
                        have hno := Wc.hid (HIN.out (by
                          rw [← HH.out, ← e1, ← HZ1.out]
                          exact List.mem_append_right _ (Wb.getD_in (by rw [HML.out]; exact hq5))))
                        clear e1
                        go_wp2_with fail
                        go_quiet (fail)
                        go_wp2_with fail
                        go_ret
                        exact ⟨by rw [hno.out]; rfl, below_drewN HB3.out _⟩
                      · have d1 : (z1 == x) = false := by simpa using e1
                        by_cases e2 : z2 = x
                        · have d2 : (z2 == x) = true := by simpa using e2
                          have hno := Wc.hid (HIN.out (by
                            rw [← HH.out, ← e2, ← HZ2.out]
                            exact List.mem_append_left _ (List.mem_append_right _ (Wb.getD_in (by rw [HWL.out]; exact hq5)))))
                          clear e1 e2
                          go_wp2_with fail
                          go_quiet (fail)
                          go_wp2_with fail
                          go_ret
                          exact ⟨by rw [hno.out]; rfl, below_drewN HB3.out _⟩
                        · have d2 : (z2 == x) = false := by simpa using e2
                          have HQ2 : Hid (∀ i, i < q + 1 → ¬ m.getD i 0 = x ∧ ¬ was.getD i 0 = x) := Wc.hid fun i hi => by
                            by_cases hik : i = q
                            · subst hik; rw [HZ1.out, HZ2.out]; exact ⟨e1, e2⟩
                            · exact HQ.out i (by omega)
                          clear e1 e2
                          go_wp2_with fail
                          go_quiet (fail)
                          go_wp2_with fail
                          go_roundw
                          case rel => exact ⟨q + 1, by go_num, by omega, HQ2, Wc.hid (below_drewN HB3.out _)⟩
                          case measure => simp [intOf]; omega
                    · obtain rfl : q = 512 := by omega
                      have hnin : ¬ x ∈ h := by
                        rw [← HH.out]
                        intro hx
                        rcases List.mem_append.1 hx with hx | hx
                        · rcases List.mem_append.1 hx with hx | hx
                          · obtain ⟨i, hi, he⟩ := Wb.in_getD hx
                            exact HK.out i (by rw [HNL.out] at hi; exact hi) he
                          · obtain ⟨i, hi, he⟩ := Wb.in_getD hx
                            exact (HQ.out i (by rw [HWL.out] at hi; exact hi)).2 he
                        · obtain ⟨i, hi, he⟩ := Wb.in_getD hx
                          exact (HQ.out i (by rw [HML.out] at hi; exact hi)).1 he
                      have hyes : Hid (∀ i, i < j + 1 → Wb.usj l h n i = true) := Wc.hid fun i hi => by
                        by_cases hij : i = j
                        · rw [hij, HUS.out, decide_eq_true HLTX.out, decide_eq_true (show x < (n : Int) from HC2.out), decide_eq_false hnin]; rfl
                        · exact HU.out i (by omega)
                      clear hnin
                      go_wp2_with fail
                      go_roundw
                      case rel => exact ⟨j + 1, by go_num, by omega, hyes, HB3⟩
                      case measure => simp [intOf]; omega
    · obtain rfl : j = nl := by omega
      have hyes := Wc.hid (Wb.usB_all (F := l) (l := h) (n := n) fun i hi => HU.out i (by rw [HLL.out] at hi; exact hi))
      go_wp2_with fail
      go_ret
      exact ⟨by rw [hyes.out]; rfl, HB.out⟩
end Go.Proofs.Ytafpjnofccfmlaa
