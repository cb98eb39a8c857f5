/-
  BuildSpace returns true.
-/
import Derived.Test.YtafpjnofccfmlaaCq
import Derived.Test.YtafpjnofccfmlaaCs
namespace Wb
open Wt Wn
/-- The device with a tree of one sector. -/
def cX : List Int := Wt.ch 300 250 77 260 3
theorem cX_tre : tre cX 252 = some ⟨[252, 251, 250], (List.replicate 512 0).set 77 260, [260]⟩ := by
  have h := tre_one (ch_cha (b := 300) (at_ := 250) (s := 77) (d := 260) (by decide) (by decide) (by decide) (by decide) (by decide))
    (ch_sta (by decide) (by decide) (by decide) (by decide) (by decide) 0 (by decide)) (ch_sta (by decide) (by decide) (by decide) (by decide) (by decide) 1 (by decide)) (ch_sta (by decide) (by decide) (by decide) (by decide) (by decide) 2 (by decide)) (by decide) (by decide)
  exact h
theorem cX_len : cX.length = 19200 := ch_length 77 260 (by decide) 3 (by decide)
theorem cX_dev : Wd.devB cX.length = true := by rw [cX_len]; decide
/-- Even numbers from 2 on. -/
def ev (n : Nat) : List Int := (List.range n).map fun (i : Nat) => 2 + 2 * (i : Int)
theorem ev_length (n : Nat) : (ev n).length = n := by simp [ev]
theorem ev_succ (n : Nat) : ev (n + 1) = ev n ++ [2 + 2 * (n : Int)] := by
  unfold ev; rw [List.range_succ, List.map_append]; rfl
theorem ev_mem {n : Nat} {f : Int} (h : f ∈ ev n) : 2 ≤ f ∧ f < 2 + 2 * (n : Int) := by
  obtain ⟨i, hi, rfl⟩ := List.mem_map.1 h
  have := List.mem_range.1 hi
  omega
theorem ev_rises (n : Nat) : (ev n).Pairwise (· < ·) := by
  unfold ev
  rw [List.pairwise_map]
  exact List.pairwise_lt_range.imp fun h => by omega
theorem ev_at {n i : Nat} (h : i < n) (d : Int) : (ev n).getD i d = 2 + 2 * (i : Int) := by
  unfold ev
  rw [List.getD_eq_getElem?_getD, List.getElem?_map, List.getElem?_range h]; rfl
section
variable {m : List Int} (hm : Mp m 260 290)
include hm
theorem sp_beg : begE cX 252 m = 0 := begE_ok cX_dev cX_tre hm.1 fun i => by
  rw [cX_len]
  have e : ((19200 / 64 : Nat) : Int) = 300 := rfl
  rw [e]
  have := hm.2 i
  omega
theorem sp_us {k : Nat} (hk : k ≤ 73) : usB (ev k) (treN' cX 252 m) (cX.length / 64) = true := by
  refine usB_ok (ev_rises k) fun f hf => ?_
  have h := ev_mem hf
  refine ⟨by omega, by rw [cX_len]; show f < 300; omega, fun hmem => ?_⟩
  unfold treN' at hmem
  obtain ⟨-, e2, e3⟩ := tre_some cX_dev cX_tre
  rw [e2, e3] at hmem
  rcases List.mem_append.1 hmem with hmem | hmem
  · rcases List.mem_append.1 hmem with hmem | hmem
    · have : f = 252 ∨ f = 251 ∨ f = 250 := by simpa using hmem
      omega
    · rcases List.mem_or_eq_of_mem_set hmem with h1 | h1
      · have := List.eq_of_mem_replicate h1
        omega
      · omega
  · exact mp_not hm (by omega) (by omega) hmem
theorem sp_ok : treE' cX 252 m (ev (needN cX 252 m)) = 0 := by
  unfold treE'
  rw [if_pos (sp_beg hm), if_pos (sp_us hm (needN_most _ _ _)), if_pos (by rw [ev_length]; exact Nat.le_refl _)]
theorem sp_no {k : Nat} (hk : k < needN cX 252 m) : treE' cX 252 m (ev k) = 9 := by
  have := needN_most cX 252 m
  unfold treE'
  rw [if_pos (sp_beg hm), if_pos (sp_us hm (by omega)), if_neg (by rw [ev_length]; omega)]
omit hm in
theorem sp_root (h : 0 < needN cX 252 m) : Wb.root cX 252 m (Wt.treS cX 252) (ev (needN cX 252 m)) = (ev (needN cX 252 m)).getD (needN cX 252 m - 1) 2 := by
  have h2 : ∀ f ∈ ev (needN cX 252 m), 2 ≤ f := fun f hf => (ev_mem hf).1
  have e := need_two (xs := cX) (r := 252) (m := m) h2
  rw [root_last (two_ne h2) (by rw [e]; exact h), e]
omit hm in
theorem ev_take {k n : Nat} (h : k ≤ n) : (ev n).take k = ev k := by
  unfold ev
  rw [← List.map_take, List.take_range, Nat.min_eq_left h]
end
end Wb
namespace Go.Proofs.Ytafpjnofccfmlaa
open Go.RowKit

set_option maxRecDepth 100000 in
set_option maxHeartbeats 25600000 in
theorem space_any (aa : Option Addr) (na ca : Nat) (z : Int) (la : List (Int × Int)) (w : World) (hva : Wb.PrR w aa na ca la) :
    Calls Try.prog 6 #[.slice aa na ca, .int .i64 z] w fun e w' => e = .returned (.bool true) ∧ Below w.heap.size w w' := by
  have hca := hva.2.2.1
  have hna0 := hva.2.1
  have HA0 := Wc.hid hva
  clear hva
  by_cases hbig : 60 < na
  · go_enter Try.func6, Try.ntmps6
    go_wp2_with fail
    go_ret
    exact ⟨rfl, Below.refl _ _⟩
  by_cases h0 : na = 0
  · subst h0
    go_enter Try.func6, Try.ntmps6
    go_wp2_with fail
    go_ret
    exact ⟨rfl, Below.refl _ _⟩
  have HA := Wc.hid (HA0.out.pr (by omega))
  have hna : na ≤ 60 := by omega
  have hnz : ((na : Int) == 0) = false := by simp; omega
  have h60a : decide ((60 : Int) < (na : Int)) = false := decide_eq_false (by omega)
  clear HA0 hca hna0 hbig h0
  go_enter Try.func6, Try.ntmps6
  go_wp2_with fail
  refine (chain_any 300 250 77 260 19200 w (by decide) (by decide) (by decide) (by decide) (by decide) (by decide) (by decide)).mono ?_
  rintro e w1 ⟨g1, rfl, hO1, hb1⟩
  rw [show Wt.ch 300 250 77 260 3 = Wb.cX from rfl] at hO1
  rw [show (((250 + 2 : Nat)) : Int) = 252 from rfl]
  have HV1 := Wc.hid hO1.bs
  have HB1 := Wc.hid hb1
  have HA1 := Wc.hid (HA.out.keep hb1)
  obtain ⟨s1, hs1⟩ : ∃ s1, w1.heap.size = s1 := ⟨_, rfl⟩
  have HS1 := Wc.hid hs1
  clear hO1 hb1 hs1
  go_wp2_with fail
  refine (some_any aa na ca 200 la _ HA1.out (by omega)).mono ?_
  rintro e w2 ⟨gm, m0, rfl, hO2, hM2, hg2, hb2⟩
  have HB2 := Wc.hid (Wc.step HB1.out (Nat.le_refl _) hb2)
  rw [HS1.out] at hO2 hg2 hb2
  have HO2 := Wc.hid hO2
  have HM2 := Wc.hid hM2
  have HT2 := Wc.hid hb2
  have HG := Wc.hid hg2
  have HSW := Wc.hid (show w.heap.size ≤ s1 by rw [← HS1.out]; exact HB1.out.size)
  clear hO2 hM2 hb2 hg2
  go_wp2_with fail
  go_loopw [8] (fun u wr => ∃ (j : Nat) (m : List Int), u = .int .i64 j ∧ j ≤ 512 ∧ Hid (Wv.Ov (Value.int .i64) 3 s1 wr (.slice (some ⟨gm, 0, none⟩) 512 512) m) ∧ Hid (Wb.Mj j m 2 200 260 290) ∧ Hid (Below s1 w1 wr) ∧ Hid (Below w.heap.size w wr)) (fun u _ => 512 - (intOf u).toNat)
  case atStart => exact ⟨0, m0, rfl, by omega, HO2, Wc.hid (Wb.Mj.zero HM2.out), HT2, HB2⟩
  case round =>
    obtain ⟨j, m, rfl, hj, RO, RM, RS, RB⟩ := hrel
    by_cases hlt : j < 512
    · have hc := ov_cell RO.out hlt
      have hf := ov_frozen j RO.out
      obtain ⟨y, hy⟩ : ∃ y, m.getD j 0 = y := ⟨_, rfl⟩
      have hr := RM.out.2.2 j (Nat.le_refl _)
      rw [hy] at hc hr
      have HY := Wc.hid hy
      have hj' : (j : Int) < 512 := by omega
      clear hy
      by_cases h0 : y = 0
      · subst h0
        go_wp2_with fail
        go_roundw
        case rel => exact ⟨j + 1, m, by go_num, by omega, RO, Wc.hid (RM.out.skip HY.out), RS, RB⟩
        case measure => simp [intOf]; omega
      · obtain ⟨Y, rfl⟩ : ∃ Y : Nat, y = Y := ⟨y.toNat, by omega⟩
        have hy2 : (0 : Int) < (Y : Int) := by omega
        have hy3 : (Y : Int) < 200 := by omega
        have HO3 := Wc.hid (ov_set j RO.out (260 + (Y : Int) % 30))
        have HM3 := Wc.hid (RM.out.step (y := 260 + (Y : Int) % 30) (by omega))
        have HS3 := Wc.hid (RS.out.setCell (p := ⟨gm, j, none⟩) HG.out (.int .i64 (260 + (Y : Int) % 30)))
        have HB3 := Wc.hid (RB.out.setCell (p := ⟨gm, j, none⟩) (Nat.le_trans HSW.out HG.out) (.int .i64 (260 + (Y : Int) % 30)))
        clear hr h0
        go_wp2_with fail
        go_roundw
        case rel => exact ⟨j + 1, _, by go_num, by omega, HO3, HM3, HS3, HB3⟩
        case measure => simp [intOf]; omega
    · obtain rfl : j = 512 := by omega
      have HM := Wc.hid RM.out.done
      have HVo := Wc.hid (HV1.out.keep (w' := wr) (by rw [HS1.out]; exact RS.out))
      have HMo := RO
      have HBo := RB
      have HBEG := Wc.hid (Wb.sp_beg HM.out)
      clear RO RM RS RB HT2 HB2 HO2 HM2 HV1
      go_wp2_with fail
      refine (needs_any _ 252 _ _ _ Wb.cX m wr HVo.out (ov_in HMo.out)).mono ?_
      rintro e w3 ⟨hb3, hy, -⟩
      obtain rfl := hy HBEG.out
      have HV3 := Wc.hid (HVo.out.keep hb3)
      have HM3 := Wc.hid (HMo.out.keep hb3)
      have HB3 := Wc.hid (HBo.out.trans (hb3.mono HBo.out.size))
      have hK73 := Wb.needN_most Wb.cX 252 m
      have HOKE := Wc.hid (Wb.sp_ok HM.out)
      have HNOE := Wc.hid (fun k => Wb.sp_no (k := k) HM.out)
      have HRT := Wc.hid (Wb.sp_root (m := m))
      obtain ⟨K, hK⟩ : ∃ K, Wb.needN Wb.cX 252 m = K := ⟨_, rfl⟩
      rw [hK] at hK73 HOKE HNOE HRT ⊢
      have HK := Wc.hid hK
      clear hb3 hy hK HVo HMo HBo
      by_cases hK0 : K = 0
      · subst hK0
        go_wp2_with fail
        refine (wakes_any _).mono ?_
        rintro e w4 ⟨rfl, hb4⟩
        have HB4 := Wc.hid (HB3.out.trans (hb4.mono HB3.out.size))
        clear hb4
        go_wp2_with fail
        go_ret
        exact ⟨rfl, HB4.out⟩
      · have hK1 : ¬ ((K : Int) < 1) := by omega
        have hK2 : ¬ ((73 : Int) < (K : Int)) := by omega
        have hd1 : decide ((K : Int) < 1) = false := decide_eq_false hK1
        have hd2 : decide ((73 : Int) < (K : Int)) = false := decide_eq_false hK2
        obtain ⟨wo, rfl⟩ : ∃ wo, wo = w3 := ⟨w3, rfl⟩
        go_wp2_with fail
        go_loopw [11, 12] (fun v u wr => ∃ (k : Nat) (a : Option Addr) (n c : Nat), v = .slice a n c ∧ u = .int .i64 k ∧ k ≤ K ∧ Hid (Wv.Ov (Value.int .i64) 3 wo.heap.size wr (.slice a n c) (Wb.ev k)) ∧ Hid (Below wo.heap.size wo wr)) (fun _ u _ => K - (intOf u).toNat)
        case atStart => exact ⟨0, none, 0, 0, rfl, rfl, by omega, Wc.hid (Wv.Ov.nil _ _ _), Wc.hid (Below.refl _ _)⟩
        case round =>
          obtain ⟨k, a, n, c, rfl, rfl, hk, RO, RB⟩ := hrel
          by_cases hlt : k < K
          · obtain ⟨a4, n4, c4, w4, hrun, hO, hb4, -⟩ := push_wide wr wr.heap.size wo.heap.size rfl (.slice a n c) (Wb.ev k) (2 + 2 * (k : Int)) RO.out (by rw [Wb.ev_length]; omega) RB.out.size
            rw [← Wb.ev_succ] at hO
            have HRUN := Wc.hid hrun
            have HO := Wc.hid hO
            have HB4 := Wc.hid ((RB.out.alloc RB.out.size (.cells #[.int .i64 (2 + 2 * (k : Int))] 3)).trans hb4)
            have hk2 : (k : Int) < (K : Int) := by omega
            clear hrun hO hb4
            go_wp2_with (at_builtin; refine Wv.wp_append HRUN.out rfl rfl rfl rfl ?_)
            go_roundw
            case rel => exact ⟨k + 1, a4, n4, c4, rfl, by go_num, by omega, HO, HB4⟩
            case measure => simp [intOf]; omega
          · obtain rfl : k = K := by omega
            have hn : n = k := by have := Wv.rv_len (ov_in RO.out); rw [Wb.ev_length] at this; exact this.symm
            subst hn
            have HL := Wc.hid (ov_in RO.out)
            have HV4 := Wc.hid (HV3.out.keep RB.out)
            have HM4 := Wc.hid (HM3.out.keep RB.out)
            have HB4 := Wc.hid (HB3.out.trans (RB.out.mono HB3.out.size))
            obtain ⟨ge, ce, hee, -⟩ := ov_form RO.out (by rw [Wb.ev_length]; omega)
            rw [Wb.ev_length] at hee
            cases hee
            have hlast := ov_cell RO.out (show n - 1 < n by omega)
            have HLAST := Wc.hid hlast
            clear RO RB hlast
            go_wp2_with fail
            refine (tree_any _ 252 _ _ _ _ _ _ Wb.cX m (Wb.ev n) _ HV4.out (ov_in HM4.out) HL.out).mono ?_
            rintro e w5 ⟨hb5, hy, -⟩
            obtain ⟨al, cl, ar, cr, rfl, -, -⟩ := hy HOKE.out
            rw [HK.out, Wb.ev_length, Nat.sub_self, HRT.out (by omega)]
            have he1 : (Wb.ev n).getD (n - 1) 2 = (Wb.ev n).getD (n - 1) 0 := by rw [Wb.ev_at (by omega), Wb.ev_at (by omega)]
            rw [he1]
            obtain ⟨q, hq⟩ : ∃ q, (Wb.ev n).getD (n - 1) 0 = q := ⟨_, rfl⟩
            rw [hq] at HLAST ⊢
            have HV5 := Wc.hid (HV4.out.keep hb5)
            have HM5 := Wc.hid (HM4.out.keep hb5)
            have HL5 := Wc.hid (HL.out.keep hb5)
            have HB5 := Wc.hid (Wc.step HB4.out (Nat.le_refl _) hb5)
            have HLT := Wc.hid (Wc.cell_lt HLAST.out)
            have hlast5 := (hb5.cell (p := ⟨ge, n - 1, none⟩) HLT.out).trans HLAST.out
            have HLAST5 := Wc.hid hlast5
            obtain ⟨A, hA, eA⟩ := lowN z n (by omega) (by omega)
            have eA2 : IntKind.i64.wrap ((IntKind.u64.wrap z).tmod (n : Int)) = (A : Int) := (wrap_wrap _).trans eA
            have hnc : n ≤ c := by obtain ⟨_, _, _, he, _, h3, _⟩ := HL.out; cases he; exact h3
            have hs2 := fun w => slice_intsTo (some ⟨ge, 0, none⟩) n c A (by omega) hnc w
            have hnu : IntKind.u64.wrap (n : Int) = (n : Int) := by rw [IntKind.wrap_u64]; omega
            have hnne : ¬ (n : Int) = 0 := by omega
            have HTK : Hid (Wd.In w5 (.slice (some ⟨ge, 0, none⟩) A c) (Wb.ev A)) := Wc.hid (by
              have := in_take HL5.out A (by omega)
              rwa [Wb.ev_take (by omega)] at this)
            have HN9 := Wc.hid (HNOE.out A hA)
            clear hy hb5 he1 hq hlast5
            go_wp2_with fail
            refine (tree_any _ 252 _ _ _ _ _ _ Wb.cX m (Wb.ev A) _ HV5.out (ov_in HM5.out) HTK.out).mono ?_
            rintro e w6 ⟨hb6, -, hy⟩
            obtain rfl := hy (by rw [HN9.out]; decide)
            rw [HN9.out]
            have HB6 := Wc.hid (Wc.step HB5.out (Nat.le_refl _) hb6)
            have hlast6 := (hb6.cell (p := ⟨ge, n - 1, none⟩) (Wc.cell_lt HLAST5.out)).trans HLAST5.out
            have hsub : ((n : Int) - 1) = ((n - 1 : Nat) : Int) := by omega
            clear hy hb6
            go_wp2_with fail
            refine (wakes_any _).mono ?_
            rintro e w7 ⟨rfl, hb7⟩
            have HB7 := Wc.hid (HB6.out.trans (hb7.mono HB6.out.size))
            clear hb7
            go_wp2_with fail
            go_ret
            exact ⟨rfl, HB7.out⟩
end Go.Proofs.Ytafpjnofccfmlaa
