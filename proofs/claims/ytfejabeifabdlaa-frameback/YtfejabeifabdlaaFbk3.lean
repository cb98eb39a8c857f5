/-
  FrameBack, for every right command and sequence number.
-/
import Derived.Test.YtfejabeifabdlaaFbk2
import Derived.Test.YtfejabeifabdlaaFread
namespace Go.Proofs.Ytfejabeifabdlaa
open Go.RowKit

set_option maxRecDepth 100000 in
set_option maxHeartbeats 3200000 in
theorem back_yes (c : Wk.Cmd) (q : Int) (a1 : Option Addr) (p1 : Nat) (a2 : Option Addr) (n2 p2 : Nat) (p x0 x1 x2 x3 : Int) (w : World) (Y : List Int) (h : c.data.length ≤ 1500) (h2 : n2 ≤ 200) (hv : Wc.Bs w (.slice a1 c.data.length p1) c.data) (hsh : Wc.Shaped (.slice a1 c.data.length p1)) (hvY : Wc.Bs w (.slice a2 n2 p2) Y) (hsY : Wc.Shaped (.slice a2 n2 p2)) (hcb : Wk.cmdB c = true) (hq : 0 ≤ q ∧ q ≤ 4294967295) (hx : ∀ x ∈ [x0, x1, x2, x3], 0 ≤ x ∧ x < 256) :
    Calls Try.prog 4 #[cv c (.slice a1 c.data.length p1), .int .i64 q, .slice a2 n2 p2, .int .i64 p, .agg #[.int .u8 x0, .int .u8 x1, .int .u8 x2, .int .u8 x3]] w fun e w' => e = .returned (.bool true) ∧ Below w.heap.size w w' := by
  obtain ⟨i0, hi, hz0, hz1, hz2⟩ := info_parts Try.infoU8
  have HI : Hid (Try.prog.info? 5 = some i0 ∧ i0.zero = some (.int .u8 0) ∧ i0.size = 1 ∧ i0.bytes = 1) := Wc.hid ⟨hi, hz0, hz1, hz2⟩
  clear hi hz0 hz1 hz2
  have g1 : ¬ (1500 : Int) < (c.data.length : Int) := by omega
  have g2 : ¬ (200 : Int) < (n2 : Int) := by omega
  have HV0 := Wc.hid hv
  have HY0 := Wc.hid hvY
  have HV := Wc.hid ((hv.alloc (.cells #[.int .i64 c.kind, .int .i64 c.id, .int .i64 c.parent, .int .i64 c.size, .int .i64 c.start, .int .i64 c.count, .int .i64 c.source, .int .i64 c.digest, .slice a1 c.data.length p1] 24)).alloc (.cells #[.int .u8 x0, .int .u8 x1, .int .u8 x2, .int .u8 x3] 42))
  have HSH := Wc.hid hsh
  have HSY := Wc.hid hsY
  have HCB := Wc.hid hcb
  have HQ := Wc.hid hq
  have hdb := Wc.bs_bytes hv
  have hYl := Wc.bs_len hvY
  have HPY := Wc.hid (Wk.par_frame (q := q) (c := c) Y hq hcb hdb)
  have HCUT := Wc.hid (fun k => Wk.par_cut (q := q) (c := c) k hq hcb)
  have HCHG := Wc.hid (fun p m x => Wk.par_changed (q := q) (c := c) p m x hq hcb hdb)
  have HP0 := Wc.hid (Wk.par_frame (q := q) (c := c) [] hq hcb hdb)
  have HFB := Wc.hid (Wk.frame_bd q c hdb)
  have hfl := Wk.frame_length q c
  have hpl := Wk.pay_len hcb
  have HOK := Wc.hid (bytes9_ok q c a1 p1)
  obtain ⟨L, hL⟩ : ∃ L, (Wk.frame q c).length = L := ⟨_, rfl⟩
  have hL1 : 24 ≤ L := by omega
  have hL2 : L ≤ 540 := by omega
  have HL := Wc.hid hL
  rw [hL] at HPY HCUT HOK HCHG
  generalize Wk.frame q c = FX at HPY HCUT HCHG HP0 HFB HL HOK
  have C0 := Wc.hid ((Wk.Ch.new w c (.slice a1 c.data.length p1)).keep ((Below.refl _ _).alloc (Nat.le_refl _) (.cells #[.int .u8 x0, .int .u8 x1, .int .u8 x2, .int .u8 x3] 42)))
  have B0 := Wc.hid (((Below.refl w.heap.size w).alloc (Nat.le_refl _) (.cells #[.int .i64 c.kind, .int .i64 c.id, .int .i64 c.parent, .int .i64 c.size, .int .i64 c.start, .int .i64 c.count, .int .i64 c.source, .int .i64 c.digest, .slice a1 c.data.length p1] 24)).alloc (by simp) (.cells #[.int .u8 x0, .int .u8 x1, .int .u8 x2, .int .u8 x3] 42))
  obtain ⟨zs, hzs⟩ : ∃ zs, zs = [x0, x1, x2, x3] := ⟨_, rfl⟩
  have HZL : Hid (zs.length = 4) := Wc.hid (by rw [hzs]; rfl)
  have HZB : Hid (∀ x ∈ zs, 0 ≤ x ∧ x < 256) := Wc.hid (by rw [hzs]; exact hx)
  have HWC : Hid (∀ k, k < 4 → ((w.alloc (.cells #[.int .i64 c.kind, .int .i64 c.id, .int .i64 c.parent, .int .i64 c.size, .int .i64 c.start, .int .i64 c.count, .int .i64 c.source, .int .i64 c.digest, .slice a1 c.data.length p1] 24)).alloc (.cells #[.int .u8 x0, .int .u8 x1, .int .u8 x2, .int .u8 x3] 42)).cell? ⟨w.heap.size + 1, k, none⟩ = some (.int .u8 (zs.getD k 0))) := Wc.hid (by
    intro k hk
    have e : (((w.alloc (.cells #[.int .i64 c.kind, .int .i64 c.id, .int .i64 c.parent, .int .i64 c.size, .int .i64 c.start, .int .i64 c.count, .int .i64 c.source, .int .i64 c.digest, .slice a1 c.data.length p1] 24)).alloc (.cells #[.int .u8 x0, .int .u8 x1, .int .u8 x2, .int .u8 x3] 42))).cell? ⟨(w.alloc (.cells #[.int .i64 c.kind, .int .i64 c.id, .int .i64 c.parent, .int .i64 c.size, .int .i64 c.start, .int .i64 c.count, .int .i64 c.source, .int .i64 c.digest, .slice a1 c.data.length p1] 24)).heap.size, k, none⟩ = (#[.int .u8 x0, .int .u8 x1, .int .u8 x2, .int .u8 x3] : Array Value)[k]? := World.cell?_alloc_mark ..
    rw [show (w.alloc (.cells #[.int .i64 c.kind, .int .i64 c.id, .int .i64 c.parent, .int .i64 c.size, .int .i64 c.start, .int .i64 c.count, .int .i64 c.source, .int .i64 c.digest, .slice a1 c.data.length p1] 24)).heap.size = w.heap.size + 1 by simp] at e
    rw [e, hzs]
    obtain rfl | rfl | rfl | rfl : k = 0 ∨ k = 1 ∨ k = 2 ∨ k = 3 := by omega
    all_goals rfl)
  have HWS : Hid (w.heap.size + 1 < (((w.alloc (.cells #[.int .i64 c.kind, .int .i64 c.id, .int .i64 c.parent, .int .i64 c.size, .int .i64 c.start, .int .i64 c.count, .int .i64 c.source, .int .i64 c.digest, .slice a1 c.data.length p1] 24)).alloc (.cells #[.int .u8 x0, .int .u8 x1, .int .u8 x2, .int .u8 x3] 42))).heap.size) := Wc.hid (by simp)
  obtain ⟨P, hP, eP⟩ := lowN p L (by omega) (by omega)
  obtain ⟨A, hA, eA⟩ := lowN p (L - 3) (by omega) (by omega)
  rw [show ((L - 3 : Nat) : Int) = (L : Int) - 3 by omega] at eA
  have HEA := Wc.hid eA
  clear eA
  clear hv hsh hvY hsY hcb hq hx hdb hfl hpl hL hzs h h2
  unfold cv
  go_enter Try.func4, Try.ntmps4
  go_wp2_with fail
  obtain ⟨W, hW⟩ : ∃ W, ((w.alloc (.cells #[.int .i64 c.kind, .int .i64 c.id, .int .i64 c.parent, .int .i64 c.size, .int .i64 c.start, .int .i64 c.count, .int .i64 c.source, .int .i64 c.digest, .slice a1 c.data.length p1] 24)).alloc (.cells #[.int .u8 x0, .int .u8 x1, .int .u8 x2, .int .u8 x3] 42)) = W := ⟨_, rfl⟩
  rw [hW] at HV C0 B0 HWC HWS ⊢
  clear hW
  refine (HOK.out _ HV.out HSH.out HCB.out HQ.out).mono ?_
  rintro e w1 ⟨g1', k1, rfl, hO1, hb1⟩
  have O1 := Wc.hid hO1
  have B1 := Wc.hid hb1
  clear hO1 hb1 HV
  have hLK : L ≤ k1 := (Wc.bs_cap O1.out.bs).1
  have hK64 : k1 ≤ 9223372036854775807 := (Wc.bs_cap O1.out.bs).2
  go_wp2_with fail
  refine (twin_ob _ FX _ O1.out.bs (.inr ⟨_, _, _, rfl⟩)).mono ?_
  rintro e w2 ⟨v2, rfl, hO2, hb2⟩
  obtain ⟨hi, hz0, hz1, hz2⟩ := HI.out
  have hB2 := B0.out.trans ((Wc.step B1.out (Nat.le_refl _) hb2).mono B0.out.size)
  obtain ⟨v3, w3, hrun, hO3, hb3⟩ := Wc.append_run (P := Try.prog) (ty := 22) Try.underlying22 hi hz0 hz1 hz2 hO2 (HY0.out.keep hB2) HSY.out (by rw [HL.out, hYl]; omega) hb2.size
  have V3 := Wc.hid hO3.bs
  have B3 := Wc.hid (Wc.step B1.out (Nat.le_refl _) (hb2.trans hb3))
  have O3 := Wc.hid (O1.out.keep (hb2.trans hb3))
  clear hO2 hb2 hO3 hb3 hB2 hi hz0 hz1 hz2 O1 B1
  go_wp2_with (at_builtin; refine Wc.wp_append hrun rfl rfl rfl rfl ?_)
  clear hrun
  refine (parse9_any _ _ _ V3.out).mono ?_
  rintro e w4 ⟨a4, k4, rfl, hO4, hb4⟩
  rw [HPY.out.2.1] at hO4
  rw [HPY.out.1, HPY.out.2.1, HPY.out.2.2.1, HPY.out.2.2.2]
  have D4 := Wc.hid (Wk.Ch.new w4 c (.slice a4 c.data.length k4))
  have hal := (Below.refl w4.heap.size w4).alloc (Nat.le_refl _) (.cells #[.int .i64 c.kind, .int .i64 c.id, .int .i64 c.parent, .int .i64 c.size, .int .i64 c.start, .int .i64 c.count, .int .i64 c.source, .int .i64 c.digest, .slice a4 c.data.length k4] 24)
  have N4 := Wc.hid (hO4.bs.keep hal)
  have B4 := Wc.hid (Wc.step (Wc.step B3.out (Nat.le_refl _) hb4) (Nat.le_refl _) hal)
  have O4 := Wc.hid ((O3.out.keep hb4).keep hal)
  clear hO4 hb4 hal O3 B3 V3
  unfold cv
  go_wp2_with fail
  refine (parse9_no _ (FX.take P) _ (Wc.bs_take O4.out.bs P (by omega)) (by rw [HCUT.out P hP]; omega)).mono ?_
  rintro e w5 ⟨a5, k5, rfl, hb5⟩
  rw [HCUT.out P hP]
  have hal := (Below.refl w5.heap.size w5).alloc (Nat.le_refl _) (.cells #[.int .i64 Wk.c0.kind, .int .i64 Wk.c0.id, .int .i64 Wk.c0.parent, .int .i64 Wk.c0.size, .int .i64 Wk.c0.start, .int .i64 Wk.c0.count, .int .i64 Wk.c0.source, .int .i64 Wk.c0.digest, .slice a5 0 k5] 24)
  have hb6 := Wc.step hb5 (Nat.le_refl _) hal
  have D5 := Wc.hid (D4.out.keep hb6)
  have N5 := Wc.hid (N4.out.keep hb6)
  have B5 := Wc.hid (Wc.step B4.out (Nat.le_refl _) hb6)
  have O5 := Wc.hid (O4.out.keep hb6)
  have C5 := Wc.hid (C0.out.below B5.out C0.out.lt)
  have V5 := Wc.hid (HV0.out.keep (B0.out.trans (B5.out.mono B0.out.size)))
  clear hb5 hb6 hal D4 N4 B4 O4 C0 eP
  unfold cv
  have ⟨c0, c1, c2, c3, c4, c5, c6, c7, c8⟩ := C5.out.cc
  have ⟨d0, d1, d2, d3, d4, d5, d6, d7, d8⟩ := D5.out.cc
  go_wp2_with fail
  clear c0 c1 c2 c3 c4 c5 c6 c7 c8
  clear d0 d1 d2 d3 d4 d5 d6 d7 d8
  refine (keepCmd_any c c _ _ _ V5.out N5.out).mono ?_
  rintro e w6 ⟨rfl, hb6⟩
  rw [Wk.eqB_self]
  have B6 := Wc.hid (Wc.step B5.out (Nat.le_refl _) hb6)
  have O6 := Wc.hid (O5.out.keep hb6)
  clear hb6 D5 N5 B5 O5 C5 V5
  have eA := HEA.out
  go_wp2_with fail
  try rw [eA]
  clear eA
  have hgb := ob_base O6.out
  have HGB := Wc.hid hgb
  go_loopw [21, 22] (fun c' i wr => ∃ k : Nat, k ≤ 4 ∧ i = .int .i64 k ∧ c' = .bool (chgB zs k) ∧ Hid (Wc.Ob 5 W.heap.size wr (.slice (some ⟨g1', 0, none⟩) L k1) (chl FX zs A k)) ∧ Hid (Below W.heap.size W wr)) (fun _ i _ => 4 - (intOf i).toNat)
  case atStart => exact ⟨0, by omega, rfl, rfl, O6, B6⟩
  case round =>
    obtain ⟨k, hk, rfl, rfl, HRR, HBR⟩ := hrel
    by_cases hlt : k < 4
    · have hfl := HL.out
      have hcc := (Wc.bs_cells HRR.out.bs (by omega)).2 (A + k) (by omega)
      rw [Nat.zero_add, chl_get _ _ _ _ _ (by omega), chg_old] at hcc
      have hfz := ob_frozen (i := A + k) HRR.out
      have hza := (HBR.out.cell (p := ⟨w.heap.size + 1, k, none⟩) HWS.out).trans (HWC.out k hlt)
      have bu := HFB.out (FX.getD (A + k) 0) (by rw [List.getD_eq_getElem?_getD, List.getElem?_eq_getElem (by omega)]; simp)
      have bv := HZB.out (zs.getD k 0) (by have := HZL.out; rw [List.getD_eq_getElem?_getD, List.getElem?_eq_getElem (by omega)]; simp)
      have hxo := u8_xor _ _ bu.1 bu.2 bv.1 bv.2
      have HB := Wc.hid (chgB_succ zs k (by rw [HZL.out]; omega))
      have hqb : 0 ≤ ((((FX.getD (A + k) 0).toNat ^^^ (zs.getD k 0).toNat : Nat)) : Int) ∧ ((((FX.getD (A + k) 0).toNat ^^^ (zs.getD k 0).toNat : Nat)) : Int) < 256 := by
        have := Nat.xor_lt_two_pow (n := 8) (x := (FX.getD (A + k) 0).toNat) (y := (zs.getD k 0).toNat) (by omega) (by omega)
        omega
      have HNX : Hid (Wc.Ob 5 W.heap.size (wr.setCell ⟨g1', A + k, none⟩ (.int .u8 ((((FX.getD (A + k) 0).toNat ^^^ (zs.getD k 0).toNat : Nat)) : Int))).drew (.slice (some ⟨g1', 0, none⟩) L k1) (chl FX zs A (k + 1))) := Wc.hid ((ob_set (i := A + k) HRR.out hqb).keep (show_drew (Below.refl _ _)))
      clear hqb
      obtain ⟨q', hq'⟩ : ∃ q' : Int, ((((FX.getD (A + k) 0).toNat ^^^ (zs.getD k 0).toNat : Nat)) : Int) = q' := ⟨_, rfl⟩
      rw [hq'] at hxo HNX
      clear hq' bu bv hfl
      obtain ⟨u, hu⟩ : ∃ u, FX.getD (A + k) 0 = u := ⟨_, rfl⟩
      obtain ⟨v, hv⟩ : ∃ v, zs.getD k 0 = v := ⟨_, rfl⟩
      rw [hu] at hcc hxo
      rw [hv] at hza hxo HB
      have hzv := HWC.out k hlt
      rw [hv] at hzv
      have HZV := Wc.hid hzv
      clear hu hv hzv
      cases hch : chgB zs k with
      | true =>
        go_wp2
        go_region
        go_wp2
        go_roundw
        case rel => exact ⟨k + 1, by omega, by go_num, by rw [HB.out, hch]; rfl, HNX, Wc.hid (show_drew (HBR.out.setCell HGB.out _))⟩
        case measure => simp only [intOf]; omega
      | false =>
        have hza2 := ((HBR.out.setCell (p := ⟨g1', A + k, none⟩) HGB.out (.int .u8 q')).cell (p := ⟨w.heap.size + 1, k, none⟩) HWS.out).trans HZV.out
        go_wp2
        go_region
        go_wp2
        go_roundw
        case rel => exact ⟨k + 1, by omega, by go_num, by rw [HB.out, hch]; rfl, HNX, Wc.hid (show_drew (HBR.out.setCell HGB.out _))⟩
        case measure => simp only [intOf]; omega
    · obtain rfl : k = 4 := by omega
      obtain ⟨m, hm⟩ : ∃ m, L = A + 4 + m := ⟨L - A - 4, by omega⟩
      have hlen : FX.length = A + 4 + m := by rw [HL.out]; exact hm
      have hE := chl_end FX zs A m hlen HZL.out HFB.out
      have h1 : chgB zs 4 = false → Wk.parE (chl FX zs A 4) = 0 := by
        intro h
        have h0 := (chgB_all zs).1 (by rw [HZL.out]; exact h)
        rw [hE, Wk.zipx_same FX A m zs HFB.out HZL.out hlen h0]
        have := HP0.out.1
        rwa [List.append_nil] at this
      have h2 : chgB zs 4 = true → (16 ≤ A ∨ A + 4 ≤ 12) → ¬ Wk.parE (chl FX zs A 4) = 0 := by
        intro h hw
        rw [hE]
        refine HCHG.out A m zs HZL.out HZB.out hm hw (fun h0 => ?_)
        have := (chgB_all zs).2 h0
        rw [HZL.out, h] at this
        cases this
      have H1 := Wc.hid h1
      have H2 := Wc.hid h2
      clear h1 h2 hE hlen hm
      go_wp2_with fail
      refine (parse9_any _ _ _ HRR.out.bs).mono ?_
      rintro e w7 ⟨a7, k7, rfl, hO7, hb7⟩
      have B7 := Wc.hid (Wc.step HBR.out (Nat.le_refl _) hb7)
      clear hb7 hO7
      generalize Wk.parE (chl FX zs A 4) = E at H1 H2 ⊢
      generalize Wk.par (chl FX zs A 4) = T
      generalize Wk.parQ (chl FX zs A 4) = TQ
      generalize Wk.parZ (chl FX zs A 4) = TZ
      generalize chgB zs 4 = ch at H1 H2 ⊢
      have BZ := Wc.hid (B7.out.alloc B7.out.size (.cells #[.int .i64 T.kind, .int .i64 T.id, .int .i64 T.parent, .int .i64 T.size, .int .i64 T.start, .int .i64 T.count, .int .i64 T.source, .int .i64 T.digest, .slice a7 T.data.length k7] 24))
      unfold cv
      have hend : ∀ (W' wz : World), Below W.heap.size W W' → Below W'.heap.size W' wz → Below w.heap.size w wz := fun _ _ h h' => Wc.step (B0.out.trans (h.mono B0.out.size)) (Nat.le_refl _) h'
      have HEND := Wc.hid hend
      clear hend
      cases ch
      · have hE0 : (E == 0) = true := by simpa using H1.out rfl
        go_wp2_with fail
        refine (wakes_any _).mono ?_
        rintro e w8 ⟨rfl, hb8⟩
        go_wp2_with fail
        go_ret
        exact ⟨rfl, HEND.out _ _ BZ.out hb8⟩
      · by_cases hw1 : (A : Int) < 16
        · by_cases hw2 : (12 : Int) < (A : Int) + 4
          · go_wp2_with fail
            refine (wakes_any _).mono ?_
            rintro e w8 ⟨rfl, hb8⟩
            go_wp2_with fail
            go_ret
            exact ⟨rfl, HEND.out _ _ BZ.out hb8⟩
          · have hE0 : (E != 0) = true := by simpa using H2.out rfl (by omega)
            go_wp2_with fail
            refine (wakes_any _).mono ?_
            rintro e w8 ⟨rfl, hb8⟩
            go_wp2_with fail
            go_ret
            exact ⟨rfl, HEND.out _ _ BZ.out hb8⟩
        · have hE0 : (E != 0) = true := by simpa using H2.out rfl (by omega)
          go_wp2_with fail
          refine (wakes_any _).mono ?_
          rintro e w8 ⟨rfl, hb8⟩
          go_wp2_with fail
          go_ret
          exact ⟨rfl, HEND.out _ _ BZ.out hb8⟩

end Go.Proofs.Ytfejabeifabdlaa
