/-
  What build.grow returns, where the new nodes are counted alone.
-/
import Derived.Test.YtafpjnofccfmlaaCe
namespace Go.Proofs.Ytafpjnofccfmlaa
open Go.RowKit

set_option maxRecDepth 100000 in
set_option maxHeartbeats 6400000 in
theorem grow_nowhere (f : Nat → Value) (am : Option Addr) (nm cm : Nat) (xs m was F : List Int) (r : Int) (w : World)
   (hwas : ∀ i, i < 4 → Wd.In w (f i) (Wb.rw xs r (3 - i))) (hm : Wd.In w (.slice am nm cm) m) (hml : m.length = 512)
   (hold : Wb.Ld xs 3 r (fun i => was.getD i 0)) (hF : ∀ j, ¬ F.getD j 2 = 0) (hfar : ∀ j, j < Wb.need xs r m was F → ∀ q, q ≤ 2 → ∀ i, ¬ F.getD j 2 = (Wb.rw xs r q).getD i 0) 
   (hblk : ∀ (k : Nat) (w' : World), k < Wb.need xs r m was F → Below w.heap.size w w' → Calls Try.prog 29 #[.int .i64 (k : Int)] w' fun e w2 => e = .returned (.int .i64 (F.getD k 2)) ∧ w' = w2) :
    Calls Try.prog 28 #[.agg #[f 0, f 1, f 2, f 3], .slice am nm cm, .func (.func 29) #[] #[]] w fun e w' => ∃ a n c, e = .returned (.tuple #[.slice a n c, .int .i64 (Wb.root xs r m was F)]) ∧ Wb.No 83 w.heap.size w' (.slice a n c) (Wb.new xs r m was F) ∧ Below w.heap.size w w' := by
  have HWAS := Wc.hid hwas
  have HM := Wc.hid hm
  have HML := Wc.hid hml
  have HOLD := Wc.hid hold
  have HF := Wc.hid hF
  have HFAR := Wc.hid hfar
  have HBLK := Wc.hid hblk
  have T0 := Wc.hid (show Tb (w.alloc (.cells #[f 0, f 1, f 2, f 3] 63)) w.heap.size f by show (w.heap.push _)[_]? = _; simp)
  have B0 := Wc.hid ((Below.refl w.heap.size w).alloc (Nat.le_refl _) (.cells #[f 0, f 1, f 2, f 3] 63))
  have hsh : ∀ i, i < 4 → ∃ a n c, f i = .slice a n c := fun i hi => by
    obtain ⟨a, n, c, e, -⟩ := hwas i hi
    exact ⟨a, n, c, e⟩
  obtain ⟨a0, n0, c0, e0⟩ := hsh 0 (by omega)
  obtain ⟨a1, n1, c1, e1⟩ := hsh 1 (by omega)
  obtain ⟨a2, n2, c2, e2⟩ := hsh 2 (by omega)
  obtain ⟨a3, n3, c3, e3⟩ := hsh 3 (by omega)
  rw [e0, e1, e2, e3] at T0 B0 ⊢
  have HE := Wc.hid (And.intro e0 (And.intro e1 (And.intro e2 e3)))
  clear hwas hm hml hold hF hfar hblk hsh e0 e1 e2 e3
  go_enter Try.func28, Try.ntmps28
  go_wp2_with fail
  go_loopw [6, 8, 18] (fun vn vr u wr => ∃ (L : Nat) (an : Option Addr) (nn cn : Nat) (ar : Option Addr) (nr cr : Nat), vn = .slice an nn cn ∧ vr = .slice ar nr cr ∧ u = .int .i64 L ∧ L ≤ 3 ∧ Hid (Wb.No 83 w.heap.size wr (.slice an nn cn) (Wb.lv xs r m was F L).new) ∧ Hid (Ro w.heap.size wr (.slice ar nr cr) (Wb.lv xs r m was F L).up) ∧ Hid (Tb wr w.heap.size f) ∧ Hid (Below w.heap.size w wr)) (fun _ _ u _ => 3 - (intOf u).toNat)
  case atStart => exact ⟨0, none, 0, 0, am, nm, cm, rfl, rfl, rfl, by omega, Wc.hid (Wb.No.nil _ _ _), Wc.hid ⟨HM.out.keep B0.out, fun g o t n c e => .inl (by
      cases e
      obtain ⟨b, off, cap, e, hb, -⟩ := in_open HM.out (by rw [HML.out]; decide)
      cases e
      exact hb)⟩, T0, B0⟩
  case round =>
    obtain ⟨L, an, nn, cn, ar, nr, cr, rfl, rfl, rfl, hL3, HN, HR, HT, HB⟩ := hrel
    by_cases hL : L = 3
    · subst hL
      have hlen := Wb.lv_len (xs := xs) (r := r) (was := was) (F := F) HML.out 3 (Nat.le_refl _)
      obtain ⟨b3, off3, cap3, he3, -, hc3⟩ := in_open HR.out.1 (by rw [hlen]; decide)
      rw [hlen] at he3 hc3
      obtain ⟨rt, hrt⟩ : ∃ rt, (Wb.lv xs r m was F 3).up.getD 0 0 = rt := ⟨_, rfl⟩
      have hc0 := hc3 0 (by decide)
      rw [hrt, Nat.add_zero] at hc0
      have HRT := Wc.hid (show Wb.root xs r m was F = rt by rw [← hrt, Wb.lv_three]; rfl)
      have HNW := Wc.hid (show (Wb.lv xs r m was F 3).new = Wb.new xs r m was F by rw [Wb.lv_three]; rfl)
      clear hrt hc3 hlen
      cases he3
      go_wp2_with fail
      go_quiet (fail)
      go_wp2_with fail
      go_ret2
      exact ⟨an, nn, cn, by rw [HRT.out]; rfl, by rw [← HNW.out]; exact HN.out.keep (below_drewN (Below.refl _ _) _), below_drewN HB.out _⟩
    · have hL : L ≤ 2 := by omega
      obtain ⟨wo, rfl⟩ : ∃ wo, wo = wr := ⟨wr, rfl⟩
      obtain ⟨c, hc⟩ : ∃ c, 8 ^ (2 - L) = c := ⟨_, rfl⟩
      have hc64 : 1 ≤ c ∧ c ≤ 64 := by
        rw [← hc]
        rcases (by omega : L = 0 ∨ L = 1 ∨ L = 2) with rfl | rfl | rfl <;> decide
      have hup : (Wb.lv xs r m was F L).up.length = 8 * c := by
        rw [Wb.lv_len HML.out L hL3, ← hc, show 3 - L = 2 - L + 1 by omega, Nat.pow_succ, Nat.mul_comm]
      -- the row of the pointers to this level's old nodes
      obtain ⟨od, hod⟩ : ∃ od, Wb.rw xs r (2 - L) = od := ⟨_, rfl⟩
      have hodl : od.length = c := by rw [← hod, Wb.rw_length, hc]
      have hIo := HWAS.out (L + 1) (by omega)
      rw [show 3 - (L + 1) = 2 - L by omega, hod] at hIo
      obtain ⟨b, off, cap, hfe, hbl, hcells⟩ := in_open hIo (by rw [hodl]; omega)
      rw [hodl] at hfe hcells
      have hcl := HT.out.cell (k := L + 1) (by omega)
      rw [hfe] at hcl
      -- what this level's old nodes lead to
      obtain ⟨ow, how⟩ : ∃ ow, Wb.rw xs r (3 - L) = ow := ⟨_, rfl⟩
      have howl : ow.length = 8 * c := by rw [← how, Wb.rw_length, ← hc, show 3 - L = 2 - L + 1 by omega, Nat.pow_succ, Nat.mul_comm]
      have hIw := HWAS.out L (by omega)
      rw [how] at hIw
      obtain ⟨b2, off2, cap2, hfe2, hbl2, -⟩ := in_open hIw (by rw [howl]; omega)
      rw [howl] at hfe2
      have hcl2 := HT.out.cell (k := L) (by omega)
      rw [hfe2] at hcl2 hIw
      -- the row so far
      obtain ⟨b3, off3, cap3, he3, -, -⟩ := in_open HR.out.1 (by rw [hup]; omega)
      rw [hup] at he3
      cases he3
      obtain ⟨bl, hbl0⟩ : ∃ bl, wo.heap.size = bl := ⟨_, rfl⟩
      have HBS := Wc.hid hbl0
      have HC := Wc.hid hcells
      have HOD := Wc.hid hod
      have HODL := Wc.hid hodl
      have HOW := Wc.hid how
      have HIW := Wc.hid hIw
      have HBL := Wc.hid hbl
      have HUP := Wc.hid hup
      have HCE := Wc.hid hc
      have HBH := Wc.hid (show w.heap.size < bl by rw [← hbl0]; exact HT.out.lt)
      obtain ⟨A, hA⟩ : ∃ A, (Wb.lv xs r m was F L).up = A := ⟨_, rfl⟩
      obtain ⟨N0, hN0⟩ : ∃ N0, (Wb.lv xs r m was F L).new = N0 := ⟨_, rfl⟩
      have hnext : Wb.lv xs r m was F (L + 1) = Wb.lvl F L A (Wb.kp m was L) od c N0 := by
        rw [← hA, ← hN0, ← hod, ← hc]; rfl
      have HNEXT := Wc.hid hnext
      have hmost : (Wb.lvl F L A (Wb.kp m was L) od c N0).new.length ≤ Wb.need xs r m was F := by
        rw [← hnext]; exact Wb.lv_new _ (by omega)
      have HMOST := Wc.hid hmost
      have hkeep : ∀ i, i < c → (Wb.mk L A i = Wb.mk L ow i ↔ Wb.kp m was L i = true) := fun i hi => by
        rw [← hA, ← how]
        exact Wb.node_kept HOLD.out HF.out HFAR.out L hL (by rw [hc]; exact hi)
      have HKEEP := Wc.hid hkeep
      rw [hA] at HR HUP
      rw [hN0] at HN
      clear hbl0 hcells hod hodl how hIw hbl hup hc hA hN0 hnext hmost hkeep hfe hfe2 hIo howl hbl2
      have hLt : decide ((L : Int) < 3) = true := by simp; omega
      go_wp2_with fail
      clear hLt
      go_loopw [6, 10, 26] (fun vn va u wr => ∃ (i : Nat) (an : Option Addr) (nn cn : Nat) (aa : Option Addr) (na ca : Nat), vn = .slice an nn cn ∧ va = .slice aa na ca ∧ u = .int .i64 i ∧ i ≤ c ∧ Hid (Wb.No 83 w.heap.size wr (.slice an nn cn) (Wb.lvl F L A (Wb.kp m was L) od i N0).new) ∧ Hid (Wv.Ov (Value.int .i64) 3 bl wr (.slice aa na ca) (Wb.lvl F L A (Wb.kp m was L) od i N0).up) ∧ Hid (Tb wr w.heap.size f) ∧ Hid (Kp w.heap.size bl wo wr) ∧ Hid (Below w.heap.size w wr)) (fun _ _ u _ => c - (intOf u).toNat)
      case atStart => exact ⟨0, an, nn, cn, none, 0, 0, rfl, rfl, rfl, by omega, HN, Wc.hid (Wv.Ov.nil _ _ _), HT, Wc.hid (Kp.refl _ _ _), HB⟩
      case round =>
        obtain ⟨i, an, nn, cn, aa, na, ca, rfl, rfl, rfl, hic, RN, RA, RT, RK, RB⟩ := hrel
        by_cases hlt : i < c
        · obtain ⟨p, hp⟩ : ∃ p, od.getD i 0 = p := ⟨_, rfl⟩
          have hcell : wr.cell? ⟨b, off + i, none⟩ = some (.int .i64 p) := by
            rw [← hp, ← HC.out i hlt]
            exact RB.out.cell (p := ⟨b, off + i, none⟩) HBL.out
          have hrow := (HR.out.kp (by rw [HBS.out]; exact RK.out)).1
          have HP := Wc.hid hp
          have HROW := Wc.hid hrow
          clear hp hrow
          go_wp2_with fail
          refine (nodeOf_any b3 off3 (8 * c) _ (L : Int) L i A _ rfl (by omega) (by omega) HROW.out).mono ?_
          rintro e w1 ⟨rfl, hb1⟩
          have HX := Wc.hid (HKEEP.out i hlt)
          obtain ⟨N1, hN1⟩ : ∃ N1, Wb.mk L A i = N1 := ⟨_, rfl⟩
          obtain ⟨z1, hz1⟩ : ∃ z1, Wb.nul A i = z1 := ⟨_, rfl⟩
          rw [hN1] at HX ⊢
          rw [hz1]
          have HZ1 := Wc.hid hz1
          have HN1 := Wc.hid hN1
          have hA1 := (Below.refl w1.heap.size w1).alloc (Nat.le_refl _) (.cells #[.int .i64 N1.level, .int .i64 N1.p0, .int .i64 N1.p1, .int .i64 N1.p2, .int .i64 N1.p3, .int .i64 N1.p4, .int .i64 N1.p5, .int .i64 N1.p6, .int .i64 N1.p7] 83)
          have D1 := Wc.hid (Nh.new w1 N1)
          have W1 := Wc.hid (Wc.step hb1 (Nat.le_refl _) hA1)
          have S1 := Wc.hid (show w1.heap.size + 1 = (w1.alloc (.cells #[.int .i64 N1.level, .int .i64 N1.p0, .int .i64 N1.p1, .int .i64 N1.p2, .int .i64 N1.p3, .int .i64 N1.p4, .int .i64 N1.p5, .int .i64 N1.p6, .int .i64 N1.p7] 83)).heap.size by simp)
          have hcl2' : (w1.alloc (.cells #[.int .i64 N1.level, .int .i64 N1.p0, .int .i64 N1.p1, .int .i64 N1.p2, .int .i64 N1.p3, .int .i64 N1.p4, .int .i64 N1.p5, .int .i64 N1.p6, .int .i64 N1.p7] 83)).cell? ⟨w.heap.size, L, none⟩ = some (.slice (some ⟨b2, off2, none⟩) (8 * c) cap2) := by
            rw [← hcl2]
            exact (W1.out.cell (p := ⟨w.heap.size, L, none⟩) RT.out.lt).trans ((RT.out.cell (k := L) (by omega)).trans (HT.out.cell (k := L) (by omega)).symm)
          clear hN1 hz1 hb1 hA1 hcell
          unfold nv
          go_wp2_with fail
          refine (nodeOf_any b2 off2 (8 * c) _ (L : Int) L i ow _ rfl (by omega) (by omega) (HIW.out.keep (RB.out.trans (W1.out.mono RB.out.size)))).mono ?_
          rintro e w2 ⟨rfl, hb2⟩
          obtain ⟨N2, hN2⟩ : ∃ N2, Wb.mk L ow i = N2 := ⟨_, rfl⟩
          obtain ⟨z2, hz2⟩ : ∃ z2, Wb.nul ow i = z2 := ⟨_, rfl⟩
          rw [hN2] at HX ⊢
          rw [hz2]
          have hA2 := (Below.refl w2.heap.size w2).alloc (Nat.le_refl _) (.cells #[.int .i64 N2.level, .int .i64 N2.p0, .int .i64 N2.p1, .int .i64 N2.p2, .int .i64 N2.p3, .int .i64 N2.p4, .int .i64 N2.p5, .int .i64 N2.p6, .int .i64 N2.p7] 83)
          have E1 := (D1.out.keep hb2).keep hA2
          have E2 := Nh.new w2 N2
          have W2 := W1.out.trans ((hb2.mono W1.out.size).trans (hA2.mono (Nat.le_trans W1.out.size hb2.size)))
          have hW2 : bl ≤ wr.heap.size := by rw [← HBS.out]; exact RK.out.1
          have RN2 := Wc.hid (RN.out.keep W2)
          have RA2 := Wc.hid (RA.out.keep W2)
          have RT2 := Wc.hid (RT.out.keep W2 RT.out.lt)
          have RK2 := Wc.hid (RK.out.trans (Kp.below (W2.mono hW2)))
          have RB2 := Wc.hid (RB.out.trans (W2.mono RB.out.size))
          have SZ2 := Wc.hid (Nat.le_trans hW2 W2.size)
          have HE1 := Wc.hid E1
          obtain ⟨bb, hbb⟩ : ∃ bb, Wb.lvl F L A (Wb.kp m was L) od i N0 = bb := ⟨_, rfl⟩
          have hstep : Wb.lvl F L A (Wb.kp m was L) od (i + 1) N0 = Wb.stp F L A (Wb.kp m was L) od i bb := by rw [← hbb]; rfl
          have hul : bb.up.length = i := by rw [← hbb]; exact Wb.lvl_len _ _
          have hsum : (Wb.lvl F L A (Wb.kp m was L) od (i + 1) N0).new.length ≤ Wb.need xs r m was F := by
            refine Nat.le_trans ?_ HMOST.out
            have := Wb.lvl_le (F := F) (lv := L) (a := A) (kp := Wb.kp m was L) (od := od) N0 (i + 1) (c - (i + 1))
            rwa [show i + 1 + (c - (i + 1)) = c by omega] at this
          have HSUM := Wc.hid hsum
          have HSTEP := Wc.hid hstep
          have HUL := Wc.hid hul
          rw [hbb] at RN2 RA2
          clear hN2 hz2 hb2 hA2 W2 hW2 hbb hstep hul hcl2' hsum RN RA RT RK RB
          unfold nv
          unfold Wb.stp at HSTEP
          rw [HZ1.out, HN1.out, HP.out] at HSTEP
          cases z1
          · rw [if_neg (by decide)] at HSTEP
            by_cases hkp : Wb.kp m was L i = true
            · have hee : N1 = N2 := HX.out.2 hkp
              have hq : ∀ w, (binOp .eql 83 (.agg #[.int .i64 N1.level, .int .i64 N1.p0, .int .i64 N1.p1, .int .i64 N1.p2, .int .i64 N1.p3, .int .i64 N1.p4, .int .i64 N1.p5, .int .i64 N1.p6, .int .i64 N1.p7]) (.agg #[.int .i64 N2.level, .int .i64 N2.p0, .int .i64 N2.p1, .int .i64 N2.p2, .int .i64 N2.p3, .int .i64 N2.p4, .int .i64 N2.p5, .int .i64 N2.p6, .int .i64 N2.p7])).run Try.prog w = .ok (.bool true) w := fun w => by
                have := eql_nod N1 N2 w
                rwa [nodEq_iff.2 hee] at this
              rw [if_pos hkp] at HSTEP
              have ⟨d, d0, d1, d2, d3, d4, d5, d6, d7⟩ := E1.nc
              have ⟨g, g0, g1, g2, g3, g4, g5, g6, g7⟩ := E2.nc
              obtain ⟨a4, n4, c4, w4, hrun, hO, hb4, hot⟩ := push_wide (w2.alloc (.cells #[.int .i64 N2.level, .int .i64 N2.p0, .int .i64 N2.p1, .int .i64 N2.p2, .int .i64 N2.p3, .int .i64 N2.p4, .int .i64 N2.p5, .int .i64 N2.p6, .int .i64 N2.p7] 83)) (w2.heap.size + 1) bl (by simp) (.slice aa na ca) bb.up p RA2.out (by rw [HUL.out]; omega) SZ2.out
              have HRUN := Wc.hid hrun
              have HO := Wc.hid hO
              have hA4 := (Below.refl bl (w2.alloc (.cells #[.int .i64 N2.level, .int .i64 N2.p0, .int .i64 N2.p1, .int .i64 N2.p2, .int .i64 N2.p3, .int .i64 N2.p4, .int .i64 N2.p5, .int .i64 N2.p6, .int .i64 N2.p7] 83))).alloc SZ2.out (.cells #[.int .i64 p] 3)
              have W4 := hA4.trans hb4
              have RN4 := Wc.hid ((RN2.out.keep ((Below.refl _ _).alloc (Nat.le_refl _) (.cells #[.int .i64 p] 3))).types fun b cs fr h => hot b cs _ fr h (by decide))
              have RT4 := Wc.hid (RT2.out.keep W4 HBH.out)
              have RK4 := Wc.hid (RK2.out.trans (Kp.below W4))
              have RB4 := Wc.hid (RB2.out.trans (W4.mono (Nat.le_of_lt HBH.out)))
              clear hrun hO hb4 hot hA4 W4 E1 E2 hkp hee
              go_wp2_with (at_builtin; refine Wv.wp_append HRUN.out rfl rfl rfl rfl ?_)
              go_roundw
              case rel => exact ⟨i + 1, an, nn, cn, a4, n4, c4, rfl, rfl, by go_num, by omega, by rw [HSTEP.out]; exact RN4, by rw [HSTEP.out]; exact HO, RT4, RK4, RB4⟩
              case measure => simp [intOf]; omega
            · have hee : ¬ N1 = N2 := fun e => hkp (HX.out.1 e)
              have hq : ∀ w, (binOp .eql 83 (.agg #[.int .i64 N1.level, .int .i64 N1.p0, .int .i64 N1.p1, .int .i64 N1.p2, .int .i64 N1.p3, .int .i64 N1.p4, .int .i64 N1.p5, .int .i64 N1.p6, .int .i64 N1.p7]) (.agg #[.int .i64 N2.level, .int .i64 N2.p0, .int .i64 N2.p1, .int .i64 N2.p2, .int .i64 N2.p3, .int .i64 N2.p4, .int .i64 N2.p5, .int .i64 N2.p6, .int .i64 N2.p7])).run Try.prog w = .ok (.bool false) w := fun w => by
                have := eql_nod N1 N2 w
                rwa [nodEq_no hee] at this
              rw [if_neg hkp] at HSTEP
              have ⟨d, d0, d1, d2, d3, d4, d5, d6, d7⟩ := E1.nc
              have ⟨g, g0, g1, g2, g3, g4, g5, g6, g7⟩ := E2.nc
              obtain ⟨K, hK⟩ : ∃ K, bb.new.length = K := ⟨_, rfl⟩
              have hnn : nn = K := by rw [← hK]; exact (Wb.ns_len RN2.out.ns).symm
              rw [hK] at HSTEP
              subst hnn
              have hKn : nn < Wb.need xs r m was F := by
                have := HSUM.out
                rw [HSTEP.out, List.length_append, hK] at this
                exact this
              have hK73 : nn < 73 := Nat.lt_of_lt_of_le hKn (Wb.need_most _ _ _ _ _)
              have HKN := Wc.hid hKn
              obtain ⟨q, hqq⟩ : ∃ q, F.getD nn 2 = q := ⟨_, rfl⟩
              rw [hqq] at HSTEP
              have HQQ := Wc.hid hqq
              obtain ⟨a4, n4, c4, w4, hrun, hO, hb4, hot⟩ := push_wide (w2.alloc (.cells #[.int .i64 N2.level, .int .i64 N2.p0, .int .i64 N2.p1, .int .i64 N2.p2, .int .i64 N2.p3, .int .i64 N2.p4, .int .i64 N2.p5, .int .i64 N2.p6, .int .i64 N2.p7] 83)) (w2.heap.size + 1) bl (by simp) (.slice aa na ca) bb.up q RA2.out (by rw [HUL.out]; omega) SZ2.out
              have HRUN := Wc.hid hrun
              have hA4 := (Below.refl bl (w2.alloc (.cells #[.int .i64 N2.level, .int .i64 N2.p0, .int .i64 N2.p1, .int .i64 N2.p2, .int .i64 N2.p3, .int .i64 N2.p4, .int .i64 N2.p5, .int .i64 N2.p6, .int .i64 N2.p7] 83))).alloc SZ2.out (.cells #[.int .i64 q] 3)
              have W4 := hA4.trans hb4
              have RN4 := (RN2.out.keep ((Below.refl _ _).alloc (Nat.le_refl _) (.cells #[.int .i64 q] 3))).types fun b cs fr h => hot b cs _ fr h (by decide)
              have RT4 := RT2.out.keep W4 HBH.out
              have RK4 := RK2.out.trans (Kp.below W4)
              have RB4 := RB2.out.trans (W4.mono (Nat.le_of_lt HBH.out))
              have E4 : Nh w4 w1.heap.size N1 := hot _ _ _ _ (HE1.out.keep ((Below.refl _ _).alloc (Nat.le_refl _) (.cells #[.int .i64 q] 3))) (by decide)
              have hA5 := (Below.refl w4.heap.size w4).alloc (Nat.le_refl _) (.cells #[.int .i64 N1.level, .int .i64 N1.p0, .int .i64 N1.p1, .int .i64 N1.p2, .int .i64 N1.p3, .int .i64 N1.p4, .int .i64 N1.p5, .int .i64 N1.p6, .int .i64 N1.p7] 83)
              obtain ⟨i0, hi, hz0, hz1, hz2⟩ := info_parts Try.infoN
              obtain ⟨a5, n5, c5, w5, hrun5, hO5, hb5, hot5⟩ := Wb.append_nod (P := Try.prog) (ty := 66) (base := w.heap.size) (ad := ⟨w4.heap.size, 0, none⟩) (c := 1) (r := N1) Try.underlying66 hi hz0 hz1 hz2 rfl (by omega) RN4 hA5 (Wb.lit9 w4 N1 83 _ rfl) (by rw [hK]; omega) (Nat.le_trans RB4.size hA5.size)
              have HRUN5 := Wc.hid hrun5
              have HO5 := Wc.hid hO5
              have HA5 := Wc.hid (Wb.ov_types (hO.keep hA5) fun b cs fr h => hot5 b cs _ fr h (.inl (by decide)))
              have HT5 : Hid (Tb w5 w.heap.size f) := Wc.hid (hot5 _ _ _ _ (RT4.keep hA5 RT4.lt) (.inl (by decide)))
              have HK5 := Wc.hid ((RK4.trans (Kp.below (hA5.mono (Nat.le_trans SZ2.out W4.size)))).trans (Kp.types hb5 fun b cs T fr h hT => hot5 b cs T fr h (.inl hT)))
              have HB5 := Wc.hid ((RB4.trans (hA5.mono RB4.size)).trans hb5)
              have ⟨k, k0, k1, k2, k3, k4, k5, k6, k7⟩ := E4.nc
              clear hrun hO hb4 hot hA4 W4 E1 E2 hkp hee RN4 RT4 RK4 RB4 E4 hA5 hrun5 hO5 hb5 hot5 hi hz0 hz1 hz2 i0 hK hKn hqq
              go_wp2_with fail
              refine (HBLK.out nn _ HKN.out RB2.out).mono ?_
              rintro e w3 ⟨rfl, rfl⟩
              rw [HQQ.out]
              go_wp2_with (first | (at_builtin; refine Wv.wp_append HRUN.out rfl rfl rfl rfl ?_) | (at_builtin; refine Wv.wp_append HRUN5.out rfl rfl rfl rfl ?_))
              go_roundw
              case rel => exact ⟨i + 1, a5, n5, c5, a4, n4, c4, rfl, rfl, by go_num, by omega, by rw [HSTEP.out]; exact HO5, by rw [HSTEP.out]; exact HA5, HT5, HK5, HB5⟩
              case measure => simp [intOf]; omega
          · rw [if_pos rfl] at HSTEP
            obtain ⟨a4, n4, c4, w4, hrun, hO, hb4, hot⟩ := push_wide (w2.alloc (.cells #[.int .i64 N2.level, .int .i64 N2.p0, .int .i64 N2.p1, .int .i64 N2.p2, .int .i64 N2.p3, .int .i64 N2.p4, .int .i64 N2.p5, .int .i64 N2.p6, .int .i64 N2.p7] 83)) (w2.heap.size + 1) bl (by simp) (.slice aa na ca) bb.up 0 RA2.out (by rw [HUL.out]; omega) SZ2.out
            have HRUN := Wc.hid hrun
            have HO := Wc.hid hO
            have hA4 := (Below.refl bl (w2.alloc (.cells #[.int .i64 N2.level, .int .i64 N2.p0, .int .i64 N2.p1, .int .i64 N2.p2, .int .i64 N2.p3, .int .i64 N2.p4, .int .i64 N2.p5, .int .i64 N2.p6, .int .i64 N2.p7] 83))).alloc SZ2.out (.cells #[.int .i64 0] 3)
            have W4 := hA4.trans hb4
            have RN4 := Wc.hid ((RN2.out.keep ((Below.refl _ _).alloc (Nat.le_refl _) (.cells #[.int .i64 0] 3))).types fun b cs fr h => hot b cs _ fr h (by decide))
            have RT4 := Wc.hid (RT2.out.keep W4 HBH.out)
            have RK4 := Wc.hid (RK2.out.trans (Kp.below W4))
            have RB4 := Wc.hid (RB2.out.trans (W4.mono (Nat.le_of_lt HBH.out)))
            clear hrun hO hb4 hot hA4 W4 E1 E2
            go_wp2_with (at_builtin; refine Wv.wp_append HRUN.out rfl rfl rfl rfl ?_)
            go_roundw
            case rel => exact ⟨i + 1, an, nn, cn, a4, n4, c4, rfl, rfl, by go_num, by omega, by rw [HSTEP.out]; exact RN4, by rw [HSTEP.out]; exact HO, RT4, RK4, RB4⟩
            case measure => simp [intOf]; omega
        · obtain rfl : i = c := by omega
          go_wp2_with fail
          go_roundw
          case rel =>
            refine ⟨L + 1, an, nn, cn, aa, na, ca, rfl, rfl, by go_num, by omega, ?_, ?_, RT, RB⟩
            · rw [HNEXT.out]; exact RN
            · rw [HNEXT.out]; exact Wc.hid (Ro.of RA.out)
          case measure => simp [intOf]; omega
end Go.Proofs.Ytafpjnofccfmlaa
