/-
  CommitChain: what the statement's function returns, with none in front, none left out.
-/
import Derived.Test.YtfflhiajbioheaaEu0
import Derived.BigQuiet
import Derived.Deep.QuietTactic
namespace Go.Proofs.Ytfflhiajbioheaa
open Go.RowKit

set_option maxRecDepth 100000 in
set_option maxHeartbeats 12800000 in
theorem chainc_ff (n at_ out id : Int) (w : World) :
    Calls Try.prog 5 #[.int .i64 n, .int .i64 at_, .int .i64 out, .int .i64 id, .bool false, .bool false] w fun e w' => e = .returned (.bool true) ∧ Below w.heap.size w w' := by
  obtain ⟨A, hA, eA⟩ := lowN n 8 (by omega) (by omega)
  obtain ⟨q, hq, eq⟩ := lowN at_ 5 (by omega) (by omega)
  obtain ⟨p, hp, ep⟩ := lowN id 1000 (by omega) (by omega)
  have eA' : wrap64 ((IntKind.u64.wrap n).tmod 8) = (A : Int) := eA
  have eq' : wrap64 ((IntKind.u64.wrap at_).tmod 5) = (q : Int) := eq
  have ep' : wrap64 ((IntKind.u64.wrap id).tmod 1000) = (p : Int) := ep
  have eN : wrap64 (1 + (A : Int)) = ((1 + A : Nat) : Int) := by unfold wrap64; omega
  have eQ : wrap64 (12 + (q : Int)) = ((12 + q : Nat) : Int) := by unfold wrap64; omega
  have eI : wrap64 (1 + (p : Int)) = ((1 + p : Nat) : Int) := by unfold wrap64; omega
  obtain ⟨N, hN⟩ : ∃ N, 1 + A = N := ⟨_, rfl⟩
  obtain ⟨a, ha⟩ : ∃ a, 12 + q = a := ⟨_, rfl⟩
  obtain ⟨I, hI⟩ : ∃ I, 1 + p = I := ⟨_, rfl⟩
  rw [hN] at eN
  rw [ha] at eQ
  rw [hI] at eI
  obtain ⟨o, ho, eo⟩ := lowN out N (by omega) (by omega)
  have hden : IntKind.u64.wrap (wrap64 (1 + wrap64 ((IntKind.u64.wrap n).tmod 8))) = (N : Int) := by rw [eA', eN, IntKind.wrap_u64]; omega
  have hden0 : ¬ IntKind.u64.wrap (wrap64 (1 + wrap64 ((IntKind.u64.wrap n).tmod 8))) = 0 := by rw [hden]; omega
  have hN1 : 1 ≤ N := by omega
  have hN8 : N ≤ 8 := by omega
  have ha12 : 12 ≤ a := by omega
  have ha16 : a ≤ 16 := by omega
  have hI1 : 1 ≤ I := by omega
  have hI2 : I ≤ 1000 := by omega
  clear eA eq ep hN ha hI hA hq hp
  go_enter Try.func5, Try.ntmps5
  go_wp2_with fail
  rw [eN, eQ, eI, eo]
  clear eA' eq' ep' eN eQ eI eo hden hden0
  refine (lrecs_any 30 a N 1920 (I : Int) _ (by decide) (by decide) (by omega) (by omega) (by omega) (by omega) (by omega) rfl).mono ?_
  rintro e w1 ⟨g, rfl, hO1, hb1⟩
  have HX1 := Wc.hid hO1.bs
  have BR1 := Wc.hid hb1
  have H := Wi.rcX_rdv (b := 30) (a := a) (n := N) (f := Wi.fr N a (I : Int)) (by omega) (by omega) (by omega) (by omega) (fun i hi => Wi.fr_ok (by omega) (by omega) (by omega) (by omega) hi)
  obtain ⟨o1, o2, o3, -, o5, o6, o7, o8⟩ := rdv_yes H (by omega) (by omega) (fun i hi => if_pos hi) (if_neg (by omega)) (fun i j hj hi => by show ¬ (I : Int) + (j : Int) = (I : Int) + (i : Int); omega) (fun i h1 hi => rfl) (fun i hi => rfl)
  obtain ⟨Nw, hNw⟩ : ∃ Nw, Wq.news (Wq.oldr N a (I : Int)) (Wq.kk false o) (Wq.r6 (I : Int)) false = Nw := ⟨_, rfl⟩
  obtain ⟨P, hP⟩ : ∃ P, Wq.stay (Wi.sq a N) (Wq.kk false o) = P := ⟨_, rfl⟩
  obtain ⟨K, hK⟩ : ∃ K, Nw.length = K := ⟨_, rfl⟩
  obtain ⟨k1, k2, k3, k4, k5⟩ := chain_all (by omega) (by omega) hN8 (by omega) (by omega) ho hNw hP hK
  have hmay := Wq.chain_may (n := N) (a := a) (I := (I : Int)) (b := false) (lv := false) (o := o) (by omega) (by omega) (by omega) (by omega) ho
  have hK8 : K ≤ 8 := by rw [k1]; simp
  have hcE := Wq.cE_good hmay (by rw [hNw, hK]; show K ≤ 10; omega)
  obtain ⟨X, hX⟩ : ∃ X, Wi.rcX 30 a N (Wi.fr N a (I : Int)) = X := ⟨_, rfl⟩
  obtain ⟨S, hS⟩ : ∃ S, Wi.rcS 30 a N = S := ⟨_, rfl⟩
  have hSb : S.blocks = 30 := by rw [← hS]; rfl
  have hSg : S.gen = 1 := by rw [← hS]; rfl
  have hSo : Ws.supB S = true := by rw [← hS]; exact Wi.rcS_ok (by omega) (by omega) (by omega) (by omega)
  rw [hX] at HX1 o1 o2 o3 o5 o6 o7 o8 k4 k5
  rw [hS] at o2 k3 k4 k5
  have hsE : Wq.sE S 0 (Wq.ws Nw P Wq.frs10 K) 0 0 (Wq.nx P Wq.frs10 K) = 0 := sE_ok (Wq.rdyB_iff.2 ⟨hSo, by rw [hSg]; decide, by decide, by decide⟩) k3 (by rw [hSb]; exact k2)
  have HSE := Wc.hid hsE
  have HK1 := Wc.hid k1
  have HK2 := Wc.hid k2
  have HK4 := Wc.hid k4
  have HK5 := Wc.hid k5
  have HCE := Wc.hid hcE
  have HNW := Wc.hid hNw
  have HP := Wc.hid hP
  have HKL := Wc.hid hK
  have O5 : Hid (opnL X = Wq.oldr N a (I : Int)) := Wc.hid o5
  have O8 : Hid (Wi.recL X ((a : Nat) : Int) = Wq.oldr N a (I : Int)) := Wc.hid o8
  have O6 := Wc.hid o6
  have O7 := Wc.hid o7
  have HSB := Wc.hid hSb
  have HSG := Wc.hid hSg
  clear hSb hSg hX hS hsE k1 k2 k3 k4 k5 hcE hNw hP hK o5 o6 o7 o8 hb1 hO1 H hmay hSo
  go_wp2_with fail
  refine (oopen_any _ X _ HX1.out).mono ?_
  rintro e w2 ⟨a2, m2, c2, rfl, -, hb2⟩
  rw [o1, o2, o3]
  simp only [stv]
  have bA : Below w2.heap.size w2 (w2.alloc (.cells #[.int .i64 S.gen, .int .i64 S.blocks, .int .i64 S.root, .int .i64 S.size, .int .i64 S.first, .int .i64 0, .slice a2 m2 c2] 33)) := (Below.refl _ _).alloc (Nat.le_refl _) _
  have Z2 := Wc.hid (Zh.new w2 S 0 (.slice a2 m2 c2))
  have bB := Wc.step hb2 (Nat.le_refl _) bA
  have BR2 := Wc.hid (Wc.step BR1.out (Nat.le_refl _) bB)
  have HX2 := Wc.hid (HX1.out.keep bB)
  obtain ⟨W2, hW2⟩ : ∃ W2, w2.alloc (.cells #[.int .i64 S.gen, .int .i64 S.blocks, .int .i64 S.root, .int .i64 S.size, .int .i64 S.first, .int .i64 0, .slice a2 m2 c2] 33) = W2 := ⟨_, rfl⟩
  have HW2 := Wc.hid hW2
  rw [hW2] at Z2 BR2 HX2
  obtain ⟨Q, hQ⟩ : ∃ Q, w2.heap.size = Q := ⟨_, rfl⟩
  have HQ := Wc.hid hQ
  rw [hQ] at Z2
  clear hb2 bA bB o1 o2 o3 hW2 hQ
  go_wp2_with fail
  rw [HW2.out, HQ.out]
  refine (records_any _ X ((a : Nat) : Int) _ HX2.out).mono ?_
  rintro e w3 ⟨la, ln, lc, ba, bn, bc, rfl, hL3, hB3, hb3⟩
  rw [O6.out]
  rw [O8.out] at hL3
  rw [O7.out] at hB3
  obtain rfl : N = ln := by have := Wi.rs_len hL3; rw [Wq.oldr_len] at this; exact this
  obtain rfl : N = bn := by have := Wv.rv_len hB3; rw [Wi.sq_length] at this; exact this
  have HL3 := Wc.hid hL3
  have HB3 := Wc.hid hB3
  have Z3 := Wc.hid (Z2.out.keep hb3)
  have HX3 := Wc.hid (HX2.out.keep hb3)
  have BR3 := Wc.hid (Wc.step BR2.out (Nat.le_refl _) hb3)
  clear hL3 hB3 hb3
  have HF0 := Wc.hid (Wv.Ov.nil (val := Value.int .i64) 3 w3.heap.size w3)
  have HC0 := Wc.hid (Below.refl w3.heap.size w3)
  have bF := (Below.refl w3.heap.size w3).alloc (Nat.le_refl _) (.cells #[.int .i64 0, .int .i64 ((I : Int) + 500), .int .i64 0, .int .i64 0, .int .i64 0, .int .i64 0, .int .i64 0, .int .i64 0] 52)
  have RF := Rh.new w3 ⟨0, (I : Int) + 500, 0, 0, 0, 0, 0, 0⟩
  obtain ⟨W4, hW4⟩ : ∃ W4, w3.alloc (.cells #[.int .i64 0, .int .i64 ((I : Int) + 500), .int .i64 0, .int .i64 0, .int .i64 0, .int .i64 0, .int .i64 0, .int .i64 0] 52) = W4 := ⟨_, rfl⟩
  rw [hW4] at bF RF
  have HW4 := Wc.hid hW4
  have HL4 := Wc.hid (HL3.out.keep bF)
  have HB4 : Hid (Wd.In W4 (.slice ba N bc) (Wi.sq a N)) := Wc.hid (HB3.out.keep bF)
  have HX4 := Wc.hid (HX3.out.keep bF)
  have Z4 := Wc.hid (Z3.out.keep bF)
  have BR4 := Wc.hid (Wc.step BR3.out (Nat.le_refl _) bF)
  have HRF := Wc.hid RF
  obtain ⟨Q4, hQ4⟩ : ∃ Q4, w3.heap.size = Q4 := ⟨_, rfl⟩
  have HQ4 := Wc.hid hQ4
  rw [hQ4] at HRF
  have HF4 := Wc.hid (Wv.Ov.nil (val := Value.int .i64) 3 W4.heap.size W4)
  have HC4 := Wc.hid (Below.refl W4.heap.size W4)
  clear bF RF hW4 hQ4 HF0 HC0
  go_wp2_with fail
  rw [HW4.out, HQ4.out]
  go_loopw [21, 22] (fun f i wr => ∃ (j : Nat) (fa : Option Addr) (fc : Nat), i = .int .i64 (2 + (j : Int)) ∧ j ≤ 10 ∧ f = .slice fa j fc ∧ Hid (Wv.Ov (Value.int .i64) 3 W4.heap.size wr (.slice fa j fc) (Wq.frs10.take j)) ∧ Hid (Below W4.heap.size W4 wr)) (fun _ i _ => (12 - intOf i).toNat)
  case atStart => exact ⟨0, none, 0, rfl, by omega, rfl, HF4, HC4⟩
  case round =>
    obtain ⟨j, fa, fc, rfl, hj, rfl, HF, HC⟩ := hrel
    by_cases hjt : j < 10
    · obtain ⟨ua, un, uc, w6, hrun2, hV6, hb6, -⟩ := push_wide wr wr.heap.size W4.heap.size rfl (.slice fa j fc) (Wq.frs10.take j) (2 + (j : Int)) HF.out (by rw [List.length_take]; omega) HC.out.size
      rw [← Wq.frs10_take hjt] at hV6
      have B6 := Wc.hid ((HC.out.alloc HC.out.size (.cells #[.int .i64 (2 + (j : Int))] 3)).trans hb6)
      obtain rfl : j + 1 = un := by have := Wv.rv_len (val := Value.int .i64) (d := (0 : Int)) hV6.rv; rw [List.length_take] at this; have h10 : Wq.frs10.length = 10 := rfl; omega
      have HV6 := Wc.hid hV6
      have hj12 : 2 + (j : Int) < 12 := by omega
      clear hV6 hb6
      go_wp2_with (at_builtin; refine Wv.wp_append hrun2 rfl rfl rfl rfl ?_)
      go_roundw
      case rel => exact ⟨j + 1, ua, uc, by go_num, by omega, rfl, HV6, B6⟩
      case measure => simp [intOf]; omega
    · obtain rfl : j = 10 := by omega
      have hF : Wd.In wr (.slice fa 10 fc) Wq.frs10 := HF.out.rv
      have hj12 : ¬ (2 : Int) + ((10 : Nat) : Int) < 12 := by omega
      have ⟨f0, f1, f2, f3, f4, f5, f6, f7⟩ := (HRF.out.keep HC.out).rc
      simp only at f0 f1 f2 f3 f4 f5 f6 f7
      have HFF := Wc.hid hF
      have HL5 := Wc.hid (HL4.out.keep HC.out)
      have HB5 : Hid (Wd.In wr (.slice ba N bc) (Wi.sq a N)) := Wc.hid (HB4.out.keep HC.out)
      have Z5 := Wc.hid (Z4.out.keep HC.out)
      have HX5 := Wc.hid (HX4.out.keep HC.out)
      have BR5 := Wc.hid (Wc.step BR4.out (Nat.le_refl _) HC.out)
      clear hF
      go_wp2_with fail
      refine (crecs_ok la N lc (Wq.oldr N a (I : Int)) ba N bc (Wi.sq a N) (Wq.kk false o) 0 rfl (Wq.r6 (I : Int)) false fa 10 fc Wq.frs10 _ HL5.out HB5.out HFF.out (by omega) HNW.out HP.out HKL.out HCE.out).mono ?_
      rintro e w7 ⟨al, cl, ar, cr, rfl, hOi, hb7⟩
      have HOi := Wc.hid hOi
      have Z7 := Wc.hid (Z5.out.keep hb7)
      have HX7 := Wc.hid (HX5.out.keep hb7)
      have BR7 := Wc.hid (Wc.step BR5.out (Nat.le_refl _) hb7)
      obtain ⟨RK, hRK⟩ : ∃ RK, 10 - K = RK := ⟨_, rfl⟩
      have hRK2 : (RK : Int) = 10 - (K : Int) := by omega
      rw [show Wq.frs10.length - K = RK from hRK]
      obtain ⟨T, hT⟩ : ∃ T, Wq.nx P Wq.frs10 K = T := ⟨_, rfl⟩
      have HT := Wc.hid hT
      rw [hT] at HSE HK4 HK5 ⊢
      obtain ⟨Wl, hWl⟩ : ∃ Wl, Wq.ws Nw P Wq.frs10 K = Wl := ⟨_, rfl⟩
      have hWn : Wl.length = K := by rw [← hWl, Wq.ws_length]
      rw [hWl] at HSE HK2 HK4 HK5 HOi
      have HWN := Wc.hid hWn
      have ⟨z0, z1, z2, z3, z4, z5, z6⟩ := Z7.out.zc
      clear hOi hb7 hRK hT hWl hWn f0 f1 f2 f3 f4 f5 f6 f7
      go_wp2_with fail
      refine (steps15_any S 0 (.slice a2 m2 c2) al K cl Wl 0 0 T _ HOi.out.is (by omega)).mono ?_
      rintro e w8 ⟨hb8, hy, -⟩
      obtain ⟨xl, xc, rfl, hO8⟩ := hy HSE.out
      rw [HWN.out] at hO8 ⊢
      have HO8 := Wc.hid hO8
      have HX8 := Wc.hid (HX7.out.keep hb8)
      have BR8 := Wc.hid (Wc.step BR7.out (Nat.le_refl _) hb8)
      clear hb8 hy hO8 z0 z1 z2 z3 z4 z5 z6
      go_wp2_with fail
      refine (apply_ob _ 1920 _ _ _ _ X _ _ HX8.out HO8.out.is (Wq.sts_ok (B := 30) (by decide) (by decide) rfl (by decide) (by decide) HK2.out (by rw [HWN.out]; omega))).mono ?_
      rintro e w9 ⟨g9, rfl, hg9, hO9, hb9⟩
      obtain ⟨Y, hY⟩ : ∃ Y, Wd.app X (Wq.sts S 0 Wl 0 0 T) = Y := ⟨_, rfl⟩
      rw [hY] at hO9 HK4 HK5
      have HY := Wc.hid hO9.bs
      have BR9 := Wc.hid (Wc.step BR8.out (Nat.le_refl _) hb9)
      clear hb9 hg9 hO9 hY
      go_wp2_with fail
      refine (oopen_any _ Y _ HY.out).mono ?_
      rintro e w10 ⟨ta, tn, tc, rfl, hR, hb10⟩
      rw [HK4.out]
      obtain ⟨S2, hS2⟩ : ∃ S2, opnS Y = S2 := ⟨_, rfl⟩
      obtain ⟨t2, ht2⟩ : ∃ t2, opnT Y = t2 := ⟨_, rfl⟩
      rw [hS2, ht2]
      simp only [stv]
      have bA := (Below.refl w10.heap.size w10).alloc (Nat.le_refl _) (.cells #[.int .i64 S2.gen, .int .i64 S2.blocks, .int .i64 S2.root, .int .i64 S2.size, .int .i64 S2.first, .int .i64 t2, .slice ta tn tc] 33)
      have Za := Zh.new w10 S2 t2 (.slice ta tn tc)
      obtain ⟨W11, hW11⟩ : ∃ W11, w10.alloc (.cells #[.int .i64 S2.gen, .int .i64 S2.blocks, .int .i64 S2.root, .int .i64 S2.size, .int .i64 S2.first, .int .i64 t2, .slice ta tn tc] 33) = W11 := ⟨_, rfl⟩
      rw [hW11] at bA Za
      have HW11 := Wc.hid hW11
      obtain ⟨Q2, hQ2⟩ : ∃ Q2, w10.heap.size = Q2 := ⟨_, rfl⟩
      rw [hQ2] at Za
      have HQ2 := Wc.hid hQ2
      have ZT := Wc.hid Za
      have HRT := Wc.hid (hR.keep bA)
      have BR11 := Wc.hid (Wc.step (Wc.step BR9.out (Nat.le_refl _) hb10) (Nat.le_refl _) bA)
      clear hS2 ht2 bA Za hW11 hQ2 hb10 hR
      have HV0 := Wc.hid (Wv.Ov.nil (val := Value.int .i64) 3 W11.heap.size W11)
      have HD0 := Wc.hid (Below.refl W11.heap.size W11)
      have HV1 := Wc.hid (show Wv.Ov (Value.int .i64) 3 W11.heap.size W11 (.slice none 0 0) (Wq.wid (I : Int) false false o 0) by rw [Wq.wid_zero]; exact HV0.out)
      go_wp2_with fail
      rw [HW11.out, HQ2.out]
      go_loopw [33, 34] (fun ws i wr => ∃ (q2 : Nat) (wa : Option Addr) (wn wc : Nat), i = .int .i64 (q2 : Int) ∧ q2 ≤ N ∧ ws = .slice wa wn wc ∧ Hid (Wv.Ov (Value.int .i64) 3 W11.heap.size wr (.slice wa wn wc) (Wq.wid (I : Int) false false o q2)) ∧ Hid (Below W11.heap.size W11 wr)) (fun _ i _ => N - (intOf i).toNat)
      case atStart => exact ⟨0, none, 0, 0, rfl, Nat.zero_le _, rfl, HV1, HD0⟩
      case round =>
        obtain ⟨q2, wa, wn, wc, rfl, hq2, rfl, HV, HD⟩ := hrel
        by_cases hqt : q2 < N
        · have hwl := Wq.wid_length (I : Int) false false o q2
          obtain ⟨ua, un, uc, w6, hrun3, hV6, hb6, -⟩ := push_wide wr wr.heap.size W11.heap.size rfl (.slice wa wn wc) (Wq.wid (I : Int) false false o q2) ((I : Int) + (q2 : Int)) HV.out (by omega) HD.out.size
          have B6 := Wc.hid ((HD.out.alloc HD.out.size (.cells #[.int .i64 ((I : Int) + (q2 : Int))] 3)).trans hb6)
          have HV6 := Wc.hid (show Wv.Ov (Value.int .i64) 3 W11.heap.size w6 (.slice ua un uc) (Wq.wid (I : Int) false false o (q2 + 1)) by rw [Wq.wid_yes (.inl rfl)]; exact hV6)
          clear hV6 hb6 hwl
          go_wp2_with (at_builtin; refine Wv.wp_append hrun3 rfl rfl rfl rfl ?_)
          go_roundw
          case rel => exact ⟨q2 + 1, ua, un, uc, by go_num, by omega, rfl, HV6, B6⟩
          case measure => simp [intOf]; omega
        · obtain rfl : q2 = N := by omega
          obtain ⟨W12, rfl⟩ : ∃ W12, W12 = wr := ⟨_, rfl⟩
          have HV2 : Hid (Wd.In W12 (.slice wa wn wc) (Wq.wid (I : Int) false false o q2)) := Wc.hid HV.out.rv
          have HVL : Hid ((Wq.wid (I : Int) false false o q2).length = wn) := Wc.hid (Wv.rv_len (val := Value.int .i64) (d := (0 : Int)) HV.out.rv)
          have HR2 := Wc.hid (HRT.out.keep HD.out)
          have Z12 := Wc.hid (ZT.out.keep HD.out)
          have htn : tn = wn := by
            have h1 := Wi.rs_len HR2.out
            have h2 := congrArg List.length HK5.out
            rw [List.length_map, h1, HVL.out] at h2
            exact h2
          subst htn
          have BR12 := Wc.hid (Wc.step BR11.out (Nat.le_refl _) HD.out)
          have HE0 := Wc.hid (Below.refl W12.heap.size W12)
          have hwl := Wq.wid_length (I : Int) false false o q2
          have htn9 : tn ≤ 9 := by have := HVL.out; omega
          have ⟨z0, z1, z2, z3, z4, z5, z6⟩ := Z12.out.zc
          clear hwl z0 z1 z2 z3 z4 z5
          go_wp2_with fail
          go_loopw [35] (fun i wr => ∃ (q3 : Nat), i = .int .i64 (q3 : Int) ∧ q3 ≤ tn ∧ Hid (Below W12.heap.size W12 wr)) (fun i _ => tn - (intOf i).toNat)
          case atStart => exact ⟨0, rfl, Nat.zero_le _, HE0⟩
          case round =>
            obtain ⟨q3, rfl, hq3, HE⟩ := hrel
            by_cases h3t : q3 < tn
            · obtain ⟨br, ofr, rfl, hbr, hcr⟩ : ∃ b off, ta = some ⟨b, off, none⟩ ∧ b < W12.heap.size ∧ ∀ i, i < tn → Wi.Ra W12 b (off + i * 8) ((opnL Y).getD i Wr.r0) := by
                obtain ⟨_, _, _, h1, _, _, _, _, h6⟩ := HR2.out; cases h1; exact h6 (by omega)
              obtain ⟨bw, ofw, rfl, hbw, hcw⟩ : ∃ b off, wa = some ⟨b, off, none⟩ ∧ b < W12.heap.size ∧ ∀ i, i < tn → W12.cell? ⟨b, off + i, none⟩ = some (.int .i64 ((Wq.wid (I : Int) false false o q2).getD i 0)) := by
                obtain ⟨_, _, _, h1, _, _, _, _, h6⟩ := HV2.out; cases h1; exact h6 (by omega)
              have e1 := ((hcr q3 h3t).keep HE.out).2.1
              have e2 := (HE.out.cell (p := ⟨bw, ofw + q3, none⟩) hbw).trans (hcw q3 h3t)
              have hge : ((opnL Y).getD q3 Wr.r0).id = (Wq.wid (I : Int) false false o q2).getD q3 0 := by
                rw [← HK5.out, List.getD_eq_getElem?_getD, List.getD_eq_getElem?_getD, List.getElem?_map]
                have hlt : q3 < (opnL Y).length := by rw [Wi.rs_len HR2.out]; exact h3t
                rw [List.getElem?_eq_getElem hlt]; rfl
              rw [hge] at e1
              obtain ⟨v3, hv3⟩ : ∃ v3, (Wq.wid (I : Int) false false o q2).getD q3 0 = v3 := ⟨_, rfl⟩
              rw [hv3] at e1 e2
              have ⟨y0, y1, y2, y3, y4, y5, y6⟩ := (Z12.out.keep HE.out).zc
              have h3i : (q3 : Int) < (tn : Int) := by omega
              clear hcr hcw hge hv3 hbr hbw y0 y1 y2 y3 y4 y5 z6
              go_wp2_with fail
              go_big_quiet (fail)
              go_wp2
              go_roundw
              case rel => exact ⟨q3 + 1, by go_num, by omega, Wc.hid (HE.out.trans (below_drewN (Below.refl _ _) _))⟩
              case measure => simp [intOf]; omega
            · obtain rfl : q3 = tn := by omega
              have hKi : (K : Int) = 0 := by have hKv := HK1.out; simp at hKv; omega
              go_wp2_with (go_at_call 12; refine (wakes15_any _).mono ?_; rintro e w19 ⟨rfl, hb19⟩)
              all_goals go_ret
              all_goals exact ⟨rfl, Wc.step (Wc.step BR12.out (Nat.le_refl _) HE.out) (Nat.le_refl _) hb19⟩
end Go.Proofs.Ytfflhiajbioheaa
