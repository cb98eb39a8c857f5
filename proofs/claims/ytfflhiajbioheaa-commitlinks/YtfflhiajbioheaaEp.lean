/-
  CommitLinks: what the statement's function returns.
-/
import Derived.Test.YtfflhiajbioheaaEo
import Derived.BigQuiet
import Derived.Deep.QuietTactic
namespace Go.Proofs.Ytfflhiajbioheaa
open Go.RowKit

set_option maxRecDepth 100000 in
set_option maxHeartbeats 12800000 in
theorem links_any (n id : Int) (b : Bool) (w : World) :
    Calls Try.prog 6 #[.int .i64 n, .int .i64 id, .bool b] w fun e w' => e = .returned (.bool true) ∧ Below w.heap.size w w' := by
  obtain ⟨A, hA, eA⟩ := lowN n 9 (by omega) (by omega)
  obtain ⟨q, hq, eq⟩ := lowN id 1000 (by omega) (by omega)
  have eA' : wrap64 ((IntKind.u64.wrap n).tmod 9) = (A : Int) := eA
  have eq' : wrap64 ((IntKind.u64.wrap id).tmod 1000) = (q : Int) := eq
  have eN : wrap64 (1 + (A : Int)) = ((1 + A : Nat) : Int) := by unfold wrap64; omega
  have eI : wrap64 (1 + (q : Int)) = ((1 + q : Nat) : Int) := by unfold wrap64; omega
  obtain ⟨N, hN⟩ : ∃ N, 1 + A = N := ⟨_, rfl⟩
  obtain ⟨I, hI⟩ : ∃ I, 1 + q = I := ⟨_, rfl⟩
  rw [hN] at eN
  rw [hI] at eI
  have hN1 : 1 ≤ N := by omega
  have hN9 : N ≤ 9 := by omega
  have hI1 : 1 ≤ I := by omega
  have hI2 : I ≤ 1000 := by omega
  clear eA eq hN hA hI hq
  have HO0 := Wc.hid (Wi.Or.nil 52 w.heap.size w)
  have HV0 := Wc.hid (Wv.Ov.nil (val := Value.int .i64) 3 w.heap.size w)
  have HB0 := Wc.hid (Below.refl w.heap.size w)
  go_enter Try.func6, Try.ntmps6
  go_wp2_with fail
  rw [eA', eq', eN, eI]
  clear eA' eq' eN eI
  go_loopw [7, 8, 10] (fun o bl i wr => ∃ (k : Nat) (xa ya : Option Addr) (xc yc : Nat), i = .int .i64 (k : Int) ∧ k ≤ N ∧ o = .slice xa k xc ∧ bl = .slice ya k yc ∧ Hid (Wi.Or 52 w.heap.size wr (.slice xa k xc) (Wq.olds I k)) ∧ Hid (Wv.Ov (Value.int .i64) 3 w.heap.size wr (.slice ya k yc) (Wq.bls k)) ∧ Hid (Below w.heap.size w wr)) (fun _ _ i _ => N - (intOf i).toNat)
  case atStart => exact ⟨0, none, none, 0, 0, rfl, Nat.zero_le _, rfl, rfl, HO0, HV0, HB0⟩
  case round =>
    obtain ⟨k, xa, ya, xc, yc, rfl, hk, rfl, rfl, HO, HV, HB⟩ := hrel
    by_cases hlt : k < N
    · obtain ⟨za, zn, zc, w4, hrun1, hO4, hb4, hst4⟩ := pushr_run wr wr wr.heap.size w.heap.size rfl (.slice xa k xc) (Wq.olds I k) ⟨0, (I : Int) + k, (I : Int) + k + 1, 0, k, 0, 0, 0⟩ HO.out (Below.refl _ _) (by rw [Wq.olds_len]; omega) HB.out.size
      rw [← Wq.olds_succ] at hO4
      have B4 := Wc.hid ((HB.out.alloc HB.out.size (.cells #[.int .i64 0, .int .i64 ((I : Int) + k), .int .i64 ((I : Int) + k + 1), .int .i64 0, .int .i64 (k : Int), .int .i64 0, .int .i64 0, .int .i64 0] 52)).trans hb4)
      have hV4 := Wi.ov_types HV.out (fun bb cs fr h => hst4 bb cs 3 fr h (.inl (by decide)))
      obtain ⟨ua, un, uc, w6, hrun2, hV6, hb6, hst6⟩ := push_wide w4 w4.heap.size w.heap.size rfl (.slice ya k yc) (Wq.bls k) (40 + (k : Int)) hV4 (by rw [Wq.bls_len]; omega) B4.out.size
      rw [← Wq.bls_succ] at hV6
      have B6 := Wc.hid ((B4.out.alloc B4.out.size (.cells #[.int .i64 (40 + (k : Int))] 3)).trans hb6)
      have hO6 := (hO4.keep ((Below.refl w4.heap.size w4).alloc (Nat.le_refl _) (.cells #[.int .i64 (40 + (k : Int))] 3))).types (fun bb cs fr h => hst6 bb cs 52 fr h (by decide))
      obtain rfl : k + 1 = zn := by have := Wi.rs_len hO6.rs; rw [Wq.olds_len] at this; exact this
      obtain rfl : k + 1 = un := by have := Wv.rv_len (val := Value.int .i64) (d := (0 : Int)) hV6.rv; rw [Wq.bls_len] at this; exact this
      have HO6 := Wc.hid hO6
      have HV6 := Wc.hid hV6
      clear hO4 hb4 hst4 hV4 hV6 hb6 hst6 hO6
      go_wp2_with (first | (at_builtin; refine Wv.wp_append hrun1 rfl rfl rfl rfl ?_) | (at_builtin; refine Wv.wp_append hrun2 rfl rfl rfl rfl ?_))
      go_roundw
      case rel => exact ⟨k + 1, za, ua, zc, uc, by go_num, by omega, rfl, rfl, HO6, HV6, B6⟩
      case measure => simp [intOf]; omega
    · obtain rfl : k = N := by omega
      obtain ⟨W1, rfl⟩ : ∃ W1, W1 = wr := ⟨_, rfl⟩
      have HF0 := Wc.hid (Wv.Ov.nil (val := Value.int .i64) 3 W1.heap.size W1)
      have HC0 := Wc.hid (Below.refl W1.heap.size W1)
      go_wp2_with fail
      go_loopw [9, 11] (fun f i wr => ∃ (j : Nat) (fa : Option Addr) (fc : Nat), i = .int .i64 (j : Int) ∧ j ≤ k + 1 ∧ f = .slice fa j fc ∧ Hid (Wv.Ov (Value.int .i64) 3 W1.heap.size wr (.slice fa j fc) (Wq.frs j)) ∧ Hid (Below W1.heap.size W1 wr)) (fun _ i _ => k + 1 - (intOf i).toNat)
      case atStart => exact ⟨0, none, 0, rfl, Nat.zero_le _, rfl, HF0, HC0⟩
      case round =>
        obtain ⟨j, fa, fc, rfl, hj, rfl, HF, HC⟩ := hrel
        by_cases hjt : j < k + 1
        · obtain ⟨ua, un, uc, w6, hrun2, hV6, hb6, -⟩ := push_wide wr wr.heap.size W1.heap.size rfl (.slice fa j fc) (Wq.frs j) (2 + 3 * (j : Int)) HF.out (by rw [Wq.frs_len]; omega) HC.out.size
          rw [← Wq.frs_succ] at hV6
          have B6 := Wc.hid ((HC.out.alloc HC.out.size (.cells #[.int .i64 (2 + 3 * (j : Int))] 3)).trans hb6)
          obtain rfl : j + 1 = un := by have := Wv.rv_len (val := Value.int .i64) (d := (0 : Int)) hV6.rv; rw [Wq.frs_len] at this; exact this
          have HV6 := Wc.hid hV6
          clear hV6 hb6
          go_wp2_with (at_builtin; refine Wv.wp_append hrun2 rfl rfl rfl rfl ?_)
          go_roundw
          case rel => exact ⟨j + 1, ua, uc, by go_num, by omega, rfl, HV6, B6⟩
          case measure => simp [intOf]; omega
        · obtain rfl : j = k + 1 := by omega
          have hcE := Wq.cE_good (Wq.links_may (b := b) (I := (I : Int)) (n := k) (by omega) (by omega) hN9) (by rw [Wq.links_len, Wq.frs_len]; split <;> omega)
          have HCE := Wc.hid hcE
          have HO5 := Wc.hid (HO.out.rs.keep HC.out)
          have HV5 : Hid (Wd.In wr (.slice ya k yc) (Wq.bls k)) := Wc.hid (HV.out.rv.keep HC.out)
          have BW := Wc.hid (Wc.step HB.out (Nat.le_refl _) HC.out)
          have hKl := Wq.links_len (I : Int) k b
          clear hcE
          go_wp2_with fail
          refine (records15_any xa k xc (Wq.olds I k) ya k yc (Wq.bls k) (k : Int) Wq.r5 b fa (k + 1) fc (Wq.frs (k + 1)) _ HO5.out HV5.out HF.out.rv (by omega)).mono ?_
          rintro e w5 ⟨hb5, hy, -⟩
          obtain ⟨al, cl, ar, cr, rfl, hOi, -⟩ := hy HCE.out
          rw [Int.toNat_natCast, Wq.links_stay] at hOi ⊢
          have hlkA := fun j h => Wq.links_at (I := (I : Int)) (n := k) (k := j) b h (Wq.frs (k + 1))
          have hlkB : b = true → Wq.lk (Wq.news (Wq.olds I k) k Wq.r5 b) 0 (Wq.frs (k + 1)) (k - 1) = ⟨Wq.nx 0 (Wq.frs (k + 1)) (k - 1), 5000, 0, 0, 0, 0, 0, 0⟩ := fun h => by rw [h]; exact Wq.links_end (I := (I : Int)) (n := k) (Wq.frs (k + 1))
          have hlkok := fun j hj => Wq.lk_ok (k := j) (Wq.links_may (b := b) (I := (I : Int)) (n := k) (by omega) (by omega) hN9) hj (by rw [Wq.links_len, Wq.frs_len]; split <;> omega)
          rw [Wq.links_stay] at hlkok
          obtain ⟨Nw, hNw⟩ : ∃ Nw, Wq.news (Wq.olds I k) k Wq.r5 b = Nw := ⟨_, rfl⟩
          rw [hNw] at hOi hlkA hlkB hlkok hKl ⊢
          obtain ⟨K, hK⟩ : ∃ K, Nw.length = K := ⟨_, rfl⟩
          rw [hK] at hOi hlkok hKl ⊢
          obtain ⟨F, hF⟩ : ∃ F, Wq.frs (k + 1) = F := ⟨_, rfl⟩
          have HF5 : Hid (Wd.In w5 (.slice fa (k + 1) fc) (Wq.frs (k + 1))) := Wc.hid (HF.out.rv.keep hb5)
          rw [hF] at hOi hlkA hlkB hlkok HF5 ⊢
          have hKk : K ≤ k := by rw [hKl]; split <;> omega
          have HI5 := Wc.hid hOi.is
          have HO6 := Wc.hid (HO5.out.keep hb5)
          have BW5 := Wc.hid (Wc.step BW.out (Nat.le_refl _) hb5)
          have BR5 := Wc.hid (Below.refl w5.heap.size w5)
          have HLA := Wc.hid hlkA
          have HLB := Wc.hid hlkB
          have HLO := Wc.hid hlkok
          have HKL := Wc.hid hKl
          obtain ⟨T, hT⟩ : ∃ T, Wq.nx 0 F K = T := ⟨_, rfl⟩
          have HT := Wc.hid hT
          rw [hT]
          have hKd : decide (k < K) = false := decide_eq_false (by omega)
          have h0 : Wq.nx 0 F 0 = 0 := rfl
          have H0 := Wc.hid h0
          clear hb5 hy hOi hlkA hlkB hlkok hNw hK hF hKl hT h0 HF HO HV HCE
          go_wp2_with fail
          go_loopw [16, 17] (fun z i wr => ∃ (j : Nat), i = .int .i64 (j : Int) ∧ j ≤ K ∧ z = .int .i64 (Wq.nx 0 F j) ∧ Hid (Below w5.heap.size w5 wr)) (fun _ i _ => K - (intOf i).toNat)
          case atStart => exact ⟨0, rfl, Nat.zero_le _, by rw [H0.out], BR5⟩
          case round =>
            obtain ⟨j, rfl, hj, rfl, HB6⟩ := hrel
            by_cases hjt : j < K
            · obtain ⟨bw, ow, rfl, hbw, hcw⟩ : ∃ b off, al = some ⟨b, off, none⟩ ∧ b < w5.heap.size ∧ ∀ i, i < K → ∃ a' c', Wd.At w5 b (off + i * 3) ((Wq.ws Nw 0 F K).getD i Wd.d0) a' c' := by
                obtain ⟨_, _, _, h1, _, _, _, _, h6⟩ := HI5.out; cases h1; exact h6 (by omega)
              obtain ⟨bf, off, rfl, hbf, hcf⟩ : ∃ b off, fa = some ⟨b, off, none⟩ ∧ b < w5.heap.size ∧ ∀ i, i < k + 1 → w5.cell? ⟨b, off + i, none⟩ = some (.int .i64 (F.getD i 0)) := by
                obtain ⟨_, _, _, h1, _, _, _, _, h6⟩ := HF5.out; cases h1; exact h6 (by omega)
              obtain ⟨ax, cx, hx⟩ := hcw j hjt
              rw [Wq.ws_at hjt] at hx
              obtain ⟨c0, c1, c2, c3, -⟩ := hx.keep HB6.out
              have cf := (HB6.out.cell (p := ⟨bf, off + j, none⟩) hbf).trans (hcf j (by omega))
              have hr := HLO.out j hjt
              have hpb := Wr.par_blk hr
              obtain ⟨y, hy⟩ : ∃ y, F.getD j 0 = y := ⟨_, rfl⟩
              have hnx : Wq.nx 0 F (j + 1) = y := by rw [Wq.nx_succ, hy]
              obtain ⟨z, hz⟩ : ∃ z, Wq.nx 0 F j = z := ⟨_, rfl⟩
              rw [hy] at c0 c1 cf
              rw [hz]
              obtain ⟨D, hD⟩ : ∃ D, Wr.blk (Wq.lk Nw 0 F j) = D := ⟨_, rfl⟩
              have hDl : D.length = 64 := by rw [← hD]; exact Wr.blk_length _
              rw [hD] at hpb c2 c3
              rw [show (⟨1, y, D⟩ : Wd.Io).data.length = 64 from hDl] at c2 c3
              simp only at c0 c1 c3
              have HC3 := Wc.hid c3
              have HPB := Wc.hid hpb
              have HNX := Wc.hid hnx
              have HZ := Wc.hid hz
              have hbwr : bw < wr.heap.size := Nat.lt_of_lt_of_le hbw HB6.out.size
              have hbfr : bf < wr.heap.size := Nat.lt_of_lt_of_le hbf HB6.out.size
              have C1 := Wc.hid c1
              have CF := Wc.hid cf
              clear hx hcw hcf hr hpb hy hnx hz hD hDl c3
              by_cases hA : j < k - 1
              · have hlk := HLA.out j hA
                obtain ⟨m, hm⟩ : ∃ m, k - 2 - j = m := ⟨_, rfl⟩
                rw [hm, HZ.out] at hlk
                obtain ⟨bo, oo, rfl, hbo, hco⟩ : ∃ b off, xa = some ⟨b, off, none⟩ ∧ b < w5.heap.size ∧ ∀ i, i < k → Wi.Ra w5 b (off + i * 8) ((Wq.olds (I : Int) k).getD i Wr.r0) := by
                  obtain ⟨_, _, _, h1, _, _, _, _, h6⟩ := HO6.out; cases h1; exact h6 (by omega)
                have hra := (hco m (by omega)).keep HB6.out
                rw [Wq.olds_at _ (by omega)] at hra
                have hsub : (k : Int) - 2 - (j : Int) = (m : Int) := by omega
                have hjk : (j : Int) < (k : Int) - 1 := by omega
                have hjn : ¬ (j : Int) = (k : Int) - 1 := by omega
                have hmk : m < k := by omega
                have hjn' : ((j : Int) == (k : Int) - 1) = false := by rw [beq_eq_false_iff_ne]; exact hjn
                have hmk' : (m : Int) < (k : Int) := by omega
                have hjK' : (j : Int) < (K : Int) := by omega
                have hjf' : (j : Int) < (k : Int) + 1 := by omega
                have HRA := Wc.hid hra
                have HLK := Wc.hid hlk
                clear hco hbo hra hlk hm
                go_wp2_with fail
                refine (parse8_any (.slice ax 64 cx) D _ HC3.out).mono ?_
                rintro e w7 ⟨rfl, hb7⟩
                rw [HPB.out.1, HPB.out.2, HLK.out]
                simp only [rv]
                have bA := Wc.step hb7 (Nat.le_refl _) ((Below.refl w7.heap.size w7).alloc (Nat.le_refl _) (.cells #[.int .i64 z, .int .i64 ((I : Int) + m), .int .i64 ((I : Int) + m + 1), .int .i64 0, .int .i64 (m : Int), .int .i64 0, .int .i64 0, .int .i64 0] 52))
                have R8 := Rh.new w7 ⟨z, (I : Int) + m, (I : Int) + m + 1, 0, m, 0, 0, 0⟩
                obtain ⟨W8, hW8⟩ : ∃ W8, w7.alloc (.cells #[.int .i64 z, .int .i64 ((I : Int) + m), .int .i64 ((I : Int) + m + 1), .int .i64 0, .int .i64 (m : Int), .int .i64 0, .int .i64 0, .int .i64 0] 52) = W8 := ⟨_, rfl⟩
                rw [hW8] at bA R8
                have HW8 := Wc.hid hW8
                have B8 := Wc.hid (Wc.step HB6.out (Nat.le_refl _) bA)
                obtain ⟨r0, r1, r2, r3, r4, r5, r6, r7⟩ := R8.rc
                simp only at r0 r1 r2 r4
                obtain ⟨e0, e1, e2, e3, e4, e5, e6, e7⟩ := HRA.out.keep bA
                have g1 := (bA.cell (p := ⟨bw, ow + j * 3 + 1, none⟩) hbwr).trans C1.out
                have gf := (bA.cell (p := ⟨bf, off + j, none⟩) hbfr).trans CF.out
                obtain ⟨B7, hB7⟩ : ∃ B7, w7.heap.size = B7 := ⟨_, rfl⟩
                have HB7 := Wc.hid hB7
                rw [hB7] at r0 r1 r2 r4
                clear hb7 R8 hW8 r3 r5 r6 r7 e0 e3 e5 e6 e7 c0 c1 c2 cf bA hB7
                go_wp2_with fail
                rw [HW8.out, HB7.out]
                go_wp2_with fail
                go_big_quiet (fail)
                go_wp2_with fail
                go_big_quiet (fail)
                go_wp2
                go_roundw
                case rel => exact ⟨j + 1, by go_num, by omega, by rw [HNX.out], Wc.hid (B8.out.trans (below_drewN (Below.refl _ _) _))⟩
                case measure => simp [intOf]; omega
              · have hb : b = true := by
                  cases b with
                  | true => rfl
                  | false => have := HKL.out; simp at this; omega
                have hj1 : j = k - 1 := by have := HKL.out; rw [hb] at this; simp at this; omega
                have hlk := HLB.out hb
                rw [← hj1, HZ.out] at hlk
                have hjk : ¬ (j : Int) < (k : Int) - 1 := by omega
                have hjd : decide ((j : Int) < (k : Int) - 1) = false := decide_eq_false hjk
                have hjn : (j : Int) = (k : Int) - 1 := by omega
                have hjb : ((j : Int) == (k : Int) - 1) = true := by rw [beq_iff_eq]; exact hjn
                have hjK' : (j : Int) < (K : Int) := by omega
                have hjf' : (j : Int) < (k : Int) + 1 := by omega
                clear hj1 hA hjn hb
                have HLK := Wc.hid hlk
                clear hlk
                go_wp2_with fail
                refine (parse8_any (.slice ax 64 cx) D _ HC3.out).mono ?_
                rintro e w7 ⟨rfl, hb7⟩
                rw [HPB.out.1, HPB.out.2, HLK.out]
                simp only [rv]
                have bA := Wc.step hb7 (Nat.le_refl _) ((Below.refl w7.heap.size w7).alloc (Nat.le_refl _) (.cells #[.int .i64 z, .int .i64 5000, .int .i64 0, .int .i64 0, .int .i64 0, .int .i64 0, .int .i64 0, .int .i64 0] 52))
                have R8 := Rh.new w7 ⟨z, 5000, 0, 0, 0, 0, 0, 0⟩
                obtain ⟨W8, hW8⟩ : ∃ W8, w7.alloc (.cells #[.int .i64 z, .int .i64 5000, .int .i64 0, .int .i64 0, .int .i64 0, .int .i64 0, .int .i64 0, .int .i64 0] 52) = W8 := ⟨_, rfl⟩
                rw [hW8] at bA R8
                have HW8 := Wc.hid hW8
                have B8 := Wc.hid (Wc.step HB6.out (Nat.le_refl _) bA)
                obtain ⟨r0, r1, r2, r3, r4, r5, r6, r7⟩ := R8.rc
                simp only at r0 r1
                have g1 := (bA.cell (p := ⟨bw, ow + j * 3 + 1, none⟩) hbwr).trans C1.out
                have gf := (bA.cell (p := ⟨bf, off + j, none⟩) hbfr).trans CF.out
                obtain ⟨B7, hB7⟩ : ∃ B7, w7.heap.size = B7 := ⟨_, rfl⟩
                have HB7 := Wc.hid hB7
                rw [hB7] at r0 r1
                clear hb7 R8 hW8 r2 r3 r4 r5 r6 r7 c0 c1 c2 cf bA hB7
                go_wp2_with fail
                rw [HW8.out, HB7.out]
                go_wp2_with fail
                go_big_quiet (fail)
                go_wp2_with fail
                go_big_quiet (fail)
                go_wp2
                go_roundw
                case rel => exact ⟨j + 1, by go_num, by omega, by rw [HNX.out], Wc.hid (B8.out.trans (below_drewN (Below.refl _ _) _))⟩
                case measure => simp [intOf]; omega
            · obtain rfl : j = K := by omega
              rw [HT.out]
              cases b with
              | true =>
                have hKe : (j : Int) = (k : Int) := by have := HKL.out; simp at this; omega
                go_wp2_with (go_at_call 12; refine (wakes15_any _).mono ?_; rintro e w9 ⟨rfl, hb9⟩)
                all_goals go_ret
                all_goals exact ⟨rfl, Wc.step (Wc.step BW5.out (Nat.le_refl _) HB6.out) (Nat.le_refl _) hb9⟩
              | false =>
                have hKe : (j : Int) = (k : Int) - 1 := by have := HKL.out; simp at this; omega
                go_wp2_with (go_at_call 12; refine (wakes15_any _).mono ?_; rintro e w9 ⟨rfl, hb9⟩)
                all_goals go_ret
                all_goals exact ⟨rfl, Wc.step (Wc.step BW5.out (Nat.le_refl _) HB6.out) (Nat.le_refl _) hb9⟩
end Go.Proofs.Ytfflhiajbioheaa
