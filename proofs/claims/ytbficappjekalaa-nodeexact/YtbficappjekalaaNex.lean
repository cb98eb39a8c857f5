/-
  NodeExact returns true, for every node, all bytes, every sector and level.
-/
import Derived.Test.YtbficappjekalaaNrp
import Derived.Test.YtbficappjekalaaNseal
import Derived.Test.YtbficappjekalaaNwake
namespace Go.Proofs.Ytbficappjekalaa
open Go.RowKit

theorem bs_slice {w : World} {v : Value} {xs : List Int} (h : Wc.Bs w v xs) : ∃ a c, v = .slice a xs.length c := by
  obtain ⟨a, n, c, rfl, hn, -⟩ := h
  exact ⟨a, c, by rw [hn]⟩

theorem place_span (s l m : Int) (k : Nat) (hk : (k : Int) = l) (hm : m = 8 ^ k) (h2 : l ≤ 2) (s0 : 0 ≤ s) (s1 : s < m * 8) : Wn.placeR s l = (s / m, s % m, 0) := by
  have e : l.toNat = k := by omega
  have e2 : (8 : Int) ^ l.toNat = m := by rw [e, hm]
  have := Wn.place_yes (s := s) (l := l) ⟨by omega, h2, s0, by rw [e2]; omega⟩
  rw [e2] at this
  exact this

theorem place_wide (s l m : Int) (k : Nat) (hk : (k : Int) = l) (hm : m = 8 ^ k) (s1 : ¬ s < m * 8) : Wn.placeR s l = (0, 0, 1) := by
  have e : l.toNat = k := by omega
  have e2 : (8 : Int) ^ l.toNat = m := by rw [e, hm]
  exact Wn.place_no (fun h => s1 (by have := h.2.2.2; rw [e2] at this; omega))

theorem pow83 {k : Nat} (h : k ≤ 3) : 1 ≤ (8 : Int) ^ k ∧ (8 : Int) ^ k ≤ 512 := by
  have : k = 0 ∨ k = 1 ∨ k = 2 ∨ k = 3 := by omega
  rcases this with rfl | rfl | rfl | rfl <;> decide

set_option maxRecDepth 100000 in
set_option maxHeartbeats 1600000 in
theorem nodeExact_long (s : Wn.Nod) (a : Option Addr) (n cap : Nat) (sec lev : Int) (w : World) (hn : 300 < n) :
    Calls Try.prog 3 #[nv s, .slice a n cap, .int .i64 sec, .int .i64 lev] w fun e w' => e = .returned (.bool true) ∧ Below w.heap.size w w' := by
  have h : decide ((300 : Int) < (n : Int)) = true := by simp; omega
  clear hn
  unfold nv
  go_enter Try.func3, Try.ntmps3
  go_wp2_with fail
  go_ret
  exact ⟨rfl, (Below.refl _ _).alloc (Nat.le_refl _) _⟩

set_option maxRecDepth 100000 in
set_option maxHeartbeats 12800000 in
theorem nodeExact_yes (s : Wn.Nod) (a : Option Addr) (n cap : Nat) (xs : List Int) (sec lev : Int) (w : World) (hs : Wn.nodB s = true) (hn : n ≤ 300)
    (hb : Wc.Bs w (.slice a n cap) xs) (sb : Wc.Shaped (.slice a n cap)) (_hsl : -9223372036854775808 ≤ sec ∧ sec ≤ 9223372036854775807) (_hll : -9223372036854775808 ≤ lev ∧ lev ≤ 9223372036854775807) :
    Calls Try.prog 3 #[nv s, .slice a n cap, .int .i64 sec, .int .i64 lev] w fun e w' => e = .returned (.bool true) ∧ Below w.heap.size w w' := by
  have h300 : decide ((300 : Int) < (n : Int)) = false := by simp; omega
  have HS := Wc.hid hs
  have S0 := Wc.hid (Nh.new w s)
  have L0 := Wc.hid ((Below.refl w.heap.size w).alloc (Nat.le_refl _) (.cells #[.int .i64 s.level, .int .i64 s.p0, .int .i64 s.p1, .int .i64 s.p2, .int .i64 s.p3, .int .i64 s.p4, .int .i64 s.p5, .int .i64 s.p6, .int .i64 s.p7] 24))
  have X0 := Wc.hid (hb.alloc (.cells #[.int .i64 s.level, .int .i64 s.p0, .int .i64 s.p1, .int .i64 s.p2, .int .i64 s.p3, .int .i64 s.p4, .int .i64 s.p5, .int .i64 s.p6, .int .i64 s.p7] 24))
  clear hs hb hn
  obtain ⟨p, hp⟩ : ∃ p, Wn.par xs = p := ⟨_, rfl⟩
  obtain ⟨E, hE⟩ : ∃ E, Wn.parE xs = E := ⟨_, rfl⟩
  have HP := Wc.hid hp
  have HE := Wc.hid hE
  clear hp hE
  unfold nv
  go_enter Try.func3, Try.ntmps3
  go_wp2_with fail
  clear h300
  obtain ⟨W0, hW0⟩ : ∃ W0, w.alloc (.cells #[.int .i64 s.level, .int .i64 s.p0, .int .i64 s.p1, .int .i64 s.p2, .int .i64 s.p3, .int .i64 s.p4, .int .i64 s.p5, .int .i64 s.p6, .int .i64 s.p7] 24) = W0 := ⟨_, rfl⟩
  rw [hW0] at S0 L0 X0 ⊢
  clear hW0
  refine (twin_any _ xs _ X0.out sb).mono ?_
  rintro e w1 ⟨vc, rfl, hC, hbb⟩
  have S1 := Wc.hid (S0.out.keep hbb)
  clear S0
  have L1 := Wc.hid (Wc.step L0.out (Nat.le_refl _) hbb)
  clear L0
  have X1 := Wc.hid (X0.out.keep hbb)
  clear X0
  have C1 := Wc.hid hC
  clear hC hbb
  obtain ⟨aC, cC, rfl⟩ := bs_slice C1.out
  have ⟨k, k0, k1, k2, k3, k4, k5, k6, k7⟩ := S1.out.nc
  go_wp2_with fail
  clear k k0 k1 k2 k3 k4 k5 k6 k7
  refine (bytes7_ok s _ HS.out).mono ?_
  rintro e w3 ⟨gx, rfl, hgx, hr, hbb⟩
  have S2 := Wc.hid (S1.out.keep hbb)
  clear S1
  have L2 := Wc.hid (Wc.step L1.out (Nat.le_refl _) hbb)
  clear L1
  have X2 := Wc.hid (X1.out.keep hbb)
  clear X1
  have C2 := Wc.hid (C1.out.keep hbb)
  clear C1
  have R2 := Wc.hid (hr.bs (Wn.blk_length _) (Wn.blk_bd _))
  clear hgx hr hbb
  go_wp2_with fail
  refine (parse7_any _ xs _ C2.out).mono ?_
  rintro e w4 ⟨rfl, hbb⟩
  rw [HP.out, HE.out]
  unfold nv
  have S3 := Wc.hid (S2.out.keep hbb)
  clear S2
  have L3 := Wc.hid (Wc.step L2.out (Nat.le_refl _) hbb)
  clear L2
  have X3 := Wc.hid (X2.out.keep hbb)
  clear X2
  have C3 := Wc.hid (C2.out.keep hbb)
  clear C2
  have R3 := Wc.hid (R2.out.keep hbb)
  clear R2
  clear hbb
  have HAL := Wc.hid ((Below.refl w4.heap.size w4).alloc (Nat.le_refl _) (.cells #[.int .i64 p.level, .int .i64 p.p0, .int .i64 p.p1, .int .i64 p.p2, .int .i64 p.p3, .int .i64 p.p4, .int .i64 p.p5, .int .i64 p.p6, .int .i64 p.p7] 24))
  have S4 := Wc.hid (S3.out.keep HAL.out)
  clear S3
  have L4 := Wc.hid (Wc.step L3.out (Nat.le_refl _) HAL.out)
  clear L3
  have X4 := Wc.hid (X3.out.keep HAL.out)
  clear X3
  have C4 := Wc.hid (C3.out.keep HAL.out)
  clear C3
  have R4 := Wc.hid (R3.out.keep HAL.out)
  clear R3
  have D4 := Wc.hid (Nh.new w4 p)
  clear HAL
  go_wp2_with fail
  obtain ⟨W4, hW4⟩ : ∃ W4, w4.alloc (.cells #[.int .i64 p.level, .int .i64 p.p0, .int .i64 p.p1, .int .i64 p.p2, .int .i64 p.p3, .int .i64 p.p4, .int .i64 p.p5, .int .i64 p.p6, .int .i64 p.p7] 24) = W4 := ⟨_, rfl⟩
  rw [hW4] at S4 L4 X4 C4 R4 D4 ⊢
  clear hW4
  refine (place_below _ _ _).mono ?_
  rintro e w5 ⟨rfl, hbb⟩
  obtain ⟨pa, hpa⟩ : ∃ pa, (Wn.placeR sec lev).1 = pa := ⟨_, rfl⟩
  obtain ⟨pr, hpr⟩ : ∃ pr, (Wn.placeR sec lev).2.1 = pr := ⟨_, rfl⟩
  obtain ⟨pg, hpg⟩ : ∃ pg, (Wn.placeR sec lev).2.2 = pg := ⟨_, rfl⟩
  have HQ : Hid (Wn.placeR sec lev = (pa, pr, pg)) := Wc.hid (by rw [← hpa, ← hpr, ← hpg])
  rw [hpa, hpr, hpg]
  clear hpa hpr hpg
  have S5 := Wc.hid (S4.out.keep hbb)
  clear S4
  have L5 := Wc.hid (Wc.step L4.out (Nat.le_refl _) hbb)
  clear L4
  have X5 := Wc.hid (X4.out.keep hbb)
  clear X4
  have C5 := Wc.hid (C4.out.keep hbb)
  clear C4
  have R5 := Wc.hid (R4.out.keep hbb)
  clear R4
  have D5 := Wc.hid (D4.out.keep hbb)
  clear D4
  clear hbb
  go_wp2_with fail
  refine (refParse7_any _ xs _ X5.out).mono ?_
  rintro e w6 ⟨rfl, hbb⟩
  rw [HP.out, HE.out]
  unfold nv
  have S6 := Wc.hid (S5.out.keep hbb)
  clear S5
  have L6 := Wc.hid (Wc.step L5.out (Nat.le_refl _) hbb)
  clear L5
  have X6 := Wc.hid (X5.out.keep hbb)
  clear X5
  have C6 := Wc.hid (C5.out.keep hbb)
  clear C5
  have R6 := Wc.hid (R5.out.keep hbb)
  clear R5
  have D6 := Wc.hid (D5.out.keep hbb)
  clear D5
  clear hbb
  have HAL := Wc.hid ((Below.refl w6.heap.size w6).alloc (Nat.le_refl _) (.cells #[.int .i64 p.level, .int .i64 p.p0, .int .i64 p.p1, .int .i64 p.p2, .int .i64 p.p3, .int .i64 p.p4, .int .i64 p.p5, .int .i64 p.p6, .int .i64 p.p7] 24))
  have S7 := Wc.hid (S6.out.keep HAL.out)
  clear S6
  have L7 := Wc.hid (Wc.step L6.out (Nat.le_refl _) HAL.out)
  clear L6
  have X7 := Wc.hid (X6.out.keep HAL.out)
  clear X6
  have C7 := Wc.hid (C6.out.keep HAL.out)
  clear C6
  have R7 := Wc.hid (R6.out.keep HAL.out)
  clear R6
  have D7 := Wc.hid (D6.out.keep HAL.out)
  clear D6
  have T7 := Wc.hid (Nh.new w6 p)
  clear HAL
  have ⟨k, k0, k1, k2, k3, k4, k5, k6, k7⟩ := D7.out.nc
  have ⟨j, j0, j1, j2, j3, j4, j5, j6, j7⟩ := T7.out.nc
  have hEE : (E != E) = false := by simp
  have hne := neq_nod p p
  rw [nodEq_iff.2 rfl] at hne
  go_wp2_with fail
  clear hEE hne
  clear k k0 k1 k2 k3 k4 k5 k6 k7
  clear j j0 j1 j2 j3 j4 j5 j6 j7
  obtain ⟨W6, hW6⟩ : ∃ W6, w6.alloc (.cells #[.int .i64 p.level, .int .i64 p.p0, .int .i64 p.p1, .int .i64 p.p2, .int .i64 p.p3, .int .i64 p.p4, .int .i64 p.p5, .int .i64 p.p6, .int .i64 p.p7] 24) = W6 := ⟨_, rfl⟩
  rw [hW6] at S7 L7 X7 C7 R7 D7 T7 ⊢
  clear hW6
  refine (bytes_any _ _ xs xs _ C7.out X7.out).mono ?_
  rintro e w7 ⟨rfl, hbb⟩
  rw [show (xs == xs) = true by simp]
  have S8 := Wc.hid (S7.out.keep hbb)
  clear S7
  have L8 := Wc.hid (Wc.step L7.out (Nat.le_refl _) hbb)
  clear L7
  have X8 := Wc.hid (X7.out.keep hbb)
  clear X7
  have C8 := Wc.hid (C7.out.keep hbb)
  clear C7
  have R8 := Wc.hid (R7.out.keep hbb)
  clear R7
  have D8 := Wc.hid (D7.out.keep hbb)
  clear D7
  have T8 := Wc.hid (T7.out.keep hbb)
  clear T7
  clear hbb
  clear C8
  clear X8
  clear D8
  clear T8
  go_wp2_with fail
  go_loopw [19, 20] (fun u i wr => ∃ k : Nat, ∃ m : Int, u = .int .i64 m ∧ i = .int .i64 k ∧ k ≤ 3 ∧ w7 = wr ∧ Hid (m = 8 ^ k) ∧ Hid (k = 0 ∨ (k : Int) ≤ lev)) (fun _ i _ => 3 - (intOf i).toNat)
  case atStart => exact ⟨0, 1, rfl, rfl, by omega, rfl, Wc.hid rfl, Wc.hid (.inl rfl)⟩
  case round =>
    obtain ⟨k, m, rfl, rfl, hk, rfl, HM, HKL⟩ := hrel
    have hmb : 1 ≤ m ∧ m ≤ 512 := by rw [HM.out]; exact pow83 hk
    obtain ⟨hm1, hm2⟩ := hmb
    by_cases hl1 : (k : Int) < lev
    · by_cases hl2 : k < 3
      · have hm8 : m ≤ 64 := by
          rw [HM.out]
          exact (pow8 (k := k) (by omega)).2.1
        go_wp2
        go_roundw
        case rel => exact ⟨k + 1, m * 8, by go_num, by go_num, by omega, trivial, Wc.hid (by rw [HM.out, Int.pow_succ]), Wc.hid (.inr (by omega))⟩
        case measure => simp [intOf]; omega
      · have hlev : 2 < lev := by omega
        have HR : Hid ((pa, pr, pg) = ((0 : Int), (0 : Int), (1 : Int))) := Wc.hid (by rw [← HQ.out]; exact Wn.place_no (fun h => by omega))
        have hq' := HR.out
        simp only [Prod.mk.injEq] at hq'
        obtain ⟨rfl, rfl, rfl⟩ := hq'
        clear HR HQ HM HKL
        have ⟨k, k0, k1, k2, k3, k4, k5, k6, k7⟩ := S8.out.nc
        go_wp2_with fail
        clear k k0 k1 k2 k3 k4 k5 k6 k7
        refine (refNode_any s _).mono ?_
        rintro e w9 ⟨rfl, hbb⟩
        rw [HS.out]
        have S9 := Wc.hid (S8.out.keep hbb)
        clear S8
        have L9 := Wc.hid (Wc.step L8.out (Nat.le_refl _) hbb)
        clear L8
        have R9 := Wc.hid (R8.out.keep hbb)
        clear R8
        clear hbb
        have ⟨k, k0, k1, k2, k3, k4, k5, k6, k7⟩ := S9.out.nc
        go_wp2_with fail
        clear k k0 k1 k2 k3 k4 k5 k6 k7
        refine (check7_any s _).mono ?_
        rintro e w10 ⟨rfl, hbb⟩
        rw [nodE_yes HS.out]
        have S10 := Wc.hid (S9.out.keep hbb)
        clear S9
        have L10 := Wc.hid (Wc.step L9.out (Nat.le_refl _) hbb)
        clear L9
        have R10 := Wc.hid (R9.out.keep hbb)
        clear R9
        clear hbb
        have ⟨k, k0, k1, k2, k3, k4, k5, k6, k7⟩ := S10.out.nc
        go_wp2_with fail
        clear k k0 k1 k2 k3 k4 k5 k6 k7
        refine (refNodeBytes_any s _ HS.out).mono ?_
        rintro e w11 ⟨vs, rfl, hvs, hbb⟩
        have S11 := Wc.hid (S10.out.keep hbb)
        clear S10
        have L11 := Wc.hid (Wc.step L10.out (Nat.le_refl _) hbb)
        clear L10
        have R11 := Wc.hid (R10.out.keep hbb)
        clear R10
        have U11 := Wc.hid hvs
        clear hvs hbb
        go_wp2_with fail
        refine (bytes_any _ _ (Wn.blk s) (Wn.blk s) _ R11.out U11.out).mono ?_
        rintro e w12 ⟨rfl, hbb⟩
        rw [show (Wn.blk s == Wn.blk s) = true by simp]
        have S12 := Wc.hid (S11.out.keep hbb)
        clear S11
        have L12 := Wc.hid (Wc.step L11.out (Nat.le_refl _) hbb)
        clear L11
        have R12 := Wc.hid (R11.out.keep hbb)
        clear R11
        have U12 := Wc.hid (U11.out.keep hbb)
        clear U11
        clear hbb
        go_wp2_with fail
        refine (wakes_any _).mono ?_
        rintro e wz ⟨rfl, hbz⟩
        go_wp2_with fail
        go_ret
        exact ⟨rfl, Wc.step L12.out (Nat.le_refl _) hbz⟩
    · by_cases h0 : lev < 0
      · have HR : Hid ((pa, pr, pg) = ((0 : Int), (0 : Int), (1 : Int))) := Wc.hid (by rw [← HQ.out]; exact Wn.place_no (fun h => by omega))
        have hq' := HR.out
        simp only [Prod.mk.injEq] at hq'
        obtain ⟨rfl, rfl, rfl⟩ := hq'
        clear HR HQ HM HKL
        have ⟨k, k0, k1, k2, k3, k4, k5, k6, k7⟩ := S8.out.nc
        go_wp2_with fail
        clear k k0 k1 k2 k3 k4 k5 k6 k7
        refine (refNode_any s _).mono ?_
        rintro e w9 ⟨rfl, hbb⟩
        rw [HS.out]
        have S9 := Wc.hid (S8.out.keep hbb)
        clear S8
        have L9 := Wc.hid (Wc.step L8.out (Nat.le_refl _) hbb)
        clear L8
        have R9 := Wc.hid (R8.out.keep hbb)
        clear R8
        clear hbb
        have ⟨k, k0, k1, k2, k3, k4, k5, k6, k7⟩ := S9.out.nc
        go_wp2_with fail
        clear k k0 k1 k2 k3 k4 k5 k6 k7
        refine (check7_any s _).mono ?_
        rintro e w10 ⟨rfl, hbb⟩
        rw [nodE_yes HS.out]
        have S10 := Wc.hid (S9.out.keep hbb)
        clear S9
        have L10 := Wc.hid (Wc.step L9.out (Nat.le_refl _) hbb)
        clear L9
        have R10 := Wc.hid (R9.out.keep hbb)
        clear R9
        clear hbb
        have ⟨k, k0, k1, k2, k3, k4, k5, k6, k7⟩ := S10.out.nc
        go_wp2_with fail
        clear k k0 k1 k2 k3 k4 k5 k6 k7
        refine (refNodeBytes_any s _ HS.out).mono ?_
        rintro e w11 ⟨vs, rfl, hvs, hbb⟩
        have S11 := Wc.hid (S10.out.keep hbb)
        clear S10
        have L11 := Wc.hid (Wc.step L10.out (Nat.le_refl _) hbb)
        clear L10
        have R11 := Wc.hid (R10.out.keep hbb)
        clear R10
        have U11 := Wc.hid hvs
        clear hvs hbb
        go_wp2_with fail
        refine (bytes_any _ _ (Wn.blk s) (Wn.blk s) _ R11.out U11.out).mono ?_
        rintro e w12 ⟨rfl, hbb⟩
        rw [show (Wn.blk s == Wn.blk s) = true by simp]
        have S12 := Wc.hid (S11.out.keep hbb)
        clear S11
        have L12 := Wc.hid (Wc.step L11.out (Nat.le_refl _) hbb)
        clear L11
        have R12 := Wc.hid (R11.out.keep hbb)
        clear R11
        have U12 := Wc.hid (U11.out.keep hbb)
        clear U11
        clear hbb
        go_wp2_with fail
        refine (wakes_any _).mono ?_
        rintro e wz ⟨rfl, hbz⟩
        go_wp2_with fail
        go_ret
        exact ⟨rfl, Wc.step L12.out (Nat.le_refl _) hbz⟩
      · by_cases h2 : 2 < lev
        · have HR : Hid ((pa, pr, pg) = ((0 : Int), (0 : Int), (1 : Int))) := Wc.hid (by rw [← HQ.out]; exact Wn.place_no (fun h => by omega))
          have hq' := HR.out
          simp only [Prod.mk.injEq] at hq'
          obtain ⟨rfl, rfl, rfl⟩ := hq'
          clear HR HQ HM HKL
          have ⟨k, k0, k1, k2, k3, k4, k5, k6, k7⟩ := S8.out.nc
          go_wp2_with fail
          clear k k0 k1 k2 k3 k4 k5 k6 k7
          refine (refNode_any s _).mono ?_
          rintro e w9 ⟨rfl, hbb⟩
          rw [HS.out]
          have S9 := Wc.hid (S8.out.keep hbb)
          clear S8
          have L9 := Wc.hid (Wc.step L8.out (Nat.le_refl _) hbb)
          clear L8
          have R9 := Wc.hid (R8.out.keep hbb)
          clear R8
          clear hbb
          have ⟨k, k0, k1, k2, k3, k4, k5, k6, k7⟩ := S9.out.nc
          go_wp2_with fail
          clear k k0 k1 k2 k3 k4 k5 k6 k7
          refine (check7_any s _).mono ?_
          rintro e w10 ⟨rfl, hbb⟩
          rw [nodE_yes HS.out]
          have S10 := Wc.hid (S9.out.keep hbb)
          clear S9
          have L10 := Wc.hid (Wc.step L9.out (Nat.le_refl _) hbb)
          clear L9
          have R10 := Wc.hid (R9.out.keep hbb)
          clear R9
          clear hbb
          have ⟨k, k0, k1, k2, k3, k4, k5, k6, k7⟩ := S10.out.nc
          go_wp2_with fail
          clear k k0 k1 k2 k3 k4 k5 k6 k7
          refine (refNodeBytes_any s _ HS.out).mono ?_
          rintro e w11 ⟨vs, rfl, hvs, hbb⟩
          have S11 := Wc.hid (S10.out.keep hbb)
          clear S10
          have L11 := Wc.hid (Wc.step L10.out (Nat.le_refl _) hbb)
          clear L10
          have R11 := Wc.hid (R10.out.keep hbb)
          clear R10
          have U11 := Wc.hid hvs
          clear hvs hbb
          go_wp2_with fail
          refine (bytes_any _ _ (Wn.blk s) (Wn.blk s) _ R11.out U11.out).mono ?_
          rintro e w12 ⟨rfl, hbb⟩
          rw [show (Wn.blk s == Wn.blk s) = true by simp]
          have S12 := Wc.hid (S11.out.keep hbb)
          clear S11
          have L12 := Wc.hid (Wc.step L11.out (Nat.le_refl _) hbb)
          clear L11
          have R12 := Wc.hid (R11.out.keep hbb)
          clear R11
          have U12 := Wc.hid (U11.out.keep hbb)
          clear U11
          clear hbb
          go_wp2_with fail
          refine (wakes_any _).mono ?_
          rintro e wz ⟨rfl, hbz⟩
          go_wp2_with fail
          go_ret
          exact ⟨rfl, Wc.step L12.out (Nat.le_refl _) hbz⟩
        · by_cases h3 : sec < 0
          · have HR : Hid ((pa, pr, pg) = ((0 : Int), (0 : Int), (1 : Int))) := Wc.hid (by rw [← HQ.out]; exact Wn.place_no (fun h => by omega))
            have hq' := HR.out
            simp only [Prod.mk.injEq] at hq'
            obtain ⟨rfl, rfl, rfl⟩ := hq'
            clear HR HQ HM HKL
            have ⟨k, k0, k1, k2, k3, k4, k5, k6, k7⟩ := S8.out.nc
            go_wp2_with fail
            clear k k0 k1 k2 k3 k4 k5 k6 k7
            refine (refNode_any s _).mono ?_
            rintro e w9 ⟨rfl, hbb⟩
            rw [HS.out]
            have S9 := Wc.hid (S8.out.keep hbb)
            clear S8
            have L9 := Wc.hid (Wc.step L8.out (Nat.le_refl _) hbb)
            clear L8
            have R9 := Wc.hid (R8.out.keep hbb)
            clear R8
            clear hbb
            have ⟨k, k0, k1, k2, k3, k4, k5, k6, k7⟩ := S9.out.nc
            go_wp2_with fail
            clear k k0 k1 k2 k3 k4 k5 k6 k7
            refine (check7_any s _).mono ?_
            rintro e w10 ⟨rfl, hbb⟩
            rw [nodE_yes HS.out]
            have S10 := Wc.hid (S9.out.keep hbb)
            clear S9
            have L10 := Wc.hid (Wc.step L9.out (Nat.le_refl _) hbb)
            clear L9
            have R10 := Wc.hid (R9.out.keep hbb)
            clear R9
            clear hbb
            have ⟨k, k0, k1, k2, k3, k4, k5, k6, k7⟩ := S10.out.nc
            go_wp2_with fail
            clear k k0 k1 k2 k3 k4 k5 k6 k7
            refine (refNodeBytes_any s _ HS.out).mono ?_
            rintro e w11 ⟨vs, rfl, hvs, hbb⟩
            have S11 := Wc.hid (S10.out.keep hbb)
            clear S10
            have L11 := Wc.hid (Wc.step L10.out (Nat.le_refl _) hbb)
            clear L10
            have R11 := Wc.hid (R10.out.keep hbb)
            clear R10
            have U11 := Wc.hid hvs
            clear hvs hbb
            go_wp2_with fail
            refine (bytes_any _ _ (Wn.blk s) (Wn.blk s) _ R11.out U11.out).mono ?_
            rintro e w12 ⟨rfl, hbb⟩
            rw [show (Wn.blk s == Wn.blk s) = true by simp]
            have S12 := Wc.hid (S11.out.keep hbb)
            clear S11
            have L12 := Wc.hid (Wc.step L11.out (Nat.le_refl _) hbb)
            clear L11
            have R12 := Wc.hid (R11.out.keep hbb)
            clear R11
            have U12 := Wc.hid (U11.out.keep hbb)
            clear U11
            clear hbb
            go_wp2_with fail
            refine (wakes_any _).mono ?_
            rintro e wz ⟨rfl, hbz⟩
            go_wp2_with fail
            go_ret
            exact ⟨rfl, Wc.step L12.out (Nat.le_refl _) hbz⟩
          · have hkl : (k : Int) = lev := by have := HKL.out; omega
            by_cases h4 : sec < m * 8
            · have HR : Hid ((pa, pr, pg) = (sec / m, sec % m, (0 : Int))) := Wc.hid (by rw [← HQ.out]; exact place_span sec lev m k hkl HM.out (by omega) (by omega) h4)
              have hd : sec.tdiv m = sec / m := Int.tdiv_eq_ediv_of_nonneg (by omega)
              have hmd : sec.tmod m = sec % m := Int.tmod_eq_emod_of_nonneg (by omega)
              have q0 : 0 ≤ sec / m := Int.ediv_nonneg (by omega) (by omega)
              have q1 : sec / m < 8 := Int.ediv_lt_of_lt_mul (by omega) (by omega)
              have r0 := Int.emod_nonneg sec (b := m) (by omega)
              have r1 := Int.emod_lt_of_pos sec (b := m) (by omega)
              obtain ⟨q, hq⟩ : ∃ q, sec / m = q := ⟨_, rfl⟩
              obtain ⟨r, hr⟩ : ∃ r, sec % m = r := ⟨_, rfl⟩
              rw [hq] at HR hd q0 q1
              rw [hr] at HR hmd r0 r1
              have hq' := HR.out
              simp only [Prod.mk.injEq] at hq'
              obtain ⟨rfl, rfl, rfl⟩ := hq'
              have hqq : (pa != pa) = false := by simp
              have hrr : (pr != pr) = false := by simp
              clear HR HQ HM HKL hq hr hkl
              have ⟨k, k0, k1, k2, k3, k4, k5, k6, k7⟩ := S8.out.nc
              go_wp2_with fail
              clear k k0 k1 k2 k3 k4 k5 k6 k7
              refine (refNode_any s _).mono ?_
              rintro e w9 ⟨rfl, hbb⟩
              rw [HS.out]
              have S9 := Wc.hid (S8.out.keep hbb)
              clear S8
              have L9 := Wc.hid (Wc.step L8.out (Nat.le_refl _) hbb)
              clear L8
              have R9 := Wc.hid (R8.out.keep hbb)
              clear R8
              clear hbb
              have ⟨k, k0, k1, k2, k3, k4, k5, k6, k7⟩ := S9.out.nc
              go_wp2_with fail
              clear k k0 k1 k2 k3 k4 k5 k6 k7
              refine (check7_any s _).mono ?_
              rintro e w10 ⟨rfl, hbb⟩
              rw [nodE_yes HS.out]
              have S10 := Wc.hid (S9.out.keep hbb)
              clear S9
              have L10 := Wc.hid (Wc.step L9.out (Nat.le_refl _) hbb)
              clear L9
              have R10 := Wc.hid (R9.out.keep hbb)
              clear R9
              clear hbb
              have ⟨k, k0, k1, k2, k3, k4, k5, k6, k7⟩ := S10.out.nc
              go_wp2_with fail
              clear k k0 k1 k2 k3 k4 k5 k6 k7
              refine (refNodeBytes_any s _ HS.out).mono ?_
              rintro e w11 ⟨vs, rfl, hvs, hbb⟩
              have S11 := Wc.hid (S10.out.keep hbb)
              clear S10
              have L11 := Wc.hid (Wc.step L10.out (Nat.le_refl _) hbb)
              clear L10
              have R11 := Wc.hid (R10.out.keep hbb)
              clear R10
              have U11 := Wc.hid hvs
              clear hvs hbb
              go_wp2_with fail
              refine (bytes_any _ _ (Wn.blk s) (Wn.blk s) _ R11.out U11.out).mono ?_
              rintro e w12 ⟨rfl, hbb⟩
              rw [show (Wn.blk s == Wn.blk s) = true by simp]
              have S12 := Wc.hid (S11.out.keep hbb)
              clear S11
              have L12 := Wc.hid (Wc.step L11.out (Nat.le_refl _) hbb)
              clear L11
              have R12 := Wc.hid (R11.out.keep hbb)
              clear R11
              have U12 := Wc.hid (U11.out.keep hbb)
              clear U11
              clear hbb
              go_wp2_with fail
              refine (wakes_any _).mono ?_
              rintro e wz ⟨rfl, hbz⟩
              go_wp2_with fail
              go_ret
              exact ⟨rfl, Wc.step L12.out (Nat.le_refl _) hbz⟩
            · have HR : Hid ((pa, pr, pg) = ((0 : Int), (0 : Int), (1 : Int))) := Wc.hid (by rw [← HQ.out]; exact place_wide sec lev m k hkl HM.out h4)
              clear hkl
              have hq' := HR.out
              simp only [Prod.mk.injEq] at hq'
              obtain ⟨rfl, rfl, rfl⟩ := hq'
              clear HR HQ HM HKL
              have ⟨k, k0, k1, k2, k3, k4, k5, k6, k7⟩ := S8.out.nc
              go_wp2_with fail
              clear k k0 k1 k2 k3 k4 k5 k6 k7
              refine (refNode_any s _).mono ?_
              rintro e w9 ⟨rfl, hbb⟩
              rw [HS.out]
              have S9 := Wc.hid (S8.out.keep hbb)
              clear S8
              have L9 := Wc.hid (Wc.step L8.out (Nat.le_refl _) hbb)
              clear L8
              have R9 := Wc.hid (R8.out.keep hbb)
              clear R8
              clear hbb
              have ⟨k, k0, k1, k2, k3, k4, k5, k6, k7⟩ := S9.out.nc
              go_wp2_with fail
              clear k k0 k1 k2 k3 k4 k5 k6 k7
              refine (check7_any s _).mono ?_
              rintro e w10 ⟨rfl, hbb⟩
              rw [nodE_yes HS.out]
              have S10 := Wc.hid (S9.out.keep hbb)
              clear S9
              have L10 := Wc.hid (Wc.step L9.out (Nat.le_refl _) hbb)
              clear L9
              have R10 := Wc.hid (R9.out.keep hbb)
              clear R9
              clear hbb
              have ⟨k, k0, k1, k2, k3, k4, k5, k6, k7⟩ := S10.out.nc
              go_wp2_with fail
              clear k k0 k1 k2 k3 k4 k5 k6 k7
              refine (refNodeBytes_any s _ HS.out).mono ?_
              rintro e w11 ⟨vs, rfl, hvs, hbb⟩
              have S11 := Wc.hid (S10.out.keep hbb)
              clear S10
              have L11 := Wc.hid (Wc.step L10.out (Nat.le_refl _) hbb)
              clear L10
              have R11 := Wc.hid (R10.out.keep hbb)
              clear R10
              have U11 := Wc.hid hvs
              clear hvs hbb
              go_wp2_with fail
              refine (bytes_any _ _ (Wn.blk s) (Wn.blk s) _ R11.out U11.out).mono ?_
              rintro e w12 ⟨rfl, hbb⟩
              rw [show (Wn.blk s == Wn.blk s) = true by simp]
              have S12 := Wc.hid (S11.out.keep hbb)
              clear S11
              have L12 := Wc.hid (Wc.step L11.out (Nat.le_refl _) hbb)
              clear L11
              have R12 := Wc.hid (R11.out.keep hbb)
              clear R11
              have U12 := Wc.hid (U11.out.keep hbb)
              clear U11
              clear hbb
              go_wp2_with fail
              refine (wakes_any _).mono ?_
              rintro e wz ⟨rfl, hbz⟩
              go_wp2_with fail
              go_ret
              exact ⟨rfl, Wc.step L12.out (Nat.le_refl _) hbz⟩

set_option maxRecDepth 100000 in
set_option maxHeartbeats 12800000 in
theorem nodeExact_no (s : Wn.Nod) (a : Option Addr) (n cap : Nat) (xs : List Int) (sec lev : Int) (w : World) (hs : Wn.nodB s = false) (hn : n ≤ 300)
    (hb : Wc.Bs w (.slice a n cap) xs) (sb : Wc.Shaped (.slice a n cap)) (_hsl : -9223372036854775808 ≤ sec ∧ sec ≤ 9223372036854775807) (_hll : -9223372036854775808 ≤ lev ∧ lev ≤ 9223372036854775807) :
    Calls Try.prog 3 #[nv s, .slice a n cap, .int .i64 sec, .int .i64 lev] w fun e w' => e = .returned (.bool true) ∧ Below w.heap.size w w' := by
  have h300 : decide ((300 : Int) < (n : Int)) = false := by simp; omega
  have HS := Wc.hid hs
  have S0 := Wc.hid (Nh.new w s)
  have L0 := Wc.hid ((Below.refl w.heap.size w).alloc (Nat.le_refl _) (.cells #[.int .i64 s.level, .int .i64 s.p0, .int .i64 s.p1, .int .i64 s.p2, .int .i64 s.p3, .int .i64 s.p4, .int .i64 s.p5, .int .i64 s.p6, .int .i64 s.p7] 24))
  have X0 := Wc.hid (hb.alloc (.cells #[.int .i64 s.level, .int .i64 s.p0, .int .i64 s.p1, .int .i64 s.p2, .int .i64 s.p3, .int .i64 s.p4, .int .i64 s.p5, .int .i64 s.p6, .int .i64 s.p7] 24))
  clear hs hb hn
  obtain ⟨p, hp⟩ : ∃ p, Wn.par xs = p := ⟨_, rfl⟩
  obtain ⟨E, hE⟩ : ∃ E, Wn.parE xs = E := ⟨_, rfl⟩
  have HP := Wc.hid hp
  have HE := Wc.hid hE
  clear hp hE
  unfold nv
  go_enter Try.func3, Try.ntmps3
  go_wp2_with fail
  clear h300
  obtain ⟨W0, hW0⟩ : ∃ W0, w.alloc (.cells #[.int .i64 s.level, .int .i64 s.p0, .int .i64 s.p1, .int .i64 s.p2, .int .i64 s.p3, .int .i64 s.p4, .int .i64 s.p5, .int .i64 s.p6, .int .i64 s.p7] 24) = W0 := ⟨_, rfl⟩
  rw [hW0] at S0 L0 X0 ⊢
  clear hW0
  refine (twin_any _ xs _ X0.out sb).mono ?_
  rintro e w1 ⟨vc, rfl, hC, hbb⟩
  have S1 := Wc.hid (S0.out.keep hbb)
  clear S0
  have L1 := Wc.hid (Wc.step L0.out (Nat.le_refl _) hbb)
  clear L0
  have X1 := Wc.hid (X0.out.keep hbb)
  clear X0
  have C1 := Wc.hid hC
  clear hC hbb
  obtain ⟨aC, cC, rfl⟩ := bs_slice C1.out
  have ⟨k, k0, k1, k2, k3, k4, k5, k6, k7⟩ := S1.out.nc
  go_wp2_with fail
  clear k k0 k1 k2 k3 k4 k5 k6 k7
  refine (bytes7_bad s _ HS.out).mono ?_
  rintro e w3 ⟨rfl, hbb⟩
  have S2 := Wc.hid (S1.out.keep hbb)
  clear S1
  have L2 := Wc.hid (Wc.step L1.out (Nat.le_refl _) hbb)
  clear L1
  have X2 := Wc.hid (X1.out.keep hbb)
  clear X1
  have C2 := Wc.hid (C1.out.keep hbb)
  clear C1
  clear hbb
  go_wp2_with fail
  refine (parse7_any _ xs _ C2.out).mono ?_
  rintro e w4 ⟨rfl, hbb⟩
  rw [HP.out, HE.out]
  unfold nv
  have S3 := Wc.hid (S2.out.keep hbb)
  clear S2
  have L3 := Wc.hid (Wc.step L2.out (Nat.le_refl _) hbb)
  clear L2
  have X3 := Wc.hid (X2.out.keep hbb)
  clear X2
  have C3 := Wc.hid (C2.out.keep hbb)
  clear C2
  clear hbb
  have HAL := Wc.hid ((Below.refl w4.heap.size w4).alloc (Nat.le_refl _) (.cells #[.int .i64 p.level, .int .i64 p.p0, .int .i64 p.p1, .int .i64 p.p2, .int .i64 p.p3, .int .i64 p.p4, .int .i64 p.p5, .int .i64 p.p6, .int .i64 p.p7] 24))
  have S4 := Wc.hid (S3.out.keep HAL.out)
  clear S3
  have L4 := Wc.hid (Wc.step L3.out (Nat.le_refl _) HAL.out)
  clear L3
  have X4 := Wc.hid (X3.out.keep HAL.out)
  clear X3
  have C4 := Wc.hid (C3.out.keep HAL.out)
  clear C3
  have D4 := Wc.hid (Nh.new w4 p)
  clear HAL
  go_wp2_with fail
  obtain ⟨W4, hW4⟩ : ∃ W4, w4.alloc (.cells #[.int .i64 p.level, .int .i64 p.p0, .int .i64 p.p1, .int .i64 p.p2, .int .i64 p.p3, .int .i64 p.p4, .int .i64 p.p5, .int .i64 p.p6, .int .i64 p.p7] 24) = W4 := ⟨_, rfl⟩
  rw [hW4] at S4 L4 X4 C4 D4 ⊢
  clear hW4
  refine (place_below _ _ _).mono ?_
  rintro e w5 ⟨rfl, hbb⟩
  obtain ⟨pa, hpa⟩ : ∃ pa, (Wn.placeR sec lev).1 = pa := ⟨_, rfl⟩
  obtain ⟨pr, hpr⟩ : ∃ pr, (Wn.placeR sec lev).2.1 = pr := ⟨_, rfl⟩
  obtain ⟨pg, hpg⟩ : ∃ pg, (Wn.placeR sec lev).2.2 = pg := ⟨_, rfl⟩
  have HQ : Hid (Wn.placeR sec lev = (pa, pr, pg)) := Wc.hid (by rw [← hpa, ← hpr, ← hpg])
  rw [hpa, hpr, hpg]
  clear hpa hpr hpg
  have S5 := Wc.hid (S4.out.keep hbb)
  clear S4
  have L5 := Wc.hid (Wc.step L4.out (Nat.le_refl _) hbb)
  clear L4
  have X5 := Wc.hid (X4.out.keep hbb)
  clear X4
  have C5 := Wc.hid (C4.out.keep hbb)
  clear C4
  have D5 := Wc.hid (D4.out.keep hbb)
  clear D4
  clear hbb
  go_wp2_with fail
  refine (refParse7_any _ xs _ X5.out).mono ?_
  rintro e w6 ⟨rfl, hbb⟩
  rw [HP.out, HE.out]
  unfold nv
  have S6 := Wc.hid (S5.out.keep hbb)
  clear S5
  have L6 := Wc.hid (Wc.step L5.out (Nat.le_refl _) hbb)
  clear L5
  have X6 := Wc.hid (X5.out.keep hbb)
  clear X5
  have C6 := Wc.hid (C5.out.keep hbb)
  clear C5
  have D6 := Wc.hid (D5.out.keep hbb)
  clear D5
  clear hbb
  have HAL := Wc.hid ((Below.refl w6.heap.size w6).alloc (Nat.le_refl _) (.cells #[.int .i64 p.level, .int .i64 p.p0, .int .i64 p.p1, .int .i64 p.p2, .int .i64 p.p3, .int .i64 p.p4, .int .i64 p.p5, .int .i64 p.p6, .int .i64 p.p7] 24))
  have S7 := Wc.hid (S6.out.keep HAL.out)
  clear S6
  have L7 := Wc.hid (Wc.step L6.out (Nat.le_refl _) HAL.out)
  clear L6
  have X7 := Wc.hid (X6.out.keep HAL.out)
  clear X6
  have C7 := Wc.hid (C6.out.keep HAL.out)
  clear C6
  have D7 := Wc.hid (D6.out.keep HAL.out)
  clear D6
  have T7 := Wc.hid (Nh.new w6 p)
  clear HAL
  have ⟨k, k0, k1, k2, k3, k4, k5, k6, k7⟩ := D7.out.nc
  have ⟨j, j0, j1, j2, j3, j4, j5, j6, j7⟩ := T7.out.nc
  have hEE : (E != E) = false := by simp
  have hne := neq_nod p p
  rw [nodEq_iff.2 rfl] at hne
  go_wp2_with fail
  clear hEE hne
  clear k k0 k1 k2 k3 k4 k5 k6 k7
  clear j j0 j1 j2 j3 j4 j5 j6 j7
  obtain ⟨W6, hW6⟩ : ∃ W6, w6.alloc (.cells #[.int .i64 p.level, .int .i64 p.p0, .int .i64 p.p1, .int .i64 p.p2, .int .i64 p.p3, .int .i64 p.p4, .int .i64 p.p5, .int .i64 p.p6, .int .i64 p.p7] 24) = W6 := ⟨_, rfl⟩
  rw [hW6] at S7 L7 X7 C7 D7 T7 ⊢
  clear hW6
  refine (bytes_any _ _ xs xs _ C7.out X7.out).mono ?_
  rintro e w7 ⟨rfl, hbb⟩
  rw [show (xs == xs) = true by simp]
  have S8 := Wc.hid (S7.out.keep hbb)
  clear S7
  have L8 := Wc.hid (Wc.step L7.out (Nat.le_refl _) hbb)
  clear L7
  have X8 := Wc.hid (X7.out.keep hbb)
  clear X7
  have C8 := Wc.hid (C7.out.keep hbb)
  clear C7
  have D8 := Wc.hid (D7.out.keep hbb)
  clear D7
  have T8 := Wc.hid (T7.out.keep hbb)
  clear T7
  clear hbb
  clear C8
  clear X8
  clear D8
  clear T8
  go_wp2_with fail
  go_loopw [19, 20] (fun u i wr => ∃ k : Nat, ∃ m : Int, u = .int .i64 m ∧ i = .int .i64 k ∧ k ≤ 3 ∧ w7 = wr ∧ Hid (m = 8 ^ k) ∧ Hid (k = 0 ∨ (k : Int) ≤ lev)) (fun _ i _ => 3 - (intOf i).toNat)
  case atStart => exact ⟨0, 1, rfl, rfl, by omega, rfl, Wc.hid rfl, Wc.hid (.inl rfl)⟩
  case round =>
    obtain ⟨k, m, rfl, rfl, hk, rfl, HM, HKL⟩ := hrel
    have hmb : 1 ≤ m ∧ m ≤ 512 := by rw [HM.out]; exact pow83 hk
    obtain ⟨hm1, hm2⟩ := hmb
    by_cases hl1 : (k : Int) < lev
    · by_cases hl2 : k < 3
      · have hm8 : m ≤ 64 := by
          rw [HM.out]
          exact (pow8 (k := k) (by omega)).2.1
        go_wp2
        go_roundw
        case rel => exact ⟨k + 1, m * 8, by go_num, by go_num, by omega, trivial, Wc.hid (by rw [HM.out, Int.pow_succ]), Wc.hid (.inr (by omega))⟩
        case measure => simp [intOf]; omega
      · have hlev : 2 < lev := by omega
        have HR : Hid ((pa, pr, pg) = ((0 : Int), (0 : Int), (1 : Int))) := Wc.hid (by rw [← HQ.out]; exact Wn.place_no (fun h => by omega))
        have hq' := HR.out
        simp only [Prod.mk.injEq] at hq'
        obtain ⟨rfl, rfl, rfl⟩ := hq'
        clear HR HQ HM HKL
        have ⟨k, k0, k1, k2, k3, k4, k5, k6, k7⟩ := S8.out.nc
        go_wp2_with fail
        clear k k0 k1 k2 k3 k4 k5 k6 k7
        refine (refNode_any s _).mono ?_
        rintro e w9 ⟨rfl, hbb⟩
        rw [HS.out]
        have S9 := Wc.hid (S8.out.keep hbb)
        clear S8
        have L9 := Wc.hid (Wc.step L8.out (Nat.le_refl _) hbb)
        clear L8
        clear hbb
        have ⟨k, k0, k1, k2, k3, k4, k5, k6, k7⟩ := S9.out.nc
        go_wp2_with fail
        clear k k0 k1 k2 k3 k4 k5 k6 k7
        refine (check7_any s _).mono ?_
        rintro e w10 ⟨rfl, hbb⟩
        rw [nodE_no HS.out]
        have S10 := Wc.hid (S9.out.keep hbb)
        clear S9
        have L10 := Wc.hid (Wc.step L9.out (Nat.le_refl _) hbb)
        clear L9
        clear hbb
        go_wp2_with fail
        refine (wakes_any _).mono ?_
        rintro e wz ⟨rfl, hbz⟩
        go_wp2_with fail
        go_ret
        exact ⟨rfl, Wc.step L10.out (Nat.le_refl _) hbz⟩
    · by_cases h0 : lev < 0
      · have HR : Hid ((pa, pr, pg) = ((0 : Int), (0 : Int), (1 : Int))) := Wc.hid (by rw [← HQ.out]; exact Wn.place_no (fun h => by omega))
        have hq' := HR.out
        simp only [Prod.mk.injEq] at hq'
        obtain ⟨rfl, rfl, rfl⟩ := hq'
        clear HR HQ HM HKL
        have ⟨k, k0, k1, k2, k3, k4, k5, k6, k7⟩ := S8.out.nc
        go_wp2_with fail
        clear k k0 k1 k2 k3 k4 k5 k6 k7
        refine (refNode_any s _).mono ?_
        rintro e w9 ⟨rfl, hbb⟩
        rw [HS.out]
        have S9 := Wc.hid (S8.out.keep hbb)
        clear S8
        have L9 := Wc.hid (Wc.step L8.out (Nat.le_refl _) hbb)
        clear L8
        clear hbb
        have ⟨k, k0, k1, k2, k3, k4, k5, k6, k7⟩ := S9.out.nc
        go_wp2_with fail
        clear k k0 k1 k2 k3 k4 k5 k6 k7
        refine (check7_any s _).mono ?_
        rintro e w10 ⟨rfl, hbb⟩
        rw [nodE_no HS.out]
        have S10 := Wc.hid (S9.out.keep hbb)
        clear S9
        have L10 := Wc.hid (Wc.step L9.out (Nat.le_refl _) hbb)
        clear L9
        clear hbb
        go_wp2_with fail
        refine (wakes_any _).mono ?_
        rintro e wz ⟨rfl, hbz⟩
        go_wp2_with fail
        go_ret
        exact ⟨rfl, Wc.step L10.out (Nat.le_refl _) hbz⟩
      · by_cases h2 : 2 < lev
        · have HR : Hid ((pa, pr, pg) = ((0 : Int), (0 : Int), (1 : Int))) := Wc.hid (by rw [← HQ.out]; exact Wn.place_no (fun h => by omega))
          have hq' := HR.out
          simp only [Prod.mk.injEq] at hq'
          obtain ⟨rfl, rfl, rfl⟩ := hq'
          clear HR HQ HM HKL
          have ⟨k, k0, k1, k2, k3, k4, k5, k6, k7⟩ := S8.out.nc
          go_wp2_with fail
          clear k k0 k1 k2 k3 k4 k5 k6 k7
          refine (refNode_any s _).mono ?_
          rintro e w9 ⟨rfl, hbb⟩
          rw [HS.out]
          have S9 := Wc.hid (S8.out.keep hbb)
          clear S8
          have L9 := Wc.hid (Wc.step L8.out (Nat.le_refl _) hbb)
          clear L8
          clear hbb
          have ⟨k, k0, k1, k2, k3, k4, k5, k6, k7⟩ := S9.out.nc
          go_wp2_with fail
          clear k k0 k1 k2 k3 k4 k5 k6 k7
          refine (check7_any s _).mono ?_
          rintro e w10 ⟨rfl, hbb⟩
          rw [nodE_no HS.out]
          have S10 := Wc.hid (S9.out.keep hbb)
          clear S9
          have L10 := Wc.hid (Wc.step L9.out (Nat.le_refl _) hbb)
          clear L9
          clear hbb
          go_wp2_with fail
          refine (wakes_any _).mono ?_
          rintro e wz ⟨rfl, hbz⟩
          go_wp2_with fail
          go_ret
          exact ⟨rfl, Wc.step L10.out (Nat.le_refl _) hbz⟩
        · by_cases h3 : sec < 0
          · have HR : Hid ((pa, pr, pg) = ((0 : Int), (0 : Int), (1 : Int))) := Wc.hid (by rw [← HQ.out]; exact Wn.place_no (fun h => by omega))
            have hq' := HR.out
            simp only [Prod.mk.injEq] at hq'
            obtain ⟨rfl, rfl, rfl⟩ := hq'
            clear HR HQ HM HKL
            have ⟨k, k0, k1, k2, k3, k4, k5, k6, k7⟩ := S8.out.nc
            go_wp2_with fail
            clear k k0 k1 k2 k3 k4 k5 k6 k7
            refine (refNode_any s _).mono ?_
            rintro e w9 ⟨rfl, hbb⟩
            rw [HS.out]
            have S9 := Wc.hid (S8.out.keep hbb)
            clear S8
            have L9 := Wc.hid (Wc.step L8.out (Nat.le_refl _) hbb)
            clear L8
            clear hbb
            have ⟨k, k0, k1, k2, k3, k4, k5, k6, k7⟩ := S9.out.nc
            go_wp2_with fail
            clear k k0 k1 k2 k3 k4 k5 k6 k7
            refine (check7_any s _).mono ?_
            rintro e w10 ⟨rfl, hbb⟩
            rw [nodE_no HS.out]
            have S10 := Wc.hid (S9.out.keep hbb)
            clear S9
            have L10 := Wc.hid (Wc.step L9.out (Nat.le_refl _) hbb)
            clear L9
            clear hbb
            go_wp2_with fail
            refine (wakes_any _).mono ?_
            rintro e wz ⟨rfl, hbz⟩
            go_wp2_with fail
            go_ret
            exact ⟨rfl, Wc.step L10.out (Nat.le_refl _) hbz⟩
          · have hkl : (k : Int) = lev := by have := HKL.out; omega
            by_cases h4 : sec < m * 8
            · have HR : Hid ((pa, pr, pg) = (sec / m, sec % m, (0 : Int))) := Wc.hid (by rw [← HQ.out]; exact place_span sec lev m k hkl HM.out (by omega) (by omega) h4)
              have hd : sec.tdiv m = sec / m := Int.tdiv_eq_ediv_of_nonneg (by omega)
              have hmd : sec.tmod m = sec % m := Int.tmod_eq_emod_of_nonneg (by omega)
              have q0 : 0 ≤ sec / m := Int.ediv_nonneg (by omega) (by omega)
              have q1 : sec / m < 8 := Int.ediv_lt_of_lt_mul (by omega) (by omega)
              have r0 := Int.emod_nonneg sec (b := m) (by omega)
              have r1 := Int.emod_lt_of_pos sec (b := m) (by omega)
              obtain ⟨q, hq⟩ : ∃ q, sec / m = q := ⟨_, rfl⟩
              obtain ⟨r, hr⟩ : ∃ r, sec % m = r := ⟨_, rfl⟩
              rw [hq] at HR hd q0 q1
              rw [hr] at HR hmd r0 r1
              have hq' := HR.out
              simp only [Prod.mk.injEq] at hq'
              obtain ⟨rfl, rfl, rfl⟩ := hq'
              have hqq : (pa != pa) = false := by simp
              have hrr : (pr != pr) = false := by simp
              clear HR HQ HM HKL hq hr hkl
              have ⟨k, k0, k1, k2, k3, k4, k5, k6, k7⟩ := S8.out.nc
              go_wp2_with fail
              clear k k0 k1 k2 k3 k4 k5 k6 k7
              refine (refNode_any s _).mono ?_
              rintro e w9 ⟨rfl, hbb⟩
              rw [HS.out]
              have S9 := Wc.hid (S8.out.keep hbb)
              clear S8
              have L9 := Wc.hid (Wc.step L8.out (Nat.le_refl _) hbb)
              clear L8
              clear hbb
              have ⟨k, k0, k1, k2, k3, k4, k5, k6, k7⟩ := S9.out.nc
              go_wp2_with fail
              clear k k0 k1 k2 k3 k4 k5 k6 k7
              refine (check7_any s _).mono ?_
              rintro e w10 ⟨rfl, hbb⟩
              rw [nodE_no HS.out]
              have S10 := Wc.hid (S9.out.keep hbb)
              clear S9
              have L10 := Wc.hid (Wc.step L9.out (Nat.le_refl _) hbb)
              clear L9
              clear hbb
              go_wp2_with fail
              refine (wakes_any _).mono ?_
              rintro e wz ⟨rfl, hbz⟩
              go_wp2_with fail
              go_ret
              exact ⟨rfl, Wc.step L10.out (Nat.le_refl _) hbz⟩
            · have HR : Hid ((pa, pr, pg) = ((0 : Int), (0 : Int), (1 : Int))) := Wc.hid (by rw [← HQ.out]; exact place_wide sec lev m k hkl HM.out h4)
              clear hkl
              have hq' := HR.out
              simp only [Prod.mk.injEq] at hq'
              obtain ⟨rfl, rfl, rfl⟩ := hq'
              clear HR HQ HM HKL
              have ⟨k, k0, k1, k2, k3, k4, k5, k6, k7⟩ := S8.out.nc
              go_wp2_with fail
              clear k k0 k1 k2 k3 k4 k5 k6 k7
              refine (refNode_any s _).mono ?_
              rintro e w9 ⟨rfl, hbb⟩
              rw [HS.out]
              have S9 := Wc.hid (S8.out.keep hbb)
              clear S8
              have L9 := Wc.hid (Wc.step L8.out (Nat.le_refl _) hbb)
              clear L8
              clear hbb
              have ⟨k, k0, k1, k2, k3, k4, k5, k6, k7⟩ := S9.out.nc
              go_wp2_with fail
              clear k k0 k1 k2 k3 k4 k5 k6 k7
              refine (check7_any s _).mono ?_
              rintro e w10 ⟨rfl, hbb⟩
              rw [nodE_no HS.out]
              have S10 := Wc.hid (S9.out.keep hbb)
              clear S9
              have L10 := Wc.hid (Wc.step L9.out (Nat.le_refl _) hbb)
              clear L9
              clear hbb
              go_wp2_with fail
              refine (wakes_any _).mono ?_
              rintro e wz ⟨rfl, hbz⟩
              go_wp2_with fail
              go_ret
              exact ⟨rfl, Wc.step L10.out (Nat.le_refl _) hbz⟩

end Go.Proofs.Ytbficappjekalaa
