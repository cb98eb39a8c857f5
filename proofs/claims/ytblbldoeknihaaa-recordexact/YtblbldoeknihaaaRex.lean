/-
  RecordExact returns true, for every record and all bytes.
-/
import Derived.Test.YtblbldoeknihaaaRrp
import Derived.Test.YtblbldoeknihaaaRseal
import Derived.Test.YtblbldoeknihaaaRwake
namespace Go.Proofs.Ytblbldoeknihaaa
open Go.RowKit

theorem bs_slice {w : World} {v : Value} {xs : List Int} (h : Wc.Bs w v xs) : ∃ a c, v = .slice a xs.length c := by
  obtain ⟨a, n, c, rfl, hn, -⟩ := h
  exact ⟨a, c, by rw [hn]⟩

set_option maxRecDepth 100000 in
set_option maxHeartbeats 1600000 in
theorem recordExact_long (s : Wr.Rec) (a : Option Addr) (n cap : Nat) (w : World) (hn : 300 < n) :
    Calls Try.prog 3 #[rv s, .slice a n cap] w fun e w' => e = .returned (.bool true) ∧ Below w.heap.size w w' := by
  have h : decide ((300 : Int) < (n : Int)) = true := by simp; omega
  clear hn
  unfold rv
  go_enter Try.func3, Try.ntmps3
  go_wp2_with fail
  go_ret
  exact ⟨rfl, (Below.refl _ _).alloc (Nat.le_refl _) _⟩

set_option maxRecDepth 100000 in
set_option maxHeartbeats 12800000 in
theorem recordExact_yes (s : Wr.Rec) (a : Option Addr) (n cap : Nat) (xs : List Int) (w : World) (hs : Wr.recB s = true) (hn : n ≤ 300)
    (hb : Wc.Bs w (.slice a n cap) xs) (sb : Wc.Shaped (.slice a n cap)) :
    Calls Try.prog 3 #[rv s, .slice a n cap] w fun e w' => e = .returned (.bool true) ∧ Below w.heap.size w w' := by
  have h300 : decide ((300 : Int) < (n : Int)) = false := by simp; omega
  have HS := Wc.hid hs
  have S0 := Wc.hid (Rh.new w s)
  have L0 := Wc.hid ((Below.refl w.heap.size w).alloc (Nat.le_refl _) (.cells #[.int .i64 s.next, .int .i64 s.id, .int .i64 s.parent, .int .i64 s.root, .int .i64 s.size, .int .i64 s.kind, .int .i64 s.frames, .int .i64 s.digest] 23))
  have X0 := Wc.hid (hb.alloc (.cells #[.int .i64 s.next, .int .i64 s.id, .int .i64 s.parent, .int .i64 s.root, .int .i64 s.size, .int .i64 s.kind, .int .i64 s.frames, .int .i64 s.digest] 23))
  clear hs hb hn
  obtain ⟨p, hp⟩ : ∃ p, Wr.par xs = p := ⟨_, rfl⟩
  obtain ⟨E, hE⟩ : ∃ E, Wr.parE xs = E := ⟨_, rfl⟩
  have HP := Wc.hid hp
  have HE := Wc.hid hE
  clear hp hE
  unfold rv
  go_enter Try.func3, Try.ntmps3
  go_wp2_with fail
  clear h300
  obtain ⟨W0, hW0⟩ : ∃ W0, w.alloc (.cells #[.int .i64 s.next, .int .i64 s.id, .int .i64 s.parent, .int .i64 s.root, .int .i64 s.size, .int .i64 s.kind, .int .i64 s.frames, .int .i64 s.digest] 23) = W0 := ⟨_, rfl⟩
  rw [hW0] at S0 L0 X0 ⊢
  clear hW0
  refine (twin_any _ xs _ X0.out sb).mono ?_
  rintro e w1 ⟨vc, rfl, hC, hbb⟩
  have S1 := Wc.hid (S0.out.keep hbb)
  clear S0
  have L1 := Wc.hid (Wc.step L0.out (Nat.le_refl _) hbb)
  clear L0
  have X1 := Wc.hid (X0.out.keep hbb)
  clear X0
  have C1 := Wc.hid hC
  clear hC hbb
  obtain ⟨aC, cC, rfl⟩ := bs_slice C1.out
  have ⟨k0, k1, k2, k3, k4, k5, k6, k7⟩ := S1.out.rc
  go_wp2_with fail
  clear k0 k1 k2 k3 k4 k5 k6 k7
  refine (bytes8_ok s _ HS.out).mono ?_
  rintro e w3 ⟨gx, rfl, hgx, hr, hbb⟩
  have S2 := Wc.hid (S1.out.keep hbb)
  clear S1
  have L2 := Wc.hid (Wc.step L1.out (Nat.le_refl _) hbb)
  clear L1
  have X2 := Wc.hid (X1.out.keep hbb)
  clear X1
  have C2 := Wc.hid (C1.out.keep hbb)
  clear C1
  have R2 := Wc.hid (hr.bs (Wr.blk_length _) (Wr.blk_bd _))
  clear hgx hr hbb
  go_wp2_with fail
  refine (parse8_any _ xs _ C2.out).mono ?_
  rintro e w4 ⟨rfl, hbb⟩
  rw [HP.out, HE.out]
  unfold rv
  have S3 := Wc.hid (S2.out.keep hbb)
  clear S2
  have L3 := Wc.hid (Wc.step L2.out (Nat.le_refl _) hbb)
  clear L2
  have X3 := Wc.hid (X2.out.keep hbb)
  clear X2
  have C3 := Wc.hid (C2.out.keep hbb)
  clear C2
  have R3 := Wc.hid (R2.out.keep hbb)
  clear R2
  clear hbb
  have HAL := Wc.hid ((Below.refl w4.heap.size w4).alloc (Nat.le_refl _) (.cells #[.int .i64 p.next, .int .i64 p.id, .int .i64 p.parent, .int .i64 p.root, .int .i64 p.size, .int .i64 p.kind, .int .i64 p.frames, .int .i64 p.digest] 23))
  have S4 := Wc.hid (S3.out.keep HAL.out)
  clear S3
  have L4 := Wc.hid (Wc.step L3.out (Nat.le_refl _) HAL.out)
  clear L3
  have X4 := Wc.hid (X3.out.keep HAL.out)
  clear X3
  have C4 := Wc.hid (C3.out.keep HAL.out)
  clear C3
  have R4 := Wc.hid (R3.out.keep HAL.out)
  clear R3
  have D4 := Wc.hid (Rh.new w4 p)
  clear HAL
  go_wp2_with fail
  obtain ⟨W4, hW4⟩ : ∃ W4, w4.alloc (.cells #[.int .i64 p.next, .int .i64 p.id, .int .i64 p.parent, .int .i64 p.root, .int .i64 p.size, .int .i64 p.kind, .int .i64 p.frames, .int .i64 p.digest] 23) = W4 := ⟨_, rfl⟩
  rw [hW4] at S4 L4 X4 C4 R4 D4 ⊢
  clear hW4
  refine (refParse8_any _ xs _ X4.out).mono ?_
  rintro e w6 ⟨rfl, hbb⟩
  rw [HP.out, HE.out]
  unfold rv
  have S5 := Wc.hid (S4.out.keep hbb)
  clear S4
  have L5 := Wc.hid (Wc.step L4.out (Nat.le_refl _) hbb)
  clear L4
  have X5 := Wc.hid (X4.out.keep hbb)
  clear X4
  have C5 := Wc.hid (C4.out.keep hbb)
  clear C4
  have R5 := Wc.hid (R4.out.keep hbb)
  clear R4
  have D5 := Wc.hid (D4.out.keep hbb)
  clear D4
  clear hbb
  have HAL := Wc.hid ((Below.refl w6.heap.size w6).alloc (Nat.le_refl _) (.cells #[.int .i64 p.next, .int .i64 p.id, .int .i64 p.parent, .int .i64 p.root, .int .i64 p.size, .int .i64 p.kind, .int .i64 p.frames, .int .i64 p.digest] 23))
  have S6 := Wc.hid (S5.out.keep HAL.out)
  clear S5
  have L6 := Wc.hid (Wc.step L5.out (Nat.le_refl _) HAL.out)
  clear L5
  have X6 := Wc.hid (X5.out.keep HAL.out)
  clear X5
  have C6 := Wc.hid (C5.out.keep HAL.out)
  clear C5
  have R6 := Wc.hid (R5.out.keep HAL.out)
  clear R5
  have D6 := Wc.hid (D5.out.keep HAL.out)
  clear D5
  have T6 := Wc.hid (Rh.new w6 p)
  clear HAL
  have ⟨k0, k1, k2, k3, k4, k5, k6, k7⟩ := D6.out.rc
  have ⟨j0, j1, j2, j3, j4, j5, j6, j7⟩ := T6.out.rc
  have hEE : (E != E) = false := by simp
  have hne := neq_rec p p
  rw [recEq_iff.2 rfl] at hne
  go_wp2_with fail
  clear hEE hne
  clear k0 k1 k2 k3 k4 k5 k6 k7
  clear j0 j1 j2 j3 j4 j5 j6 j7
  obtain ⟨W6, hW6⟩ : ∃ W6, w6.alloc (.cells #[.int .i64 p.next, .int .i64 p.id, .int .i64 p.parent, .int .i64 p.root, .int .i64 p.size, .int .i64 p.kind, .int .i64 p.frames, .int .i64 p.digest] 23) = W6 := ⟨_, rfl⟩
  rw [hW6] at S6 L6 X6 C6 R6 D6 T6 ⊢
  clear hW6
  refine (bytes_any _ _ xs xs _ C6.out X6.out).mono ?_
  rintro e w7 ⟨rfl, hbb⟩
  rw [show (xs == xs) = true by simp]
  have S7 := Wc.hid (S6.out.keep hbb)
  clear S6
  have L7 := Wc.hid (Wc.step L6.out (Nat.le_refl _) hbb)
  clear L6
  have X7 := Wc.hid (X6.out.keep hbb)
  clear X6
  have C7 := Wc.hid (C6.out.keep hbb)
  clear C6
  have R7 := Wc.hid (R6.out.keep hbb)
  clear R6
  have D7 := Wc.hid (D6.out.keep hbb)
  clear D6
  have T7 := Wc.hid (T6.out.keep hbb)
  clear T6
  clear hbb
  clear C7
  clear X7
  clear D7
  clear T7
  have ⟨k0, k1, k2, k3, k4, k5, k6, k7⟩ := S7.out.rc
  go_wp2_with fail
  clear k0 k1 k2 k3 k4 k5 k6 k7
  refine (refRecord_any s _).mono ?_
  rintro e w9 ⟨rfl, hbb⟩
  rw [HS.out]
  have S8 := Wc.hid (S7.out.keep hbb)
  clear S7
  have L8 := Wc.hid (Wc.step L7.out (Nat.le_refl _) hbb)
  clear L7
  have R8 := Wc.hid (R7.out.keep hbb)
  clear R7
  clear hbb
  have ⟨k0, k1, k2, k3, k4, k5, k6, k7⟩ := S8.out.rc
  go_wp2_with fail
  clear k0 k1 k2 k3 k4 k5 k6 k7
  refine (check8_any s _).mono ?_
  rintro e w10 ⟨rfl, hbb⟩
  rw [Wr.recE_yes HS.out]
  have S9 := Wc.hid (S8.out.keep hbb)
  clear S8
  have L9 := Wc.hid (Wc.step L8.out (Nat.le_refl _) hbb)
  clear L8
  have R9 := Wc.hid (R8.out.keep hbb)
  clear R8
  clear hbb
  have ⟨k0, k1, k2, k3, k4, k5, k6, k7⟩ := S9.out.rc
  go_wp2_with fail
  clear k0 k1 k2 k3 k4 k5 k6 k7
  refine (refRecordBytes_any s _ HS.out).mono ?_
  rintro e w11 ⟨vs, rfl, hvs, hbb⟩
  have S10 := Wc.hid (S9.out.keep hbb)
  clear S9
  have L10 := Wc.hid (Wc.step L9.out (Nat.le_refl _) hbb)
  clear L9
  have R10 := Wc.hid (R9.out.keep hbb)
  clear R9
  have U10 := Wc.hid hvs
  clear hvs hbb
  go_wp2_with fail
  refine (bytes_any _ _ (Wr.blk s) (Wr.blk s) _ R10.out U10.out).mono ?_
  rintro e w12 ⟨rfl, hbb⟩
  rw [show (Wr.blk s == Wr.blk s) = true by simp]
  have S11 := Wc.hid (S10.out.keep hbb)
  clear S10
  have L11 := Wc.hid (Wc.step L10.out (Nat.le_refl _) hbb)
  clear L10
  have R11 := Wc.hid (R10.out.keep hbb)
  clear R10
  have U11 := Wc.hid (U10.out.keep hbb)
  clear U10
  clear hbb
  go_wp2_with fail
  refine (wakes_any _).mono ?_
  rintro e wz ⟨rfl, hbz⟩
  go_wp2_with fail
  go_ret
  exact ⟨rfl, Wc.step L11.out (Nat.le_refl _) hbz⟩

set_option maxRecDepth 100000 in
set_option maxHeartbeats 12800000 in
theorem recordExact_no (s : Wr.Rec) (a : Option Addr) (n cap : Nat) (xs : List Int) (w : World) (hs : Wr.recB s = false) (hn : n ≤ 300)
    (hb : Wc.Bs w (.slice a n cap) xs) (sb : Wc.Shaped (.slice a n cap)) :
    Calls Try.prog 3 #[rv s, .slice a n cap] w fun e w' => e = .returned (.bool true) ∧ Below w.heap.size w w' := by
  have h300 : decide ((300 : Int) < (n : Int)) = false := by simp; omega
  have HS := Wc.hid hs
  have S0 := Wc.hid (Rh.new w s)
  have L0 := Wc.hid ((Below.refl w.heap.size w).alloc (Nat.le_refl _) (.cells #[.int .i64 s.next, .int .i64 s.id, .int .i64 s.parent, .int .i64 s.root, .int .i64 s.size, .int .i64 s.kind, .int .i64 s.frames, .int .i64 s.digest] 23))
  have X0 := Wc.hid (hb.alloc (.cells #[.int .i64 s.next, .int .i64 s.id, .int .i64 s.parent, .int .i64 s.root, .int .i64 s.size, .int .i64 s.kind, .int .i64 s.frames, .int .i64 s.digest] 23))
  clear hs hb hn
  obtain ⟨p, hp⟩ : ∃ p, Wr.par xs = p := ⟨_, rfl⟩
  obtain ⟨E, hE⟩ : ∃ E, Wr.parE xs = E := ⟨_, rfl⟩
  have HP := Wc.hid hp
  have HE := Wc.hid hE
  clear hp hE
  unfold rv
  go_enter Try.func3, Try.ntmps3
  go_wp2_with fail
  clear h300
  obtain ⟨W0, hW0⟩ : ∃ W0, w.alloc (.cells #[.int .i64 s.next, .int .i64 s.id, .int .i64 s.parent, .int .i64 s.root, .int .i64 s.size, .int .i64 s.kind, .int .i64 s.frames, .int .i64 s.digest] 23) = W0 := ⟨_, rfl⟩
  rw [hW0] at S0 L0 X0 ⊢
  clear hW0
  refine (twin_any _ xs _ X0.out sb).mono ?_
  rintro e w1 ⟨vc, rfl, hC, hbb⟩
  have S1 := Wc.hid (S0.out.keep hbb)
  clear S0
  have L1 := Wc.hid (Wc.step L0.out (Nat.le_refl _) hbb)
  clear L0
  have X1 := Wc.hid (X0.out.keep hbb)
  clear X0
  have C1 := Wc.hid hC
  clear hC hbb
  obtain ⟨aC, cC, rfl⟩ := bs_slice C1.out
  have ⟨k0, k1, k2, k3, k4, k5, k6, k7⟩ := S1.out.rc
  go_wp2_with fail
  clear k0 k1 k2 k3 k4 k5 k6 k7
  refine (bytes8_bad s _ HS.out).mono ?_
  rintro e w3 ⟨rfl, hbb⟩
  have S2 := Wc.hid (S1.out.keep hbb)
  clear S1
  have L2 := Wc.hid (Wc.step L1.out (Nat.le_refl _) hbb)
  clear L1
  have X2 := Wc.hid (X1.out.keep hbb)
  clear X1
  have C2 := Wc.hid (C1.out.keep hbb)
  clear C1
  clear hbb
  go_wp2_with fail
  refine (parse8_any _ xs _ C2.out).mono ?_
  rintro e w4 ⟨rfl, hbb⟩
  rw [HP.out, HE.out]
  unfold rv
  have S3 := Wc.hid (S2.out.keep hbb)
  clear S2
  have L3 := Wc.hid (Wc.step L2.out (Nat.le_refl _) hbb)
  clear L2
  have X3 := Wc.hid (X2.out.keep hbb)
  clear X2
  have C3 := Wc.hid (C2.out.keep hbb)
  clear C2
  clear hbb
  have HAL := Wc.hid ((Below.refl w4.heap.size w4).alloc (Nat.le_refl _) (.cells #[.int .i64 p.next, .int .i64 p.id, .int .i64 p.parent, .int .i64 p.root, .int .i64 p.size, .int .i64 p.kind, .int .i64 p.frames, .int .i64 p.digest] 23))
  have S4 := Wc.hid (S3.out.keep HAL.out)
  clear S3
  have L4 := Wc.hid (Wc.step L3.out (Nat.le_refl _) HAL.out)
  clear L3
  have X4 := Wc.hid (X3.out.keep HAL.out)
  clear X3
  have C4 := Wc.hid (C3.out.keep HAL.out)
  clear C3
  have D4 := Wc.hid (Rh.new w4 p)
  clear HAL
  go_wp2_with fail
  obtain ⟨W4, hW4⟩ : ∃ W4, w4.alloc (.cells #[.int .i64 p.next, .int .i64 p.id, .int .i64 p.parent, .int .i64 p.root, .int .i64 p.size, .int .i64 p.kind, .int .i64 p.frames, .int .i64 p.digest] 23) = W4 := ⟨_, rfl⟩
  rw [hW4] at S4 L4 X4 C4 D4 ⊢
  clear hW4
  refine (refParse8_any _ xs _ X4.out).mono ?_
  rintro e w6 ⟨rfl, hbb⟩
  rw [HP.out, HE.out]
  unfold rv
  have S5 := Wc.hid (S4.out.keep hbb)
  clear S4
  have L5 := Wc.hid (Wc.step L4.out (Nat.le_refl _) hbb)
  clear L4
  have X5 := Wc.hid (X4.out.keep hbb)
  clear X4
  have C5 := Wc.hid (C4.out.keep hbb)
  clear C4
  have D5 := Wc.hid (D4.out.keep hbb)
  clear D4
  clear hbb
  have HAL := Wc.hid ((Below.refl w6.heap.size w6).alloc (Nat.le_refl _) (.cells #[.int .i64 p.next, .int .i64 p.id, .int .i64 p.parent, .int .i64 p.root, .int .i64 p.size, .int .i64 p.kind, .int .i64 p.frames, .int .i64 p.digest] 23))
  have S6 := Wc.hid (S5.out.keep HAL.out)
  clear S5
  have L6 := Wc.hid (Wc.step L5.out (Nat.le_refl _) HAL.out)
  clear L5
  have X6 := Wc.hid (X5.out.keep HAL.out)
  clear X5
  have C6 := Wc.hid (C5.out.keep HAL.out)
  clear C5
  have D6 := Wc.hid (D5.out.keep HAL.out)
  clear D5
  have T6 := Wc.hid (Rh.new w6 p)
  clear HAL
  have ⟨k0, k1, k2, k3, k4, k5, k6, k7⟩ := D6.out.rc
  have ⟨j0, j1, j2, j3, j4, j5, j6, j7⟩ := T6.out.rc
  have hEE : (E != E) = false := by simp
  have hne := neq_rec p p
  rw [recEq_iff.2 rfl] at hne
  go_wp2_with fail
  clear hEE hne
  clear k0 k1 k2 k3 k4 k5 k6 k7
  clear j0 j1 j2 j3 j4 j5 j6 j7
  obtain ⟨W6, hW6⟩ : ∃ W6, w6.alloc (.cells #[.int .i64 p.next, .int .i64 p.id, .int .i64 p.parent, .int .i64 p.root, .int .i64 p.size, .int .i64 p.kind, .int .i64 p.frames, .int .i64 p.digest] 23) = W6 := ⟨_, rfl⟩
  rw [hW6] at S6 L6 X6 C6 D6 T6 ⊢
  clear hW6
  refine (bytes_any _ _ xs xs _ C6.out X6.out).mono ?_
  rintro e w7 ⟨rfl, hbb⟩
  rw [show (xs == xs) = true by simp]
  have S7 := Wc.hid (S6.out.keep hbb)
  clear S6
  have L7 := Wc.hid (Wc.step L6.out (Nat.le_refl _) hbb)
  clear L6
  have X7 := Wc.hid (X6.out.keep hbb)
  clear X6
  have C7 := Wc.hid (C6.out.keep hbb)
  clear C6
  have D7 := Wc.hid (D6.out.keep hbb)
  clear D6
  have T7 := Wc.hid (T6.out.keep hbb)
  clear T6
  clear hbb
  clear C7
  clear X7
  clear D7
  clear T7
  have ⟨k0, k1, k2, k3, k4, k5, k6, k7⟩ := S7.out.rc
  go_wp2_with fail
  clear k0 k1 k2 k3 k4 k5 k6 k7
  refine (refRecord_any s _).mono ?_
  rintro e w9 ⟨rfl, hbb⟩
  rw [HS.out]
  have S8 := Wc.hid (S7.out.keep hbb)
  clear S7
  have L8 := Wc.hid (Wc.step L7.out (Nat.le_refl _) hbb)
  clear L7
  clear hbb
  have ⟨k0, k1, k2, k3, k4, k5, k6, k7⟩ := S8.out.rc
  go_wp2_with fail
  clear k0 k1 k2 k3 k4 k5 k6 k7
  refine (check8_any s _).mono ?_
  rintro e w10 ⟨rfl, hbb⟩
  rw [Wr.recE_no HS.out]
  have S9 := Wc.hid (S8.out.keep hbb)
  clear S8
  have L9 := Wc.hid (Wc.step L8.out (Nat.le_refl _) hbb)
  clear L8
  clear hbb
  go_wp2_with fail
  refine (wakes_any _).mono ?_
  rintro e wz ⟨rfl, hbz⟩
  go_wp2_with fail
  go_ret
  exact ⟨rfl, Wc.step L9.out (Nat.le_refl _) hbz⟩

end Go.Proofs.Ytblbldoeknihaaa
