/-
  SuperExact returns true, for every superblock and all bytes.
-/
import Derived.Test.YtkddnjpkkkknfaaSrpk
import Derived.Test.YtkddnjpkkkknfaaSseal
import Derived.Test.YtkddnjpkkkknfaaSwake
import Derived.Test.YtkddnjpkkkknfaaDhv
import Derived.Test.YtkddnjpkkkknfaaSeq
namespace Go.Proofs.Ytkddnjpkkkknfaa
open Go.RowKit

/-- What Pick tells is the page's. -/
theorem pick_page (ys X Y : List Int) (m : Int) (hd : Wd.devB ys.length = true) (hm : ((ys.length / 64 : Nat) : Int) = m) (hX : (ys.drop (0 * 64)).take 64 = X) (hY : (ys.drop (1 * 64)).take 64 = Y) :
    pickA ys = ((rpk (onB m X) (onB m Y) (Ws.par X) (Ws.par Y)).1, (rpk (onB m X) (onB m Y) (Ws.par X) (Ws.par Y)).2.1, if (rpk (onB m X) (onB m Y) (Ws.par X) (Ws.par Y)).2.2 = true then 0 else 8) := by
  rw [← rpk_picks, pickA, if_pos hd]
  unfold Ws.pickR
  rw [hm, ← hX, ← hY]
  simp

theorem rpk_no {one two : Bool} {a b : Ws.Sup} (h : (rpk one two a b).2.2 = false) : (rpk one two a b).1 = Ws.s0 ∧ (rpk one two a b).2.1 = 0 := by
  unfold rpk at h ⊢
  split at h
  · cases h
  · split at h
    · cases h
    · rename_i h1 h2
      rw [if_neg h1, if_neg h2]
      exact ⟨rfl, rfl⟩

theorem shaped_slice {v : Value} (h : Wc.Shaped v) : ∃ a n c, v = .slice a n c := by
  rcases h with rfl | ⟨a, n, c, rfl⟩
  · exact ⟨_, _, _, rfl⟩
  · exact ⟨_, _, _, rfl⟩

theorem bs_slice {w : World} {v : Value} {xs : List Int} (h : Wc.Bs w v xs) : ∃ a c, v = .slice a xs.length c := by
  obtain ⟨a, n, c, rfl, hn, -⟩ := h
  exact ⟨a, c, by rw [hn]⟩

theorem raw_nil (w : World) : Wd.Raw w none 0 0 [] := ⟨rfl, Nat.le_refl _, by omega, by omega⟩

theorem heavy_nil (n : Nat) : Wd.heavyB n [] = !decide (n ≤ 19200) := by simp [Wd.heavyB]

set_option maxRecDepth 100000 in
set_option maxHeartbeats 1600000 in
theorem superExact_long (s : Ws.Sup) (a : Option Addr) (n cap : Nat) (ai : Option Addr) (ni ci : Nat) (w : World) (hn : 300 < n) :
    Calls Try.prog 3 #[sv s, .slice a n cap, .slice ai ni ci] w fun e w' => e = .returned (.bool true) ∧ Below w.heap.size w w' := by
  have h : decide ((300 : Int) < (n : Int)) = true := by simp; omega
  clear hn
  unfold sv
  go_enter Try.func3, Try.ntmps3
  go_wp2_with fail
  go_ret
  exact ⟨rfl, (Below.refl _ _).alloc (Nat.le_refl _) _⟩

set_option maxRecDepth 100000 in
set_option maxHeartbeats 1600000 in
theorem superExact_heavy (s : Ws.Sup) (a : Option Addr) (n cap : Nat) (ai : Option Addr) (ni ci : Nat) (w : World) (hn : n ≤ 300) (hh : 19200 < ni) :
    Calls Try.prog 3 #[sv s, .slice a n cap, .slice ai ni ci] w fun e w' => e = .returned (.bool true) ∧ Below w.heap.size w w' := by
  have h : decide ((300 : Int) < (n : Int)) = false := by simp; omega
  have HH : Hid (Wd.heavyB ni [] = true) := Wc.hid (by rw [heavy_nil]; simp; omega)
  clear hn hh
  unfold sv
  go_enter Try.func3, Try.ntmps3
  go_wp2_with fail
  refine (heavy_raw _ _ _ _ _ _ [] _ (raw_nil _)).mono ?_
  rintro e w1 ⟨rfl, rfl⟩
  rw [HH.out]
  go_wp2_with fail
  go_ret
  exact ⟨rfl, (Below.refl _ _).alloc (Nat.le_refl _) _⟩

set_option maxRecDepth 100000 in
set_option maxHeartbeats 12800000 in
theorem superExact_yes (s : Ws.Sup) (a : Option Addr) (n cap : Nat) (xs : List Int) (ai : Option Addr) (ni ci : Nat) (ys : List Int) (w : World) (hs : Ws.supB s = true) (hn : n ≤ 300) (hni : ni ≤ 19200)
    (hb : Wc.Bs w (.slice a n cap) xs) (sb : Wc.Shaped (.slice a n cap)) (hi : Wc.Bs w (.slice ai ni ci) ys) (si : Wc.Shaped (.slice ai ni ci)) :
    Calls Try.prog 3 #[sv s, .slice a n cap, .slice ai ni ci] w fun e w' => e = .returned (.bool true) ∧ Below w.heap.size w w' := by
  have h300 : decide ((300 : Int) < (n : Int)) = false := by simp; omega
  have HH : Hid (Wd.heavyB ni [] = false) := Wc.hid (by rw [heavy_nil]; simp; omega)
  have HS := Wc.hid hs
  have hxl := Wc.bs_len hb
  have hyl := Wc.bs_len hi
  have HYL := Wc.hid hyl
  have HNI := Wc.hid hni
  have S0 := Wc.hid (Sh.new w s)
  have L0 := Wc.hid ((Below.refl w.heap.size w).alloc (Nat.le_refl _) (.cells #[.int .i64 s.gen, .int .i64 s.blocks, .int .i64 s.root, .int .i64 s.size, .int .i64 s.first] 23))
  have X0 := Wc.hid (hb.alloc (.cells #[.int .i64 s.gen, .int .i64 s.blocks, .int .i64 s.root, .int .i64 s.size, .int .i64 s.first] 23))
  have Y0 := Wc.hid (hi.alloc (.cells #[.int .i64 s.gen, .int .i64 s.blocks, .int .i64 s.root, .int .i64 s.size, .int .i64 s.first] 23))
  clear hs hb hi hn hni hxl hyl
  obtain ⟨p, hp⟩ : ∃ p, Ws.par xs = p := ⟨_, rfl⟩
  obtain ⟨E, hE⟩ : ∃ E, Ws.parE xs = E := ⟨_, rfl⟩
  have HP := Wc.hid hp
  have HE := Wc.hid hE
  clear hp hE
  unfold sv
  go_enter Try.func3, Try.ntmps3
  go_wp2_with fail
  clear h300
  obtain ⟨W0, hW0⟩ : ∃ W0, w.alloc (.cells #[.int .i64 s.gen, .int .i64 s.blocks, .int .i64 s.root, .int .i64 s.size, .int .i64 s.first] 23) = W0 := ⟨_, rfl⟩
  rw [hW0] at S0 L0 X0 Y0 ⊢
  clear hW0
  refine (heavy_raw _ _ _ _ _ _ [] _ (raw_nil _)).mono ?_
  rintro e w1 ⟨rfl, rfl⟩
  rw [HH.out]
  go_wp2_with fail
  refine (twin_any _ xs _ X0.out sb).mono ?_
  rintro e w1 ⟨vc, rfl, hC, hbb⟩
  have S1 := Wc.hid (S0.out.keep hbb)
  clear S0
  have L1 := Wc.hid (Wc.step L0.out (Nat.le_refl _) hbb)
  clear L0
  have X1 := Wc.hid (X0.out.keep hbb)
  clear X0
  have Y1 := Wc.hid (Y0.out.keep hbb)
  clear Y0
  have C1 := Wc.hid hC
  clear hC hbb
  go_wp2_with fail
  refine (twin_any _ ys _ Y1.out si).mono ?_
  rintro e w2 ⟨vi, rfl, hI, hbb⟩
  have S2 := Wc.hid (S1.out.keep hbb)
  clear S1
  have L2 := Wc.hid (Wc.step L1.out (Nat.le_refl _) hbb)
  clear L1
  have X2 := Wc.hid (X1.out.keep hbb)
  clear X1
  have Y2 := Wc.hid (Y1.out.keep hbb)
  clear Y1
  have C2 := Wc.hid (C1.out.keep hbb)
  clear C1
  have I2 := Wc.hid hI
  clear hI hbb
  obtain ⟨aI, cI, rfl⟩ := bs_slice I2.out
  obtain ⟨aC, cC, rfl⟩ := bs_slice C2.out
  have ⟨k0, k1, k2, k3, k4⟩ := S2.out.sc
  go_wp2_with fail
  clear k0 k1 k2 k3 k4
  refine (bytes6_ok s _ HS.out).mono ?_
  rintro e w3 ⟨gx, rfl, hgx, hr, hbb⟩
  have S3 := Wc.hid (S2.out.keep hbb)
  clear S2
  have L3 := Wc.hid (Wc.step L2.out (Nat.le_refl _) hbb)
  clear L2
  have X3 := Wc.hid (X2.out.keep hbb)
  clear X2
  have Y3 := Wc.hid (Y2.out.keep hbb)
  clear Y2
  have C3 := Wc.hid (C2.out.keep hbb)
  clear C2
  have I3 := Wc.hid (I2.out.keep hbb)
  clear I2
  have R3 := Wc.hid (hr.bs (Ws.blk_length _) (Ws.blk_bd _))
  clear hgx hr hbb
  go_wp2_with fail
  refine (parse_any _ xs _ C3.out).mono ?_
  rintro e w4 ⟨rfl, hbb⟩
  rw [HP.out, HE.out]
  unfold sv
  have S4 := Wc.hid (S3.out.keep hbb)
  clear S3
  have L4 := Wc.hid (Wc.step L3.out (Nat.le_refl _) hbb)
  clear L3
  have X4 := Wc.hid (X3.out.keep hbb)
  clear X3
  have Y4 := Wc.hid (Y3.out.keep hbb)
  clear Y3
  have C4 := Wc.hid (C3.out.keep hbb)
  clear C3
  have I4 := Wc.hid (I3.out.keep hbb)
  clear I3
  have R4 := Wc.hid (R3.out.keep hbb)
  clear R3
  clear hbb
  have HAL := Wc.hid ((Below.refl w4.heap.size w4).alloc (Nat.le_refl _) (.cells #[.int .i64 p.gen, .int .i64 p.blocks, .int .i64 p.root, .int .i64 p.size, .int .i64 p.first] 23))
  have S5 := Wc.hid (S4.out.keep HAL.out)
  clear S4
  have L5 := Wc.hid (Wc.step L4.out (Nat.le_refl _) HAL.out)
  clear L4
  have X5 := Wc.hid (X4.out.keep HAL.out)
  clear X4
  have Y5 := Wc.hid (Y4.out.keep HAL.out)
  clear Y4
  have C5 := Wc.hid (C4.out.keep HAL.out)
  clear C4
  have I5 := Wc.hid (I4.out.keep HAL.out)
  clear I4
  have R5 := Wc.hid (R4.out.keep HAL.out)
  clear R4
  have D5 := Wc.hid (Sh.new w4 p)
  clear HAL
  go_wp2_with fail
  obtain ⟨W4, hW4⟩ : ∃ W4, w4.alloc (.cells #[.int .i64 p.gen, .int .i64 p.blocks, .int .i64 p.root, .int .i64 p.size, .int .i64 p.first] 23) = W4 := ⟨_, rfl⟩
  rw [hW4] at S5 L5 X5 Y5 C5 I5 R5 D5 ⊢
  clear hW4
  refine (pick_any _ _ _ ys _ I5.out).mono ?_
  rintro e w5 ⟨rfl, hbb⟩
  obtain ⟨q, hq⟩ : ∃ q, (pickA ys).1 = q := ⟨_, rfl⟩
  obtain ⟨qi, hqi⟩ : ∃ qi, (pickA ys).2.1 = qi := ⟨_, rfl⟩
  obtain ⟨qe, hqe⟩ : ∃ qe, (pickA ys).2.2 = qe := ⟨_, rfl⟩
  have HQ : Hid (pickA ys = (q, qi, qe)) := Wc.hid (by rw [← hq, ← hqi, ← hqe])
  rw [hq, hqi, hqe]
  clear hq hqi hqe
  unfold sv
  have S6 := Wc.hid (S5.out.keep hbb)
  clear S5
  have L6 := Wc.hid (Wc.step L5.out (Nat.le_refl _) hbb)
  clear L5
  have X6 := Wc.hid (X5.out.keep hbb)
  clear X5
  have Y6 := Wc.hid (Y5.out.keep hbb)
  clear Y5
  have C6 := Wc.hid (C5.out.keep hbb)
  clear C5
  have I6 := Wc.hid (I5.out.keep hbb)
  clear I5
  have R6 := Wc.hid (R5.out.keep hbb)
  clear R5
  have D6 := Wc.hid (D5.out.keep hbb)
  clear D5
  clear hbb
  have HAL := Wc.hid ((Below.refl w5.heap.size w5).alloc (Nat.le_refl _) (.cells #[.int .i64 q.gen, .int .i64 q.blocks, .int .i64 q.root, .int .i64 q.size, .int .i64 q.first] 23))
  have S7 := Wc.hid (S6.out.keep HAL.out)
  clear S6
  have L7 := Wc.hid (Wc.step L6.out (Nat.le_refl _) HAL.out)
  clear L6
  have X7 := Wc.hid (X6.out.keep HAL.out)
  clear X6
  have Y7 := Wc.hid (Y6.out.keep HAL.out)
  clear Y6
  have C7 := Wc.hid (C6.out.keep HAL.out)
  clear C6
  have I7 := Wc.hid (I6.out.keep HAL.out)
  clear I6
  have R7 := Wc.hid (R6.out.keep HAL.out)
  clear R6
  have D7 := Wc.hid (D6.out.keep HAL.out)
  clear D6
  have Z7 := Wc.hid (Sh.new w5 q)
  clear HAL
  go_wp2_with fail
  obtain ⟨W5, hW5⟩ : ∃ W5, w5.alloc (.cells #[.int .i64 q.gen, .int .i64 q.blocks, .int .i64 q.root, .int .i64 q.size, .int .i64 q.first] 23) = W5 := ⟨_, rfl⟩
  rw [hW5] at S7 L7 X7 Y7 C7 I7 R7 D7 Z7 ⊢
  clear hW5
  refine (refParse_any _ xs _ X7.out).mono ?_
  rintro e w6 ⟨rfl, hbb⟩
  rw [HP.out, HE.out]
  unfold sv
  have S8 := Wc.hid (S7.out.keep hbb)
  clear S7
  have L8 := Wc.hid (Wc.step L7.out (Nat.le_refl _) hbb)
  clear L7
  have X8 := Wc.hid (X7.out.keep hbb)
  clear X7
  have Y8 := Wc.hid (Y7.out.keep hbb)
  clear Y7
  have C8 := Wc.hid (C7.out.keep hbb)
  clear C7
  have I8 := Wc.hid (I7.out.keep hbb)
  clear I7
  have R8 := Wc.hid (R7.out.keep hbb)
  clear R7
  have D8 := Wc.hid (D7.out.keep hbb)
  clear D7
  have Z8 := Wc.hid (Z7.out.keep hbb)
  clear Z7
  clear hbb
  have HAL := Wc.hid ((Below.refl w6.heap.size w6).alloc (Nat.le_refl _) (.cells #[.int .i64 p.gen, .int .i64 p.blocks, .int .i64 p.root, .int .i64 p.size, .int .i64 p.first] 23))
  have S9 := Wc.hid (S8.out.keep HAL.out)
  clear S8
  have L9 := Wc.hid (Wc.step L8.out (Nat.le_refl _) HAL.out)
  clear L8
  have X9 := Wc.hid (X8.out.keep HAL.out)
  clear X8
  have Y9 := Wc.hid (Y8.out.keep HAL.out)
  clear Y8
  have C9 := Wc.hid (C8.out.keep HAL.out)
  clear C8
  have I9 := Wc.hid (I8.out.keep HAL.out)
  clear I8
  have R9 := Wc.hid (R8.out.keep HAL.out)
  clear R8
  have D9 := Wc.hid (D8.out.keep HAL.out)
  clear D8
  have Z9 := Wc.hid (Z8.out.keep HAL.out)
  clear Z8
  have T9 := Wc.hid (Sh.new w6 p)
  clear HAL
  have ⟨k0, k1, k2, k3, k4⟩ := D9.out.sc
  have ⟨j0, j1, j2, j3, j4⟩ := T9.out.sc
  have hEE : (E != E) = false := by simp
  go_wp2_with fail
  clear hEE
  clear k0 k1 k2 k3 k4
  clear j0 j1 j2 j3 j4
  obtain ⟨W6, hW6⟩ : ∃ W6, w6.alloc (.cells #[.int .i64 p.gen, .int .i64 p.blocks, .int .i64 p.root, .int .i64 p.size, .int .i64 p.first] 23) = W6 := ⟨_, rfl⟩
  rw [hW6] at S9 L9 X9 Y9 C9 I9 R9 D9 Z9 T9 ⊢
  clear hW6
  refine (bytes_any _ _ xs xs _ C9.out X9.out).mono ?_
  rintro e w7 ⟨rfl, hbb⟩
  rw [show (xs == xs) = true by simp]
  have S10 := Wc.hid (S9.out.keep hbb)
  clear S9
  have L10 := Wc.hid (Wc.step L9.out (Nat.le_refl _) hbb)
  clear L9
  have X10 := Wc.hid (X9.out.keep hbb)
  clear X9
  have Y10 := Wc.hid (Y9.out.keep hbb)
  clear Y9
  have C10 := Wc.hid (C9.out.keep hbb)
  clear C9
  have I10 := Wc.hid (I9.out.keep hbb)
  clear I9
  have R10 := Wc.hid (R9.out.keep hbb)
  clear R9
  have D10 := Wc.hid (D9.out.keep hbb)
  clear D9
  have Z10 := Wc.hid (Z9.out.keep hbb)
  clear Z9
  have T10 := Wc.hid (T9.out.keep hbb)
  clear T9
  clear hbb
  go_wp2_with fail
  refine (bytes_any _ _ ys ys _ I10.out Y10.out).mono ?_
  rintro e w8 ⟨rfl, hbb⟩
  rw [show (ys == ys) = true by simp]
  have S11 := Wc.hid (S10.out.keep hbb)
  clear S10
  have L11 := Wc.hid (Wc.step L10.out (Nat.le_refl _) hbb)
  clear L10
  have X11 := Wc.hid (X10.out.keep hbb)
  clear X10
  have Y11 := Wc.hid (Y10.out.keep hbb)
  clear Y10
  have C11 := Wc.hid (C10.out.keep hbb)
  clear C10
  have I11 := Wc.hid (I10.out.keep hbb)
  clear I10
  have R11 := Wc.hid (R10.out.keep hbb)
  clear R10
  have D11 := Wc.hid (D10.out.keep hbb)
  clear D10
  have Z11 := Wc.hid (Z10.out.keep hbb)
  clear Z10
  have T11 := Wc.hid (T10.out.keep hbb)
  clear T10
  clear hbb
  have ⟨k0, k1, k2, k3, k4⟩ := S11.out.sc
  go_wp2_with fail
  clear k0 k1 k2 k3 k4
  refine (refSuper_any s _).mono ?_
  rintro e w9 ⟨rfl, hbb⟩
  rw [HS.out]
  have S12 := Wc.hid (S11.out.keep hbb)
  clear S11
  have L12 := Wc.hid (Wc.step L11.out (Nat.le_refl _) hbb)
  clear L11
  have X12 := Wc.hid (X11.out.keep hbb)
  clear X11
  have Y12 := Wc.hid (Y11.out.keep hbb)
  clear Y11
  have C12 := Wc.hid (C11.out.keep hbb)
  clear C11
  have I12 := Wc.hid (I11.out.keep hbb)
  clear I11
  have R12 := Wc.hid (R11.out.keep hbb)
  clear R11
  have D12 := Wc.hid (D11.out.keep hbb)
  clear D11
  have Z12 := Wc.hid (Z11.out.keep hbb)
  clear Z11
  have T12 := Wc.hid (T11.out.keep hbb)
  clear T11
  clear hbb
  have ⟨k0, k1, k2, k3, k4⟩ := S12.out.sc
  go_wp2_with fail
  clear k0 k1 k2 k3 k4
  refine (check6_any s _).mono ?_
  rintro e w10 ⟨rfl, hbb⟩
  rw [supE_yes HS.out]
  have S13 := Wc.hid (S12.out.keep hbb)
  clear S12
  have L13 := Wc.hid (Wc.step L12.out (Nat.le_refl _) hbb)
  clear L12
  have X13 := Wc.hid (X12.out.keep hbb)
  clear X12
  have Y13 := Wc.hid (Y12.out.keep hbb)
  clear Y12
  have C13 := Wc.hid (C12.out.keep hbb)
  clear C12
  have I13 := Wc.hid (I12.out.keep hbb)
  clear I12
  have R13 := Wc.hid (R12.out.keep hbb)
  clear R12
  have D13 := Wc.hid (D12.out.keep hbb)
  clear D12
  have Z13 := Wc.hid (Z12.out.keep hbb)
  clear Z12
  have T13 := Wc.hid (T12.out.keep hbb)
  clear T12
  clear hbb
  have ⟨k0, k1, k2, k3, k4⟩ := S13.out.sc
  go_wp2_with fail
  clear k0 k1 k2 k3 k4
  refine (refSuperBytes_any s _ HS.out).mono ?_
  rintro e w11 ⟨vs, rfl, hvs, hbb⟩
  have S14 := Wc.hid (S13.out.keep hbb)
  clear S13
  have L14 := Wc.hid (Wc.step L13.out (Nat.le_refl _) hbb)
  clear L13
  have X14 := Wc.hid (X13.out.keep hbb)
  clear X13
  have Y14 := Wc.hid (Y13.out.keep hbb)
  clear Y13
  have C14 := Wc.hid (C13.out.keep hbb)
  clear C13
  have I14 := Wc.hid (I13.out.keep hbb)
  clear I13
  have R14 := Wc.hid (R13.out.keep hbb)
  clear R13
  have D14 := Wc.hid (D13.out.keep hbb)
  clear D13
  have Z14 := Wc.hid (Z13.out.keep hbb)
  clear Z13
  have T14 := Wc.hid (T13.out.keep hbb)
  clear T13
  have U14 := Wc.hid hvs
  clear hvs hbb
  go_wp2_with fail
  refine (bytes_any _ _ (Ws.blk s) (Ws.blk s) _ R14.out U14.out).mono ?_
  rintro e w12 ⟨rfl, hbb⟩
  rw [show (Ws.blk s == Ws.blk s) = true by simp]
  have S15 := Wc.hid (S14.out.keep hbb)
  clear S14
  have L15 := Wc.hid (Wc.step L14.out (Nat.le_refl _) hbb)
  clear L14
  have X15 := Wc.hid (X14.out.keep hbb)
  clear X14
  have Y15 := Wc.hid (Y14.out.keep hbb)
  clear Y14
  have C15 := Wc.hid (C14.out.keep hbb)
  clear C14
  have I15 := Wc.hid (I14.out.keep hbb)
  clear I14
  have R15 := Wc.hid (R14.out.keep hbb)
  clear R14
  have D15 := Wc.hid (D14.out.keep hbb)
  clear D14
  have Z15 := Wc.hid (Z14.out.keep hbb)
  clear Z14
  have T15 := Wc.hid (T14.out.keep hbb)
  clear T14
  have U15 := Wc.hid (U14.out.keep hbb)
  clear U14
  clear hbb
  go_wp2_with fail
  refine (blocks_any _ _ _ _ (by have := HNI.out; omega)).mono ?_
  rintro e w13 ⟨rfl, rfl⟩
  cases hd : Wd.devB ni
  · have hq : pickA ys = (Ws.s0, 0, 2) := by rw [pickA, HYL.out, if_neg (by rw [hd]; decide)]
    rw [hq] at HQ
    have hq' := HQ.out
    simp only [Prod.mk.injEq] at hq'
    obtain ⟨rfl, rfl, rfl⟩ := hq'
    clear hq HQ hd
    have ⟨k0, k1, k2, k3, k4⟩ := Z15.out.sc
    go_wp2_with fail
    clear k0 k1 k2 k3 k4
    refine (wakes_any _).mono ?_
    rintro e wz ⟨rfl, hbz⟩
    go_wp2_with fail
    go_ret
    exact ⟨rfl, Wc.step L15.out (Nat.le_refl _) hbz⟩
  · obtain ⟨m, hm⟩ : ∃ m : Int, ((ni / 64 : Nat) : Int) = m := ⟨_, rfl⟩
    obtain ⟨A, hA⟩ : ∃ A, (ys.drop (0 * 64)).take 64 = A := ⟨_, rfl⟩
    obtain ⟨B, hB⟩ : ∃ B, (ys.drop (1 * 64)).take 64 = B := ⟨_, rfl⟩
    have hpp := pick_page ys A B m (by rw [HYL.out]; exact hd) (by rw [HYL.out]; exact hm) hA hB
    have hno := @rpk_no (onB m A) (onB m B) (Ws.par A) (Ws.par B)
    have HRP := Wc.hid (refPick_any _ _ _ ys A B m _ Y15.out hd hm hA hB)
    obtain ⟨r, hr⟩ : ∃ r, rpk (onB m A) (onB m B) (Ws.par A) (Ws.par B) = r := ⟨_, rfl⟩
    rw [hr] at hpp hno HRP
    clear hm hA hB hr hd
    rw [hpp] at HQ
    have hq' := HQ.out
    simp only [Prod.mk.injEq] at hq'
    obtain ⟨e1, e2, e3⟩ := hq'
    clear hpp HQ
    obtain ⟨rs, ri, rb⟩ := r
    simp only [] at e1 e2 e3 hno
    subst e1 e2
    go_wp2_with fail
    refine HRP.out.mono ?_
    rintro e w14 ⟨rfl, hbb⟩
    simp only []
    unfold sv
    have S16 := Wc.hid (S15.out.keep hbb)
    clear S15
    have L16 := Wc.hid (Wc.step L15.out (Nat.le_refl _) hbb)
    clear L15
    have X16 := Wc.hid (X15.out.keep hbb)
    clear X15
    have Y16 := Wc.hid (Y15.out.keep hbb)
    clear Y15
    have C16 := Wc.hid (C15.out.keep hbb)
    clear C15
    have I16 := Wc.hid (I15.out.keep hbb)
    clear I15
    have R16 := Wc.hid (R15.out.keep hbb)
    clear R15
    have D16 := Wc.hid (D15.out.keep hbb)
    clear D15
    have Z16 := Wc.hid (Z15.out.keep hbb)
    clear Z15
    have T16 := Wc.hid (T15.out.keep hbb)
    clear T15
    have U16 := Wc.hid (U15.out.keep hbb)
    clear U15
    clear hbb HRP
    have HAL := Wc.hid ((Below.refl w14.heap.size w14).alloc (Nat.le_refl _) (.cells #[.int .i64 rs.gen, .int .i64 rs.blocks, .int .i64 rs.root, .int .i64 rs.size, .int .i64 rs.first] 23))
    have S17 := Wc.hid (S16.out.keep HAL.out)
    clear S16
    have L17 := Wc.hid (Wc.step L16.out (Nat.le_refl _) HAL.out)
    clear L16
    have X17 := Wc.hid (X16.out.keep HAL.out)
    clear X16
    have Y17 := Wc.hid (Y16.out.keep HAL.out)
    clear Y16
    have C17 := Wc.hid (C16.out.keep HAL.out)
    clear C16
    have I17 := Wc.hid (I16.out.keep HAL.out)
    clear I16
    have R17 := Wc.hid (R16.out.keep HAL.out)
    clear R16
    have D17 := Wc.hid (D16.out.keep HAL.out)
    clear D16
    have Z17 := Wc.hid (Z16.out.keep HAL.out)
    clear Z16
    have T17 := Wc.hid (T16.out.keep HAL.out)
    clear T16
    have U17 := Wc.hid (U16.out.keep HAL.out)
    clear U16
    have V17 := Wc.hid (Sh.new w14 rs)
    clear HAL
    cases rb
    · obtain ⟨h1, h2⟩ := hno rfl
      subst h1 h2
      simp only [Bool.false_eq_true, if_false] at e3
      subst e3
      have ⟨k0, k1, k2, k3, k4⟩ := Z17.out.sc
      go_wp2_with fail
      clear k0 k1 k2 k3 k4
      refine (wakes_any _).mono ?_
      rintro e wz ⟨rfl, hbz⟩
      go_wp2_with fail
      go_ret
      exact ⟨rfl, Wc.step L17.out (Nat.le_refl _) hbz⟩
    · clear hno
      simp only [if_true] at e3
      subst e3
      have ⟨k0, k1, k2, k3, k4⟩ := Z17.out.sc
      have ⟨j0, j1, j2, j3, j4⟩ := V17.out.sc
      have hri : (ri == ri) = true := by simp
      go_wp2_with fail
      clear hri
      clear k0 k1 k2 k3 k4
      clear j0 j1 j2 j3 j4
      refine (wakes_any _).mono ?_
      rintro e wz ⟨rfl, hbz⟩
      go_wp2_with fail
      go_ret
      exact ⟨rfl, Wc.step L17.out (Nat.le_refl _) hbz⟩

set_option maxRecDepth 100000 in
set_option maxHeartbeats 12800000 in
theorem superExact_no (s : Ws.Sup) (a : Option Addr) (n cap : Nat) (xs : List Int) (ai : Option Addr) (ni ci : Nat) (ys : List Int) (w : World) (hs : Ws.supB s = false) (hn : n ≤ 300) (hni : ni ≤ 19200)
    (hb : Wc.Bs w (.slice a n cap) xs) (sb : Wc.Shaped (.slice a n cap)) (hi : Wc.Bs w (.slice ai ni ci) ys) (si : Wc.Shaped (.slice ai ni ci)) :
    Calls Try.prog 3 #[sv s, .slice a n cap, .slice ai ni ci] w fun e w' => e = .returned (.bool true) ∧ Below w.heap.size w w' := by
  have h300 : decide ((300 : Int) < (n : Int)) = false := by simp; omega
  have HH : Hid (Wd.heavyB ni [] = false) := Wc.hid (by rw [heavy_nil]; simp; omega)
  have HS := Wc.hid hs
  have hxl := Wc.bs_len hb
  have hyl := Wc.bs_len hi
  have HYL := Wc.hid hyl
  have HNI := Wc.hid hni
  have S0 := Wc.hid (Sh.new w s)
  have L0 := Wc.hid ((Below.refl w.heap.size w).alloc (Nat.le_refl _) (.cells #[.int .i64 s.gen, .int .i64 s.blocks, .int .i64 s.root, .int .i64 s.size, .int .i64 s.first] 23))
  have X0 := Wc.hid (hb.alloc (.cells #[.int .i64 s.gen, .int .i64 s.blocks, .int .i64 s.root, .int .i64 s.size, .int .i64 s.first] 23))
  have Y0 := Wc.hid (hi.alloc (.cells #[.int .i64 s.gen, .int .i64 s.blocks, .int .i64 s.root, .int .i64 s.size, .int .i64 s.first] 23))
  clear hs hb hi hn hni hxl hyl
  obtain ⟨p, hp⟩ : ∃ p, Ws.par xs = p := ⟨_, rfl⟩
  obtain ⟨E, hE⟩ : ∃ E, Ws.parE xs = E := ⟨_, rfl⟩
  have HP := Wc.hid hp
  have HE := Wc.hid hE
  clear hp hE
  unfold sv
  go_enter Try.func3, Try.ntmps3
  go_wp2_with fail
  clear h300
  obtain ⟨W0, hW0⟩ : ∃ W0, w.alloc (.cells #[.int .i64 s.gen, .int .i64 s.blocks, .int .i64 s.root, .int .i64 s.size, .int .i64 s.first] 23) = W0 := ⟨_, rfl⟩
  rw [hW0] at S0 L0 X0 Y0 ⊢
  clear hW0
  refine (heavy_raw _ _ _ _ _ _ [] _ (raw_nil _)).mono ?_
  rintro e w1 ⟨rfl, rfl⟩
  rw [HH.out]
  go_wp2_with fail
  refine (twin_any _ xs _ X0.out sb).mono ?_
  rintro e w1 ⟨vc, rfl, hC, hbb⟩
  have S1 := Wc.hid (S0.out.keep hbb)
  clear S0
  have L1 := Wc.hid (Wc.step L0.out (Nat.le_refl _) hbb)
  clear L0
  have X1 := Wc.hid (X0.out.keep hbb)
  clear X0
  have Y1 := Wc.hid (Y0.out.keep hbb)
  clear Y0
  have C1 := Wc.hid hC
  clear hC hbb
  go_wp2_with fail
  refine (twin_any _ ys _ Y1.out si).mono ?_
  rintro e w2 ⟨vi, rfl, hI, hbb⟩
  have S2 := Wc.hid (S1.out.keep hbb)
  clear S1
  have L2 := Wc.hid (Wc.step L1.out (Nat.le_refl _) hbb)
  clear L1
  have X2 := Wc.hid (X1.out.keep hbb)
  clear X1
  have Y2 := Wc.hid (Y1.out.keep hbb)
  clear Y1
  have C2 := Wc.hid (C1.out.keep hbb)
  clear C1
  have I2 := Wc.hid hI
  clear hI hbb
  obtain ⟨aI, cI, rfl⟩ := bs_slice I2.out
  obtain ⟨aC, cC, rfl⟩ := bs_slice C2.out
  have ⟨k0, k1, k2, k3, k4⟩ := S2.out.sc
  go_wp2_with fail
  clear k0 k1 k2 k3 k4
  refine (bytes6_bad s _ HS.out).mono ?_
  rintro e w3 ⟨rfl, hbb⟩
  have S3 := Wc.hid (S2.out.keep hbb)
  clear S2
  have L3 := Wc.hid (Wc.step L2.out (Nat.le_refl _) hbb)
  clear L2
  have X3 := Wc.hid (X2.out.keep hbb)
  clear X2
  have Y3 := Wc.hid (Y2.out.keep hbb)
  clear Y2
  have C3 := Wc.hid (C2.out.keep hbb)
  clear C2
  have I3 := Wc.hid (I2.out.keep hbb)
  clear I2
  clear hbb
  go_wp2_with fail
  refine (parse_any _ xs _ C3.out).mono ?_
  rintro e w4 ⟨rfl, hbb⟩
  rw [HP.out, HE.out]
  unfold sv
  have S4 := Wc.hid (S3.out.keep hbb)
  clear S3
  have L4 := Wc.hid (Wc.step L3.out (Nat.le_refl _) hbb)
  clear L3
  have X4 := Wc.hid (X3.out.keep hbb)
  clear X3
  have Y4 := Wc.hid (Y3.out.keep hbb)
  clear Y3
  have C4 := Wc.hid (C3.out.keep hbb)
  clear C3
  have I4 := Wc.hid (I3.out.keep hbb)
  clear I3
  clear hbb
  have HAL := Wc.hid ((Below.refl w4.heap.size w4).alloc (Nat.le_refl _) (.cells #[.int .i64 p.gen, .int .i64 p.blocks, .int .i64 p.root, .int .i64 p.size, .int .i64 p.first] 23))
  have S5 := Wc.hid (S4.out.keep HAL.out)
  clear S4
  have L5 := Wc.hid (Wc.step L4.out (Nat.le_refl _) HAL.out)
  clear L4
  have X5 := Wc.hid (X4.out.keep HAL.out)
  clear X4
  have Y5 := Wc.hid (Y4.out.keep HAL.out)
  clear Y4
  have C5 := Wc.hid (C4.out.keep HAL.out)
  clear C4
  have I5 := Wc.hid (I4.out.keep HAL.out)
  clear I4
  have D5 := Wc.hid (Sh.new w4 p)
  clear HAL
  go_wp2_with fail
  obtain ⟨W4, hW4⟩ : ∃ W4, w4.alloc (.cells #[.int .i64 p.gen, .int .i64 p.blocks, .int .i64 p.root, .int .i64 p.size, .int .i64 p.first] 23) = W4 := ⟨_, rfl⟩
  rw [hW4] at S5 L5 X5 Y5 C5 I5 D5 ⊢
  clear hW4
  refine (pick_any _ _ _ ys _ I5.out).mono ?_
  rintro e w5 ⟨rfl, hbb⟩
  obtain ⟨q, hq⟩ : ∃ q, (pickA ys).1 = q := ⟨_, rfl⟩
  obtain ⟨qi, hqi⟩ : ∃ qi, (pickA ys).2.1 = qi := ⟨_, rfl⟩
  obtain ⟨qe, hqe⟩ : ∃ qe, (pickA ys).2.2 = qe := ⟨_, rfl⟩
  have HQ : Hid (pickA ys = (q, qi, qe)) := Wc.hid (by rw [← hq, ← hqi, ← hqe])
  rw [hq, hqi, hqe]
  clear hq hqi hqe
  unfold sv
  have S6 := Wc.hid (S5.out.keep hbb)
  clear S5
  have L6 := Wc.hid (Wc.step L5.out (Nat.le_refl _) hbb)
  clear L5
  have X6 := Wc.hid (X5.out.keep hbb)
  clear X5
  have Y6 := Wc.hid (Y5.out.keep hbb)
  clear Y5
  have C6 := Wc.hid (C5.out.keep hbb)
  clear C5
  have I6 := Wc.hid (I5.out.keep hbb)
  clear I5
  have D6 := Wc.hid (D5.out.keep hbb)
  clear D5
  clear hbb
  have HAL := Wc.hid ((Below.refl w5.heap.size w5).alloc (Nat.le_refl _) (.cells #[.int .i64 q.gen, .int .i64 q.blocks, .int .i64 q.root, .int .i64 q.size, .int .i64 q.first] 23))
  have S7 := Wc.hid (S6.out.keep HAL.out)
  clear S6
  have L7 := Wc.hid (Wc.step L6.out (Nat.le_refl _) HAL.out)
  clear L6
  have X7 := Wc.hid (X6.out.keep HAL.out)
  clear X6
  have Y7 := Wc.hid (Y6.out.keep HAL.out)
  clear Y6
  have C7 := Wc.hid (C6.out.keep HAL.out)
  clear C6
  have I7 := Wc.hid (I6.out.keep HAL.out)
  clear I6
  have D7 := Wc.hid (D6.out.keep HAL.out)
  clear D6
  have Z7 := Wc.hid (Sh.new w5 q)
  clear HAL
  go_wp2_with fail
  obtain ⟨W5, hW5⟩ : ∃ W5, w5.alloc (.cells #[.int .i64 q.gen, .int .i64 q.blocks, .int .i64 q.root, .int .i64 q.size, .int .i64 q.first] 23) = W5 := ⟨_, rfl⟩
  rw [hW5] at S7 L7 X7 Y7 C7 I7 D7 Z7 ⊢
  clear hW5
  refine (refParse_any _ xs _ X7.out).mono ?_
  rintro e w6 ⟨rfl, hbb⟩
  rw [HP.out, HE.out]
  unfold sv
  have S8 := Wc.hid (S7.out.keep hbb)
  clear S7
  have L8 := Wc.hid (Wc.step L7.out (Nat.le_refl _) hbb)
  clear L7
  have X8 := Wc.hid (X7.out.keep hbb)
  clear X7
  have Y8 := Wc.hid (Y7.out.keep hbb)
  clear Y7
  have C8 := Wc.hid (C7.out.keep hbb)
  clear C7
  have I8 := Wc.hid (I7.out.keep hbb)
  clear I7
  have D8 := Wc.hid (D7.out.keep hbb)
  clear D7
  have Z8 := Wc.hid (Z7.out.keep hbb)
  clear Z7
  clear hbb
  have HAL := Wc.hid ((Below.refl w6.heap.size w6).alloc (Nat.le_refl _) (.cells #[.int .i64 p.gen, .int .i64 p.blocks, .int .i64 p.root, .int .i64 p.size, .int .i64 p.first] 23))
  have S9 := Wc.hid (S8.out.keep HAL.out)
  clear S8
  have L9 := Wc.hid (Wc.step L8.out (Nat.le_refl _) HAL.out)
  clear L8
  have X9 := Wc.hid (X8.out.keep HAL.out)
  clear X8
  have Y9 := Wc.hid (Y8.out.keep HAL.out)
  clear Y8
  have C9 := Wc.hid (C8.out.keep HAL.out)
  clear C8
  have I9 := Wc.hid (I8.out.keep HAL.out)
  clear I8
  have D9 := Wc.hid (D8.out.keep HAL.out)
  clear D8
  have Z9 := Wc.hid (Z8.out.keep HAL.out)
  clear Z8
  have T9 := Wc.hid (Sh.new w6 p)
  clear HAL
  have ⟨k0, k1, k2, k3, k4⟩ := D9.out.sc
  have ⟨j0, j1, j2, j3, j4⟩ := T9.out.sc
  have hEE : (E != E) = false := by simp
  go_wp2_with fail
  clear hEE
  clear k0 k1 k2 k3 k4
  clear j0 j1 j2 j3 j4
  obtain ⟨W6, hW6⟩ : ∃ W6, w6.alloc (.cells #[.int .i64 p.gen, .int .i64 p.blocks, .int .i64 p.root, .int .i64 p.size, .int .i64 p.first] 23) = W6 := ⟨_, rfl⟩
  rw [hW6] at S9 L9 X9 Y9 C9 I9 D9 Z9 T9 ⊢
  clear hW6
  refine (bytes_any _ _ xs xs _ C9.out X9.out).mono ?_
  rintro e w7 ⟨rfl, hbb⟩
  rw [show (xs == xs) = true by simp]
  have S10 := Wc.hid (S9.out.keep hbb)
  clear S9
  have L10 := Wc.hid (Wc.step L9.out (Nat.le_refl _) hbb)
  clear L9
  have X10 := Wc.hid (X9.out.keep hbb)
  clear X9
  have Y10 := Wc.hid (Y9.out.keep hbb)
  clear Y9
  have C10 := Wc.hid (C9.out.keep hbb)
  clear C9
  have I10 := Wc.hid (I9.out.keep hbb)
  clear I9
  have D10 := Wc.hid (D9.out.keep hbb)
  clear D9
  have Z10 := Wc.hid (Z9.out.keep hbb)
  clear Z9
  have T10 := Wc.hid (T9.out.keep hbb)
  clear T9
  clear hbb
  go_wp2_with fail
  refine (bytes_any _ _ ys ys _ I10.out Y10.out).mono ?_
  rintro e w8 ⟨rfl, hbb⟩
  rw [show (ys == ys) = true by simp]
  have S11 := Wc.hid (S10.out.keep hbb)
  clear S10
  have L11 := Wc.hid (Wc.step L10.out (Nat.le_refl _) hbb)
  clear L10
  have X11 := Wc.hid (X10.out.keep hbb)
  clear X10
  have Y11 := Wc.hid (Y10.out.keep hbb)
  clear Y10
  have C11 := Wc.hid (C10.out.keep hbb)
  clear C10
  have I11 := Wc.hid (I10.out.keep hbb)
  clear I10
  have D11 := Wc.hid (D10.out.keep hbb)
  clear D10
  have Z11 := Wc.hid (Z10.out.keep hbb)
  clear Z10
  have T11 := Wc.hid (T10.out.keep hbb)
  clear T10
  clear hbb
  have ⟨k0, k1, k2, k3, k4⟩ := S11.out.sc
  go_wp2_with fail
  clear k0 k1 k2 k3 k4
  refine (refSuper_any s _).mono ?_
  rintro e w9 ⟨rfl, hbb⟩
  rw [HS.out]
  have S12 := Wc.hid (S11.out.keep hbb)
  clear S11
  have L12 := Wc.hid (Wc.step L11.out (Nat.le_refl _) hbb)
  clear L11
  have X12 := Wc.hid (X11.out.keep hbb)
  clear X11
  have Y12 := Wc.hid (Y11.out.keep hbb)
  clear Y11
  have C12 := Wc.hid (C11.out.keep hbb)
  clear C11
  have I12 := Wc.hid (I11.out.keep hbb)
  clear I11
  have D12 := Wc.hid (D11.out.keep hbb)
  clear D11
  have Z12 := Wc.hid (Z11.out.keep hbb)
  clear Z11
  have T12 := Wc.hid (T11.out.keep hbb)
  clear T11
  clear hbb
  have ⟨k0, k1, k2, k3, k4⟩ := S12.out.sc
  go_wp2_with fail
  clear k0 k1 k2 k3 k4
  refine (check6_any s _).mono ?_
  rintro e w10 ⟨rfl, hbb⟩
  rw [supE_no HS.out]
  have S13 := Wc.hid (S12.out.keep hbb)
  clear S12
  have L13 := Wc.hid (Wc.step L12.out (Nat.le_refl _) hbb)
  clear L12
  have X13 := Wc.hid (X12.out.keep hbb)
  clear X12
  have Y13 := Wc.hid (Y12.out.keep hbb)
  clear Y12
  have C13 := Wc.hid (C12.out.keep hbb)
  clear C12
  have I13 := Wc.hid (I12.out.keep hbb)
  clear I12
  have D13 := Wc.hid (D12.out.keep hbb)
  clear D12
  have Z13 := Wc.hid (Z12.out.keep hbb)
  clear Z12
  have T13 := Wc.hid (T12.out.keep hbb)
  clear T12
  clear hbb
  go_wp2_with fail
  refine (blocks_any _ _ _ _ (by have := HNI.out; omega)).mono ?_
  rintro e w13 ⟨rfl, rfl⟩
  cases hd : Wd.devB ni
  · have hq : pickA ys = (Ws.s0, 0, 2) := by rw [pickA, HYL.out, if_neg (by rw [hd]; decide)]
    rw [hq] at HQ
    have hq' := HQ.out
    simp only [Prod.mk.injEq] at hq'
    obtain ⟨rfl, rfl, rfl⟩ := hq'
    clear hq HQ hd
    have ⟨k0, k1, k2, k3, k4⟩ := Z13.out.sc
    go_wp2_with fail
    clear k0 k1 k2 k3 k4
    refine (wakes_any _).mono ?_
    rintro e wz ⟨rfl, hbz⟩
    go_wp2_with fail
    go_ret
    exact ⟨rfl, Wc.step L13.out (Nat.le_refl _) hbz⟩
  · obtain ⟨m, hm⟩ : ∃ m : Int, ((ni / 64 : Nat) : Int) = m := ⟨_, rfl⟩
    obtain ⟨A, hA⟩ : ∃ A, (ys.drop (0 * 64)).take 64 = A := ⟨_, rfl⟩
    obtain ⟨B, hB⟩ : ∃ B, (ys.drop (1 * 64)).take 64 = B := ⟨_, rfl⟩
    have hpp := pick_page ys A B m (by rw [HYL.out]; exact hd) (by rw [HYL.out]; exact hm) hA hB
    have hno := @rpk_no (onB m A) (onB m B) (Ws.par A) (Ws.par B)
    have HRP := Wc.hid (refPick_any _ _ _ ys A B m _ Y13.out hd hm hA hB)
    obtain ⟨r, hr⟩ : ∃ r, rpk (onB m A) (onB m B) (Ws.par A) (Ws.par B) = r := ⟨_, rfl⟩
    rw [hr] at hpp hno HRP
    clear hm hA hB hr hd
    rw [hpp] at HQ
    have hq' := HQ.out
    simp only [Prod.mk.injEq] at hq'
    obtain ⟨e1, e2, e3⟩ := hq'
    clear hpp HQ
    obtain ⟨rs, ri, rb⟩ := r
    simp only [] at e1 e2 e3 hno
    subst e1 e2
    go_wp2_with fail
    refine HRP.out.mono ?_
    rintro e w14 ⟨rfl, hbb⟩
    simp only []
    unfold sv
    have S14 := Wc.hid (S13.out.keep hbb)
    clear S13
    have L14 := Wc.hid (Wc.step L13.out (Nat.le_refl _) hbb)
    clear L13
    have X14 := Wc.hid (X13.out.keep hbb)
    clear X13
    have Y14 := Wc.hid (Y13.out.keep hbb)
    clear Y13
    have C14 := Wc.hid (C13.out.keep hbb)
    clear C13
    have I14 := Wc.hid (I13.out.keep hbb)
    clear I13
    have D14 := Wc.hid (D13.out.keep hbb)
    clear D13
    have Z14 := Wc.hid (Z13.out.keep hbb)
    clear Z13
    have T14 := Wc.hid (T13.out.keep hbb)
    clear T13
    clear hbb HRP
    have HAL := Wc.hid ((Below.refl w14.heap.size w14).alloc (Nat.le_refl _) (.cells #[.int .i64 rs.gen, .int .i64 rs.blocks, .int .i64 rs.root, .int .i64 rs.size, .int .i64 rs.first] 23))
    have S15 := Wc.hid (S14.out.keep HAL.out)
    clear S14
    have L15 := Wc.hid (Wc.step L14.out (Nat.le_refl _) HAL.out)
    clear L14
    have X15 := Wc.hid (X14.out.keep HAL.out)
    clear X14
    have Y15 := Wc.hid (Y14.out.keep HAL.out)
    clear Y14
    have C15 := Wc.hid (C14.out.keep HAL.out)
    clear C14
    have I15 := Wc.hid (I14.out.keep HAL.out)
    clear I14
    have D15 := Wc.hid (D14.out.keep HAL.out)
    clear D14
    have Z15 := Wc.hid (Z14.out.keep HAL.out)
    clear Z14
    have T15 := Wc.hid (T14.out.keep HAL.out)
    clear T14
    have V15 := Wc.hid (Sh.new w14 rs)
    clear HAL
    cases rb
    · obtain ⟨h1, h2⟩ := hno rfl
      subst h1 h2
      simp only [Bool.false_eq_true, if_false] at e3
      subst e3
      have ⟨k0, k1, k2, k3, k4⟩ := Z15.out.sc
      go_wp2_with fail
      clear k0 k1 k2 k3 k4
      refine (wakes_any _).mono ?_
      rintro e wz ⟨rfl, hbz⟩
      go_wp2_with fail
      go_ret
      exact ⟨rfl, Wc.step L15.out (Nat.le_refl _) hbz⟩
    · clear hno
      simp only [if_true] at e3
      subst e3
      have ⟨k0, k1, k2, k3, k4⟩ := Z15.out.sc
      have ⟨j0, j1, j2, j3, j4⟩ := V15.out.sc
      have hri : (ri == ri) = true := by simp
      go_wp2_with fail
      clear hri
      clear k0 k1 k2 k3 k4
      clear j0 j1 j2 j3 j4
      refine (wakes_any _).mono ?_
      rintro e wz ⟨rfl, hbz⟩
      go_wp2_with fail
      go_ret
      exact ⟨rfl, Wc.step L15.out (Nat.le_refl _) hbz⟩

end Go.Proofs.Ytkddnjpkkkknfaa
