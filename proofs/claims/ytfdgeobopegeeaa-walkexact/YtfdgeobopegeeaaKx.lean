/-
  WalkExact: what the statement's function returns.
-/
import Derived.Test.YtfdgeobopegeeaaKu
import Derived.Test.YtfdgeobopegeeaaKf
import Derived.Test.YtfdgeobopegeeaaKw
namespace Go.Proofs.Ytfdgeobopegeeaa
open Go.RowKit

theorem hvyX (n : Nat) : Wd.heavyB n [] = !decide (n ≤ 19200) := by simp [Wd.heavyB]
theorem rwX (w : World) : Wd.Raw w none 0 0 [] := ⟨rfl, Nat.le_refl _, by omega, fun h => by omega⟩
theorem cn_page {xs : List Int} (H : Img xs) {w : World} {g m : Nat} (h : Wj.Cn w g m (rAll xs)) : Wj.Cn w g m (cnt xs) :=
  World.rowIs.congr h fun q _ => by rw [rAll_count H]

set_option maxRecDepth 100000 in
set_option maxHeartbeats 3200000 in
theorem walkExact_heavy (ai : Option Addr) (ni ci : Nat) (w : World) (hh : 19200 < ni) :
    Calls Try.prog 3 #[.slice ai ni ci] w fun e w' => e = .returned (.bool true) ∧ Below w.heap.size w w' := by
  have hv : Wd.heavyB ni [] = true := by rw [hvyX]; simp; omega
  go_enter Try.func3, Try.ntmps3
  go_wp2_with fail
  refine (heavy_raw _ _ _ _ _ _ [] _ (rwX _)).mono ?_
  rintro e w1 ⟨rfl, rfl⟩
  rw [hv]
  go_wp2_with fail
  go_ret
  exact ⟨rfl, Below.refl _ _⟩

set_option maxRecDepth 100000 in
set_option maxHeartbeats 6400000 in
theorem walkExact_none (ai : Option Addr) (ni ci : Nat) (xs : List Int) (w : World) (hv : Wc.Bs w (.slice ai ni ci) xs) (hsh : Wc.Shaped (.slice ai ni ci)) (hn : ni ≤ 19200) (hE : ¬ opnE xs = 0) :
    Calls Try.prog 3 #[.slice ai ni ci] w fun e w' => e = .returned (.bool true) ∧ Below w.heap.size w w' := by
  have hh : Wd.heavyB ni [] = false := by rw [hvyX]; simp; omega
  have HS : Hid (opnS xs = Ws.s0) := Wc.hid (by unfold opnS; rw [if_neg hE])
  have HT : Hid (opnT xs = 0) := Wc.hid (by unfold opnT; rw [if_neg hE])
  obtain ⟨E, hEE⟩ : ∃ E, opnE xs = E := ⟨_, rfl⟩
  have HNE := Wc.hid hE
  rw [hEE] at hE
  have hz : (E != 0) = true := by simpa using hE
  have HV := Wc.hid hv
  have HE := Wc.hid hEE
  have HSH := Wc.hid hsh
  clear hv hEE hE hsh
  go_enter Try.func3, Try.ntmps3
  go_wp2_with fail
  refine (heavy_raw _ _ _ _ _ _ [] _ (rwX _)).mono ?_
  rintro e w1 ⟨rfl, rfl⟩
  rw [hh]
  go_wp2_with fail
  refine (twin_ob _ xs _ HV.out HSH.out).mono ?_
  rintro e w2 ⟨x2, rfl, hx2, hb2⟩
  have hs2 : ∃ a2 n2 c2, x2 = .slice a2 n2 c2 := by
    rcases hx2.shaped with rfl | ⟨_, _, _, rfl⟩
    · exact ⟨_, _, _, rfl⟩
    · exact ⟨_, _, _, rfl⟩
  obtain ⟨a2, n2, c2, rfl⟩ := hs2
  have X2 := Wc.hid hx2.bs
  have V2 := Wc.hid (HV.out.keep hb2)
  have B2 := Wc.hid hb2
  clear hx2 hb2
  go_wp2_with fail
  refine (counts_any _ xs _ X2.out).mono ?_
  rintro e w3 ⟨hb3, -, hy⟩
  obtain rfl := hy HNE.out
  rw [HE.out]
  have X3 := Wc.hid (X2.out.keep hb3)
  have V3 := Wc.hid (V2.out.keep hb3)
  have B3 := Wc.hid (Wc.step B2.out (Nat.le_refl _) hb3)
  clear hy hb3
  go_wp2_with fail
  refine (used_any _ xs _ X3.out).mono ?_
  rintro e w4 ⟨hb4, -, hy⟩
  obtain rfl := hy HNE.out
  rw [HE.out]
  have X4 := Wc.hid (X3.out.keep hb4)
  have V4 := Wc.hid (V3.out.keep hb4)
  have B4 := Wc.hid (Wc.step B3.out (Nat.le_refl _) hb4)
  clear hy hb4
  go_wp2_with fail
  refine (shared_any _ xs _ X4.out).mono ?_
  rintro e w5 ⟨hb5, -, hy⟩
  obtain rfl := hy HNE.out
  rw [HE.out]
  have X5 := Wc.hid (X4.out.keep hb5)
  have V5 := Wc.hid (V4.out.keep hb5)
  have B5 := Wc.hid (Wc.step B4.out (Nat.le_refl _) hb5)
  clear hy hb5
  go_wp2_with fail
  refine (bytes_any _ _ _ _ _ X5.out V5.out).mono ?_
  rintro e w6 ⟨rfl, hb6⟩
  rw [beq_self_eq_true]
  have V6 := Wc.hid (V5.out.keep hb6)
  have B6 := Wc.hid (Wc.step B5.out (Nat.le_refl _) hb6)
  clear hb6
  go_wp2_with fail
  refine (refOpen_full _ xs _ V6.out).mono ?_
  rintro e w7 ⟨a7, n7, c7, a8, n8, c8, a9, n9, c9, a10, n10, c10, k7, rfl, hR7, hb7, -⟩
  rw [HS.out, HT.out, HE.out]
  have bA : Below w7.heap.size w7 (w7.alloc (.cells #[.int .i64 Ws.s0.gen, .int .i64 Ws.s0.blocks, .int .i64 Ws.s0.root, .int .i64 Ws.s0.size, .int .i64 Ws.s0.first, .int .i64 0, .slice a7 n7 c7, .slice a8 n8 c8, .slice a9 n9 c9, .slice a10 n10 c10] 39)) := (Below.refl _ _).alloc (Nat.le_refl _) _
  have bF : Below (w7.alloc (.cells #[.int .i64 Ws.s0.gen, .int .i64 Ws.s0.blocks, .int .i64 Ws.s0.root, .int .i64 Ws.s0.size, .int .i64 Ws.s0.first, .int .i64 0, .slice a7 n7 c7, .slice a8 n8 c8, .slice a9 n9 c9, .slice a10 n10 c10] 39)).heap.size (w7.alloc (.cells #[.int .i64 Ws.s0.gen, .int .i64 Ws.s0.blocks, .int .i64 Ws.s0.root, .int .i64 Ws.s0.size, .int .i64 Ws.s0.first, .int .i64 0, .slice a7 n7 c7, .slice a8 n8 c8, .slice a9 n9 c9, .slice a10 n10 c10] 39)) ((w7.alloc (.cells #[.int .i64 Ws.s0.gen, .int .i64 Ws.s0.blocks, .int .i64 Ws.s0.root, .int .i64 Ws.s0.size, .int .i64 Ws.s0.first, .int .i64 0, .slice a7 n7 c7, .slice a8 n8 c8, .slice a9 n9 c9, .slice a10 n10 c10] 39)).alloc (.cells #[.int .i64 k7, .int .i64 E] 41)) := (Below.refl _ _).alloc (Nat.le_refl _) _
  have hF := Fh.new (w7.alloc (.cells #[.int .i64 Ws.s0.gen, .int .i64 Ws.s0.blocks, .int .i64 Ws.s0.root, .int .i64 Ws.s0.size, .int .i64 Ws.s0.first, .int .i64 0, .slice a7 n7 c7, .slice a8 n8 c8, .slice a9 n9 c9, .slice a10 n10 c10] 39)) k7 E
  rw [show (w7.alloc (.cells #[.int .i64 Ws.s0.gen, .int .i64 Ws.s0.blocks, .int .i64 Ws.s0.root, .int .i64 Ws.s0.size, .int .i64 Ws.s0.first, .int .i64 0, .slice a7 n7 c7, .slice a8 n8 c8, .slice a9 n9 c9, .slice a10 n10 c10] 39)).heap.size = w7.heap.size + 1 by simp] at hF
  obtain ⟨f0, f1, -⟩ := hF.fc
  have B7 := Wc.hid (Wc.step B6.out (Nat.le_refl _) (Wc.step hb7 (Nat.le_refl _) (Wc.step bA (Nat.le_refl _) bF)))
  have hee : (E == E) = true := beq_self_eq_true E
  clear bA bF hF hb7 hR7
  unfold imv
  go_wp2_with fail
  refine (wakes_any _).mono ?_
  rintro e w8 ⟨rfl, hb8⟩
  have B8 := Wc.hid (Wc.step B7.out (Nat.le_refl _) hb8)
  clear hb8
  go_wp2_with fail
  go_ret
  exact ⟨rfl, B8.out⟩

set_option maxRecDepth 100000 in
set_option maxHeartbeats 12800000 in
theorem walkExact_some (ai : Option Addr) (ni ci : Nat) (xs : List Int) (w : World) (hv : Wc.Bs w (.slice ai ni ci) xs) (hsh : Wc.Shaped (.slice ai ni ci)) (hn : ni ≤ 19200) (hE : opnE xs = 0) :
    Calls Try.prog 3 #[.slice ai ni ci] w fun e w' => e = .returned (.bool true) ∧ Below w.heap.size w w' := by
  have hh : Wd.heavyB ni [] = false := by rw [hvyX]; simp; omega
  have hI := img_of hE
  have HI := Wc.hid hI
  obtain ⟨m, hm⟩ : ∃ m, xs.length / 64 = m := ⟨_, rfl⟩
  have hd := Wd.devB_iff.1 hI.dev
  have hm4 : 4 ≤ m ∧ m ≤ 4096 := by omega
  have HM := Wc.hid hm
  obtain ⟨s, hs⟩ : ∃ s, opnS xs = s := ⟨_, rfl⟩
  obtain ⟨t, ht⟩ : ∃ t, opnT xs = t := ⟨_, rfl⟩
  have HS := Wc.hid hs
  have HT := Wc.hid ht
  obtain ⟨T, hTT⟩ : ∃ T, cnt xs = T := ⟨_, rfl⟩
  have HTT := Wc.hid hTT
  have HE := Wc.hid hE
  have HV := Wc.hid hv
  have HSH := Wc.hid hsh
  clear hv hE hsh hI hm hd hs ht hTT
  go_enter Try.func3, Try.ntmps3
  go_wp2_with fail
  refine (heavy_raw _ _ _ _ _ _ [] _ (rwX _)).mono ?_
  rintro e w1 ⟨rfl, rfl⟩
  rw [hh]
  go_wp2_with fail
  refine (twin_ob _ xs _ HV.out HSH.out).mono ?_
  rintro e w2 ⟨x2, rfl, hx2, hb2⟩
  have hs2 : ∃ a2 n2 c2, x2 = .slice a2 n2 c2 := by
    rcases hx2.shaped with rfl | ⟨_, _, _, rfl⟩
    · exact ⟨_, _, _, rfl⟩
    · exact ⟨_, _, _, rfl⟩
  obtain ⟨a2, n2, c2, rfl⟩ := hs2
  have X2 := Wc.hid hx2.bs
  have V2 := Wc.hid (HV.out.keep hb2)
  have B2 := Wc.hid hb2
  clear hx2 hb2
  go_wp2_with fail
  refine (counts_any _ xs _ X2.out).mono ?_
  rintro e w3 ⟨hb3, hy, -⟩
  obtain ⟨gl, rfl, -, hC3⟩ := hy HE.out
  rw [HM.out] at hC3 ⊢
  rw [HTT.out] at hC3
  have C3 := Wc.hid hC3
  have X3 := Wc.hid (X2.out.keep hb3)
  have V3 := Wc.hid (V2.out.keep hb3)
  have B3 := Wc.hid (Wc.step B2.out (Nat.le_refl _) hb3)
  clear hy hb3 hC3
  go_wp2_with fail
  refine (used_any _ xs _ X3.out).mono ?_
  rintro e w4 ⟨hb4, hy, -⟩
  obtain rfl := hy HE.out
  rw [HTT.out, HM.out]
  have C4 := Wc.hid (row_keep C3.out hb4)
  have X4 := Wc.hid (X3.out.keep hb4)
  have V4 := Wc.hid (V3.out.keep hb4)
  have B4 := Wc.hid (Wc.step B3.out (Nat.le_refl _) hb4)
  clear hy hb4
  go_wp2_with fail
  refine (shared_any _ xs _ X4.out).mono ?_
  rintro e w5 ⟨hb5, hy, -⟩
  obtain ⟨sa, sn, sc, rfl, hS5⟩ := hy HE.out
  rw [HTT.out, HM.out] at hS5
  have S5 := Wc.hid hS5
  have C5 := Wc.hid (row_keep C4.out hb5)
  have X5 := Wc.hid (X4.out.keep hb5)
  have V5 := Wc.hid (V4.out.keep hb5)
  have B5 := Wc.hid (Wc.step B4.out (Nat.le_refl _) hb5)
  clear hy hb5 hS5
  go_wp2_with fail
  refine (bytes_any _ _ _ _ _ X5.out V5.out).mono ?_
  rintro e w6 ⟨rfl, hb6⟩
  rw [beq_self_eq_true]
  have C6 := Wc.hid (row_keep C5.out hb6)
  have S6 := Wc.hid (S5.out.keep hb6)
  have V6 := Wc.hid (V5.out.keep hb6)
  have B6 := Wc.hid (Wc.step B5.out (Nat.le_refl _) hb6)
  clear hb6
  go_wp2_with fail
  refine (refOpen_full _ xs _ V6.out).mono ?_
  rintro e w7 ⟨a7, n7, c7, a8, n8, c8, a9, n9, c9, a10, n10, c10, k7, rfl, hR7, hb7, hmore⟩
  obtain ⟨hB7, -, hN7⟩ := hmore HE.out
  rw [HS.out] at hN7
  rw [HS.out, HT.out, HE.out]
  have bA : Below w7.heap.size w7 (w7.alloc (.cells #[.int .i64 s.gen, .int .i64 s.blocks, .int .i64 s.root, .int .i64 s.size, .int .i64 s.first, .int .i64 t, .slice a7 n7 c7, .slice a8 n8 c8, .slice a9 n9 c9, .slice a10 n10 c10] 39)) := (Below.refl _ _).alloc (Nat.le_refl _) _
  have bF : Below (w7.alloc (.cells #[.int .i64 s.gen, .int .i64 s.blocks, .int .i64 s.root, .int .i64 s.size, .int .i64 s.first, .int .i64 t, .slice a7 n7 c7, .slice a8 n8 c8, .slice a9 n9 c9, .slice a10 n10 c10] 39)).heap.size (w7.alloc (.cells #[.int .i64 s.gen, .int .i64 s.blocks, .int .i64 s.root, .int .i64 s.size, .int .i64 s.first, .int .i64 t, .slice a7 n7 c7, .slice a8 n8 c8, .slice a9 n9 c9, .slice a10 n10 c10] 39)) ((w7.alloc (.cells #[.int .i64 s.gen, .int .i64 s.blocks, .int .i64 s.root, .int .i64 s.size, .int .i64 s.first, .int .i64 t, .slice a7 n7 c7, .slice a8 n8 c8, .slice a9 n9 c9, .slice a10 n10 c10] 39)).alloc (.cells #[.int .i64 k7, .int .i64 0] 41)) := (Below.refl _ _).alloc (Nat.le_refl _) _
  have bAF := Wc.step bA (Nat.le_refl _) bF
  have ⟨i0, i1, i2, i3, i4, i5, i6, i7, i8, i9⟩ := ((Ih.new w7 s t (.slice a7 n7 c7) (.slice a8 n8 c8) (.slice a9 n9 c9) (.slice a10 n10 c10)).keep bF).ic
  have hF := Fh.new (w7.alloc (.cells #[.int .i64 s.gen, .int .i64 s.blocks, .int .i64 s.root, .int .i64 s.size, .int .i64 s.first, .int .i64 t, .slice a7 n7 c7, .slice a8 n8 c8, .slice a9 n9 c9, .slice a10 n10 c10] 39)) k7 0
  rw [show (w7.alloc (.cells #[.int .i64 s.gen, .int .i64 s.blocks, .int .i64 s.root, .int .i64 s.size, .int .i64 s.first, .int .i64 t, .slice a7 n7 c7, .slice a8 n8 c8, .slice a9 n9 c9, .slice a10 n10 c10] 39)).heap.size = w7.heap.size + 1 by simp] at hF
  obtain ⟨f0, f1, -⟩ := hF.fc
  have hb7' := Wc.step hb7 (Nat.le_refl _) bAF
  have R7 := Wc.hid (hR7.keep bAF)
  have BB7 := Wc.hid (hB7.keep bAF)
  have N7 := Wc.hid (hN7.keep bAF)
  have C7 := Wc.hid (row_keep C6.out hb7')
  have S7 := Wc.hid (S6.out.keep hb7')
  have V7 := Wc.hid (V6.out.keep hb7')
  have B7 := Wc.hid (Wc.step B6.out (Nat.le_refl _) hb7')
  clear bA bF bAF hF hb7 hb7' hR7 hB7 hN7 hmore
  unfold imv
  go_wp2_with fail
  have hrc := refCounts_any ai ni ci xs _ V7.out HE.out a7 a8 a9 a10 n7 c7 n8 c8 n9 c9 n10 c10 w6.heap.size R7.out BB7.out (by rw [HS.out]; exact N7.out)
  unfold imv at hrc
  rw [HS.out, HT.out, HM.out] at hrc
  refine hrc.mono ?_
  rintro e w8 ⟨gc, rfl, hC8, hb8⟩
  have hC8' := cn_page HI.out hC8
  rw [HTT.out] at hC8'
  have D8 := Wc.hid hC8'
  have C8 := Wc.hid (row_keep C7.out hb8)
  have S8 := Wc.hid (S7.out.keep hb8)
  have B8 := Wc.hid (Wc.step B7.out (Nat.le_refl _) hb8)
  clear hrc hC8 hC8' hb8 i0 i1 i2 i3 i4 i5 i6 i7 i8 i9 f0 f1
  go_wp2_with fail
  go_loopw [13, 14, 15] (fun u v i wr => ∃ (k : Nat) (la : Option Addr) (ln lc : Nat), u = .int .i64 (Wj.usedN T k) ∧ v = .slice la ln lc ∧ i = .int .i64 k ∧ k ≤ m ∧ Hid (Wv.Ov (Value.int .i64) 3 w8.heap.size wr (.slice la ln lc) (Wj.shr T k)) ∧ Hid (Below w8.heap.size w8 wr)) (fun _ _ i _ => m - (intOf i).toNat)
  case atStart => exact ⟨0, none, 0, 0, rfl, rfl, rfl, by omega, Wc.hid (Wv.Ov.nil _ _ _), Wc.hid (Below.refl _ _)⟩
  case round =>
    obtain ⟨k, la, ln, lc, rfl, rfl, rfl, hk, OK, BK⟩ := hrel
    by_cases hlt : k < m
    · have h1 := World.rowIs.cell (row_keep D8.out BK.out) hlt
      have hle := Wj.usedN_le T k
      have HU := Wc.hid (Wj.usedN_succ T k)
      have hsl := Wj.shr_len T k
      have HSY : Hid (2 ≤ k ∧ 1 < T.count (k : Int) → Wj.shr T (k + 1) = Wj.shr T k ++ [(k : Int)]) := Wc.hid Wj.shr_yes
      have HSN : Hid (¬ (2 ≤ k ∧ 1 < T.count (k : Int)) → Wj.shr T (k + 1) = Wj.shr T k) := Wc.hid Wj.shr_no
      obtain ⟨y, hy⟩ : ∃ y, T.count (k : Int) = y := ⟨_, rfl⟩
      rw [hy] at h1 HU HSY HSN
      obtain ⟨z, hz⟩ : ∃ z, Wj.usedN T k = z := ⟨_, rfl⟩
      rw [hz] at hle HU ⊢
      clear hy hz
      by_cases hs2 : 2 ≤ k ∧ 1 < y
      · obtain ⟨hk2, hy1⟩ := hs2
        have hy0 : 0 < y := by omega
        have HE2 := Wc.hid (HSY.out ⟨hk2, hy1⟩)
        have HUE : Hid (Wj.usedN T (k + 1) = z + 1) := Wc.hid (by rw [HU.out, if_pos hy0])
        obtain ⟨a', n', c', w9, hrun, hO, hb9, -⟩ := push_wide wr wr.heap.size w8.heap.size rfl (.slice la ln lc) (Wj.shr T k) (k : Int) OK.out (by omega) BK.out.size
        have HRUN := Wc.hid hrun
        have HO := Wc.hid (show Wv.Ov (Value.int .i64) 3 w8.heap.size w9 (.slice a' n' c') (Wj.shr T (k + 1)) by rw [HE2.out]; exact hO)
        have HB9 := Wc.hid ((BK.out.alloc BK.out.size (.cells #[.int .i64 (k : Int)] 3)).trans hb9)
        clear hrun hO hb9 hsl
        go_wp2_with (at_builtin; refine Wv.wp_append HRUN.out rfl rfl rfl rfl ?_)
        go_roundw
        case rel => exact ⟨k + 1, a', n', c', by rw [HUE.out]; go_num, rfl, by go_num, by omega, HO, HB9⟩
        case measure => simp [intOf]; omega
      · have OK1 : Hid (Wv.Ov (Value.int .i64) 3 w8.heap.size wr (.slice la ln lc) (Wj.shr T (k + 1))) := Wc.hid (by rw [HSN.out hs2]; exact OK.out)
        by_cases hk2 : 2 ≤ k
        · have hy1 : ¬ 1 < y := fun h => hs2 ⟨hk2, h⟩
          by_cases hy0 : 0 < y
          · obtain rfl : y = 1 := by omega
            have HUE : Hid (Wj.usedN T (k + 1) = z + 1) := Wc.hid (by rw [HU.out, if_pos hy0])
            clear hs2
            go_wp2_with fail
            go_roundw
            case rel => exact ⟨k + 1, la, ln, lc, by rw [HUE.out]; go_num, rfl, by go_num, by omega, OK1, BK⟩
            case measure => simp [intOf]; omega
          · obtain rfl : y = 0 := by omega
            have HUE : Hid (Wj.usedN T (k + 1) = z) := Wc.hid (by rw [HU.out, if_neg hy0]; rfl)
            clear hs2
            go_wp2_with fail
            go_roundw
            case rel => exact ⟨k + 1, la, ln, lc, by rw [HUE.out], rfl, by go_num, by omega, OK1, BK⟩
            case measure => simp [intOf]; omega
        · by_cases hy0 : 0 < y
          · have HUE : Hid (Wj.usedN T (k + 1) = z + 1) := Wc.hid (by rw [HU.out, if_pos hy0])
            clear hs2
            go_wp2_with fail
            go_roundw
            case rel => exact ⟨k + 1, la, ln, lc, by rw [HUE.out]; go_num, rfl, by go_num, by omega, OK1, BK⟩
            case measure => simp [intOf]; omega
          · obtain rfl : y = 0 := by omega
            have HUE : Hid (Wj.usedN T (k + 1) = z) := Wc.hid (by rw [HU.out, if_neg hy0]; rfl)
            clear hs2
            go_wp2_with fail
            go_roundw
            case rel => exact ⟨k + 1, la, ln, lc, by rw [HUE.out], rfl, by go_num, by omega, OK1, BK⟩
            case measure => simp [intOf]; omega
    · obtain rfl : k = m := by omega
      have L9 := Wc.hid (row_keep C8.out BK.out)
      have D9 := Wc.hid (row_keep D8.out BK.out)
      have S9 := Wc.hid (S8.out.keep BK.out)
      have H9 : Hid (Wd.In wr (.slice la ln lc) (Wj.shr T k)) := Wc.hid OK.out.rv
      have B9 := Wc.hid (Wc.step B8.out (Nat.le_refl _) BK.out)
      obtain ⟨z, hz⟩ : ∃ z, Wj.usedN T k = z := ⟨_, rfl⟩
      rw [hz]
      clear hz
      go_wp2_with fail
      refine (ints_any _ _ _ _ _ (cn_in L9.out (by omega)) (cn_in D9.out (by omega))).mono ?_
      rintro e w10 ⟨rfl, hb10⟩
      rw [beq_self_eq_true]
      have S10 := Wc.hid (S9.out.keep hb10)
      have H10 := Wc.hid (H9.out.keep hb10)
      have B10 := Wc.hid (Wc.step B9.out (Nat.le_refl _) hb10)
      clear hb10
      go_wp2_with fail
      refine (ints_any _ _ _ _ _ S10.out H10.out).mono ?_
      rintro e w11 ⟨rfl, hb11⟩
      rw [beq_self_eq_true]
      have B11 := Wc.hid (Wc.step B10.out (Nat.le_refl _) hb11)
      clear hb11
      go_wp2_with fail
      refine (wakes_any _).mono ?_
      rintro e w12 ⟨rfl, hb12⟩
      have B12 := Wc.hid (Wc.step B11.out (Nat.le_refl _) hb12)
      clear hb12
      go_wp2_with fail
      go_ret
      exact ⟨rfl, B12.out⟩
end Go.Proofs.Ytfdgeobopegeeaa
