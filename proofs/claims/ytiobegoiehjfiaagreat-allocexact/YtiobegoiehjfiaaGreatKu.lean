/-
  What the page's Counts tells of an open image.
-/
import Derived.Test.YtiobegoiehjfiaaGreatKs
import Derived.Test.YtiobegoiehjfiaaGreatKr
import Derived.Test.YtiobegoiehjfiaaGreatKw
namespace Wj
theorem ded_len (l : List Int) : (ded l).length ≤ l.length := by
  refine snoc_ind (P := fun l => (ded l).length ≤ l.length) (by simp [ded_nil]) (fun l b ih => ?_) l
  rw [ded_snoc, List.length_append]
  split <;> simp <;> omega
theorem ptrK_len (n : Wn.Nod) : ∀ k, (ptrK n k).length ≤ k
  | 0 => Nat.le_refl _
  | k + 1 => by
    have := ptrK_len n k
    show (ptrK n k ++ _).length ≤ _
    rw [List.length_append]
    split <;> simp <;> omega
end Wj
namespace Go.Proofs.YtiobegoiehjfiaaGreat
open Go.RowKit

theorem cn_led' {w : World} {g m : Nat} {T : List Int} {p : Nat} (h : Wj.Cn w g m T) (hp : ¬ (p : Int) = 0) (v : Value) (hv : v = .int .i64 (((T.count (p : Int) : Nat) : Int) + 1)) : Wj.Cn (w.setCell ⟨g, p, none⟩ v) g m (Wj.led T p) := by
  rw [Wj.led_yes hp]
  exact cn_snoc h v hv

theorem treN_len {xs : List Int} (H : Img xs) {t : Int × Int} (ht : t ∈ Wi.trees (opnS xs) (opnL xs)) : (Wt.treN xs t.1).length ≤ 73 := by
  rcases (H.tree ht).2 with h | ⟨u, hm, -, hn, -⟩
  · rw [h.2.1]; simp
  · have := Wt.met_room xs 3 t.1 0 Wt.s0 u hm
    rw [Wi.s0_nodes, show Wt.room 3 = 73 by decide] at this
    rw [← hn]; simpa using this
theorem allN_len {xs : List Int} (H : Img xs) : ∀ L : List (Int × Int), (∀ t ∈ L, t ∈ Wi.trees (opnS xs) (opnL xs)) → (Wi.allN xs L).length ≤ 73 * L.length
  | [], _ => by simp [Wi.allN]
  | t :: L, h => by
    have h1 := allN_len H L (fun x hx => h x (by simp [hx]))
    have h2 := treN_len H (h t (by simp))
    have e : Wi.allN xs (t :: L) = Wt.treN xs t.1 ++ Wi.allN xs L := by simp [Wi.allN]
    rw [e, List.length_append, List.length_cons]
    omega
/-- A node's pointers lie on the device. -/
theorem isN_kids {xs : List Int} (H : Img xs) {p : Int} (hp : isN xs p) : ∀ k, k < 8 → 0 ≤ Wn.pat (Wt.nd xs p) k ∧ Wn.pat (Wt.nd xs p) k < ((xs.length / 64 : Nat) : Int) := by
  intro k hk
  have hd := Wd.devB_iff.1 H.dev
  by_cases h0 : Wn.pat (Wt.nd xs p) k = 0
  · omega
  · obtain ⟨t, ht, hpt⟩ := List.mem_flatMap.1 hp
    rcases (H.tree ht).2 with h | ⟨u, hm, hr, hn, hd2⟩
    · rw [h.2.1] at hpt; cases hpt
    · rcases (Wj.met_kids 3 t.1 0 Wt.s0 u hm).2 p (by rw [hn]; exact hpt) with h | h
      · exact absurd h (s0_n _)
      · rcases h k hk h0 with h | h
        · have := Wi.treN_bounds xs t.1 _ (by rw [← hn]; exact h)
          omega
        · have h3 := (Wi.secs_mem.1 ((hd2 _).1 h)).1
          have := Wi.treS_bounds xs t.1 _ (List.mem_of_mem_take h3)
          omega

set_option maxRecDepth 100000 in
set_option maxHeartbeats 12800000 in
theorem refCounts_any (ai : Option Addr) (ni ci : Nat) (xs : List Int) (w : World) (hv : Wc.Bs w (.slice ai ni ci) xs) (h0 : opnE xs = 0) (a a' m' n' : Option Addr) (n c nb cb nm cm nn cn base : Nat)
   (hR : Wi.Rs w (.slice a n c) (opnL xs)) (hB : Nt w (.slice a' nb cb) (opnB xs)) (hN : Ol base w (.slice n' nn cn) ((Wi.trees (opnS xs) (opnL xs)).map fun t => Wt.treN xs t.1)) :
    Calls Tryz.prog 13 #[.slice ai ni ci, imv (opnS xs) (opnT xs) (.slice a n c) (.slice a' nb cb) (.slice m' nm cm) (.slice n' nn cn)] w fun e w' => ∃ g, e = .returned (.slice (some ⟨g, 0, none⟩) (xs.length / 64) (xs.length / 64)) ∧ Wj.Cn w' g (xs.length / 64) (rAll xs) ∧ Below w.heap.size w w' := by
  have hI := img_of h0
  have HI := Wc.hid hI
  have hxl := Wc.bs_len hv
  have hd := Wd.devB_iff.1 hI.dev
  obtain ⟨m, hm⟩ : ∃ m, xs.length / 64 = m := ⟨_, rfl⟩
  have hm4 : 4 ≤ m ∧ m ≤ 4096 := by omega
  have hni : ni ≤ 140737488355328 := by omega
  have hnm : ni / 64 = m := by rw [← hxl]; exact hm
  have HD0 : Hid (Wd.devB ni = true) := Wc.hid (by rw [← hxl]; exact hI.dev)
  have HXL := Wc.hid hxl
  have HM := Wc.hid hm
  have HV := Wc.hid hv
  have HNM := Wc.hid hnm
  have LN : Hid ((opnL xs).length = n) := Wc.hid (Wi.rs_len hR)
  have hbl : (opnB xs).length = n := by
    have := LN.out
    unfold opnL at this
    rw [List.length_map] at this
    exact this
  have BN := Wc.hid hbl
  have hln61 : n ≤ 61 := by rw [← hbl]; exact hI.len
  have hroot : Hid (∀ t ∈ Wi.trees (opnS xs) (opnL xs), ∃ q : Nat, t.1 = (q : Int) ∧ q < m) := Wc.hid fun t ht => by
    rcases HI.out.wf ht with h | h
    · exact ⟨0, h, by omega⟩
    · have := h.2.2
      have := HM.out
      exact ⟨t.1.toNat, by omega, by omega⟩
  obtain ⟨s, hs⟩ : ∃ s, opnS xs = s := ⟨_, rfl⟩
  obtain ⟨t, ht⟩ : ∃ t, opnT xs = t := ⟨_, rfl⟩
  have HS := Wc.hid hs
  rw [hs] at hroot hN
  rw [hs, ht]
  obtain ⟨rt, hrt, hrm⟩ := hroot.out (s.root, s.size) (by unfold Wi.trees; simp)
  simp only at hrt
  have HRT := Wc.hid hrt
  have HRR : Hid (∀ r ∈ opnL xs, ∃ q : Nat, r.root = (q : Int) ∧ q < m) := Wc.hid fun r hr => hroot.out (r.root, r.size) (by unfold Wi.trees; exact List.mem_cons_of_mem _ (List.mem_map.2 ⟨r, hr, rfl⟩))
  rw [hm]
  obtain ⟨gen, blocks, root, size, first⟩ := s
  simp only at hrt
  subst hrt
  unfold imv
  have bA : Below w.heap.size w (w.alloc (.cells #[.int .i64 gen, .int .i64 blocks, .int .i64 (rt : Int), .int .i64 size, .int .i64 first, .int .i64 t, .slice a n c, .slice a' nb cb, .slice m' nm cm, .slice n' nn cn] 41)) := (Below.refl _ _).alloc (Nat.le_refl _) _
  have I1 := Ih.new w ⟨gen, blocks, rt, size, first⟩ t (.slice a n c) (.slice a' nb cb) (.slice m' nm cm) (.slice n' nn cn)
  have ⟨p0, p1, p2, p3, p4, p5, p6, p7, p8, p9⟩ := I1.ic
  have IR := Wc.hid (hR.keep bA)
  have IB := Wc.hid (hB.keep bA)
  have IN := Wc.hid (hN.keep bA)
  have IV := Wc.hid (hv.keep bA)
  have BA := Wc.hid bA
  have HP := Wc.hid I1
  clear hv hI hd hm hnm h0 hR hB hN hs ht hroot hbl bA I1 hxl
  simp only at p0 p1 p2 p3 p4
  go_enter Tryz.func13, Tryz.ntmps13
  go_wp2_with fail
  obtain ⟨A, hA⟩ : ∃ A, w.alloc (.cells #[.int .i64 gen, .int .i64 blocks, .int .i64 (rt : Int), .int .i64 size, .int .i64 first, .int .i64 t, .slice a n c, .slice a' nb cb, .slice m' nm cm, .slice n' nn cn] 41) = A := ⟨_, rfl⟩
  have HP' : Hid (Ih A w.heap.size ⟨gen, blocks, rt, size, first⟩ t (.slice a n c) (.slice a' nb cb) (.slice m' nm cm) (.slice n' nn cn)) := Wc.hid (by rw [← hA]; exact HP.out)
  rw [hA] at IR IB IN IV BA p0 p1 p2 p3 p4 p5 p6 p7 p8 p9 ⊢
  clear HP hA
  refine (blocks_any ai ni ci _ hni).mono ?_
  rintro e w1 ⟨rfl, rfl⟩
  rw [HNM.out, HD0.out]
  have hmk := run_make_row' (P := Tryz.prog) 22 3 (.int .i64 0) 8 Tryz.underlying22 Tryz.infoI rfl .i64 .i64 m (by omega) (by omega) A
  have hmkb := run_make_row' (P := Tryz.prog) 66 4 (.bool false) 1 Tryz.underlying66 Tryz.infoB rfl .i64 .i64 m (by omega) (by omega)
  go_upto_region 3 with fail
  have C1 := cn_made A m
  have B1 := (Below.refl A.heap.size A).alloc (Nat.le_refl _) (.cells (madeCells #[Value.int .i64 0] m) 3)
  obtain ⟨W1, hW1⟩ : ∃ W, A.alloc (.cells (madeCells #[Value.int .i64 0] m) 3) = W := ⟨_, rfl⟩
  obtain ⟨g, hg⟩ : ∃ g, A.heap.size = g := ⟨_, rfl⟩
  rw [hW1] at C1 B1 ⊢
  rw [hg] at C1 ⊢
  have HG := Wc.hid hg
  clear hW1 hg hmk p0 p1 p2 p3 p4 p5 p6 p7 p8 p9
  have q1 := World.rowIs.cell C1 (show 0 < m by omega)
  have q2 := World.rowIs.frozen C1 0
  have C2 := cn_snoc (p := 0) C1 (.int .i64 1) rfl
  have q3 := World.rowIs.cell C2 (show 1 < m by omega)
  have q4 := World.rowIs.frozen C2 1
  have C3 := Wc.hid (cn_snoc (p := 1) C2 (.int .i64 1) rfl)
  have B3 := Wc.hid ((B1.setCell (p := ⟨g, 0, none⟩) (by rw [HG.out]; exact Nat.le_refl _) (.int .i64 1)).setCell (p := ⟨g, 1, none⟩) (by rw [HG.out]; exact Nat.le_refl _) (.int .i64 1))
  clear C1 C2 B1
  go_upto_region 5 with fail
  clear q1 q2 q3 q4 hmkb
  obtain ⟨W2, hW2⟩ : ∃ W, (W1.setCell ⟨g, 0, none⟩ (.int .i64 1)).setCell ⟨g, 1, none⟩ (.int .i64 1) = W := ⟨_, rfl⟩
  have hsz : W2.heap.size = W1.heap.size := by rw [← hW2]; simp [World.setCell]
  rw [hW2] at C3 B3 ⊢
  obtain ⟨g2, hg2⟩ : ∃ g2, W1.heap.size = g2 := ⟨_, rfl⟩
  have M4 := Wc.hid (Marks.new W2 m)
  have C4 := Wc.hid (row_keep C3.out ((Below.refl W2.heap.size W2).alloc (Nat.le_refl _) (.cells (madeCells #[Value.bool false] m) 4)))
  have B4 := Wc.hid (B3.out.alloc B3.out.size (.cells (madeCells #[Value.bool false] m) 4))
  have HGG : Hid (g < g2) := Wc.hid (by have := World.rowIs.lt C3.out; omega)
  rw [hsz, hg2] at M4
  rw [hg2]
  obtain ⟨W4, hW4⟩ : ∃ W, W2.alloc (.cells (madeCells #[Value.bool false] m) 4) = W := ⟨_, rfl⟩
  rw [hW4] at M4 C4 B4 ⊢
  clear hW2 hsz hg2 hW4 C3 B3
  have HGA : Hid (A.heap.size ≤ g ∧ A.heap.size ≤ g2) := Wc.hid (by have := HG.out; have := HGG.out; omega)
  have LD : Hid (([] : List Int) ++ [((0 : Nat) : Int)] ++ [((1 : Nat) : Int)] = [0, 1]) := Wc.hid rfl
  rw [LD.out] at C4
  have ⟨p0, p1, p2, p3, p4, p5, p6, p7, p8, p9⟩ := (HP'.out.keep B4.out).ic
  simp only at p0 p1 p2 p3 p4
  by_cases hr0 : rt = 0
  · subst hr0
    have C5 : Hid (Wj.Cn W4 g m (Wj.bse ⟨gen, blocks, ((0 : Nat) : Int), size, first⟩ (opnL xs) (opnB xs) 0)) := C4
    have M5 := M4
    have B5 := B4
    go_wp2_with fail
    rw [show ((0 : Nat) : Int) = (0 : Int) from rfl]
    clear p0 p1 p2 p3 p4 p5 p6 p7 p8 p9 C4 M4 B4
    have LNN := LN.out
    have hSup := HS.out
    obtain ⟨TR, hTR⟩ : ∃ TR, Wi.trees ⟨gen, blocks, ((0 : Nat) : Int), size, first⟩ (opnL xs) = TR := ⟨_, rfl⟩
    have HTL : Hid (TR.length = n + 1) := Wc.hid (by rw [← hTR]; unfold Wi.trees; simp [LNN])
    have HTX : Hid (Wi.trees (opnS xs) (opnL xs) = TR) := Wc.hid (by rw [hSup]; exact hTR)
    obtain ⟨Tb, hTb⟩ : ∃ Tb, Wj.bse ⟨gen, blocks, ((0 : Nat) : Int), size, first⟩ (opnL xs) (opnB xs) n = Tb := ⟨_, rfl⟩
    have HTb := Wc.hid hTb
    have HTbl : Hid (Tb.length ≤ 200) := Wc.hid (by have := Wj.bse_len ⟨gen, blocks, ((0 : Nat) : Int), size, first⟩ (opnL xs) (opnB xs) n; rw [hTb] at this; omega)
    have INN := IN.out
    rw [hTR] at INN
    have HIN := Wc.hid INN
    obtain ⟨_, _, enn⟩ := INN.slice
    have hnn : nn = n + 1 := by
      injection enn with e1 e2 e3
      rw [e2, List.length_map, HTL.out]
    clear INN enn hTR hTb LNN hSup
    have HNN := Wc.hid hnn
    clear hnn
    go_loopw [9] (fun i wr => ∃ j : Nat, i = .int .i64 j ∧ j ≤ n ∧ Hid (Wj.Cn wr g m (Wj.bse ⟨gen, blocks, ((0 : Nat) : Int), size, first⟩ (opnL xs) (opnB xs) j)) ∧ Hid (Marks wr g2 m []) ∧ Hid (Below A.heap.size A wr)) (fun i _ => n - (intOf i).toNat)
    case atStart => exact ⟨0, rfl, by omega, C5, M5, B5⟩
    case round =>
      clear C5 M5 B5
      obtain ⟨j, rfl, hj, CJ, MJ, BJ⟩ := hrel
      have ⟨p0, p1, p2, p3, p4, p5, p6, p7, p8, p9⟩ := (HP'.out.keep BJ.out).ic
      clear p0 p1 p2 p3 p4 p5
      by_cases hlt : j < n
      · obtain ⟨_, _, _, e1, -, -, -, -, hpos⟩ := IB.out.1
        cases e1
        obtain ⟨pb, poff, rfl, hplt, hpcs⟩ := hpos (by have := BN.out; have := Wv.rv_len IB.out.1; omega)
        have hjb : j < (opnB xs).length := by rw [BN.out]; exact hlt
        have hbq := HI.out.inb _ (mem_getD hjb)
        have hpc := (BJ.out.cell (p := ⟨pb, poff + j, none⟩) hplt).trans (hpcs j (by have := Wv.rv_len IB.out.1; omega))
        obtain ⟨bq, hbqe⟩ : ∃ bq : Nat, (opnB xs).getD j 0 = (bq : Int) := ⟨((opnB xs).getD j 0).toNat, by omega⟩
        rw [hbqe] at hbq hpc
        have hbm : bq < m := by have := HM.out; omega
        have hnb2 : j < nb := by have := Wv.rv_len IB.out.1; omega
        obtain ⟨_, _, _, e1, hll, -, -, -, hrpos⟩ := IR.out
        cases e1
        obtain ⟨rb, roff, rfl, hrlt, hrcs⟩ := hrpos (by omega)
        have hjl : j < (opnL xs).length := by rw [LN.out]; exact hlt
        have hmem : (opnL xs).getD j Wr.r0 ∈ opnL xs := by
          rw [List.getD_eq_getElem?_getD, List.getElem?_eq_getElem hjl]; exact List.getElem_mem hjl
        obtain ⟨ro, hro, hrom⟩ := HRR.out _ hmem
        have m1 := World.rowIs.cell CJ.out hbm
        have m2 := World.rowIs.frozen CJ.out bq
        obtain ⟨TJ, hTJ⟩ : ∃ TJ, Wj.bse ⟨gen, blocks, ((0 : Nat) : Int), size, first⟩ (opnL xs) (opnB xs) j = TJ := ⟨_, rfl⟩
        have hTJl : TJ.length ≤ 200 := by have := Wj.bse_len ⟨gen, blocks, ((0 : Nat) : Int), size, first⟩ (opnL xs) (opnB xs) j; rw [hTJ] at this; omega
        rw [hTJ] at CJ m1
        obtain ⟨cc, hcc⟩ : ∃ cc, List.count (bq : Int) TJ = cc := ⟨_, rfl⟩
        have hccl : cc ≤ 200 := by rw [← hcc]; exact Nat.le_trans List.count_le_length hTJl
        have CK := Wc.hid (cn_snoc (p := bq) CJ.out (.int .i64 ((cc : Int) + 1)) (by rw [hcc]))
        have MK := Wc.hid (show Marks (wr.setCell ⟨g, bq, none⟩ (.int .i64 ((cc : Int) + 1))) g2 m [] from World.rowIs.setOther (a := ⟨g, bq, none⟩) MJ.out (by have := HGG.out; simp; omega) _)
        have BK := Wc.hid (BJ.out.setCell (p := ⟨g, bq, none⟩) HGA.out.1 (.int .i64 ((cc : Int) + 1)))
        have hx := (hrcs j hlt).keep BK.out
        have hbs : Wj.bse ⟨gen, blocks, ((0 : Nat) : Int), size, first⟩ (opnL xs) (opnB xs) (j + 1) = Wj.led (TJ ++ [(bq : Int)]) (ro : Int) := by
          show Wj.led (Wj.bse _ _ _ j ++ [(opnB xs).getD j 0]) ((opnL xs).getD j Wr.r0).root = _
          rw [hTJ, hbqe, hro]
        obtain ⟨x, hxe⟩ : ∃ x, (opnL xs).getD j Wr.r0 = x := ⟨_, rfl⟩
        rw [hxe] at hx hro
        obtain ⟨x0, x1, x2, x3, x4, x5, x6, x7⟩ := x
        simp only at hro
        subst hro
        have ⟨d0, d1, d2, d3, d4, d5, d6, d7⟩ := hx
        simp only at d0 d1 d2 d3 d4 d5 d6 d7
        have HBS := Wc.hid hbs
        have ⟨y0, y1, y2, y3, y4, y5, y6, y7, y8, y9⟩ := (HP'.out.keep BK.out).ic
        rw [hcc] at m1
        clear y0 y1 y2 y3 y4 y5 y7 y8 y9 p8 p9 d0 d1 d2 d4 d5 d6 d7 hx hbs hrcs hrpos hpos hpcs hbqe hbq hjb hjl hmem hTJ hcc hxe hll
        by_cases hz : ro = 0
        · subst hz
          have CL : Hid (Wj.Cn (wr.setCell ⟨g, bq, none⟩ (.int .i64 ((cc : Int) + 1))) g m (Wj.bse ⟨gen, blocks, ((0 : Nat) : Int), size, first⟩ (opnL xs) (opnB xs) (j + 1))) := Wc.hid (by rw [HBS.out]; show Wj.Cn _ g m (Wj.led _ 0); rw [Wj.led_zero]; exact CK.out)
          go_wp2_with fail
          go_roundw
          case rel => exact ⟨j + 1, by go_num, by omega, CL, MK, BK⟩
          case measure => simp [intOf]; omega
        · have hz' : ¬ (ro : Int) = 0 := by omega
          have n1 := World.rowIs.cell CK.out hrom
          have n2 := World.rowIs.frozen CK.out ro
          obtain ⟨c2, hc2⟩ : ∃ c2, List.count (ro : Int) (TJ ++ [(bq : Int)]) = c2 := ⟨_, rfl⟩
          have hc2l : c2 ≤ 300 := by rw [← hc2]; refine Nat.le_trans List.count_le_length ?_; simp; omega
          have CL : Hid (Wj.Cn ((wr.setCell ⟨g, bq, none⟩ (.int .i64 ((cc : Int) + 1))).setCell ⟨g, ro, none⟩ (.int .i64 ((c2 : Int) + 1))) g m (Wj.bse ⟨gen, blocks, ((0 : Nat) : Int), size, first⟩ (opnL xs) (opnB xs) (j + 1))) := Wc.hid (by rw [HBS.out]; exact cn_led' CK.out hz' _ (by rw [hc2]))
          have ML := Wc.hid (show Marks ((wr.setCell ⟨g, bq, none⟩ (.int .i64 ((cc : Int) + 1))).setCell ⟨g, ro, none⟩ (.int .i64 ((c2 : Int) + 1))) g2 m [] from World.rowIs.setOther (a := ⟨g, ro, none⟩) MK.out (by have := HGG.out; simp; omega) _)
          have BL := Wc.hid (BK.out.setCell (p := ⟨g, ro, none⟩) HGA.out.1 (.int .i64 ((c2 : Int) + 1)))
          rw [hc2] at n1
          clear hc2
          go_wp2_with fail
          go_roundw
          case rel => exact ⟨j + 1, by go_num, by omega, CL, ML, BL⟩
          case measure => simp [intOf]; omega
      · obtain rfl : n = j := by omega
        have CB : Hid (Wj.Cn wr g m (Tb ++ Wj.nps xs (Wj.ded (Wi.allN xs (TR.take 0))))) := Wc.hid (by
          rw [List.take_zero]
          show Wj.Cn wr g m (Tb ++ [])
          rw [List.append_nil, ← HTb.out]; exact CJ.out)
        have MB : Hid (Marks wr g2 m (Wj.ded (Wi.allN xs (TR.take 0)))) := Wc.hid (by rw [List.take_zero]; exact MJ.out)
        clear CJ MJ p8
        go_wp2_with fail
        go_loopw [11] (fun i wr => ∃ j : Nat, i = .int .i64 j ∧ j ≤ n + 1 ∧ Hid (Wj.Cn wr g m (Tb ++ Wj.nps xs (Wj.ded (Wi.allN xs (TR.take j))))) ∧ Hid (Marks wr g2 m (Wj.ded (Wi.allN xs (TR.take j)))) ∧ Hid (Below A.heap.size A wr)) (fun i _ => n + 1 - (intOf i).toNat)
        case atStart => exact ⟨0, rfl, by omega, CB, MB, BJ⟩
        case round =>
          clear CB MB BJ
          obtain ⟨j, rfl, hj, CJ, MJ, BJ⟩ := hrel
          have ⟨p0, p1, p2, p3, p4, p5, p6, p7, p8, p9⟩ := (HP'.out.keep BJ.out).ic
          clear p0 p1 p2 p3 p4 p5 p6 p7 p8
          by_cases hlt : j < n + 1
          · have hnn1 : j < nn := by rw [HNN.out]; exact hlt
            have hTlt : j < TR.length := by rw [HTL.out]; exact hlt
            obtain ⟨tk, htk⟩ : ∃ tk, TR.getD j (0, 0) = tk := ⟨_, rfl⟩
            have htm : tk ∈ TR := by
              rw [← htk, List.getD_eq_getElem?_getD, List.getElem?_eq_getElem hTlt]; exact List.getElem_mem hTlt
            have HTM : Hid (tk ∈ Wi.trees (opnS xs) (opnL xs)) := Wc.hid (by rw [HTX.out]; exact htm)
            have hts : TR.take (j + 1) = TR.take j ++ [tk] := by rw [Wi.take_getD _ (0, 0) hTlt, htk]
            obtain ⟨gN, cN, eN, -, hgN, an, kn, cn2, hcN, hNN⟩ := HIN.out.at (i := j) (by rw [List.length_map]; exact hTlt)
            have e1 : (TR.map fun t => Wt.treN xs t.1).getD j [] = Wt.treN xs tk.1 := by rw [← htk]; simp [hTlt]
            rw [e1] at hNN
            injection eN with a1 a2 a3
            subst a1 a3
            clear a2
            have hc9 := (BJ.out.cell (p := ⟨gN, j, none⟩) hgN).trans hcN
            have HCN := Wc.hid hcN
            have HGN := Wc.hid hgN
            have HNL := Wc.hid hNN
            obtain ⟨P0, hP0⟩ : ∃ P0, Wi.allN xs (TR.take j) = P0 := ⟨_, rfl⟩
            have HP0 : Hid (Wi.allN xs (TR.take (j + 1)) = P0 ++ Wt.treN xs tk.1) := Wc.hid (by rw [hts, Wi.allN_snoc, hP0])
            have hP0l : P0.length ≤ 73 * 62 := by
              have h1 := allN_len HI.out (TR.take j) (fun t ht => by rw [HTX.out]; exact List.mem_of_mem_take ht)
              have h2 : (TR.take j).length ≤ 62 := by rw [List.length_take, HTL.out]; omega
              rw [hP0] at h1
              exact Nat.le_trans h1 (Nat.mul_le_mul_left 73 h2)
            have hkl : (Wt.treN xs tk.1).length = kn := Wv.rv_len hNN.1
            have hk73 : kn ≤ 73 := by rw [← hkl]; exact treN_len HI.out HTM.out
            have HKL := Wc.hid hkl
            rw [hP0] at CJ MJ
            clear htk htm hts hcN hgN hNN e1 hP0 hkl hTlt
            have CJ0 : Hid (Wj.Cn wr g m (Tb ++ Wj.nps xs (Wj.ded (P0 ++ (Wt.treN xs tk.1).take 0)))) := Wc.hid (by rw [List.take_zero, List.append_nil]; exact CJ.out)
            have MJ0 : Hid (Marks wr g2 m (Wj.ded (P0 ++ (Wt.treN xs tk.1).take 0))) := Wc.hid (by rw [List.take_zero, List.append_nil]; exact MJ.out)
            clear CJ MJ
            go_wp2_with fail
            clear p9 hc9
            go_loopw [12] (fun i wr => ∃ k : Nat, i = .int .i64 k ∧ k ≤ kn ∧ Hid (Wj.Cn wr g m (Tb ++ Wj.nps xs (Wj.ded (P0 ++ (Wt.treN xs tk.1).take k)))) ∧ Hid (Marks wr g2 m (Wj.ded (P0 ++ (Wt.treN xs tk.1).take k))) ∧ Hid (Below A.heap.size A wr)) (fun i _ => kn - (intOf i).toNat)
            case atStart => exact ⟨0, rfl, by omega, CJ0, MJ0, BJ⟩
            case round =>
              clear CJ0 MJ0 BJ
              obtain ⟨k, rfl, hk, CK, MK, BK⟩ := hrel
              have ⟨p0, p1, p2, p3, p4, p5, p6, p7, p8, p9⟩ := (HP'.out.keep BK.out).ic
              have hc9 := (BK.out.cell (p := ⟨gN, j, none⟩) HGN.out).trans HCN.out
              clear p0 p1 p2 p3 p4 p5 p6 p7 p8
              by_cases hltk : k < kn
              · obtain ⟨_, _, _, h1, -, -, -, -, hpos⟩ := HNL.out.1
                cases h1
                obtain ⟨gk, off, rfl, hblt, hcs⟩ := hpos (by omega)
                have hx := (BK.out.cell (p := ⟨gk, off + k, none⟩) hblt).trans (hcs k hltk)
                have hkL : k < (Wt.treN xs tk.1).length := by rw [HKL.out]; exact hltk
                have hqm := mem_getD hkL
                have hqb := Wi.treN_bounds xs tk.1 _ hqm
                have hqN : isN xs ((Wt.treN xs tk.1).getD k 0) := List.mem_flatMap.2 ⟨tk, HTM.out, hqm⟩
                have htks := take_snoc (Wt.treN xs tk.1) k hkL
                obtain ⟨q, hqe⟩ : ∃ q : Nat, (Wt.treN xs tk.1).getD k 0 = (q : Int) := ⟨((Wt.treN xs tk.1).getD k 0).toNat, by omega⟩
                rw [hqe] at hx hqb hqN htks
                have hqlt : q < m := by have := HM.out; omega
                obtain ⟨PK, hPK⟩ : ∃ PK, P0 ++ (Wt.treN xs tk.1).take k = PK := ⟨_, rfl⟩
                have HPK : Hid (P0 ++ (Wt.treN xs tk.1).take (k + 1) = PK ++ [(q : Int)]) := Wc.hid (by rw [htks, ← List.append_assoc, hPK])
                have hPKl : PK.length ≤ 5000 := by rw [← hPK, List.length_append, List.length_take]; omega
                rw [hPK] at CK MK
                have m1 := World.rowIs.cell MK.out hqlt
                have m2 := World.rowIs.frozen MK.out q
                have HQN := Wc.hid hqN
                clear hpos hcs hkL hqm hqb hqN htks hqe hPK
                by_cases hin : (q : Int) ∈ Wj.ded PK
                · rw [decide_eq_true hin] at m1
                  have CK1 : Hid (Wj.Cn wr g m (Tb ++ Wj.nps xs (Wj.ded (P0 ++ (Wt.treN xs tk.1).take (k + 1))))) := Wc.hid (by rw [HPK.out, Wj.ded_old hin]; exact CK.out)
                  have MK1 : Hid (Marks wr g2 m (Wj.ded (P0 ++ (Wt.treN xs tk.1).take (k + 1)))) := Wc.hid (by rw [HPK.out, Wj.ded_old hin]; exact MK.out)
                  clear hin
                  go_wp2_with fail
                  go_roundw
                  case rel => exact ⟨k + 1, by go_num, by omega, CK1, MK1, BK⟩
                  case measure => simp [intOf]; omega
                · rw [decide_eq_false hin] at m1
                  have HDN : Hid (Wj.ded (PK ++ [(q : Int)]) = Wj.ded PK ++ [(q : Int)]) := Wc.hid (Wj.ded_new hin)
                  obtain ⟨M0, hM0⟩ : ∃ M0, Wj.ded PK = M0 := ⟨_, rfl⟩
                  have hM0l : M0.length ≤ 5000 := by rw [← hM0]; exact Nat.le_trans (Wj.ded_len PK) hPKl
                  rw [hM0] at CK MK HDN
                  have MK1 := Wc.hid (MK.out.set q)
                  have CK1 := Wc.hid (show Wj.Cn (wr.setCell ⟨g2, q, none⟩ (.bool true)) g m (Tb ++ Wj.nps xs M0) from World.rowIs.setOther (a := ⟨g2, q, none⟩) CK.out (by have := HGG.out; simp; omega) _)
                  have BK1 := Wc.hid (BK.out.setCell (p := ⟨g2, q, none⟩) HGA.out.2 (.bool true))
                  have hq64 : q * 64 + 64 ≤ ni := by
                    have h1 := Wd.devB_iff.1 HI.out.dev
                    have h2 := HM.out
                    have h3 := HXL.out
                    omega
                  have hrdq : Wd.rdR xs (q : Int) = (xs.drop (q * 64)).take 64 := Wt.rd_at HI.out.dev q (by rw [HM.out]; exact hqlt)
                  have HRD := Wc.hid hrdq
                  have HTl : Hid ((Tb ++ Wj.nps xs M0).length ≤ 41000) := Wc.hid (by
                    have h1 := Wj.nps_len xs M0
                    have h2 := HTbl.out
                    rw [List.length_append]; omega)
                  clear hin hM0 hrdq
                  go_wp2_with fail
                  refine (block_any ai ni ci q xs _ (IV.out.keep BK1.out) hq64).mono ?_
                  rintro e w7 ⟨ax, cx, rfl, hbs, rfl⟩
                  rw [← HRD.out] at hbs
                  have HBS := Wc.hid hbs
                  clear hbs
                  go_wp2_with fail
                  refine (refParse7_any _ _ _ HBS.out).mono ?_
                  rintro e w8 ⟨rfl, hb8⟩
                  obtain ⟨nod, hnod⟩ : ∃ nod, Wn.par (Wd.rdR xs (q : Int)) = nod := ⟨_, rfl⟩
                  rw [hnod]
                  have HND : Hid (Wt.nd xs (q : Int) = nod) := Wc.hid hnod
                  have bY := (Below.refl w8.heap.size w8).alloc (Nat.le_refl _) (.cells #[.int .i64 nod.level, .int .i64 nod.p0, .int .i64 nod.p1, .int .i64 nod.p2, .int .i64 nod.p3, .int .i64 nod.p4, .int .i64 nod.p5, .int .i64 nod.p6, .int .i64 nod.p7] 69)
                  have CY := Wc.hid (row_keep (row_keep CK1.out hb8) bY)
                  have MY := Wc.hid ((MK1.out.keep hb8).keep bY)
                  have BY := Wc.hid (BK1.out.trans ((Wc.step hb8 (Nat.le_refl _) bY).mono BK1.out.size))
                  have NY := Wc.hid (Nh.new w8 nod)
                  have HGY : Hid (g2 < w8.heap.size) := Wc.hid (Nat.lt_of_lt_of_le (World.rowIs.lt MK1.out) hb8.size)
                  have ⟨f, f0, f1, f2, f3, f4, f5, f6, f7⟩ := NY.out.nc
                  clear hb8 bY hnod
                  unfold nv
                  go_wp2_with fail
                  clear f f0 f1 f2 f3 f4 f5 f6 f7
                  obtain ⟨W8, hW8⟩ : ∃ W, w8.alloc (.cells #[.int .i64 nod.level, .int .i64 nod.p0, .int .i64 nod.p1, .int .i64 nod.p2, .int .i64 nod.p3, .int .i64 nod.p4, .int .i64 nod.p5, .int .i64 nod.p6, .int .i64 nod.p7] 69) = W := ⟨_, rfl⟩
                  obtain ⟨gY, hgY⟩ : ∃ gY, w8.heap.size = gY := ⟨_, rfl⟩
                  rw [hW8, hgY] at NY
                  rw [hW8] at CY MY BY ⊢
                  rw [hgY] at HGY ⊢
                  clear hW8 hgY
                  have HKB := Wc.hid (isN_kids HI.out HQN.out)
                  rw [HND.out, HM.out] at HKB
                  have CY0 : Hid (Wj.Cn W8 g m (Tb ++ Wj.nps xs M0 ++ Wj.ptrK nod 0)) := Wc.hid (by show Wj.Cn _ _ _ (_ ++ []); rw [List.append_nil]; exact CY.out)
                  go_loopw [16] (fun i wr => ∃ z : Nat, i = .int .i64 z ∧ z ≤ 8 ∧ Hid (Wj.Cn wr g m (Tb ++ Wj.nps xs M0 ++ Wj.ptrK nod z)) ∧ Hid (Marks wr g2 m (M0 ++ [(q : Int)])) ∧ Hid (Nh wr gY nod) ∧ Hid (Below A.heap.size A wr)) (fun i _ => 8 - (intOf i).toNat)
                  case atStart => exact ⟨0, rfl, by omega, CY0, MY, NY, BY⟩
                  case round =>
                    clear CY0 CY MY NY BY CK1 MK1 BK1 CK MK BK
                    obtain ⟨z, rfl, hz, CZ, MZ, NZ, BZ⟩ := hrel
                    by_cases hz8 : z < 8
                    · have hpat := NZ.out.pat hz8
                      have hkb := HKB.out z hz8
                      have HPS : Hid (Wj.ptrK nod (z + 1) = Wj.ptrK nod z ++ (if Wn.pat nod z = 0 then [] else [Wn.pat nod z])) := Wc.hid rfl
                      obtain ⟨y, hy⟩ : ∃ y : Nat, Wn.pat nod z = (y : Int) := ⟨(Wn.pat nod z).toNat, by omega⟩
                      rw [hy] at hpat hkb HPS
                      have hym : y < m := by omega
                      clear hkb hy
                      by_cases hy0 : y = 0
                      · subst hy0
                        have CZ1 : Hid (Wj.Cn wr g m (Tb ++ Wj.nps xs M0 ++ Wj.ptrK nod (z + 1))) := Wc.hid (by rw [HPS.out, if_pos (show ((0 : Nat) : Int) = 0 from rfl), List.append_nil]; exact CZ.out)
                        go_wp2_with fail
                        go_roundw
                        case rel => exact ⟨z + 1, by go_num, by omega, CZ1, MZ, NZ, BZ⟩
                        case measure => simp [intOf]; omega
                      · have hyb : ((y : Int) != 0) = true := by rw [bne_iff_ne]; omega
                        have n1 := World.rowIs.cell CZ.out hym
                        have n2 := World.rowIs.frozen CZ.out y
                        obtain ⟨c2, hc2⟩ : ∃ c2, List.count (y : Int) (Tb ++ Wj.nps xs M0 ++ Wj.ptrK nod z) = c2 := ⟨_, rfl⟩
                        have hc2l : c2 ≤ 42000 := by
                          have h1 := HTl.out
                          have h2 := Wj.ptrK_len nod z
                          rw [← hc2]
                          refine Nat.le_trans List.count_le_length ?_
                          rw [List.length_append]; omega
                        have CZ1 : Hid (Wj.Cn (wr.setCell ⟨g, y, none⟩ (.int .i64 ((c2 : Int) + 1))) g m (Tb ++ Wj.nps xs M0 ++ Wj.ptrK nod (z + 1))) := Wc.hid (by
                          rw [HPS.out, if_neg (by omega), ← List.append_assoc]
                          exact cn_snoc CZ.out _ (by rw [hc2]))
                        have MZ1 := Wc.hid (show Marks (wr.setCell ⟨g, y, none⟩ (.int .i64 ((c2 : Int) + 1))) g2 m (M0 ++ [(q : Int)]) from World.rowIs.setOther (a := ⟨g, y, none⟩) MZ.out (by have := HGG.out; simp; omega) _)
                        have NZ1 := Wc.hid (NZ.out.other (show gY ≠ g by have := HGG.out; have := HGY.out; omega) y (.int .i64 ((c2 : Int) + 1)))
                        have BZ1 := Wc.hid (BZ.out.setCell (p := ⟨g, y, none⟩) HGA.out.1 (.int .i64 ((c2 : Int) + 1)))
                        have hpat2 := NZ1.out.pat hz8
                        rw [hc2] at n1
                        clear hc2
                        go_wp2_with fail
                        go_roundw
                        case rel => exact ⟨z + 1, by go_num, by omega, CZ1, MZ1, NZ1, BZ1⟩
                        case measure => simp [intOf]; omega
                    · obtain rfl : z = 8 := by omega
                      have CK2 : Hid (Wj.Cn wr g m (Tb ++ Wj.nps xs (Wj.ded (P0 ++ (Wt.treN xs tk.1).take (k + 1))))) := Wc.hid (by
                        rw [HPK.out, HDN.out, Wj.nps_append, Wj.nps_cons, HND.out, ← List.append_assoc]
                        show Wj.Cn wr g m (Tb ++ Wj.nps xs M0 ++ (Wj.ptrK nod 8 ++ []))
                        rw [List.append_nil]; exact CZ.out)
                      have MK2 : Hid (Marks wr g2 m (Wj.ded (P0 ++ (Wt.treN xs tk.1).take (k + 1)))) := Wc.hid (by rw [HPK.out, HDN.out]; exact MZ.out)
                      go_wp2_with fail
                      go_roundw
                      case rel => exact ⟨k + 1, by go_num, by omega, CK2, MK2, BZ⟩
                      case measure => simp [intOf]; omega
              · obtain rfl : k = kn := by omega
                have CF : Hid (Wj.Cn wr g m (Tb ++ Wj.nps xs (Wj.ded (Wi.allN xs (TR.take (j + 1)))))) := Wc.hid (by
                  have := CK.out
                  rw [List.take_of_length_le (by rw [HKL.out]; exact Nat.le_refl _)] at this
                  rw [HP0.out]; exact this)
                have MF : Hid (Marks wr g2 m (Wj.ded (Wi.allN xs (TR.take (j + 1))))) := Wc.hid (by
                  have := MK.out
                  rw [List.take_of_length_le (by rw [HKL.out]; exact Nat.le_refl _)] at this
                  rw [HP0.out]; exact this)
                go_wp2_with fail
                go_roundw
                case rel => exact ⟨j + 1, by go_num, by omega, CF, MF, BK⟩
                case measure => simp [intOf]; omega
          · obtain rfl : j = n + 1 := by omega
            have hnn := HNN.out
            go_wp2_with fail
            go_ret
            refine ⟨g, rfl, ?_, Wc.step BA.out (Nat.le_refl _) BJ.out⟩
            have h1 := CJ.out
            rw [List.take_of_length_le (by rw [HTL.out]; exact Nat.le_refl _), ← HTX.out] at h1
            unfold rAll
            rw [HS.out, LN.out, HTb.out]
            rw [HS.out] at h1
            exact h1
  · have hr0' : ¬ (rt : Int) = 0 := by omega
    have hr0b : ((rt : Int) != 0) = true := by rw [bne_iff_ne]; exact hr0'
    have m1 := World.rowIs.cell C4.out hrm
    have m2 := World.rowIs.frozen C4.out rt
    obtain ⟨cc, hcc⟩ : ∃ cc, List.count (rt : Int) [0, 1] = cc := ⟨_, rfl⟩
    have hccl : cc ≤ 2 := by rw [← hcc]; exact List.count_le_length
    have C5 : Hid (Wj.Cn (W4.setCell ⟨g, rt, none⟩ (.int .i64 ((cc : Int) + 1))) g m (Wj.bse ⟨gen, blocks, (rt : Int), size, first⟩ (opnL xs) (opnB xs) 0)) := Wc.hid (cn_led' C4.out hr0' _ (by rw [hcc]))
    have M5 : Hid (Marks (W4.setCell ⟨g, rt, none⟩ (.int .i64 ((cc : Int) + 1))) g2 m []) := Wc.hid (World.rowIs.setOther (a := ⟨g, rt, none⟩) M4.out (by have := HGG.out; simp; omega) _)
    have B5 := Wc.hid (B4.out.setCell (p := ⟨g, rt, none⟩) HGA.out.1 (.int .i64 ((cc : Int) + 1)))
    rw [hcc] at m1
    clear hcc
    go_wp2_with fail
    clear p0 p1 p2 p3 p4 p5 p6 p7 p8 p9 C4 M4 B4 m1 m2
    have LNN := LN.out
    have hSup := HS.out
    obtain ⟨TR, hTR⟩ : ∃ TR, Wi.trees ⟨gen, blocks, (rt : Int), size, first⟩ (opnL xs) = TR := ⟨_, rfl⟩
    have HTL : Hid (TR.length = n + 1) := Wc.hid (by rw [← hTR]; unfold Wi.trees; simp [LNN])
    have HTX : Hid (Wi.trees (opnS xs) (opnL xs) = TR) := Wc.hid (by rw [hSup]; exact hTR)
    obtain ⟨Tb, hTb⟩ : ∃ Tb, Wj.bse ⟨gen, blocks, (rt : Int), size, first⟩ (opnL xs) (opnB xs) n = Tb := ⟨_, rfl⟩
    have HTb := Wc.hid hTb
    have HTbl : Hid (Tb.length ≤ 200) := Wc.hid (by have := Wj.bse_len ⟨gen, blocks, (rt : Int), size, first⟩ (opnL xs) (opnB xs) n; rw [hTb] at this; omega)
    have INN := IN.out
    rw [hTR] at INN
    have HIN := Wc.hid INN
    obtain ⟨_, _, enn⟩ := INN.slice
    have hnn : nn = n + 1 := by
      injection enn with e1 e2 e3
      rw [e2, List.length_map, HTL.out]
    clear INN enn hTR hTb LNN hSup
    have HNN := Wc.hid hnn
    clear hnn
    go_loopw [9] (fun i wr => ∃ j : Nat, i = .int .i64 j ∧ j ≤ n ∧ Hid (Wj.Cn wr g m (Wj.bse ⟨gen, blocks, (rt : Int), size, first⟩ (opnL xs) (opnB xs) j)) ∧ Hid (Marks wr g2 m []) ∧ Hid (Below A.heap.size A wr)) (fun i _ => n - (intOf i).toNat)
    case atStart => exact ⟨0, rfl, by omega, C5, M5, B5⟩
    case round =>
      clear C5 M5 B5
      obtain ⟨j, rfl, hj, CJ, MJ, BJ⟩ := hrel
      have ⟨p0, p1, p2, p3, p4, p5, p6, p7, p8, p9⟩ := (HP'.out.keep BJ.out).ic
      clear p0 p1 p2 p3 p4 p5
      by_cases hlt : j < n
      · obtain ⟨_, _, _, e1, -, -, -, -, hpos⟩ := IB.out.1
        cases e1
        obtain ⟨pb, poff, rfl, hplt, hpcs⟩ := hpos (by have := BN.out; have := Wv.rv_len IB.out.1; omega)
        have hjb : j < (opnB xs).length := by rw [BN.out]; exact hlt
        have hbq := HI.out.inb _ (mem_getD hjb)
        have hpc := (BJ.out.cell (p := ⟨pb, poff + j, none⟩) hplt).trans (hpcs j (by have := Wv.rv_len IB.out.1; omega))
        obtain ⟨bq, hbqe⟩ : ∃ bq : Nat, (opnB xs).getD j 0 = (bq : Int) := ⟨((opnB xs).getD j 0).toNat, by omega⟩
        rw [hbqe] at hbq hpc
        have hbm : bq < m := by have := HM.out; omega
        have hnb2 : j < nb := by have := Wv.rv_len IB.out.1; omega
        obtain ⟨_, _, _, e1, hll, -, -, -, hrpos⟩ := IR.out
        cases e1
        obtain ⟨rb, roff, rfl, hrlt, hrcs⟩ := hrpos (by omega)
        have hjl : j < (opnL xs).length := by rw [LN.out]; exact hlt
        have hmem : (opnL xs).getD j Wr.r0 ∈ opnL xs := by
          rw [List.getD_eq_getElem?_getD, List.getElem?_eq_getElem hjl]; exact List.getElem_mem hjl
        obtain ⟨ro, hro, hrom⟩ := HRR.out _ hmem
        have m1 := World.rowIs.cell CJ.out hbm
        have m2 := World.rowIs.frozen CJ.out bq
        obtain ⟨TJ, hTJ⟩ : ∃ TJ, Wj.bse ⟨gen, blocks, (rt : Int), size, first⟩ (opnL xs) (opnB xs) j = TJ := ⟨_, rfl⟩
        have hTJl : TJ.length ≤ 200 := by have := Wj.bse_len ⟨gen, blocks, (rt : Int), size, first⟩ (opnL xs) (opnB xs) j; rw [hTJ] at this; omega
        rw [hTJ] at CJ m1
        obtain ⟨cc, hcc⟩ : ∃ cc, List.count (bq : Int) TJ = cc := ⟨_, rfl⟩
        have hccl : cc ≤ 200 := by rw [← hcc]; exact Nat.le_trans List.count_le_length hTJl
        have CK := Wc.hid (cn_snoc (p := bq) CJ.out (.int .i64 ((cc : Int) + 1)) (by rw [hcc]))
        have MK := Wc.hid (show Marks (wr.setCell ⟨g, bq, none⟩ (.int .i64 ((cc : Int) + 1))) g2 m [] from World.rowIs.setOther (a := ⟨g, bq, none⟩) MJ.out (by have := HGG.out; simp; omega) _)
        have BK := Wc.hid (BJ.out.setCell (p := ⟨g, bq, none⟩) HGA.out.1 (.int .i64 ((cc : Int) + 1)))
        have hx := (hrcs j hlt).keep BK.out
        have hbs : Wj.bse ⟨gen, blocks, (rt : Int), size, first⟩ (opnL xs) (opnB xs) (j + 1) = Wj.led (TJ ++ [(bq : Int)]) (ro : Int) := by
          show Wj.led (Wj.bse _ _ _ j ++ [(opnB xs).getD j 0]) ((opnL xs).getD j Wr.r0).root = _
          rw [hTJ, hbqe, hro]
        obtain ⟨x, hxe⟩ : ∃ x, (opnL xs).getD j Wr.r0 = x := ⟨_, rfl⟩
        rw [hxe] at hx hro
        obtain ⟨x0, x1, x2, x3, x4, x5, x6, x7⟩ := x
        simp only at hro
        subst hro
        have ⟨d0, d1, d2, d3, d4, d5, d6, d7⟩ := hx
        simp only at d0 d1 d2 d3 d4 d5 d6 d7
        have HBS := Wc.hid hbs
        have ⟨y0, y1, y2, y3, y4, y5, y6, y7, y8, y9⟩ := (HP'.out.keep BK.out).ic
        rw [hcc] at m1
        clear y0 y1 y2 y3 y4 y5 y7 y8 y9 p8 p9 d0 d1 d2 d4 d5 d6 d7 hx hbs hrcs hrpos hpos hpcs hbqe hbq hjb hjl hmem hTJ hcc hxe hll
        by_cases hz : ro = 0
        · subst hz
          have CL : Hid (Wj.Cn (wr.setCell ⟨g, bq, none⟩ (.int .i64 ((cc : Int) + 1))) g m (Wj.bse ⟨gen, blocks, (rt : Int), size, first⟩ (opnL xs) (opnB xs) (j + 1))) := Wc.hid (by rw [HBS.out]; show Wj.Cn _ g m (Wj.led _ 0); rw [Wj.led_zero]; exact CK.out)
          go_wp2_with fail
          go_roundw
          case rel => exact ⟨j + 1, by go_num, by omega, CL, MK, BK⟩
          case measure => simp [intOf]; omega
        · have hz' : ¬ (ro : Int) = 0 := by omega
          have n1 := World.rowIs.cell CK.out hrom
          have n2 := World.rowIs.frozen CK.out ro
          obtain ⟨c2, hc2⟩ : ∃ c2, List.count (ro : Int) (TJ ++ [(bq : Int)]) = c2 := ⟨_, rfl⟩
          have hc2l : c2 ≤ 300 := by rw [← hc2]; refine Nat.le_trans List.count_le_length ?_; simp; omega
          have CL : Hid (Wj.Cn ((wr.setCell ⟨g, bq, none⟩ (.int .i64 ((cc : Int) + 1))).setCell ⟨g, ro, none⟩ (.int .i64 ((c2 : Int) + 1))) g m (Wj.bse ⟨gen, blocks, (rt : Int), size, first⟩ (opnL xs) (opnB xs) (j + 1))) := Wc.hid (by rw [HBS.out]; exact cn_led' CK.out hz' _ (by rw [hc2]))
          have ML := Wc.hid (show Marks ((wr.setCell ⟨g, bq, none⟩ (.int .i64 ((cc : Int) + 1))).setCell ⟨g, ro, none⟩ (.int .i64 ((c2 : Int) + 1))) g2 m [] from World.rowIs.setOther (a := ⟨g, ro, none⟩) MK.out (by have := HGG.out; simp; omega) _)
          have BL := Wc.hid (BK.out.setCell (p := ⟨g, ro, none⟩) HGA.out.1 (.int .i64 ((c2 : Int) + 1)))
          rw [hc2] at n1
          clear hc2
          go_wp2_with fail
          go_roundw
          case rel => exact ⟨j + 1, by go_num, by omega, CL, ML, BL⟩
          case measure => simp [intOf]; omega
      · obtain rfl : n = j := by omega
        have CB : Hid (Wj.Cn wr g m (Tb ++ Wj.nps xs (Wj.ded (Wi.allN xs (TR.take 0))))) := Wc.hid (by
          rw [List.take_zero]
          show Wj.Cn wr g m (Tb ++ [])
          rw [List.append_nil, ← HTb.out]; exact CJ.out)
        have MB : Hid (Marks wr g2 m (Wj.ded (Wi.allN xs (TR.take 0)))) := Wc.hid (by rw [List.take_zero]; exact MJ.out)
        clear CJ MJ p8
        go_wp2_with fail
        go_loopw [11] (fun i wr => ∃ j : Nat, i = .int .i64 j ∧ j ≤ n + 1 ∧ Hid (Wj.Cn wr g m (Tb ++ Wj.nps xs (Wj.ded (Wi.allN xs (TR.take j))))) ∧ Hid (Marks wr g2 m (Wj.ded (Wi.allN xs (TR.take j)))) ∧ Hid (Below A.heap.size A wr)) (fun i _ => n + 1 - (intOf i).toNat)
        case atStart => exact ⟨0, rfl, by omega, CB, MB, BJ⟩
        case round =>
          clear CB MB BJ
          obtain ⟨j, rfl, hj, CJ, MJ, BJ⟩ := hrel
          have ⟨p0, p1, p2, p3, p4, p5, p6, p7, p8, p9⟩ := (HP'.out.keep BJ.out).ic
          clear p0 p1 p2 p3 p4 p5 p6 p7 p8
          by_cases hlt : j < n + 1
          · have hnn1 : j < nn := by rw [HNN.out]; exact hlt
            have hTlt : j < TR.length := by rw [HTL.out]; exact hlt
            obtain ⟨tk, htk⟩ : ∃ tk, TR.getD j (0, 0) = tk := ⟨_, rfl⟩
            have htm : tk ∈ TR := by
              rw [← htk, List.getD_eq_getElem?_getD, List.getElem?_eq_getElem hTlt]; exact List.getElem_mem hTlt
            have HTM : Hid (tk ∈ Wi.trees (opnS xs) (opnL xs)) := Wc.hid (by rw [HTX.out]; exact htm)
            have hts : TR.take (j + 1) = TR.take j ++ [tk] := by rw [Wi.take_getD _ (0, 0) hTlt, htk]
            obtain ⟨gN, cN, eN, -, hgN, an, kn, cn2, hcN, hNN⟩ := HIN.out.at (i := j) (by rw [List.length_map]; exact hTlt)
            have e1 : (TR.map fun t => Wt.treN xs t.1).getD j [] = Wt.treN xs tk.1 := by rw [← htk]; simp [hTlt]
            rw [e1] at hNN
            injection eN with a1 a2 a3
            subst a1 a3
            clear a2
            have hc9 := (BJ.out.cell (p := ⟨gN, j, none⟩) hgN).trans hcN
            have HCN := Wc.hid hcN
            have HGN := Wc.hid hgN
            have HNL := Wc.hid hNN
            obtain ⟨P0, hP0⟩ : ∃ P0, Wi.allN xs (TR.take j) = P0 := ⟨_, rfl⟩
            have HP0 : Hid (Wi.allN xs (TR.take (j + 1)) = P0 ++ Wt.treN xs tk.1) := Wc.hid (by rw [hts, Wi.allN_snoc, hP0])
            have hP0l : P0.length ≤ 73 * 62 := by
              have h1 := allN_len HI.out (TR.take j) (fun t ht => by rw [HTX.out]; exact List.mem_of_mem_take ht)
              have h2 : (TR.take j).length ≤ 62 := by rw [List.length_take, HTL.out]; omega
              rw [hP0] at h1
              exact Nat.le_trans h1 (Nat.mul_le_mul_left 73 h2)
            have hkl : (Wt.treN xs tk.1).length = kn := Wv.rv_len hNN.1
            have hk73 : kn ≤ 73 := by rw [← hkl]; exact treN_len HI.out HTM.out
            have HKL := Wc.hid hkl
            rw [hP0] at CJ MJ
            clear htk htm hts hcN hgN hNN e1 hP0 hkl hTlt
            have CJ0 : Hid (Wj.Cn wr g m (Tb ++ Wj.nps xs (Wj.ded (P0 ++ (Wt.treN xs tk.1).take 0)))) := Wc.hid (by rw [List.take_zero, List.append_nil]; exact CJ.out)
            have MJ0 : Hid (Marks wr g2 m (Wj.ded (P0 ++ (Wt.treN xs tk.1).take 0))) := Wc.hid (by rw [List.take_zero, List.append_nil]; exact MJ.out)
            clear CJ MJ
            go_wp2_with fail
            clear p9 hc9
            go_loopw [12] (fun i wr => ∃ k : Nat, i = .int .i64 k ∧ k ≤ kn ∧ Hid (Wj.Cn wr g m (Tb ++ Wj.nps xs (Wj.ded (P0 ++ (Wt.treN xs tk.1).take k)))) ∧ Hid (Marks wr g2 m (Wj.ded (P0 ++ (Wt.treN xs tk.1).take k))) ∧ Hid (Below A.heap.size A wr)) (fun i _ => kn - (intOf i).toNat)
            case atStart => exact ⟨0, rfl, by omega, CJ0, MJ0, BJ⟩
            case round =>
              clear CJ0 MJ0 BJ
              obtain ⟨k, rfl, hk, CK, MK, BK⟩ := hrel
              have ⟨p0, p1, p2, p3, p4, p5, p6, p7, p8, p9⟩ := (HP'.out.keep BK.out).ic
              have hc9 := (BK.out.cell (p := ⟨gN, j, none⟩) HGN.out).trans HCN.out
              clear p0 p1 p2 p3 p4 p5 p6 p7 p8
              by_cases hltk : k < kn
              · obtain ⟨_, _, _, h1, -, -, -, -, hpos⟩ := HNL.out.1
                cases h1
                obtain ⟨gk, off, rfl, hblt, hcs⟩ := hpos (by omega)
                have hx := (BK.out.cell (p := ⟨gk, off + k, none⟩) hblt).trans (hcs k hltk)
                have hkL : k < (Wt.treN xs tk.1).length := by rw [HKL.out]; exact hltk
                have hqm := mem_getD hkL
                have hqb := Wi.treN_bounds xs tk.1 _ hqm
                have hqN : isN xs ((Wt.treN xs tk.1).getD k 0) := List.mem_flatMap.2 ⟨tk, HTM.out, hqm⟩
                have htks := take_snoc (Wt.treN xs tk.1) k hkL
                obtain ⟨q, hqe⟩ : ∃ q : Nat, (Wt.treN xs tk.1).getD k 0 = (q : Int) := ⟨((Wt.treN xs tk.1).getD k 0).toNat, by omega⟩
                rw [hqe] at hx hqb hqN htks
                have hqlt : q < m := by have := HM.out; omega
                obtain ⟨PK, hPK⟩ : ∃ PK, P0 ++ (Wt.treN xs tk.1).take k = PK := ⟨_, rfl⟩
                have HPK : Hid (P0 ++ (Wt.treN xs tk.1).take (k + 1) = PK ++ [(q : Int)]) := Wc.hid (by rw [htks, ← List.append_assoc, hPK])
                have hPKl : PK.length ≤ 5000 := by rw [← hPK, List.length_append, List.length_take]; omega
                rw [hPK] at CK MK
                have m1 := World.rowIs.cell MK.out hqlt
                have m2 := World.rowIs.frozen MK.out q
                have HQN := Wc.hid hqN
                clear hpos hcs hkL hqm hqb hqN htks hqe hPK
                by_cases hin : (q : Int) ∈ Wj.ded PK
                · rw [decide_eq_true hin] at m1
                  have CK1 : Hid (Wj.Cn wr g m (Tb ++ Wj.nps xs (Wj.ded (P0 ++ (Wt.treN xs tk.1).take (k + 1))))) := Wc.hid (by rw [HPK.out, Wj.ded_old hin]; exact CK.out)
                  have MK1 : Hid (Marks wr g2 m (Wj.ded (P0 ++ (Wt.treN xs tk.1).take (k + 1)))) := Wc.hid (by rw [HPK.out, Wj.ded_old hin]; exact MK.out)
                  clear hin
                  go_wp2_with fail
                  go_roundw
                  case rel => exact ⟨k + 1, by go_num, by omega, CK1, MK1, BK⟩
                  case measure => simp [intOf]; omega
                · rw [decide_eq_false hin] at m1
                  have HDN : Hid (Wj.ded (PK ++ [(q : Int)]) = Wj.ded PK ++ [(q : Int)]) := Wc.hid (Wj.ded_new hin)
                  obtain ⟨M0, hM0⟩ : ∃ M0, Wj.ded PK = M0 := ⟨_, rfl⟩
                  have hM0l : M0.length ≤ 5000 := by rw [← hM0]; exact Nat.le_trans (Wj.ded_len PK) hPKl
                  rw [hM0] at CK MK HDN
                  have MK1 := Wc.hid (MK.out.set q)
                  have CK1 := Wc.hid (show Wj.Cn (wr.setCell ⟨g2, q, none⟩ (.bool true)) g m (Tb ++ Wj.nps xs M0) from World.rowIs.setOther (a := ⟨g2, q, none⟩) CK.out (by have := HGG.out; simp; omega) _)
                  have BK1 := Wc.hid (BK.out.setCell (p := ⟨g2, q, none⟩) HGA.out.2 (.bool true))
                  have hq64 : q * 64 + 64 ≤ ni := by
                    have h1 := Wd.devB_iff.1 HI.out.dev
                    have h2 := HM.out
                    have h3 := HXL.out
                    omega
                  have hrdq : Wd.rdR xs (q : Int) = (xs.drop (q * 64)).take 64 := Wt.rd_at HI.out.dev q (by rw [HM.out]; exact hqlt)
                  have HRD := Wc.hid hrdq
                  have HTl : Hid ((Tb ++ Wj.nps xs M0).length ≤ 41000) := Wc.hid (by
                    have h1 := Wj.nps_len xs M0
                    have h2 := HTbl.out
                    rw [List.length_append]; omega)
                  clear hin hM0 hrdq
                  go_wp2_with fail
                  refine (block_any ai ni ci q xs _ (IV.out.keep BK1.out) hq64).mono ?_
                  rintro e w7 ⟨ax, cx, rfl, hbs, rfl⟩
                  rw [← HRD.out] at hbs
                  have HBS := Wc.hid hbs
                  clear hbs
                  go_wp2_with fail
                  refine (refParse7_any _ _ _ HBS.out).mono ?_
                  rintro e w8 ⟨rfl, hb8⟩
                  obtain ⟨nod, hnod⟩ : ∃ nod, Wn.par (Wd.rdR xs (q : Int)) = nod := ⟨_, rfl⟩
                  rw [hnod]
                  have HND : Hid (Wt.nd xs (q : Int) = nod) := Wc.hid hnod
                  have bY := (Below.refl w8.heap.size w8).alloc (Nat.le_refl _) (.cells #[.int .i64 nod.level, .int .i64 nod.p0, .int .i64 nod.p1, .int .i64 nod.p2, .int .i64 nod.p3, .int .i64 nod.p4, .int .i64 nod.p5, .int .i64 nod.p6, .int .i64 nod.p7] 69)
                  have CY := Wc.hid (row_keep (row_keep CK1.out hb8) bY)
                  have MY := Wc.hid ((MK1.out.keep hb8).keep bY)
                  have BY := Wc.hid (BK1.out.trans ((Wc.step hb8 (Nat.le_refl _) bY).mono BK1.out.size))
                  have NY := Wc.hid (Nh.new w8 nod)
                  have HGY : Hid (g2 < w8.heap.size) := Wc.hid (Nat.lt_of_lt_of_le (World.rowIs.lt MK1.out) hb8.size)
                  have ⟨f, f0, f1, f2, f3, f4, f5, f6, f7⟩ := NY.out.nc
                  clear hb8 bY hnod
                  unfold nv
                  go_wp2_with fail
                  clear f f0 f1 f2 f3 f4 f5 f6 f7
                  obtain ⟨W8, hW8⟩ : ∃ W, w8.alloc (.cells #[.int .i64 nod.level, .int .i64 nod.p0, .int .i64 nod.p1, .int .i64 nod.p2, .int .i64 nod.p3, .int .i64 nod.p4, .int .i64 nod.p5, .int .i64 nod.p6, .int .i64 nod.p7] 69) = W := ⟨_, rfl⟩
                  obtain ⟨gY, hgY⟩ : ∃ gY, w8.heap.size = gY := ⟨_, rfl⟩
                  rw [hW8, hgY] at NY
                  rw [hW8] at CY MY BY ⊢
                  rw [hgY] at HGY ⊢
                  clear hW8 hgY
                  have HKB := Wc.hid (isN_kids HI.out HQN.out)
                  rw [HND.out, HM.out] at HKB
                  have CY0 : Hid (Wj.Cn W8 g m (Tb ++ Wj.nps xs M0 ++ Wj.ptrK nod 0)) := Wc.hid (by show Wj.Cn _ _ _ (_ ++ []); rw [List.append_nil]; exact CY.out)
                  go_loopw [16] (fun i wr => ∃ z : Nat, i = .int .i64 z ∧ z ≤ 8 ∧ Hid (Wj.Cn wr g m (Tb ++ Wj.nps xs M0 ++ Wj.ptrK nod z)) ∧ Hid (Marks wr g2 m (M0 ++ [(q : Int)])) ∧ Hid (Nh wr gY nod) ∧ Hid (Below A.heap.size A wr)) (fun i _ => 8 - (intOf i).toNat)
                  case atStart => exact ⟨0, rfl, by omega, CY0, MY, NY, BY⟩
                  case round =>
                    clear CY0 CY MY NY BY CK1 MK1 BK1 CK MK BK
                    obtain ⟨z, rfl, hz, CZ, MZ, NZ, BZ⟩ := hrel
                    by_cases hz8 : z < 8
                    · have hpat := NZ.out.pat hz8
                      have hkb := HKB.out z hz8
                      have HPS : Hid (Wj.ptrK nod (z + 1) = Wj.ptrK nod z ++ (if Wn.pat nod z = 0 then [] else [Wn.pat nod z])) := Wc.hid rfl
                      obtain ⟨y, hy⟩ : ∃ y : Nat, Wn.pat nod z = (y : Int) := ⟨(Wn.pat nod z).toNat, by omega⟩
                      rw [hy] at hpat hkb HPS
                      have hym : y < m := by omega
                      clear hkb hy
                      by_cases hy0 : y = 0
                      · subst hy0
                        have CZ1 : Hid (Wj.Cn wr g m (Tb ++ Wj.nps xs M0 ++ Wj.ptrK nod (z + 1))) := Wc.hid (by rw [HPS.out, if_pos (show ((0 : Nat) : Int) = 0 from rfl), List.append_nil]; exact CZ.out)
                        go_wp2_with fail
                        go_roundw
                        case rel => exact ⟨z + 1, by go_num, by omega, CZ1, MZ, NZ, BZ⟩
                        case measure => simp [intOf]; omega
                      · have hyb : ((y : Int) != 0) = true := by rw [bne_iff_ne]; omega
                        have n1 := World.rowIs.cell CZ.out hym
                        have n2 := World.rowIs.frozen CZ.out y
                        obtain ⟨c2, hc2⟩ : ∃ c2, List.count (y : Int) (Tb ++ Wj.nps xs M0 ++ Wj.ptrK nod z) = c2 := ⟨_, rfl⟩
                        have hc2l : c2 ≤ 42000 := by
                          have h1 := HTl.out
                          have h2 := Wj.ptrK_len nod z
                          rw [← hc2]
                          refine Nat.le_trans List.count_le_length ?_
                          rw [List.length_append]; omega
                        have CZ1 : Hid (Wj.Cn (wr.setCell ⟨g, y, none⟩ (.int .i64 ((c2 : Int) + 1))) g m (Tb ++ Wj.nps xs M0 ++ Wj.ptrK nod (z + 1))) := Wc.hid (by
                          rw [HPS.out, if_neg (by omega), ← List.append_assoc]
                          exact cn_snoc CZ.out _ (by rw [hc2]))
                        have MZ1 := Wc.hid (show Marks (wr.setCell ⟨g, y, none⟩ (.int .i64 ((c2 : Int) + 1))) g2 m (M0 ++ [(q : Int)]) from World.rowIs.setOther (a := ⟨g, y, none⟩) MZ.out (by have := HGG.out; simp; omega) _)
                        have NZ1 := Wc.hid (NZ.out.other (show gY ≠ g by have := HGG.out; have := HGY.out; omega) y (.int .i64 ((c2 : Int) + 1)))
                        have BZ1 := Wc.hid (BZ.out.setCell (p := ⟨g, y, none⟩) HGA.out.1 (.int .i64 ((c2 : Int) + 1)))
                        have hpat2 := NZ1.out.pat hz8
                        rw [hc2] at n1
                        clear hc2
                        go_wp2_with fail
                        go_roundw
                        case rel => exact ⟨z + 1, by go_num, by omega, CZ1, MZ1, NZ1, BZ1⟩
                        case measure => simp [intOf]; omega
                    · obtain rfl : z = 8 := by omega
                      have CK2 : Hid (Wj.Cn wr g m (Tb ++ Wj.nps xs (Wj.ded (P0 ++ (Wt.treN xs tk.1).take (k + 1))))) := Wc.hid (by
                        rw [HPK.out, HDN.out, Wj.nps_append, Wj.nps_cons, HND.out, ← List.append_assoc]
                        show Wj.Cn wr g m (Tb ++ Wj.nps xs M0 ++ (Wj.ptrK nod 8 ++ []))
                        rw [List.append_nil]; exact CZ.out)
                      have MK2 : Hid (Marks wr g2 m (Wj.ded (P0 ++ (Wt.treN xs tk.1).take (k + 1)))) := Wc.hid (by rw [HPK.out, HDN.out]; exact MZ.out)
                      go_wp2_with fail
                      go_roundw
                      case rel => exact ⟨k + 1, by go_num, by omega, CK2, MK2, BZ⟩
                      case measure => simp [intOf]; omega
              · obtain rfl : k = kn := by omega
                have CF : Hid (Wj.Cn wr g m (Tb ++ Wj.nps xs (Wj.ded (Wi.allN xs (TR.take (j + 1)))))) := Wc.hid (by
                  have := CK.out
                  rw [List.take_of_length_le (by rw [HKL.out]; exact Nat.le_refl _)] at this
                  rw [HP0.out]; exact this)
                have MF : Hid (Marks wr g2 m (Wj.ded (Wi.allN xs (TR.take (j + 1))))) := Wc.hid (by
                  have := MK.out
                  rw [List.take_of_length_le (by rw [HKL.out]; exact Nat.le_refl _)] at this
                  rw [HP0.out]; exact this)
                go_wp2_with fail
                go_roundw
                case rel => exact ⟨j + 1, by go_num, by omega, CF, MF, BK⟩
                case measure => simp [intOf]; omega
          · obtain rfl : j = n + 1 := by omega
            have hnn := HNN.out
            go_wp2_with fail
            go_ret
            refine ⟨g, rfl, ?_, Wc.step BA.out (Nat.le_refl _) BJ.out⟩
            have h1 := CJ.out
            rw [List.take_of_length_le (by rw [HTL.out]; exact Nat.le_refl _), ← HTX.out] at h1
            unfold rAll
            rw [HS.out, LN.out, HTb.out]
            rw [HS.out] at h1
            exact h1

end Go.Proofs.YtiobegoiehjfiaaGreat
