/-
  What walk.Counts tells of any device.
-/
import Derived.Test.YtiobegoiehjfiaaGreatKc
import Derived.Test.YtiobegoiehjfiaaGreatKd
namespace Go.Proofs.YtiobegoiehjfiaaGreat
open Go.RowKit

/-- What Counts tells. -/
def CntPost (xs : List Int) (w : World) : Ending → World → Prop := fun e w' =>
  Below w.heap.size w w' ∧ (opnE xs = 0 → ∃ g, e = .returned (.tuple #[.slice (some ⟨g, 0, none⟩) (xs.length / 64) (xs.length / 64), .int .i64 0]) ∧ w.heap.size ≤ g ∧ Wj.Cn w' g (xs.length / 64) (cnt xs)) ∧
    (¬ opnE xs = 0 → e = .returned (.tuple #[.slice none 0 0, .int .i64 (opnE xs)]))

/-- The walk's pointers up to the j-th record. -/
def upto (xs : List Int) (j : Nat) : List Int := ((opnL xs).take j).foldl (fun T r => Wj.wlk xs 3 r.root (Wj.led T r.next)) (Wj.wlk xs 3 (opnS xs).root (Wj.led [0, 1] (opnS xs).first))
theorem upto_all (xs : List Int) : upto xs (opnL xs).length = cnt xs := by unfold upto; rw [List.take_length]; rfl
theorem upto_succ (xs : List Int) {j : Nat} (h : j < (opnL xs).length) : upto xs (j + 1) = Wj.wlk xs 3 ((opnL xs).getD j Wr.r0).root (Wj.led (upto xs j) ((opnL xs).getD j Wr.r0).next) := by
  unfold upto
  have : (opnL xs).take (j + 1) = (opnL xs).take j ++ [(opnL xs).getD j Wr.r0] := by rw [List.take_add_one]; simp [h]
  rw [this, List.foldl_append]
  rfl
theorem upto_len (xs : List Int) (j : Nat) (h : (opnL xs).length ≤ 61) : (upto xs j).length ≤ 900000 := by
  have h1 := Wj.fold_len xs ((opnL xs).take j) (Wj.wlk xs 3 (opnS xs).root (Wj.led [0, 1] (opnS xs).first))
  have h2 := Wj.wlk_len xs 3 (opnS xs).root (Wj.led [0, 1] (opnS xs).first)
  have h3 : (Wj.led [0, 1] (opnS xs).first).length ≤ 3 := by unfold Wj.led; split <;> simp
  have h4 : ((opnL xs).take j).length ≤ 61 := by simp; omega
  have h5 : ((opnL xs).take j).length * (Wj.big 3 + 1) ≤ 61 * (Wj.big 3 + 1) := Nat.mul_le_mul_right _ h4
  have h6 : Wj.big 3 = 585 := by decide
  unfold upto
  omega

theorem cn_snoc {w : World} {g m : Nat} {T : List Int} {p : Nat} (h : Wj.Cn w g m T) (v : Value) (hv : v = .int .i64 (((T.count (p : Int) : Nat) : Int) + 1)) : Wj.Cn (w.setCell ⟨g, p, none⟩ v) g m (T ++ [(p : Int)]) := by
  subst hv
  refine (World.rowIs.set h p _).congr fun q _ => ?_
  rw [List.count_append]
  by_cases e : q = p
  · rw [if_pos e]; subst e; simp
  · rw [if_neg e]
    have : List.count (q : Int) [(p : Int)] = 0 := List.count_eq_zero.2 (by simp; omega)
    rw [this]; simp
theorem cn_made (w : World) (m : Nat) : Wj.Cn (w.alloc (.cells (madeCells #[Value.int .i64 0] m) 3)) w.heap.size m [] := by
  refine (World.rowIs_made w (.int .i64 0) m 3).congr fun q _ => ?_
  simp

set_option maxRecDepth 100000 in
set_option maxHeartbeats 6400000 in
theorem counts_yes (v : Value) (xs : List Int) (w : World) (hv : Wc.Bs w v xs) (h0 : opnE xs = 0) : Calls Tryz.prog 20 #[v] w (CntPost xs w) := by
  have hI := img_of h0
  have HI := Wc.hid hI
  obtain ⟨m, hm⟩ : ∃ m, xs.length / 64 = m := ⟨_, rfl⟩
  have H0 := Wc.hid h0
  have HV := Wc.hid hv
  have hd := Wd.devB_iff.1 hI.dev
  have hm4 : 4 ≤ m ∧ m ≤ 4096 := by omega
  have hbl := hI.blocks
  have hwalk := hI.walk
  have hnx : Hid (∀ p, (∀ q ∈ Wj.led [] p, q ∈ opnB xs) → ∃ q : Nat, p = (q : Int) ∧ q < m) := Wc.hid fun p hp => by
    by_cases e : p = 0
    · exact ⟨0, e, by omega⟩
    · have := hI.inb p (hp p (Wj.led_mem.2 (.inr ⟨rfl, e⟩)))
      exact ⟨p.toNat, by omega, by omega⟩
  have hfirst := hnx.out _ hI.next.1
  have HNX : Hid (∀ r ∈ opnL xs, ∃ q : Nat, r.next = (q : Int) ∧ q < m) := Wc.hid fun r hr => hnx.out _ (hI.next.2 r hr)
  rw [hm] at hbl hwalk
  have HW1 := Wc.hid hwalk.1
  have HW2 := Wc.hid hwalk.2.1
  have HM := Wc.hid hm
  have HLL : Hid ((opnL xs).length ≤ 61) := Wc.hid (by unfold opnL; rw [List.length_map]; exact hI.len)
  obtain ⟨s, hs⟩ : ∃ s, opnS xs = s := ⟨_, rfl⟩
  obtain ⟨t, ht⟩ : ∃ t, opnT xs = t := ⟨_, rfl⟩
  have HS := Wc.hid hs
  have HT := Wc.hid ht
  rw [hs] at hbl hfirst HW1
  obtain ⟨gen, blocks, root, size, first⟩ := s
  simp only at hbl hfirst HW1
  subst hbl
  obtain ⟨f, rfl, hfm⟩ := hfirst
  have HU0 : Hid (upto xs 0 = Wj.wlk xs 3 root (Wj.led [0, 1] (f : Int))) := Wc.hid (by unfold upto; rw [hs]; rfl)
  have HUA := Wc.hid (upto_all xs)
  have HUS := Wc.hid fun j (h : j < (opnL xs).length) => upto_succ xs h
  have HUL := Wc.hid fun j => upto_len xs j HLL.out
  clear hv hd hm h0 hs ht hwalk hI hnx
  go_enter Tryz.func20, Tryz.ntmps20
  go_wp2_with fail
  refine (oopen_any v xs _ HV.out).mono ?_
  rintro e w1 ⟨a, n, c, rfl, hR, hb1⟩
  rw [HS.out, HT.out, H0.out]
  unfold stv
  have Z1 := Zh.new w1 ⟨gen, m, root, size, f⟩ t (.slice a n c)
  have bA : Below w1.heap.size w1 (w1.alloc (.cells #[.int .i64 gen, .int .i64 (m : Int), .int .i64 root, .int .i64 size, .int .i64 (f : Int), .int .i64 t, .slice a n c] 38)) := (Below.refl _ _).alloc (Nat.le_refl _) _
  have ⟨z0, z1, z2, z3, z4, z5, z6⟩ := Z1.zc
  have hmk := run_make_row' (P := Tryz.prog) 78 3 (.int .i64 0) 8 Tryz.underlying78 Tryz.infoI rfl .i64 .i64 m (by omega) (by omega)
  have HR := Wc.hid (hR.keep bA)
  have HBA := Wc.hid (Wc.step hb1 (Nat.le_refl _) bA)
  have HBM := Wc.hid ((Below.refl (w1.alloc (.cells #[.int .i64 gen, .int .i64 (m : Int), .int .i64 root, .int .i64 size, .int .i64 (f : Int), .int .i64 t, .slice a n c] 38)).heap.size (w1.alloc (.cells #[.int .i64 gen, .int .i64 (m : Int), .int .i64 root, .int .i64 size, .int .i64 (f : Int), .int .i64 t, .slice a n c] 38))).alloc (Nat.le_refl _) (.cells (madeCells #[Value.int .i64 0] m) 3))
  have HC := cn_made (w1.alloc (.cells #[.int .i64 gen, .int .i64 (m : Int), .int .i64 root, .int .i64 size, .int .i64 (f : Int), .int .i64 t, .slice a n c] 38)) m
  rw [show (w1.alloc (.cells #[.int .i64 gen, .int .i64 (m : Int), .int .i64 root, .int .i64 size, .int .i64 (f : Int), .int .i64 t, .slice a n c] 38)).heap.size = w1.heap.size + 1 by simp] at HC
  have HC0 := Wc.hid HC
  have HZ := Wc.hid Z1
  have HSZ : Hid ((w1.alloc (.cells #[.int .i64 gen, .int .i64 (m : Int), .int .i64 root, .int .i64 size, .int .i64 (f : Int), .int .i64 t, .slice a n c] 38)).heap.size = w1.heap.size + 1) := Wc.hid (by simp)
  have HSW := Wc.hid hb1.size
  clear hR hb1 bA Z1 HC
  go_wp2_with fail
  clear z0 z1 z2 z3 z4 z5 z6 hmk
  obtain ⟨W2, hW2⟩ : ∃ W, (w1.alloc (.cells #[.int .i64 gen, .int .i64 (m : Int), .int .i64 root, .int .i64 size, .int .i64 (f : Int), .int .i64 t, .slice a n c] 38)).alloc (.cells (madeCells #[Value.int .i64 0] m) 3) = W := ⟨_, rfl⟩
  rw [hW2] at HBM HC0 ⊢
  clear hW2
  obtain ⟨A, hA⟩ : ∃ A, w1.alloc (.cells #[.int .i64 gen, .int .i64 (m : Int), .int .i64 root, .int .i64 size, .int .i64 (f : Int), .int .i64 t, .slice a n c] 38) = A := ⟨_, rfl⟩
  unfold Zh at HZ
  simp only [] at HZ
  have HZ' : Hid (Zh A w1.heap.size ⟨gen, m, root, size, f⟩ t (.slice a n c)) := Wc.hid (by rw [← hA]; exact Zh.new w1 ⟨gen, m, root, size, f⟩ t (.slice a n c))
  rw [hA] at HBM HR HBA HSZ
  clear hA HZ
  obtain ⟨g, hg⟩ : ∃ g, w1.heap.size + 1 = g := ⟨_, rfl⟩
  have HG := Wc.hid hg
  rw [hg] at HC0 HSZ ⊢
  clear hg
  go_loopw [22] (fun i wr => ∃ k : Nat, i = .int .i64 k ∧ k ≤ 2 ∧ Hid (Wj.Cn wr g m (([0, 1] : List Int).take k)) ∧ Hid (Below A.heap.size A wr)) (fun i _ => 2 - (intOf i).toNat)
  case atStart => exact ⟨0, rfl, by omega, HC0, HBM⟩
  case round =>
    obtain ⟨k, rfl, hk, CK, BK⟩ := hrel
    by_cases hlt : k < 2
    · have hct : (([0, 1] : List Int).take k).count (k : Int) = 0 := by
        have : k = 0 ∨ k = 1 := by omega
        rcases this with rfl | rfl <;> rfl
      have h1 := World.rowIs.cell CK.out (show k < m by omega)
      have h2 := World.rowIs.frozen CK.out k
      have CK1 : Hid (Wj.Cn (wr.setCell ⟨g, k, none⟩ (.int .i64 1)) g m (([0, 1] : List Int).take (k + 1))) := Wc.hid (by
        have := cn_snoc (p := k) CK.out (.int .i64 1) (by rw [hct]; rfl)
        have e : ([0, 1] : List Int).take (k + 1) = ([0, 1] : List Int).take k ++ [(k : Int)] := by
          have : k = 0 ∨ k = 1 := by omega
          rcases this with rfl | rfl <;> rfl
        rw [e]; exact this)
      have BK1 := Wc.hid (BK.out.setCell (p := ⟨g, k, none⟩) (by rw [HSZ.out]; exact Nat.le_refl _) (.int .i64 1))
      rw [hct] at h1
      have hkm : k < m := by omega
      clear hct
      go_wp2_with fail
      go_roundw
      case rel => exact ⟨k + 1, by go_num, by omega, CK1, BK1⟩
      case measure => simp [intOf]; omega
    · obtain rfl : k = 2 := by omega
      have ⟨z0, z1, z2, z3, z4, z5, z6⟩ := (HZ'.out.keep BK.out).zc
      go_wp2_with fail
      refine (lead_any g m _ f _ CK.out (by simp) hfm).mono ?_
      rintro e w3 ⟨rfl, hb3, hc3⟩
      have BK3 := Wc.hid (BK.out.trans (hb3.1.mono (by rw [HSZ.out]; exact Nat.le_refl _)))
      have CK3 := Wc.hid hc3
      clear z0 z1 z2 z3 z4 z5 z6 hb3 hc3
      have ⟨z0, z1, z2, z3, z4, z5, z6⟩ := (HZ'.out.keep BK3.out).zc
      go_wp2_with fail
      have hT0 : (Wj.led (([0, 1] : List Int).take 2) (f : Int)).length + Wj.big 3 ≤ 1000000 := by
        have h6 : Wj.big 3 = 585 := by decide
        have : (Wj.led (([0, 1] : List Int).take 2) (f : Int)).length ≤ 3 := by unfold Wj.led; split <;> simp
        omega
      refine (wtree_of xs v A g m (isN xs) (HV.out.keep HBA.out) (by rw [HSZ.out]; exact Nat.le_refl _) (by omega) 2 root _ _ HW1.out hT0 BK3.out CK3.out).mono ?_
      rintro e w4 ⟨rfl, hb4, -, hc4⟩
      have BK4 := Wc.hid hb4
      have CK4 : Hid (Wj.Cn w4 g m (upto xs 0)) := Wc.hid (by rw [HU0.out]; exact hc4)
      clear z0 z1 z2 z3 z4 z5 z6 hb4 hc4 hT0
      have ⟨z0, z1, z2, z3, z4, z5, z6⟩ := (HZ'.out.keep BK4.out).zc
      obtain ⟨_, _, _, h1, hll, hlc, hlc2, hln, hpos⟩ := HR.out
      cases h1
      have HPS := Wc.hid hpos
      have HLN := Wc.hid hll
      clear hpos hll
      go_wp2_with fail
      clear z0 z1 z2 z3 z4 z5 z6
      go_loopw [46] (fun i wr => ∃ j : Nat, i = .int .i64 j ∧ j ≤ n ∧ Hid (Wj.Cn wr g m (upto xs j)) ∧ Hid (Below A.heap.size A wr)) (fun i _ => n - (intOf i).toNat)
      case atStart => exact ⟨0, rfl, by omega, CK4, BK4⟩
      case round =>
        obtain ⟨j, rfl, hj, CJ, BJ⟩ := hrel
        by_cases hlt2 : j < n
        · obtain ⟨b, off, rfl, hblt, hcs⟩ := HPS.out (by omega)
          have hx := (hcs j hlt2).keep BJ.out
          have hjl : j < (opnL xs).length := by rw [HLN.out]; exact hlt2
          have hmem : (opnL xs).getD j Wr.r0 ∈ opnL xs := by
            rw [List.getD_eq_getElem?_getD, List.getElem?_eq_getElem hjl]
            exact List.getElem_mem hjl
          have hwf := HW2.out _ hmem
          have hnx := HNX.out _ hmem
          have hus := HUS.out j hjl
          obtain ⟨x, hxe⟩ : ∃ x, (opnL xs).getD j Wr.r0 = x := ⟨_, rfl⟩
          rw [hxe] at hx hwf hnx hus
          obtain ⟨x0, x1, x2, ro, x4, x5, x6, x7⟩ := x
          simp only at hwf hnx hus
          obtain ⟨q, rfl, hqm⟩ := hnx
          have HWF := Wc.hid hwf
          have HUSJ := Wc.hid hus
          have ⟨d0, d1, d2, d3, d4, d5, d6, d7⟩ := hx
          have R1 := Wc.hid (Rh.new wr ⟨(q : Int), x1, x2, ro, x4, x5, x6, x7⟩)
          have ⟨f0, f1, f2, f3, f4, f5, f6, f7⟩ := R1.out.rc
          have bA : Below wr.heap.size wr (wr.alloc (.cells #[.int .i64 (q : Int), .int .i64 x1, .int .i64 x2, .int .i64 ro, .int .i64 x4, .int .i64 x5, .int .i64 x6, .int .i64 x7] 63)) := (Below.refl _ _).alloc (Nat.le_refl _) _
          have HBA2 := Wc.hid (Wc.step BJ.out (Nat.le_refl _) bA)
          have HCA2 := Wc.hid (row_keep CJ.out bA)
          have HNG : Hid (¬ wr.heap.size = g) := Wc.hid (by have := World.rowIs.lt CJ.out; omega)
          have hul : (upto xs j).length ≤ 1000000 := by have := HUL.out j; omega
          have HTL : Hid ((Wj.led (upto xs j) (q : Int)).length + Wj.big 3 ≤ 1000000) := Wc.hid (by
            have h6 : Wj.big 3 = 585 := by decide
            have h7 := HUL.out j
            have : (Wj.led (upto xs j) (q : Int)).length ≤ (upto xs j).length + 1 := by unfold Wj.led; split <;> simp
            omega)
          clear hcs hx hjl hmem hwf hus hxe bA
          simp only at d0 d1 d2 d3 d4 d5 d6 d7 f0 f1 f2 f3 f4 f5 f6 f7
          go_wp2_with fail
          refine (lead_any g m _ q _ HCA2.out hul hqm).mono ?_
          rintro e w5 ⟨rfl, hb5, hc5⟩
          have BJ5 := Wc.hid (HBA2.out.trans (hb5.1.mono (by rw [HSZ.out]; exact Nat.le_refl _)))
          have CJ5 := Wc.hid hc5
          have R5 : Hid (Rh w5 wr.heap.size ⟨(q : Int), x1, x2, ro, x4, x5, x6, x7⟩) := Wc.hid ((hb5.2 _ HNG.out).trans R1.out)
          clear d0 d1 d2 d3 d4 d5 d6 d7 f0 f1 f2 f3 f4 f5 f6 f7 hb5 hc5 hul
          have ⟨f0, f1, f2, f3, f4, f5, f6, f7⟩ := R5.out.rc
          simp only at f0 f1 f2 f3 f4 f5 f6 f7
          go_wp2_with fail
          refine (wtree_of xs v A g m (isN xs) (HV.out.keep HBA.out) (by rw [HSZ.out]; exact Nat.le_refl _) (by omega) 2 ro _ _ HWF.out HTL.out BJ5.out CJ5.out).mono ?_
          rintro e w6 ⟨rfl, hb6, -, hc6⟩
          have BJ6 := Wc.hid hb6
          have CJ6 : Hid (Wj.Cn w6 g m (upto xs (j + 1))) := Wc.hid (by rw [HUSJ.out]; exact hc6)
          clear f0 f1 f2 f3 f4 f5 f6 f7 hb6 hc6
          go_wp2_with fail
          go_roundw
          case rel => exact ⟨j + 1, by go_num, by omega, CJ6, BJ6⟩
          case measure => simp [intOf]; omega
        · obtain rfl : j = n := by omega
          go_wp2_with fail
          go_ret2
          refine ⟨(HBA.out.trans (BJ.out.mono HBA.out.size)), fun _ => ⟨g, by rw [HM.out]; rfl, ?_, ?_⟩, fun h => absurd H0.out h⟩
          · have h1 := HG.out
            have h2 := HSW.out
            omega
          · rw [HM.out, ← HUA.out, HLN.out]
            exact CJ.out

set_option maxHeartbeats 1600000 in
theorem counts_no (v : Value) (xs : List Int) (w : World) (hv : Wc.Bs w v xs) (h0 : ¬ opnE xs = 0) : Calls Tryz.prog 20 #[v] w (CntPost xs w) := by
  have HV := Wc.hid hv
  have H0 := Wc.hid h0
  obtain ⟨E, hE⟩ : ∃ E, opnE xs = E := ⟨_, rfl⟩
  have HE := Wc.hid hE
  have hne : (E != 0) = true := by rw [bne_iff_ne, ← hE]; exact h0
  obtain ⟨s, hs⟩ : ∃ s, opnS xs = s := ⟨_, rfl⟩
  obtain ⟨t, ht⟩ : ∃ t, opnT xs = t := ⟨_, rfl⟩
  have HS := Wc.hid hs
  have HT := Wc.hid ht
  clear hv h0 hE hs ht
  go_enter Tryz.func20, Tryz.ntmps20
  go_wp2_with fail
  refine (oopen_any v xs _ HV.out).mono ?_
  rintro e w1 ⟨a, n, c, rfl, hR, hb1⟩
  rw [HS.out, HT.out, HE.out]
  unfold stv
  have HB := Wc.hid (hb1.alloc hb1.size (.cells #[.int .i64 s.gen, .int .i64 s.blocks, .int .i64 s.root, .int .i64 s.size, .int .i64 s.first, .int .i64 t, .slice a n c] 38))
  clear hR hb1
  go_wp2_with fail
  go_ret2
  exact ⟨HB.out, fun h => absurd h H0.out, fun _ => by rw [HE.out]; rfl⟩

theorem counts_any (v : Value) (xs : List Int) (w : World) (hv : Wc.Bs w v xs) : Calls Tryz.prog 20 #[v] w (CntPost xs w) := by
  by_cases h : opnE xs = 0
  · exact counts_yes v xs w hv h
  · exact counts_no v xs w hv h
end Go.Proofs.YtiobegoiehjfiaaGreat
