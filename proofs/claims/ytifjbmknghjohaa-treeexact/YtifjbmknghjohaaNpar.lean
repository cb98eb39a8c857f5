/-
  What node.Parse returns, for all bytes.
-/
import Derived.Test.YtifjbmknghjohaaNbyt
import Derived.Laws.ResultCell
namespace Go.Proofs.Ytifjbmknghjohaa
open Go.RowKit

/-- A node written over another one. -/
theorem Nh.over {w : World} {B : Nat} {s : Wn.Nod} (h : Nh w B s) (t : Wn.Nod) :
    Nh (((((((((w.setCell ⟨B, 0, none⟩ (.int .i64 t.level)).setCell ⟨B, 1, none⟩ (.int .i64 t.p0)).setCell ⟨B, 2, none⟩ (.int .i64 t.p1)).setCell ⟨B, 3, none⟩ (.int .i64 t.p2)).setCell ⟨B, 4, none⟩ (.int .i64 t.p3)).setCell ⟨B, 5, none⟩ (.int .i64 t.p4)).setCell ⟨B, 6, none⟩ (.int .i64 t.p5)).setCell ⟨B, 7, none⟩ (.int .i64 t.p6)).setCell ⟨B, 8, none⟩ (.int .i64 t.p7)) B t := by
  have h0 := heap_setCell_same w B 0 _ 47 (.int .i64 t.level) h
  have h1 := heap_setCell_same _ B 1 _ 47 (.int .i64 t.p0) h0
  have h2 := heap_setCell_same _ B 2 _ 47 (.int .i64 t.p1) h1
  have h3 := heap_setCell_same _ B 3 _ 47 (.int .i64 t.p2) h2
  have h4 := heap_setCell_same _ B 4 _ 47 (.int .i64 t.p3) h3
  have h5 := heap_setCell_same _ B 5 _ 47 (.int .i64 t.p4) h4
  have h6 := heap_setCell_same _ B 6 _ 47 (.int .i64 t.p5) h5
  have h7 := heap_setCell_same _ B 7 _ 47 (.int .i64 t.p6) h6
  have h8 := heap_setCell_same _ B 8 _ 47 (.int .i64 t.p7) h7
  unfold Nh
  simpa using h8

theorem below9 {B0 B : Nat} {a w : World} (h : Below B0 a w) (hB : B0 ≤ B) (t : Wn.Nod) :
    Below B0 a (((((((((w.setCell ⟨B, 0, none⟩ (.int .i64 t.level)).setCell ⟨B, 1, none⟩ (.int .i64 t.p0)).setCell ⟨B, 2, none⟩ (.int .i64 t.p1)).setCell ⟨B, 3, none⟩ (.int .i64 t.p2)).setCell ⟨B, 4, none⟩ (.int .i64 t.p3)).setCell ⟨B, 5, none⟩ (.int .i64 t.p4)).setCell ⟨B, 6, none⟩ (.int .i64 t.p5)).setCell ⟨B, 7, none⟩ (.int .i64 t.p6)).setCell ⟨B, 8, none⟩ (.int .i64 t.p7)) :=
  ((((((((h.setCell hB _).setCell hB _).setCell hB _).setCell hB _).setCell hB _).setCell hB _).setCell hB _).setCell hB _).setCell hB _

theorem Nh.other {w : World} {B B' : Nat} {n : Wn.Nod} (h : Nh w B n) (hne : B ≠ B') (o : Nat) (v : Value) : Nh (w.setCell ⟨B', o, none⟩ v) B n := by
  unfold Nh
  rw [heap_setCell_other _ _ _ _ hne]; exact h

theorem ret_cell7 {fn : Func} {tmps : Array Value} {w : World} {B : Nat} {s : Wn.Nod} {v : Value} (hr : fn.results = #[.cell 2 47, .tmp 3]) (hp : tmps.getD 2 undef = .pointer (some ⟨B, 0, none⟩)) (hv : tmps.getD 3 undef = v) (h : Nc w B s) :
    (results fn tmps).run Try.prog w = .ok (.tuple #[nv s, v]) w := by
  obtain ⟨c, c0, c1, c2, c3, c4, c5, c6, c7⟩ := h
  rw [results_cell_tmp hr, hp, hv]
  simp [go_sem, c, c0, c1, c2, c3, c4, c5, c6, c7, nv]

/-- The first four bytes are NODE just if their text is. -/
theorem txt_node (xs : List Int) (hl : 4 ≤ xs.length) (hx : ∀ x ∈ xs, 0 ≤ x ∧ x < 256) : ((txt xs).toList == [78, 79, 68, 69]) = true ↔ xs.take 4 = Wn.name := by
  rw [beq_iff_eq, ByteArray.toList_eq]
  match xs, hl with
  | x0 :: x1 :: x2 :: x3 :: r, _ =>
    have h0 := u8_eq (hx x0 (by simp)) 78
    have h1 := u8_eq (hx x1 (by simp)) 79
    have h2 := u8_eq (hx x2 (by simp)) 68
    have h3 := u8_eq (hx x3 (by simp)) 69
    have e0 : ((78 : UInt8).toNat : Int) = 78 := rfl
    have e1 : ((79 : UInt8).toNat : Int) = 79 := rfl
    have e2 : ((68 : UInt8).toNat : Int) = 68 := rfl
    have e3 : ((69 : UInt8).toNat : Int) = 69 := rfl
    rw [e0] at h0
    rw [e1] at h1
    rw [e2] at h2
    rw [e3] at h3
    simp only [txt, Wn.name, List.take_succ_cons, List.take_zero, List.map_cons, List.map_nil, List.cons.injEq, and_true, h0, h1, h2, h3]

theorem txt_nodeNo (xs : List Int) (hl : 4 ≤ xs.length) (hx : ∀ x ∈ xs, 0 ≤ x ∧ x < 256) (h : ¬ xs.take 4 = Wn.name) : ((txt xs).toList == [78, 79, 68, 69]) = false := by
  rw [Bool.eq_false_iff]
  exact fun e => h ((txt_node xs hl hx).1 e)

set_option maxHeartbeats 1600000 in
theorem parse7_len (a : Option Addr) (n cap : Nat) (w : World) (hl : ¬ n = 64) :
    Calls Try.prog 23 #[.slice a n cap] w fun e w' => e = .returned (.tuple #[nv Wn.n0, .int .i64 2]) ∧ Below w.heap.size w w' := by
  have hb : (((n : Int) != 64) = true) := by simp; omega
  clear hl
  go_enter Try.func23, Try.ntmps23
  go_wp2_with fail
  refine bodyPost_ret (ret_cell7 rfl rfl rfl (Nh.new w Wn.n0).nc) rfl ⟨rfl, (Below.refl w.heap.size w).alloc (Nat.le_refl _) _⟩

theorem get4_num (xs : List Int) (p : Nat) (hl : xs.length = 64) (hp : p + 4 ≤ 64) (hx : ∀ x ∈ xs, 0 ≤ x ∧ x < 256) : (Wc.getR xs (p : Int) 4).1 = Ws.num xs p 4 := by
  have e : ((xs.drop p).take 4).length = 4 := by simp; omega
  have hb := Wc.val_bd ((xs.drop p).take 4) (fun x h => hx x (List.mem_of_mem_drop (List.mem_of_mem_take h)))
  rw [e] at hb
  rw [Wc.getR_ok xs p 4 (Ws.num xs p 4) (by decide) (Wc.inB_iff.2 (by omega)) rfl (by unfold Ws.num; omega)]

set_option maxHeartbeats 1600000 in
theorem parse7_name (b off cap : Nat) (S : ByteArray) (w : World) (hc : 64 ≤ cap) (hc2 : cap ≤ 9223372036854775807)
   (hcv : (convert 22 9 (.slice (some ⟨b, off, none⟩) 4 cap)).run Try.prog (w.alloc (.cells #[.int .i64 0, .int .i64 0, .int .i64 0, .int .i64 0, .int .i64 0, .int .i64 0, .int .i64 0, .int .i64 0, .int .i64 0] 47)) = .ok (.string S) (w.alloc (.cells #[.int .i64 0, .int .i64 0, .int .i64 0, .int .i64 0, .int .i64 0, .int .i64 0, .int .i64 0, .int .i64 0, .int .i64 0] 47)))
   (hS : (S.toList == [78, 79, 68, 69]) = false) :
    Calls Try.prog 23 #[.slice (some ⟨b, off, none⟩) 64 cap] w fun e w' => e = .returned (.tuple #[nv Wn.n0, .int .i64 4]) ∧ Below w.heap.size w w' := by
  go_enter Try.func23, Try.ntmps23
  go_wp2_with fail
  exact bodyPost_ret (ret_cell7 rfl rfl rfl (Nh.new w Wn.n0).nc) rfl ⟨rfl, (Below.refl w.heap.size w).alloc (Nat.le_refl _) _⟩

set_option maxHeartbeats 1600000 in
theorem parse7_sum (b off cap : Nat) (xs : List Int) (S : ByteArray) (w : World) (hv : Wc.Bs w (.slice (some ⟨b, off, none⟩) 64 cap) xs) (hc : 64 ≤ cap) (hc2 : cap ≤ 9223372036854775807)
   (hcv : (convert 22 9 (.slice (some ⟨b, off, none⟩) 4 cap)).run Try.prog (w.alloc (.cells #[.int .i64 0, .int .i64 0, .int .i64 0, .int .i64 0, .int .i64 0, .int .i64 0, .int .i64 0, .int .i64 0, .int .i64 0] 47)) = .ok (.string S) (w.alloc (.cells #[.int .i64 0, .int .i64 0, .int .i64 0, .int .i64 0, .int .i64 0, .int .i64 0, .int .i64 0, .int .i64 0, .int .i64 0] 47)))
   (hS : (S.toList == [78, 79, 68, 69]) = true) (hg : Wc.goodB xs = false) :
    Calls Try.prog 23 #[.slice (some ⟨b, off, none⟩) 64 cap] w fun e w' => e = .returned (.tuple #[nv Wn.n0, .int .i64 5]) ∧ Below w.heap.size w w' := by
  have HV := Wc.hid (hv.alloc (.cells #[.int .i64 0, .int .i64 0, .int .i64 0, .int .i64 0, .int .i64 0, .int .i64 0, .int .i64 0, .int .i64 0, .int .i64 0] 47))
  clear hv
  go_enter Try.func23, Try.ntmps23
  go_wp2_with fail
  refine (good_any _ xs _ HV.out).mono ?_
  rintro e w1 ⟨rfl, rfl⟩
  rw [hg]
  go_wp2_with fail
  exact bodyPost_ret (ret_cell7 rfl rfl rfl (Nh.new w Wn.n0).nc) rfl ⟨rfl, (Below.refl w.heap.size w).alloc (Nat.le_refl _) _⟩

set_option maxHeartbeats 3200000 in
theorem parse7_nums (b off cap : Nat) (xs : List Int) (S : ByteArray) (w : World) (hv : Wc.Bs w (.slice (some ⟨b, off, none⟩) 64 cap) xs) (hc : 64 ≤ cap) (hc2 : cap ≤ 9223372036854775807)
   (hcv : (convert 22 9 (.slice (some ⟨b, off, none⟩) 4 cap)).run Try.prog (w.alloc (.cells #[.int .i64 0, .int .i64 0, .int .i64 0, .int .i64 0, .int .i64 0, .int .i64 0, .int .i64 0, .int .i64 0, .int .i64 0] 47)) = .ok (.string S) (w.alloc (.cells #[.int .i64 0, .int .i64 0, .int .i64 0, .int .i64 0, .int .i64 0, .int .i64 0, .int .i64 0, .int .i64 0, .int .i64 0] 47)))
   (hS : (S.toList == [78, 79, 68, 69]) = true) (hnm : xs.take 4 = Wn.name) (hg : Wc.goodB xs = true) :
    Calls Try.prog 23 #[.slice (some ⟨b, off, none⟩) 64 cap] w fun e w' => e = .returned (.tuple #[nv (Wn.par xs), .int .i64 (Wn.parE xs)]) ∧ Below w.heap.size w w' := by
  have HV0 := Wc.hid hv
  have HV := Wc.hid (hv.alloc (.cells #[.int .i64 0, .int .i64 0, .int .i64 0, .int .i64 0, .int .i64 0, .int .i64 0, .int .i64 0, .int .i64 0, .int .i64 0] 47))
  have hxl := Wc.bs_len hv
  have hxb := Wc.bs_bytes hv
  have GL : Hid ((Wc.getR xs 4 4).1 = Ws.num xs 4 4) := Wc.hid (get4_num xs 4 hxl (by omega) hxb)
  have GK : Hid (∀ k : Nat, k < 8 → (Wc.getR xs (8 + (k : Int) * 4) 4).1 = Ws.num xs (8 + 4 * k) 4) := Wc.hid fun k hk => by
    rw [← get4_num xs (8 + 4 * k) hxl (by omega) hxb]
    congr 2
    omega
  have HGD := Wc.hid hg
  have HNM := Wc.hid hnm
  clear hnm
  have HXL := Wc.hid hxl
  clear hv hxl hxb
  go_enter Try.func23, Try.ntmps23
  go_wp2_with fail
  refine (good_any _ xs _ HV.out).mono ?_
  rintro e w1 ⟨rfl, rfl⟩
  rw [HGD.out]
  clear hg hcv
  go_wp2_with fail
  refine (get7_any _ xs _ _ HV.out).mono ?_
  rintro e w' ⟨rfl, rfl⟩
  rw [GL.out]
  have A0 := Wc.hid ((Nh.new w Wn.n0).keep ((Below.refl _ _).alloc (Nat.le_refl _) (.cells #[.int .i64 (Ws.num xs 4 4), .int .i64 0, .int .i64 0, .int .i64 0, .int .i64 0, .int .i64 0, .int .i64 0, .int .i64 0, .int .i64 0] 47)))
  have A1 : Hid (Nh ((w.alloc (.cells #[.int .i64 0, .int .i64 0, .int .i64 0, .int .i64 0, .int .i64 0, .int .i64 0, .int .i64 0, .int .i64 0, .int .i64 0] 47)).alloc (.cells #[.int .i64 (Ws.num xs 4 4), .int .i64 0, .int .i64 0, .int .i64 0, .int .i64 0, .int .i64 0, .int .i64 0, .int .i64 0, .int .i64 0] 47)) (w.heap.size + 1) (Wn.fill xs 0)) := Wc.hid (by
    rw [Wn.fill_zero]
    have := Nh.new (w.alloc (.cells #[.int .i64 0, .int .i64 0, .int .i64 0, .int .i64 0, .int .i64 0, .int .i64 0, .int .i64 0, .int .i64 0, .int .i64 0] 47)) ⟨Ws.num xs 4 4, 0, 0, 0, 0, 0, 0, 0, 0⟩
    simpa using this)
  have HB0 := Wc.hid (((Below.refl w.heap.size w).alloc (Nat.le_refl _) (.cells #[.int .i64 0, .int .i64 0, .int .i64 0, .int .i64 0, .int .i64 0, .int .i64 0, .int .i64 0, .int .i64 0, .int .i64 0] 47)).alloc (by simp) (.cells #[.int .i64 (Ws.num xs 4 4), .int .i64 0, .int .i64 0, .int .i64 0, .int .i64 0, .int .i64 0, .int .i64 0, .int .i64 0, .int .i64 0] 47))
  go_wp2_with fail
  go_loopw [22] (fun i wr => ∃ k : Nat, i = .int .i64 k ∧ k ≤ 8 ∧ Hid (Nh wr w.heap.size Wn.n0) ∧ Hid (Nh wr (w.heap.size + 1) (Wn.fill xs k)) ∧ Hid (Below w.heap.size w wr)) (fun i _ => 8 - (intOf i).toNat)
  case atStart => exact ⟨0, rfl, by omega, A0, A1, HB0⟩
  case round =>
    obtain ⟨k, rfl, hk, A, D, HB⟩ := hrel
    by_cases hlt : k < 8
    · go_wp2_with fail
      refine (get7_any _ xs _ _ (HV0.out.keep HB.out)).mono ?_
      rintro e w' ⟨rfl, rfl⟩
      rw [GK.out k hlt]
      have hcell := D.out.pat hlt
      have hfz := D.out.frozen (1 + k)
      have A' := Wc.hid (A.out.other (B' := w.heap.size + 1) (by omega) (1 + k) (.int .i64 (Ws.num xs (8 + 4 * k) 4)))
      have D' := Wc.hid (D.out.set hlt (Ws.num xs (8 + 4 * k) 4))
      rw [Wn.fill_next xs hlt] at D'
      have HB' := Wc.hid (HB.out.setCell (p := ⟨w.heap.size + 1, 1 + k, none⟩) (by simp) (.int .i64 (Ws.num xs (8 + 4 * k) 4)))
      go_wp2_with fail
      go_roundw
      case rel => exact ⟨k + 1, by go_num, by omega, A', D', HB'⟩
      case measure => simp [intOf]; omega
    · obtain rfl : k = 8 := by omega
      rw [Wn.fill_all] at D
      obtain ⟨t, ht⟩ : ∃ t, Wn.parN xs = t := ⟨_, rfl⟩
      rw [ht] at D
      have HT := Wc.hid ht
      clear ht
      have ⟨d, d0, d1, d2, d3, d4, d5, d6, d7⟩ := D.out.nc
      go_wp2_with fail
      refine (check7_any t _).mono ?_
      rintro e w2 ⟨rfl, hb2⟩
      have A2 := Wc.hid (A.out.keep hb2)
      have D2 := Wc.hid (D.out.keep hb2)
      have HB2 := Wc.hid (Wc.step HB.out (Nat.le_refl _) hb2)
      have HV2 := Wc.hid (HV0.out.keep HB2.out)
      clear hb2 d d0 d1 d2 d3 d4 d5 d6 d7 A D HB
      have ⟨c, c0, c1, c2, c3, c4, c5, c6, c7⟩ := A2.out.nc
      have f := A2.out.frozen 0
      have f0 := A2.out.frozen 1
      have f1 := A2.out.frozen 2
      have f2 := A2.out.frozen 3
      have f3 := A2.out.frozen 4
      have f4 := A2.out.frozen 5
      have f5 := A2.out.frozen 6
      have f6 := A2.out.frozen 7
      have f7 := A2.out.frozen 8
      cases hnb : Wn.nodB t
      · rw [nodE_no hnb]
        have HP := Wc.hid (Wn.par_arg HXL.out HNM.out HGD.out (by rw [HT.out, hnb]; rfl))
        clear hnb
        go_wp2_with fail
        rw [HP.out.1, HP.out.2]
        exact bodyPost_ret (ret_cell7 rfl rfl rfl (A2.out.over Wn.n0).nc) rfl ⟨rfl, below9 HB2.out (Nat.le_refl _) Wn.n0⟩
      · rw [nodE_yes hnb]
        have HNB := Wc.hid hnb
        clear hnb
        have ⟨d, d0, d1, d2, d3, d4, d5, d6, d7⟩ := D2.out.nc
        go_wp2_with fail
        refine (zeros_any _ xs 40 60 _ HV2.out (by omega)).mono ?_
        rintro e w3 ⟨rfl, rfl⟩
        cases hz : Wc.zerosB xs 40 60
        · have HP := Wc.hid (Wn.par_arg HXL.out HNM.out HGD.out (by rw [hz, Bool.and_false]))
          clear hz
          go_wp2_with fail
          rw [HP.out.1, HP.out.2]
          exact bodyPost_ret (ret_cell7 rfl rfl rfl (A2.out.over Wn.n0).nc) rfl ⟨rfl, below9 HB2.out (Nat.le_refl _) Wn.n0⟩
        · have HP := Wc.hid (Wn.par_ok HXL.out HNM.out HGD.out (by rw [hz, HT.out, HNB.out]; rfl))
          clear hz
          go_wp2_with fail
          rw [HP.out.1, HP.out.2, HT.out]
          exact bodyPost_ret (ret_cell7 rfl rfl rfl (A2.out.over t).nc) rfl ⟨rfl, below9 HB2.out (Nat.le_refl _) t⟩

theorem parse7_any (v : Value) (xs : List Int) (w : World) (hv : Wc.Bs w v xs) :
    Calls Try.prog 23 #[v] w fun e w' => e = .returned (.tuple #[nv (Wn.par xs), .int .i64 (Wn.parE xs)]) ∧ Below w.heap.size w w' := by
  have hxb := Wc.bs_bytes hv
  by_cases hl : xs.length = 64
  · rcases hv.open with ⟨rfl, _⟩ | ⟨b, off, n, cap, rfl, h0, hn, hc, hc2, _⟩
    · simp at hl
    · obtain rfl : n = 64 := by omega
      have hcv := convert_txt (hv.alloc (.cells #[.int .i64 0, .int .i64 0, .int .i64 0, .int .i64 0, .int .i64 0, .int .i64 0, .int .i64 0, .int .i64 0, .int .i64 0] 47)) (by omega)
      by_cases hnm : xs.take 4 = Wn.name
      · have hS := (txt_node xs (by omega) hxb).2 hnm
        cases hg : Wc.goodB xs
        · have := Wn.par_sum hl hnm hg
          rw [this.1, this.2]
          exact parse7_sum b off cap xs _ w hv hc hc2 hcv hS hg
        · exact parse7_nums b off cap xs _ w hv hc hc2 hcv hS hnm hg
      · have := Wn.par_name hl hnm
        rw [this.1, this.2]
        exact parse7_name b off cap _ w hc hc2 hcv (txt_nodeNo xs (by omega) hxb hnm)
  · have := Wn.par_len hl
    rw [this.1, this.2]
    obtain ⟨a, n, cap, rfl, hn, -⟩ := hv
    exact parse7_len a n cap w (by omega)

end Go.Proofs.Ytifjbmknghjohaa
