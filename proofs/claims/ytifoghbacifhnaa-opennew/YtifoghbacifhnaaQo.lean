/-
  OpenNew: what the statement's function returns.
-/
import Derived.Test.YtifoghbacifhnaaQn
namespace Go.Proofs.Ytifoghbacifhnaa
open Go.RowKit

theorem at61 (p : Int) : ∃ A : Nat, A ≤ 60 ∧ wrap64 ((IntKind.u64.wrap p).tmod 61) = (A : Int) := by
  obtain ⟨A, hA, e⟩ := lowN p 61 (by omega) (by omega)
  exact ⟨A, by omega, e⟩

theorem newS_v (m : Nat) (t : Int) (v : Value) : stv (Wi.newS m) t v = .agg #[.int .i64 1, .int .i64 (m : Int), .int .i64 0, .int .i64 0, .int .i64 0, .int .i64 t, v] := rfl

set_option maxRecDepth 100000 in
set_option maxHeartbeats 6400000 in
theorem openNew_any (b p x0 x1 x2 x3 : Int) (w : World) (hb : ∀ x ∈ [x0, x1, x2, x3], 0 ≤ x ∧ x < 256) :
    Calls Try.prog 6 #[.int .i64 b, .int .i64 p, .agg #[.int .u8 x0, .int .u8 x1, .int .u8 x2, .int .u8 x3]] w fun e w' => e = .returned (.bool true) ∧ Below w.heap.size w w' := by
  obtain ⟨m, hm, em⟩ := lowA b 60 4 (by omega) (by omega) (by omega)
  obtain ⟨A, hA, hAt⟩ := at61 p
  obtain ⟨N, hN⟩ : ∃ N, m * 64 = N := ⟨_, rfl⟩
  have eN : (m : Int) * 64 = (N : Int) := by omega
  have h4 : 4 ≤ m := hm.1
  have h2 : m ≤ 4096 := by have := hm.2; omega
  have BW : Hid (Below w.heap.size w (w.alloc (.cells #[.int .u8 x0, .int .u8 x1, .int .u8 x2, .int .u8 x3] 70))) := Wc.hid ((Below.refl w.heap.size w).alloc (Nat.le_refl _) _)
  have HX := Wc.hid hb
  have HM := Wc.hid h4
  have HM2 := Wc.hid h2
  have HN := Wc.hid hN
  clear hb hm
  go_enter Try.func6, Try.ntmps6
  go_wp2_with fail
  rw [show (4 : Int) = ((4 : Nat) : Int) from rfl, em]
  obtain ⟨W, hW⟩ : ∃ W, w.alloc (.cells #[.int .u8 x0, .int .u8 x1, .int .u8 x2, .int .u8 x3] 70) = W := ⟨_, rfl⟩
  rw [hW] at BW ⊢
  have HW := Wc.hid hW
  clear hW em
  refine (new_yes m N _ HM.out HM2.out HN.out).mono ?_
  rintro e w1 ⟨g, rfl, hg, hO, hb1⟩
  have B1 := Wc.hid hb1
  have O1 := Wc.hid hO
  clear hO hb1
  go_wp2_with fail
  refine (oopen_any _ (Wi.newI m) _ O1.out.bs).mono ?_
  rintro e w2 ⟨a, n, cc, rfl, hR, hb2⟩
  obtain ⟨o1, o2, o3, o4⟩ := new_open HM.out HM2.out
  have hL : opnL (Wi.newI m) = [] := by unfold opnL; rw [o4]; rfl
  rw [hL] at hR
  obtain rfl : n = 0 := by have := Wi.rs_len hR; simpa using this.symm
  rw [o1, o2, o3, newS_v]
  have bA : Below w2.heap.size w2 (w2.alloc (.cells #[.int .i64 1, .int .i64 (m : Int), .int .i64 0, .int .i64 0, .int .i64 0, .int .i64 0, .slice a 0 cc] 27)) := (Below.refl _ _).alloc (Nat.le_refl _) _
  have Z2 := Wc.hid (Zh.new w2 ⟨1, m, 0, 0, 0⟩ 0 (.slice a 0 cc))
  have B2 := Wc.hid (Wc.step (Wc.step B1.out (Nat.le_refl _) hb2) (Nat.le_refl _) bA)
  have O2 := Wc.hid ((O1.out.keep hb2).keep bA)
  have HZL := Nat.le_trans B1.out.size hb2.size
  clear hb2 bA hR o1 o2 o3 o4 hL O1 B1
  go_wp2_with fail
  rw [hAt]
  clear hAt
  obtain ⟨W2, hW2⟩ : ∃ W2, w2.alloc (.cells #[.int .i64 1, .int .i64 (m : Int), .int .i64 0, .int .i64 0, .int .i64 0, .int .i64 0, .slice a 0 cc] 27) = W2 := ⟨_, rfl⟩
  rw [hW2] at Z2 B2 O2 ⊢
  clear hW2
  obtain ⟨P, hP⟩ : ∃ P, w2.heap.size = P := ⟨_, rfl⟩
  rw [hP] at Z2 HZL ⊢
  clear hP
  obtain ⟨zs, hzs⟩ : ∃ zs, zs = [x0, x1, x2, x3] := ⟨_, rfl⟩
  have HZl : Hid (zs.length = 4) := Wc.hid (by rw [hzs]; rfl)
  have HZB : Hid (∀ x ∈ zs, 0 ≤ x ∧ x < 256) := Wc.hid (by rw [hzs]; exact HX.out)
  have HWS : Hid (w.heap.size < W.heap.size) := Wc.hid (by rw [← HW.out]; simp)
  have HWC : Hid (∀ k, k < 4 → W.cell? ⟨w.heap.size, k, none⟩ = some (.int .u8 (zs.getD k 0))) := Wc.hid (by
    intro k hk
    rw [← HW.out, World.cell?_alloc_mark, hzs]
    rcases k with _ | _ | _ | _ | k
    · rfl
    · rfl
    · rfl
    · rfl
    · omega)
  clear hzs HX
  obtain ⟨C, hC⟩ : ∃ C, Wi.newI m = C := ⟨_, rfl⟩
  have hCl : C.length = N := by rw [← hC, Wi.newI_length HM.out, HN.out]
  have hCb : ∀ y ∈ C, 0 ≤ y ∧ y < 256 := by rw [← hC]; exact Wi.newI_bytes m
  rw [hC] at O2
  have HC := Wc.hid hC
  have HCL := Wc.hid hCl
  have HCB := Wc.hid hCb
  have hAN : A + 4 ≤ N := by have := HN.out; omega
  have R2 := Wc.hid (ob_row O2.out (by omega))
  have HGP : Hid (W.heap.size ≤ g) := Wc.hid hg
  have hPg : ¬ P = g := by
    rintro rfl
    obtain ⟨cs, h1, _⟩ := R2.out
    have h3 := Z2.out
    unfold Zh at h3
    rw [h1] at h3
    injection h3 with h3
    injection h3 with _ h4
    exact absurd h4 (by decide)
  have HPG := Wc.hid hPg
  clear hC hCl hCb O2 hg hPg HZL
  go_loopw [11, 12] (fun c i wr => ∃ k : Nat, k ≤ 4 ∧ i = .int .i64 k ∧ c = .bool (chgB zs k) ∧ Hid (wr.rowIs g 5 N (fun j => .int .u8 (chg C zs A k j))) ∧ Hid (Below W.heap.size W wr) ∧ Hid (Zh wr P ⟨1, m, 0, 0, 0⟩ 0 (.slice a 0 cc))) (fun _ i _ => 4 - (intOf i).toNat)
  case atStart => exact ⟨0, by omega, rfl, rfl, Wc.hid (R2.out.congr fun j _ => by rw [chg_zero]), B2, Z2⟩
  case round =>
    obtain ⟨k, hk, rfl, rfl, HRR, HBR, HZR⟩ := hrel
    by_cases hlt : k < 4
    · have hcc := HRR.out.cell (i := A + k) (by omega)
      have hfz := HRR.out.frozen (A + k)
      rw [chg_old] at hcc
      have hza := (HBR.out.cell (p := ⟨w.heap.size, k, none⟩) HWS.out).trans (HWC.out k hlt)
      have bu := HCB.out (C.getD (A + k) 0) (by have := HCL.out; rw [List.getD_eq_getElem?_getD, List.getElem?_eq_getElem (by omega)]; simp)
      have bv := HZB.out (zs.getD k 0) (by have := HZl.out; rw [List.getD_eq_getElem?_getD, List.getElem?_eq_getElem (by omega)]; simp)
      have hxo := u8_xor _ _ bu.1 bu.2 bv.1 bv.2
      have HB := Wc.hid (chgB_succ zs k (by rw [HZl.out]; omega))
      obtain ⟨q, hq⟩ : ∃ q : Int, q = (((C.getD (A + k) 0).toNat ^^^ (zs.getD k 0).toNat : Nat) : Int) := ⟨_, rfl⟩
      have HQ := Wc.hid hq
      rw [← hq] at hxo
      clear hq bu bv
      obtain ⟨u, hu⟩ : ∃ u, u = C.getD (A + k) 0 := ⟨_, rfl⟩
      obtain ⟨v, hv⟩ : ∃ v, v = zs.getD k 0 := ⟨_, rfl⟩
      rw [← hu] at hcc hxo
      rw [← hv] at hza hxo
      rw [← hv] at HB
      have hzv := HWC.out k hlt
      rw [← hv] at hzv
      have HZV := Wc.hid hzv
      clear hu hv hzv
      have HZN : Hid (∀ x : Value, Zh (wr.setCell ⟨g, A + k, none⟩ x) P ⟨1, m, 0, 0, 0⟩ 0 (.slice a 0 cc)) := Wc.hid fun x => by
        unfold Zh
        rw [heap_setCell_other _ _ _ _ HPG.out]
        exact HZR.out
      cases hch : chgB zs k with
      | true =>
        go_wp2
        go_region
        go_wp2
        go_roundw
        case rel => exact ⟨k + 1, by omega, by go_num, by rw [HB.out, hch]; rfl, Wc.hid (chg_row HQ.out HRR.out), Wc.hid (show_drew (HBR.out.setCell HGP.out _)), Wc.hid (HZN.out _)⟩
        case measure => simp only [intOf]; omega
      | false =>
        have hza2 := ((HBR.out.setCell (p := ⟨g, A + k, none⟩) HGP.out (.int .u8 q)).cell (p := ⟨w.heap.size, k, none⟩) HWS.out).trans HZV.out
        go_wp2
        go_region
        go_wp2
        go_roundw
        case rel => exact ⟨k + 1, by omega, by go_num, by rw [HB.out, hch]; rfl, Wc.hid (chg_row HQ.out HRR.out), Wc.hid (show_drew (HBR.out.setCell HGP.out _)), Wc.hid (HZN.out _)⟩
        case measure => simp only [intOf]; omega
    · obtain rfl : k = 4 := by omega
      have hbz : ∀ y ∈ Wc.runAt A (N - 4 - A) zs, 0 ≤ y ∧ y < 256 := by
        intro y hy
        unfold Wc.runAt at hy
        rcases List.mem_append.1 hy with h | h
        · have := List.eq_of_mem_replicate h; omega
        · rcases List.mem_append.1 h with h | h
          · exact HZB.out y h
          · have := List.eq_of_mem_replicate h; omega
      have hzb := Wc.zipx_bd C _ HCB.out hbz
      have hlen : (Wc.zipx C (Wc.runAt A (N - 4 - A) zs)).length = N := by
        have := HCL.out; have := HZl.out
        simp [Wc.zipx, Wc.runAt]; omega
      have hN4 := HM2.out
      have HF := Wc.hid (Wc.Bs.row hlen (by have := HN.out; omega) hzb (HRR.out.congr fun j hj => by rw [chg_end C zs A (N - 4) (by rw [HCL.out]; omega) HZl.out (by omega) HCB.out j (by omega)]))
      have hgo := newC_open HM.out HM2.out HN.out hA HZl.out HZB.out
      rw [HC.out] at hgo
      obtain ⟨Y, hY⟩ : ∃ Y, Wc.zipx C (Wc.runAt A (N - 4 - A) zs) = Y := ⟨_, rfl⟩
      rw [hY] at hgo HF
      have HGO := Wc.hid hgo
      clear hgo hlen hzb hbz hY hN4
      go_wp2_with fail
      refine (oopen_any _ Y _ HF.out).mono ?_
      rintro e w7 ⟨a7, n7, c7, rfl, hR7, hb7⟩
      rw [HGO.out]
      obtain ⟨s7, hs7⟩ : ∃ s7, opnS Y = s7 := ⟨_, rfl⟩
      obtain ⟨t7, ht7⟩ : ∃ t7, opnT Y = t7 := ⟨_, rfl⟩
      rw [hs7, ht7]
      have bA := (Below.refl w7.heap.size w7).alloc (Nat.le_refl _) (.cells #[.int .i64 s7.gen, .int .i64 s7.blocks, .int .i64 s7.root, .int .i64 s7.size, .int .i64 s7.first, .int .i64 t7, .slice a7 n7 c7] 27)
      have ⟨z0, z1, z2, z3, z4, z5, z6⟩ := ((HZR.out.keep hb7).keep bA).zc
      have HB7 := Wc.hid (Wc.step (Wc.step HBR.out (Nat.le_refl _) hb7) (Nat.le_refl _) bA)
      simp only at z0 z1 z2 z3 z4 z5 z6
      unfold stv
      clear hb7 bA hs7 ht7 hR7
      cases hch : chgB zs 4 with
      | true =>
        rw [if_pos rfl]
        go_wp2_with fail
        refine (wakes_any _).mono ?_
        rintro e w8 ⟨rfl, hb8⟩
        go_wp2_with fail
        go_ret
        exact ⟨rfl, Wc.step (BW.out.trans (HB7.out.mono BW.out.size)) (Nat.le_refl _) hb8⟩
      | false =>
        rw [if_neg (by decide)]
        go_wp2_with fail
        refine (wakes_any _).mono ?_
        rintro e w8 ⟨rfl, hb8⟩
        go_wp2_with fail
        go_ret
        exact ⟨rfl, Wc.step (BW.out.trans (HB7.out.mono BW.out.size)) (Nat.le_refl _) hb8⟩

end Go.Proofs.Ytifoghbacifhnaa
