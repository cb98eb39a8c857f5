/-
  The walk of the law CrcGood: for every slice of bytes, every int and every four bytes it returns true and turns nothing that was there.
-/
import Derived.Test.YtdfhickpgfjahaaRefGood
namespace Go.Proofs.Ytdfhickpgfjahaa
open Go.RowKit

set_option maxRecDepth 100000 in
set_option maxHeartbeats 400000 in
theorem crcGood_long (a : Option Addr) (n cap : Nat) (p x0 x1 x2 x3 : Int) (w : World) (hn : 600 < n) :
    Calls Try.prog 5 #[.slice a n cap, .int .i64 p, .agg #[.int .u8 x0, .int .u8 x1, .int .u8 x2, .int .u8 x3]] w fun e w' => e = .returned (.bool true) ∧ Below w.heap.size w w' := by
  go_enter Try.func5, Try.ntmps5
  go_wp2
  go_ret
  exact ⟨rfl, (Below.refl _ _).alloc (Nat.le_refl _) _⟩

theorem show_drew {B : Nat} {a b : World} (h : Below B a b) : Below B a b.drew := h.drew

theorem putL_end (xs : List Int) (n : Nat) (m : Int) (hl : xs.length = n) : Wc.putL (xs ++ [0, 0, 0, 0]) n 4 m = xs ++ Wc.enc 4 m := by
  subst hl
  unfold Wc.putL
  rw [List.take_left, List.drop_of_length_le (by simp), List.append_nil]

/-- What the row holds behind k rounds. -/
def chg (C zs : List Int) (p k j : Nat) : Int := if p ≤ j ∧ j < p + k then (((C.getD j 0).toNat ^^^ (zs.getD (j - p) 0).toNat : Nat) : Int) else C.getD j 0

/-- Was anything changed within k rounds? -/
def chgB (zs : List Int) (k : Nat) : Bool := !((zs.take k).all (· == 0))

theorem at_low (n : Nat) (p : Int) (hn : n ≤ 600) : ∃ A : Nat, A ≤ n ∧ wrap64 ((IntKind.u64.wrap p).tmod ((n : Int) + 4 - 3)) = (A : Int) := by
  rw [IntKind.wrap_u64, Int.tmod_eq_emod_of_nonneg (by omega)]
  have h1 := Int.emod_nonneg (p % 18446744073709551616) (b := (n : Int) + 4 - 3) (by omega)
  have h2 := Int.emod_lt_of_pos (p % 18446744073709551616) (b := (n : Int) + 4 - 3) (by omega)
  obtain ⟨A, hA⟩ := Int.eq_ofNat_of_zero_le h1
  rw [hA] at h2 ⊢
  exact ⟨A, by omega, by unfold wrap64; omega⟩

theorem chgB_succ (zs : List Int) (k : Nat) (h : k < zs.length) : chgB zs (k + 1) = (chgB zs k || (zs.getD k 0 != 0)) := by
  unfold chgB
  rw [take_next zs k h, List.all_append, Bool.not_and]
  simp [bne]

theorem chgB_all (zs : List Int) : chgB zs zs.length = false ↔ ∀ y ∈ zs, y = 0 := by
  unfold chgB
  simp

theorem chg_zero (C zs : List Int) (p j : Nat) : chg C zs p 0 j = C.getD j 0 := by
  unfold chg; rw [if_neg (by omega)]

theorem chg_old (C zs : List Int) (p k : Nat) : chg C zs p k (p + k) = C.getD (p + k) 0 := by
  unfold chg; rw [if_neg (by omega)]

theorem chg_row {w : World} {g n k p : Nat} {C zs : List Int} {q : Int} (hq : q = (((C.getD (p + k) 0).toNat ^^^ (zs.getD k 0).toNat : Nat) : Int)) (h : w.rowIs g 5 n (fun j => .int .u8 (chg C zs p k j))) :
    (w.setCell ⟨g, p + k, none⟩ (.int .u8 q)).rowIs g 5 n (fun j => .int .u8 (chg C zs p (k + 1) j)) := by
  refine (h.set (p + k) _).congr fun j _ => ?_
  unfold chg
  by_cases h1 : j = p + k
  · subst h1; rw [if_pos rfl, if_pos (by omega), hq, show p + k - p = k by omega]
  · rw [if_neg h1]
    by_cases h2 : p ≤ j ∧ j < p + k
    · rw [if_pos h2, if_pos (by omega)]
    · rw [if_neg h2, if_neg (by omega)]

/-- Behind all four rounds the bytes are the old ones with the run put to them. -/
theorem chg_end (C zs : List Int) (p n : Nat) (hC : C.length = n + 4) (hz : zs.length = 4) (hp : p ≤ n) (hb : ∀ y ∈ C, 0 ≤ y ∧ y < 256) (j : Nat) (hj : j < n + 4) :
    chg C zs p 4 j = (Wc.zipx C (Wc.runAt p (n - p) zs)).getD j 0 := by
  have hl : (Wc.runAt p (n - p) zs).length = n + 4 := by simp [Wc.runAt, hz]; omega
  have hbj := hb (C.getD j 0) (by rw [List.getD_eq_getElem?_getD, List.getElem?_eq_getElem (by omega)]; simp)
  have e : (Wc.zipx C (Wc.runAt p (n - p) zs)).getD j 0 = (((C.getD j 0).toNat ^^^ ((Wc.runAt p (n - p) zs).getD j 0).toNat : Nat) : Int) := by
    unfold Wc.zipx
    rw [List.getD_eq_getElem?_getD, List.getElem?_zipWith]
    simp [List.getD, show j < C.length by omega, show j < (Wc.runAt p (n - p) zs).length by omega]
  rw [e]
  unfold chg Wc.runAt
  by_cases h1 : p ≤ j ∧ j < p + 4
  · rw [if_pos h1]
    have : (List.replicate p (0 : Int) ++ (zs ++ List.replicate (n - p) 0)).getD j 0 = zs.getD (j - p) 0 := by
      rw [List.getD_eq_getElem?_getD, List.getElem?_append_right (by simp; omega), List.getElem?_append_left (by simp; omega)]
      simp
    rw [this]
  · rw [if_neg h1]
    have : (List.replicate p (0 : Int) ++ (zs ++ List.replicate (n - p) 0)).getD j 0 = 0 := by
      rw [List.getD_eq_getElem?_getD]
      rcases Nat.lt_or_ge j p with h2 | h2
      · rw [List.getElem?_append_left (by simpa using h2)]
        simp [h2]
      · rw [List.getElem?_append_right (by simpa using h2), List.getElem?_append_right (by simp; omega)]
        rw [List.getElem?_replicate]
        split <;> rfl
    rw [this]
    show C.getD j 0 = ((C.getD j 0).toNat ^^^ 0 : Nat)
    rw [Nat.xor_zero]; omega

set_option maxRecDepth 100000 in
set_option maxHeartbeats 1000000 in
theorem crcGood_any (a : Option Addr) (n cap : Nat) (xs : List Int) (p x0 x1 x2 x3 : Int) (w : World) (hn : n ≤ 600) (hv : Wc.Bs w (.slice a n cap) xs) (hs : Wc.Shaped (.slice a n cap))
    (hb : ∀ x ∈ [x0, x1, x2, x3], 0 ≤ x ∧ x < 256) :
    Calls Try.prog 5 #[.slice a n cap, .int .i64 p, .agg #[.int .u8 x0, .int .u8 x1, .int .u8 x2, .int .u8 x3]] w fun e w' => e = .returned (.bool true) ∧ Below w.heap.size w w' := by
  obtain ⟨A, hA, hAt⟩ := at_low n p hn
  obtain ⟨i0, hi, hz0, hz1, hz2⟩ := info_parts Try.infoU8
  have hl := Wc.bs_len hv
  have hxb := Wc.bs_bytes hv
  have hr := Wc.more_range 0 xs hxb
  obtain ⟨S, hS⟩ : ∃ S, S = Wc.more 0 xs := ⟨_, rfl⟩
  rw [← hS] at hr
  obtain ⟨W, hW⟩ : ∃ W, W = w.alloc (.cells #[.int .u8 x0, .int .u8 x1, .int .u8 x2, .int .u8 x3] 31) := ⟨_, rfl⟩
  have HV := Wc.hid (hv.alloc (.cells #[.int .u8 x0, .int .u8 x1, .int .u8 x2, .int .u8 x3] 31))
  rw [← hW] at HV
  have HW := Wc.hid hW
  have HS := Wc.hid hS
  clear hv hW hS
  go_enter Try.func5, Try.ntmps5
  go_wp2_with fail
  rw [← HW.out]
  refine (twin_ob _ xs _ HV.out hs).mono ?_
  rintro e w2 ⟨x, rfl, hx, hb2⟩
  have hb3 := hb2.alloc hb2.size (.cells #[.int .u8 0, .int .u8 0, .int .u8 0, .int .u8 0] 5)
  obtain ⟨y, w4, hrun, hy, hb4⟩ := Wc.append_run (P := Try.prog) (ty := 22) (ys := [0, 0, 0, 0]) Try.underlying22 hi hz0 hz1 hz2 (hx.keep ((Below.refl _ _).alloc (Nat.le_refl _) (.cells #[.int .u8 0, .int .u8 0, .int .u8 0, .int .u8 0] 5))) (Wc.Bs.lit w2 _ 5 4 _ rfl (by omega) rfl (by decide)) (.inr ⟨_, _, _, rfl⟩) (by simp; omega) hb3.size
  have hb4' := hb3.trans hb4
  clear hb2 hb3 hb4 hx
  go_wp2_with (at_builtin; refine Wc.wp_append hrun rfl rfl rfl rfl ?_)
  clear hrun
  refine (sum_any _ xs _ (HV.out.keep hb4')).mono ?_
  rintro e w5 ⟨rfl, rfl⟩
  rw [← HS.out]
  go_wp2_with fail
  have hly : (xs ++ [0, 0, 0, 0] : List Int).length = n + 4 := by simp [hl]
  obtain ⟨b, off, ny, cy, rfl, hny, hcy, hby⟩ : ∃ b off ny cy, y = .slice (some ⟨b, off, none⟩) ny cy ∧ ny = n + 4 ∧ b < w4.heap.size ∧ ∀ i, i < ny → w4.cell? ⟨b, off + i, none⟩ = some (.int .u8 ((xs ++ [0, 0, 0, 0]).getD i 0)) := by
    rcases hy.bs.open with ⟨h, -⟩ | ⟨b, off, ny, cy, rfl, _, h, _, _, _, _, h1, h2⟩
    · rw [h] at hly; simp at hly
    · exact ⟨b, off, ny, cy, rfl, by omega, h1, h2⟩
  subst hny
  have hput := put_row b off (n + 4) cy (xs ++ [0, 0, 0, 0]) n 4 S w4 (by decide) ((Wc.fitB_iff (by decide)).2 ⟨hr.1, by omega, by show S < 4294967296; omega⟩) (Wc.inB_iff.2 (by omega)) (by omega) hly hcy hby
  rw [Int.toNat_natCast, show (4 : Int).toNat = 4 from rfl, putL_end xs n S hl] at hput
  refine hput.mono ?_
  clear hput
  rintro e w6 ⟨g, rfl, hg, hrow, hb6⟩
  obtain ⟨C, hC⟩ : ∃ C, C = xs ++ Wc.enc 4 S := ⟨_, rfl⟩
  rw [← hC] at hrow
  have hCl : C.length = n + 4 := by rw [hC]; simp [Wc.enc_length, hl]
  have hCb : ∀ y ∈ C, 0 ≤ y ∧ y < 256 := by
    intro y hy'
    rw [hC] at hy'
    rcases List.mem_append.1 hy' with h | h
    · exact hxb y h
    · exact Wc.enc_bd _ _ y h
  have hCg : Wc.goodB C = true := by rw [hC, HS.out]; exact Wc.good_sealed xs hxb
  have hb6' := Wc.step hb4' (Nat.le_refl _) hb6
  have hgB : W.heap.size ≤ g := Nat.le_trans hb4'.size hg
  have HR := Wc.hid hrow
  have HCL := Wc.hid hCl
  have HCG := Wc.hid hCg
  clear hrow hCl hCg hC hb6 hb4' hg hby hy hly
  go_wp2_with fail
  refine (good_any _ C _ (Wc.Bs.row HCL.out (by omega) hCb HR.out)).mono ?_
  rintro e w7 ⟨rfl, rfl⟩
  rw [HCG.out]
  go_wp2_with fail
  obtain ⟨zs, hzs⟩ : ∃ zs, zs = [x0, x1, x2, x3] := ⟨_, rfl⟩
  have hzl : zs.length = 4 := by rw [hzs]; rfl
  rw [← hzs] at hb
  have hWs : w.heap.size < W.heap.size := by rw [HW.out]; simp
  have hWc : ∀ k, k < 4 → W.cell? ⟨w.heap.size, k, none⟩ = some (.int .u8 (zs.getD k 0)) := by
    intro k hk
    rw [HW.out, World.cell?_alloc_mark, hzs]
    rcases k with _ | _ | _ | _ | k
    · rfl
    · rfl
    · rfl
    · rfl
    · omega
  have HZL := Wc.hid hzl
  clear hzs hzl
  go_loopw [9, 10] (fun c i wr => ∃ k : Nat, k ≤ 4 ∧ i = .int .i64 k ∧ c = .bool (chgB zs k) ∧ Hid (wr.rowIs g 5 (n + 4) (fun j => .int .u8 (chg C zs A k j))) ∧ Below W.heap.size W wr) (fun _ i _ => 4 - (intOf i).toNat)
  case atStart => exact ⟨0, by omega, rfl, rfl, Wc.hid (HR.out.congr fun j _ => by rw [chg_zero]), hb6'⟩
  case round =>
    obtain ⟨k, hk, rfl, rfl, HRR, hbr⟩ := hrel
    by_cases hlt : k < 4
    · have hcc := HRR.out.cell (i := A + k) (by omega)
      have hfz := HRR.out.frozen (A + k)
      rw [chg_old] at hcc
      have hza := (hbr.cell (p := ⟨w.heap.size, k, none⟩) hWs).trans (hWc k hlt)
      have bu := hCb (C.getD (A + k) 0) (by have := HCL.out; rw [List.getD_eq_getElem?_getD, List.getElem?_eq_getElem (by omega)]; simp)
      have bv := hb (zs.getD k 0) (by have := HZL.out; rw [List.getD_eq_getElem?_getD, List.getElem?_eq_getElem (by omega)]; simp)
      have hxo := u8_xor _ _ bu.1 bu.2 bv.1 bv.2
      have HB := Wc.hid (chgB_succ zs k (by rw [HZL.out]; omega))
      obtain ⟨q, hq⟩ : ∃ q : Int, q = (((C.getD (A + k) 0).toNat ^^^ (zs.getD k 0).toNat : Nat) : Int) := ⟨_, rfl⟩
      have HQ := Wc.hid hq
      rw [← hq] at hxo
      clear hq bu bv
      obtain ⟨u, hu⟩ : ∃ u, u = C.getD (A + k) 0 := ⟨_, rfl⟩
      obtain ⟨v, hv⟩ : ∃ v, v = zs.getD k 0 := ⟨_, rfl⟩
      rw [← hu] at hcc hxo
      rw [← hv] at hza hxo
      rw [← hv] at HB
      clear hu hv
      cases hch : chgB zs k with
      | true =>
        go_wp2
        go_region
        go_wp2
        go_roundw
        case rel => exact ⟨k + 1, by omega, by go_num, by rw [HB.out, hch]; rfl, Wc.hid (chg_row HQ.out HRR.out), show_drew (hbr.setCell hgB _)⟩
        case measure => simp [intOf]; omega
      | false =>
        have hza2 := ((hbr.setCell (p := ⟨g, A + k, none⟩) hgB (.int .u8 q)).cell (p := ⟨w.heap.size, k, none⟩) hWs).trans ((hWc k hlt).trans ((hWc k hlt).symm.trans ((hbr.cell (p := ⟨w.heap.size, k, none⟩) hWs).symm.trans hza)))
        go_wp2
        go_region
        go_wp2
        go_roundw
        case rel => exact ⟨k + 1, by omega, by go_num, by rw [HB.out, hch]; rfl, Wc.hid (chg_row HQ.out HRR.out), show_drew (hbr.setCell hgB _)⟩
        case measure => simp [intOf]; omega
    · obtain rfl : k = 4 := by omega
      have hbz : ∀ y ∈ Wc.runAt A (n - A) zs, 0 ≤ y ∧ y < 256 := by
        intro y hy
        unfold Wc.runAt at hy
        rcases List.mem_append.1 hy with h | h
        · have := List.eq_of_mem_replicate h; omega
        · rcases List.mem_append.1 h with h | h
          · exact hb y h
          · have := List.eq_of_mem_replicate h; omega
      have hzb := Wc.zipx_bd C _ hCb hbz
      have hlen : (Wc.zipx C (Wc.runAt A (n - A) zs)).length = n + 4 := by
        have := HCL.out; have := HZL.out
        simp [Wc.zipx, Wc.runAt]; omega
      have HF : Hid (Wc.Bs wr (.slice (some ⟨g, 0, none⟩) (n + 4) (n + 4)) (Wc.zipx C (Wc.runAt A (n - A) zs))) := Wc.hid (Wc.Bs.row hlen (by omega) hzb (HRR.out.congr fun j hj => by rw [chg_end C zs A n HCL.out HZL.out hA hCb j hj]))
      have hgc := Wc.good_changed C A (n - A) zs hCb HZL.out hb (by have := HCL.out; omega) HCG.out hzb
      rw [← chgB_all zs, HZL.out] at hgc
      have HGB : Hid (Wc.goodB (Wc.zipx C (Wc.runAt A (n - A) zs)) = !(chgB zs 4)) := Wc.hid (by
        cases h : chgB zs 4 with
        | false => exact hgc.2 h
        | true =>
          cases h' : Wc.goodB (Wc.zipx C (Wc.runAt A (n - A) zs)) with
          | false => rfl
          | true => have := hgc.1 h'; rw [h] at this; cases this)
      clear hgc hlen hzb hbz
      go_wp2_with fail
      refine (good_any _ _ _ HF.out).mono ?_
      rintro e w7 ⟨rfl, rfl⟩
      rw [HGB.out]
      generalize chgB zs 4 = c
      go_wp2_with fail
      refine (wakes_any _).mono ?_
      rintro e w8 ⟨rfl, hb8⟩
      go_wp2_with fail
      go_ret
      have hfin : Below w.heap.size w W := by rw [HW.out]; exact (Below.refl _ _).alloc (Nat.le_refl _) _
      exact ⟨rfl, Wc.step (hfin.trans (hbr.mono (by omega))) (Nat.le_refl _) hb8⟩
#print axioms crcGood_any
end Go.Proofs.Ytdfhickpgfjahaa
