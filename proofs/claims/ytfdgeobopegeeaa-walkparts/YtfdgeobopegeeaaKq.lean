/-
  WalkParts: an image whose blocks that nothing reaches are written over.
-/
import Derived.Test.YtfdgeobopegeeaaKp
import Derived.Test.YtfdgeobopegeeaaKg
namespace Wj
/-- Is a byte written over, once the blocks below i, and k bytes of block i, have been looked at? -/
def spB (T : List Int) (i k j : Nat) : Bool := decide (2 ≤ j / 64) && decide (T.count ((j / 64 : Nat) : Int) = 0) && (decide (j / 64 < i) || (decide (j / 64 = i) && decide (j % 64 < k)))
def spo (xs T : List Int) (f : Nat → Int) (i k : Nat) : List Int := (List.range xs.length).map fun j => if spB T i k j = true then f (j % 64) else xs.getD j 0
variable {xs T : List Int} {f : Nat → Int}
theorem spo_length (i k : Nat) : (spo xs T f i k).length = xs.length := by simp [spo]
theorem spo_get {i k j : Nat} (h : j < xs.length) : (spo xs T f i k)[j]'(by rw [spo_length]; exact h) = if spB T i k j = true then f (j % 64) else xs.getD j 0 := by simp [spo]
theorem spo_congr {i k i' k' : Nat} (h : ∀ j, j < xs.length → spB T i k j = spB T i' k' j) : spo xs T f i k = spo xs T f i' k' := by
  unfold spo
  refine List.map_congr_left fun j hj => ?_
  rw [h j (List.mem_range.1 hj)]
theorem spB_iff {i k j : Nat} : spB T i k j = true ↔ (2 ≤ j / 64 ∧ T.count ((j / 64 : Nat) : Int) = 0) ∧ (j / 64 < i ∨ j / 64 = i ∧ j % 64 < k) := by
  simp [spB]
theorem spo_start : spo xs T f 2 0 = xs := by
  apply List.ext_getElem (spo_length _ _)
  intro j h1 h2
  rw [spo_get h2, if_neg (fun h => by have := spB_iff.1 h; omega)]
  simp [h2]
theorem spo_full (i : Nat) : spo xs T f i 64 = spo xs T f (i + 1) 0 := by
  refine spo_congr fun j _ => ?_
  rw [Bool.eq_iff_iff, spB_iff, spB_iff]
  constructor
  · rintro ⟨h1, h2⟩; exact ⟨h1, by omega⟩
  · rintro ⟨h1, h2⟩; exact ⟨h1, by omega⟩
theorem spo_skip {i : Nat} (h : 0 < T.count (i : Int)) : spo xs T f i 0 = spo xs T f (i + 1) 0 := by
  refine spo_congr fun j _ => ?_
  rw [Bool.eq_iff_iff, spB_iff, spB_iff]
  constructor
  · rintro ⟨h1, h2⟩; exact ⟨h1, by omega⟩
  · rintro ⟨h1, h2⟩
    refine ⟨h1, ?_⟩
    by_cases e : j / 64 = i
    · rw [e] at h1; omega
    · omega
theorem spo_step {i k : Nat} (h2 : 2 ≤ i) (h0 : T.count (i : Int) = 0) (hk : k < 64) : spo xs T f i (k + 1) = (spo xs T f i k).set (i * 64 + k) (f k) := by
  apply List.ext_getElem (by rw [List.length_set, spo_length, spo_length])
  intro j h1 h3
  have hj : j < xs.length := by rw [spo_length] at h1; exact h1
  rw [List.getElem_set, spo_get hj, spo_get hj]
  by_cases e : i * 64 + k = j
  · have e1 : j / 64 = i := by omega
    have e2 : j % 64 = k := by omega
    rw [if_pos e, if_pos (spB_iff.2 ⟨⟨by omega, by rw [e1]; exact h0⟩, by omega⟩), e2]
  · rw [if_neg e]
    have : spB T i (k + 1) j = spB T i k j := by
      rw [Bool.eq_iff_iff, spB_iff, spB_iff]
      constructor
      · rintro ⟨a, b⟩; exact ⟨a, by omega⟩
      · rintro ⟨a, b⟩; exact ⟨a, by omega⟩
    rw [this]
theorem spo_bytes (hx : ∀ x ∈ xs, 0 ≤ x ∧ x < 256) (hf : ∀ k, 0 ≤ f k ∧ f k < 256) (i k : Nat) : ∀ x ∈ spo xs T f i k, 0 ≤ x ∧ x < 256 := by
  intro x h
  obtain ⟨j, hj, rfl⟩ := List.mem_map.1 h
  have hjl := List.mem_range.1 hj
  split
  · exact hf _
  · rw [List.getD_eq_getElem?_getD, List.getElem?_eq_getElem hjl]
    exact hx _ (List.getElem_mem hjl)
theorem spo_keep {i k q : Nat} (hq : (q : Int) ∈ T) : ((spo xs T f i k).drop (q * 64)).take 64 = (xs.drop (q * 64)).take 64 := by
  apply List.ext_getElem (by simp [spo_length])
  intro j h1 h2
  simp only [List.length_take, List.length_drop, spo_length] at h1
  simp only [List.getElem_take, List.getElem_drop]
  rw [spo_get (by omega), if_neg (fun h => ?_)]
  · simp [show q * 64 + j < xs.length by omega]
  · have h3 := (spB_iff.1 h).1.2
    have e : (q * 64 + j) / 64 = q := by omega
    rw [e] at h3
    exact List.count_eq_zero.1 h3 hq
end Wj
namespace Go.Proofs.Ytfdgeobopegeeaa
open Go.RowKit

theorem ob_set {base g n k i : Nat} {w : World} {xs : List Int} (h : Wc.Ob 5 base w (.slice (some ⟨g, 0, none⟩) n k) xs) {z : Int} (hz : 0 ≤ z ∧ z < 256) : Wc.Ob 5 base (w.setCell ⟨g, i, none⟩ (.int .u8 z)) (.slice (some ⟨g, 0, none⟩) n k) (xs.set i z) := by
  obtain ⟨⟨h1, h2⟩, h3, h4⟩ := h
  rcases h2 with ⟨hn, _⟩ | ⟨g', cap, cur, hv, hbg, hg, c1, c2, c3, c4⟩
  · cases hn
  · injection hv with e1 e2 e3
    injection e1 with e1
    injection e1 with e1
    subst e1 e2 e3
    refine ⟨⟨by simp, .inr ⟨g, k, cur.setIfInBounds i (.int .u8 z), by simp, hbg, heap_setCell_same w g i cur 5 _ hg, by simpa using c1, c2, by simpa using c3, ?_⟩⟩, by simpa using h3, ?_⟩
    · rw [List.length_set, Array.toList_setIfInBounds, List.take_set, c4, List.map_set]
    · intro x hx
      rcases List.mem_or_eq_of_mem_set hx with h | h
      · exact h4 x h
      · rw [h]; exact hz

theorem ob_frozen {base g n k i : Nat} {w : World} {xs : List Int} (h : Wc.Ob 5 base w (.slice (some ⟨g, 0, none⟩) n k) xs) : w.frozen? ⟨g, i, none⟩ = false := by
  rcases h.1.2 with ⟨hn, _⟩ | ⟨g', cap, cur, hv, hbg, hg, _⟩
  · cases hn
  · injection hv with e1
    injection e1 with e1
    injection e1 with e1
    subst e1
    simp [World.frozen?, hg]

theorem ob_low {base g n k : Nat} {w : World} {xs : List Int} (h : Wc.Ob 5 base w (.slice (some ⟨g, 0, none⟩) n k) xs) : base ≤ g := by
  rcases h.1.2 with ⟨hn, _⟩ | ⟨g', cap, cur, hv, hbg, hg, _⟩
  · cases hn
  · injection hv with e1
    injection e1 with e1
    injection e1 with e1
    subst e1
    exact hbg

set_option maxRecDepth 100000 in
set_option maxHeartbeats 3200000 in
theorem walkParts_heavy (ai : Option Addr) (ni ci : Nat) (c : Int) (w : World) (hh : 19200 < ni) :
    Calls Try.prog 4 #[.slice ai ni ci, .int .u8 c] w fun e w' => e = .returned (.bool true) ∧ Below w.heap.size w w' := by
  have hv : Wd.heavyB ni [] = true := by rw [hvy_nil]; simp; omega
  go_enter Try.func4, Try.ntmps4
  go_wp2_with fail
  refine (heavy_raw _ _ _ _ _ _ [] _ (rw_nil _)).mono ?_
  rintro e w1 ⟨rfl, rfl⟩
  rw [hv]
  go_wp2_with fail
  go_ret
  exact ⟨rfl, Below.refl _ _⟩

set_option maxRecDepth 100000 in
set_option maxHeartbeats 3200000 in
theorem walkParts_none (ai : Option Addr) (ni ci : Nat) (xs : List Int) (c : Int) (w : World) (hv : Wc.Bs w (.slice ai ni ci) xs) (hn : ni ≤ 19200) (hE : ¬ opnE xs = 0) :
    Calls Try.prog 4 #[.slice ai ni ci, .int .u8 c] w fun e w' => e = .returned (.bool true) ∧ Below w.heap.size w w' := by
  have hh : Wd.heavyB ni [] = false := by rw [hvy_nil]; simp; omega
  have hS : opnS xs = Ws.s0 := by unfold opnS; rw [if_neg hE]
  have hT : opnT xs = 0 := by unfold opnT; rw [if_neg hE]
  obtain ⟨E, hEE⟩ : ∃ E, opnE xs = E := ⟨_, rfl⟩
  have HNE := Wc.hid hE
  rw [hEE] at hE
  have hz : (E != 0) = true := by simpa using hE
  have HV := Wc.hid hv
  have HS := Wc.hid hS
  have HT := Wc.hid hT
  have HE := Wc.hid hEE
  clear hv hS hT hEE hE
  go_enter Try.func4, Try.ntmps4
  go_wp2_with fail
  refine (heavy_raw _ _ _ _ _ _ [] _ (rw_nil _)).mono ?_
  rintro e w1 ⟨rfl, rfl⟩
  rw [hh]
  go_wp2_with fail
  refine (counts_any _ xs _ HV.out).mono ?_
  rintro e w2 ⟨hb2, -, hy⟩
  obtain rfl := hy HNE.out
  rw [HE.out]
  have HB2 := Wc.hid hb2
  have HV2 := Wc.hid (HV.out.keep hb2)
  clear hy hb2
  go_wp2_with fail
  refine (oopen_any _ xs _ HV2.out).mono ?_
  rintro e w3 ⟨a, n, c3, rfl, hR, hb3⟩
  rw [HE.out, HS.out, HT.out]
  have bA : Below w3.heap.size w3 (w3.alloc (.cells #[.int .i64 Ws.s0.gen, .int .i64 Ws.s0.blocks, .int .i64 Ws.s0.root, .int .i64 Ws.s0.size, .int .i64 Ws.s0.first, .int .i64 0, .slice a n c3] 36)) := (Below.refl _ _).alloc (Nat.le_refl _) _
  have HB := Wc.hid (Wc.step (Wc.step HB2.out (Nat.le_refl _) hb3) (Nat.le_refl _) bA)
  clear hR hb3 bA
  unfold stv
  go_wp2_with fail
  refine (wakes_any _).mono ?_
  rintro e w4 ⟨rfl, hb4⟩
  have HB4 := Wc.hid (Wc.step HB.out (Nat.le_refl _) hb4)
  clear hb4
  go_wp2_with fail
  go_ret
  exact ⟨rfl, HB4.out⟩

/-- The bytes that are written. -/
def Fc (c : Int) (k : Nat) : Int := (c + (k : Int)) % 256
theorem fc_bd (c : Int) (k : Nat) : 0 ≤ Fc c k ∧ Fc c k < 256 := by
  unfold Fc
  omega

set_option maxRecDepth 100000 in
set_option maxHeartbeats 12800000 in
theorem walkParts_some (ai : Option Addr) (ni ci : Nat) (xs : List Int) (c : Int) (w : World) (hv : Wc.Bs w (.slice ai ni ci) xs) (hn : ni ≤ 19200) (hE : opnE xs = 0) :
    Calls Try.prog 4 #[.slice ai ni ci, .int .u8 c] w fun e w' => e = .returned (.bool true) ∧ Below w.heap.size w w' := by
  have hh : Wd.heavyB ni [] = false := by rw [hvy_nil]; simp; omega
  have hI := img_of hE
  have HI := Wc.hid hI
  obtain ⟨m, hm⟩ : ∃ m, xs.length / 64 = m := ⟨_, rfl⟩
  have hd := Wd.devB_iff.1 hI.dev
  have hxl := Wc.bs_len hv
  have hm4 : 4 ≤ m ∧ m ≤ 4096 := by omega
  have HNI : Hid (ni = m * 64) := Wc.hid (by omega)
  have HM := Wc.hid hm
  have HE := Wc.hid hE
  have HV := Wc.hid hv
  have HXB := Wc.hid (Wc.bs_bytes hv)
  have HXL := Wc.hid hxl
  obtain ⟨s, hs⟩ : ∃ s, opnS xs = s := ⟨_, rfl⟩
  obtain ⟨t, ht⟩ : ∃ t, opnT xs = t := ⟨_, rfl⟩
  have HS := Wc.hid hs
  have HT := Wc.hid ht
  obtain ⟨T, hTT⟩ : ∃ T, cnt xs = T := ⟨_, rfl⟩
  have HTT := Wc.hid hTT
  have hsh : Wc.Shaped (.slice ai ni ci) := by
    rcases hv.open with ⟨hnil, -⟩ | ⟨b, off, n', cap, hsl, -⟩
    · rw [hnil] at hxl; simp at hxl; have := HNI.out; omega
    · cases hsl; exact .inr ⟨_, _, _, rfl⟩
  have HSH := Wc.hid hsh
  clear hv hE hd hm hs ht hI hTT hsh hxl
  go_enter Try.func4, Try.ntmps4
  go_wp2_with fail
  refine (heavy_raw _ _ _ _ _ _ [] _ (rw_nil _)).mono ?_
  rintro e w1 ⟨rfl, rfl⟩
  rw [hh]
  go_wp2_with fail
  refine (counts_any _ xs _ HV.out).mono ?_
  rintro e w2 ⟨hb2, hy, -⟩
  obtain ⟨gc, rfl, hgc, hC⟩ := hy HE.out
  rw [HM.out] at hC ⊢
  rw [HTT.out] at hC
  have HB2 := Wc.hid hb2
  have HC2 := Wc.hid hC
  have HV2 := Wc.hid (HV.out.keep hb2)
  clear hy hb2 hC hgc
  go_wp2_with fail
  refine (oopen_any _ xs _ HV2.out).mono ?_
  rintro e w3 ⟨a, n, c3, rfl, hR, hb3⟩
  rw [HE.out, HS.out, HT.out]
  have bA : Below w3.heap.size w3 (w3.alloc (.cells #[.int .i64 s.gen, .int .i64 s.blocks, .int .i64 s.root, .int .i64 s.size, .int .i64 s.first, .int .i64 t, .slice a n c3] 36)) := (Below.refl _ _).alloc (Nat.le_refl _) _
  have HB3 := Wc.hid (Wc.step (Wc.step HB2.out (Nat.le_refl _) hb3) (Nat.le_refl _) bA)
  have HC3 := Wc.hid (row_keep (row_keep HC2.out hb3) bA)
  have HV3 := Wc.hid ((HV2.out.keep hb3).keep bA)
  have HL3 := Wc.hid (hR.keep bA)
  have Z3 := Wc.hid (Zh.new w3 s t (.slice a n c3))
  have ⟨z0, z1, z2, z3, z4, z5, z6⟩ := Z3.out.zc
  clear hR hb3 bA
  unfold stv
  go_wp2_with fail
  clear z0 z1 z2 z3 z4 z5 z6
  obtain ⟨W3, hW3⟩ : ∃ W, w3.alloc (.cells #[.int .i64 s.gen, .int .i64 s.blocks, .int .i64 s.root, .int .i64 s.size, .int .i64 s.first, .int .i64 t, .slice a n c3] 36) = W := ⟨_, rfl⟩
  rw [hW3] at HB3 HC3 HV3 HL3 Z3 ⊢
  clear hW3
  refine (twin_ob _ xs _ HV3.out HSH.out).mono ?_
  rintro e w4 ⟨x4, rfl, hO4, hb4⟩
  have hxl4 : 0 < xs.length := by rw [HXL.out]; have := HNI.out; omega
  obtain ⟨g, cx, rfl⟩ := Wc.ob_form hO4 hxl4
  rw [HXL.out] at hO4 ⊢
  have hg := ob_low hO4
  have B4 := Wc.hid hb4
  have HO4 : Hid (Wc.Ob 5 W3.heap.size w4 (.slice (some ⟨g, 0, none⟩) ni cx) (Wj.spo xs T (Fc c) 2 0)) := Wc.hid (by rw [Wj.spo_start]; exact hO4)
  have HGB := Wc.hid hg
  have hu2 : Wj.usedN T 2 = 2 := by
    have h0 : (0 : Int) ∈ T := by rw [← HTT.out]; exact (cnt_mem HI.out 0).2 (.inl rfl)
    have h1 : (1 : Int) ∈ T := by rw [← HTT.out]; exact (cnt_mem HI.out 1).2 (.inr (.inl rfl))
    rw [Wj.usedN_succ, Wj.usedN_succ, if_pos (show 0 < T.count ((0 : Nat) : Int) from List.count_pos_iff.2 h0), if_pos (show 0 < T.count ((1 : Nat) : Int) from List.count_pos_iff.2 h1)]
    rfl
  have HU2 := Wc.hid hu2
  clear hO4 hb4 hxl4 hg hu2
  go_wp2_with fail
  go_loopw [10, 11] (fun nn i wr => ∃ k z : Nat, nn = .int .i64 z ∧ i = .int .i64 k ∧ 2 ≤ k ∧ k ≤ m ∧ Hid (Wj.usedN T k = z + 2) ∧ Hid (Wc.Ob 5 W3.heap.size wr (.slice (some ⟨g, 0, none⟩) ni cx) (Wj.spo xs T (Fc c) k 0)) ∧ Hid (Below W3.heap.size W3 wr)) (fun _ i _ => m - (intOf i).toNat)
  case atStart => exact ⟨2, 0, rfl, rfl, by omega, by omega, HU2, HO4, B4⟩
  case round =>
    obtain ⟨k, z, rfl, rfl, hk2, hk, UK, OK, BK⟩ := hrel
    by_cases hlt : k < m
    · have h64 : k * 64 + 64 ≤ ni := by have := HNI.out; omega
      have h64b : (k : Int) * 64 < (ni : Int) := by omega
      have hc1 := World.rowIs.cell (row_keep HC3.out BK.out) hlt
      obtain ⟨y, hy⟩ : ∃ y, T.count (k : Int) = y := ⟨_, rfl⟩
      rw [hy] at hc1
      have HY := Wc.hid hy
      have hzle := Wj.usedN_le T k
      have hz2 : z ≤ 4096 := by have := UK.out; omega
      have HUS := Wc.hid (Wj.usedN_succ T k)
      clear hy hzle
      by_cases hy0 : 0 < y
      · have UK1 : Hid (Wj.usedN T (k + 1) = z + 1 + 2) := Wc.hid (by rw [HUS.out, HY.out, if_pos hy0, UK.out])
        have OK1 : Hid (Wc.Ob 5 W3.heap.size wr (.slice (some ⟨g, 0, none⟩) ni cx) (Wj.spo xs T (Fc c) (k + 1) 0)) := Wc.hid (by rw [← Wj.spo_skip (by rw [HY.out]; exact hy0)]; exact OK.out)
        go_wp2_with fail
        go_roundw
        case rel => exact ⟨k + 1, z + 1, by go_num, by go_num, by omega, by omega, UK1, OK1, BK⟩
        case measure => simp [intOf]; omega
      · obtain rfl : y = 0 := by omega
        have UK1 : Hid (Wj.usedN T (k + 1) = z + 2) := Wc.hid (by rw [HUS.out, HY.out, if_neg hy0, UK.out])
        go_wp2_with fail
        go_loopw [12] (fun i wr => ∃ j : Nat, i = .int .i64 j ∧ j ≤ 64 ∧ Hid (Wc.Ob 5 W3.heap.size wr (.slice (some ⟨g, 0, none⟩) ni cx) (Wj.spo xs T (Fc c) k j)) ∧ Hid (Below W3.heap.size W3 wr)) (fun i _ => 64 - (intOf i).toNat)
        case atStart => exact ⟨0, rfl, by omega, OK, BK⟩
        case round =>
          obtain ⟨j, rfl, hj, OJ, BJ⟩ := hrel
          by_cases hjl : j < 64
          · have hix : k * 64 + j < ni := by omega
            have q1 := (Wc.bs_cells OJ.out.bs (by omega)).2 (k * 64 + j) hix
            have q2 := ob_frozen (i := k * 64 + j) OJ.out
            have OJ1 : Hid (Wc.Ob 5 W3.heap.size (wr.setCell ⟨g, k * 64 + j, none⟩ (.int .u8 ((c + (j : Int)) % 256))) (.slice (some ⟨g, 0, none⟩) ni cx) (Wj.spo xs T (Fc c) k (j + 1))) := Wc.hid (by
              rw [Wj.spo_step hk2 HY.out hjl]
              exact ob_set OJ.out (fc_bd c j))
            have BJ1 := Wc.hid (BJ.out.setCell (p := ⟨g, k * 64 + j, none⟩) HGB.out (.int .u8 ((c + (j : Int)) % 256)))
            rw [Nat.zero_add] at q1
            go_wp2_with fail
            go_roundw
            case rel => exact ⟨j + 1, by go_num, by omega, OJ1, BJ1⟩
            case measure => simp [intOf]; omega
          · obtain rfl : j = 64 := by omega
            have OK1 : Hid (Wc.Ob 5 W3.heap.size wr (.slice (some ⟨g, 0, none⟩) ni cx) (Wj.spo xs T (Fc c) (k + 1) 0)) := Wc.hid (by rw [← Wj.spo_full]; exact OJ.out)
            go_wp2_with fail
            go_roundw
            case rel => exact ⟨k + 1, z, by go_num, by go_num, by omega, by omega, UK1, OK1, BJ⟩
            case measure => simp [intOf]; omega
    · obtain rfl : k = m := by omega
      obtain ⟨ys, hys⟩ : ∃ ys, Wj.spo xs T (Fc c) k 0 = ys := ⟨_, rfl⟩
      have hsame := same_img (ys := ys) HE.out (by rw [← hys, Wj.spo_length]) (fun q hq hmem => by
        rw [← hys]
        exact Wj.spo_keep (by rw [← HTT.out]; exact hmem))
      have hyl : ys.length = xs.length := by rw [← hys, Wj.spo_length]
      rw [hys] at OK
      obtain ⟨s1, s2, s3, s4, s5⟩ := hsame
      rw [HS.out] at s2
      rw [HT.out] at s3
      rw [HTT.out] at s5
      have S1 := Wc.hid s1
      have S2 := Wc.hid s2
      have S3 := Wc.hid s3
      have S4 := Wc.hid s4
      have S5 := Wc.hid s5
      have S6 : Hid (ys.length / 64 = k) := Wc.hid (by rw [hyl]; exact HM.out)
      have hzk : z ≤ 4096 := by have := UK.out; have := Wj.usedN_le T k; omega
      clear s1 s2 s3 s4 s5 hys hyl
      go_wp2_with fail
      refine (oopen_any _ ys _ OK.out.bs).mono ?_
      rintro e w5 ⟨a5, n5, c5, rfl, hR5, hb5⟩
      rw [S1.out, S2.out, S3.out]
      rw [S4.out] at hR5
      have bA := (Below.refl w5.heap.size w5).alloc (Nat.le_refl _) (.cells #[.int .i64 s.gen, .int .i64 s.blocks, .int .i64 s.root, .int .i64 s.size, .int .i64 s.first, .int .i64 t, .slice a5 n5 c5] 36)
      have B5 := Wc.hid (BK.out.trans ((Wc.step hb5 (Nat.le_refl _) bA).mono BK.out.size))
      have OB5 := Wc.hid ((OK.out.keep hb5).keep bA)
      have R5 := Wc.hid (hR5.keep bA)
      have Z5 := Wc.hid (Zh.new w5 s t (.slice a5 n5 c5))
      clear hR5 hb5 bA
      unfold stv
      go_wp2_with fail
      obtain ⟨W5, hW5⟩ : ∃ W, w5.alloc (.cells #[.int .i64 s.gen, .int .i64 s.blocks, .int .i64 s.root, .int .i64 s.size, .int .i64 s.first, .int .i64 t, .slice a5 n5 c5] 36) = W := ⟨_, rfl⟩
      rw [hW5] at B5 OB5 R5 Z5 ⊢
      clear hW5
      refine (counts_any _ ys _ OB5.out.bs).mono ?_
      rintro e w6 ⟨hb6, hy6, -⟩
      obtain ⟨g6, rfl, -, hC6⟩ := hy6 S1.out
      rw [S6.out] at hC6 ⊢
      rw [S5.out] at hC6
      have B6 := Wc.hid (B5.out.trans (hb6.mono B5.out.size))
      have OB6 := Wc.hid (OB5.out.keep hb6)
      have R6 := Wc.hid (R5.out.keep hb6)
      have Z6 := Wc.hid (Z5.out.keep hb6)
      have C6 := Wc.hid hC6
      clear hb6 hy6 hC6
      go_wp2_with fail
      refine (used_any _ ys _ OB6.out.bs).mono ?_
      rintro e w7 ⟨hb7, hy7, -⟩
      obtain rfl := hy7 S1.out
      rw [S5.out, S6.out, UK.out]
      have B7 := Wc.hid (B6.out.trans (hb7.mono B6.out.size))
      have R7 := Wc.hid (R6.out.keep hb7)
      have Z7 := Wc.hid (Z6.out.keep hb7)
      have C7 := Wc.hid (row_keep C6.out hb7)
      have L7 := Wc.hid (HL3.out.keep B7.out)
      have Y7 := Wc.hid (Z3.out.keep B7.out)
      have ⟨z0, z1, z2, z3, z4, z5, z6⟩ := Z7.out.zc
      have ⟨y0, y1, y2, y3, y4, y5, y6⟩ := Y7.out.zc
      clear hb7 hy7
      go_wp2_with fail
      refine (kstate_any s s t t a a5 n c3 n5 c5 (opnL xs) (opnL xs) _ L7.out R7.out).mono ?_
      rintro e w8 ⟨rfl, hb8⟩
      rw [show stEq s s t t (opnL xs) (opnL xs) = true from stEq_iff.2 ⟨rfl, rfl, rfl⟩]
      have B8 := Wc.hid (B7.out.trans (hb8.mono B7.out.size))
      have C8 := Wc.hid (row_keep C7.out hb8)
      clear z0 z1 z2 z3 z4 z5 z6 y0 y1 y2 y3 y4 y5 y6 hb8
      go_wp2_with fail
      refine (ints_any _ _ _ _ _ (cn_in (row_keep HC3.out B8.out) (by omega)) (cn_in C8.out (by omega))).mono ?_
      rintro e w9 ⟨rfl, hb9⟩
      rw [beq_self_eq_true]
      have B9 := Wc.hid (B8.out.trans (hb9.mono B8.out.size))
      clear hb9
      have hsum : wrap64 ((z : Int) + 2) = ((z + 2 : Nat) : Int) := by unfold wrap64; omega
      go_wp2_with fail
      refine (wakes_any _).mono ?_
      rintro e w10 ⟨rfl, hb10⟩
      have B10 := Wc.hid (HB3.out.trans ((B9.out.trans (hb10.mono B9.out.size)).mono HB3.out.size))
      clear hb10
      go_wp2_with fail
      go_ret
      exact ⟨rfl, B10.out⟩
end Go.Proofs.Ytfdgeobopegeeaa
