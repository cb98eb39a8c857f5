/-
  WalkReaches: what the statement's function returns.
-/
import Derived.Test.YtfdgeobopegeeaaKt
import Derived.Test.YtfdgeobopegeeaaKw
namespace Go.Proofs.Ytfdgeobopegeeaa
open Go.RowKit

theorem hvy_nil (n : Nat) : Wd.heavyB n [] = !decide (n ≤ 19200) := by simp [Wd.heavyB]
theorem rw_nil (w : World) : Wd.Raw w none 0 0 [] := ⟨rfl, Nat.le_refl _, by omega, fun h => by omega⟩

set_option maxRecDepth 100000 in
set_option maxHeartbeats 3200000 in
theorem walkReaches_heavy (ai : Option Addr) (ni ci : Nat) (w : World) (hh : 19200 < ni) :
    Calls Try.prog 6 #[.slice ai ni ci] w fun e w' => e = .returned (.bool true) ∧ Below w.heap.size w w' := by
  have hv : Wd.heavyB ni [] = true := by rw [hvy_nil]; simp; omega
  go_enter Try.func6, Try.ntmps6
  go_wp2_with fail
  refine (heavy_raw _ _ _ _ _ _ [] _ (rw_nil _)).mono ?_
  rintro e w1 ⟨rfl, rfl⟩
  rw [hv]
  go_wp2_with fail
  go_ret
  exact ⟨rfl, Below.refl _ _⟩

set_option maxRecDepth 100000 in
set_option maxHeartbeats 3200000 in
theorem walkReaches_none (ai : Option Addr) (ni ci : Nat) (xs : List Int) (w : World) (hv : Wc.Bs w (.slice ai ni ci) xs) (hn : ni ≤ 19200) (hE : ¬ opnE xs = 0) :
    Calls Try.prog 6 #[.slice ai ni ci] w fun e w' => e = .returned (.bool true) ∧ Below w.heap.size w w' := by
  have hh : Wd.heavyB ni [] = false := by rw [hvy_nil]; simp; omega
  have hS : opnS xs = Ws.s0 := by unfold opnS; rw [if_neg hE]
  have hT : opnT xs = 0 := by unfold opnT; rw [if_neg hE]
  obtain ⟨E, hEE⟩ : ∃ E, opnE xs = E := ⟨_, rfl⟩
  have HNE := Wc.hid hE
  rw [hEE] at hE
  have hz : (E != 0) = true := by simpa using hE
  have HV := Wc.hid hv
  have HS := Wc.hid hS
  have HT := Wc.hid hT
  have HE := Wc.hid hEE
  clear hv hS hT hEE hE
  go_enter Try.func6, Try.ntmps6
  go_wp2_with fail
  refine (heavy_raw _ _ _ _ _ _ [] _ (rw_nil _)).mono ?_
  rintro e w1 ⟨rfl, rfl⟩
  rw [hh]
  go_wp2_with fail
  refine (counts_any _ xs _ HV.out).mono ?_
  rintro e w2 ⟨hb2, -, hy⟩
  obtain rfl := hy HNE.out
  rw [HE.out]
  have HB2 := Wc.hid hb2
  have HV2 := Wc.hid (HV.out.keep hb2)
  clear hy hb2
  go_wp2_with fail
  refine (oopen_any _ xs _ HV2.out).mono ?_
  rintro e w3 ⟨a, n, c, rfl, hR, hb3⟩
  rw [HE.out, HS.out, HT.out]
  have bA : Below w3.heap.size w3 (w3.alloc (.cells #[.int .i64 Ws.s0.gen, .int .i64 Ws.s0.blocks, .int .i64 Ws.s0.root, .int .i64 Ws.s0.size, .int .i64 Ws.s0.first, .int .i64 0, .slice a n c] 36)) := (Below.refl _ _).alloc (Nat.le_refl _) _
  have HB := Wc.hid (Wc.step (Wc.step HB2.out (Nat.le_refl _) hb3) (Nat.le_refl _) bA)
  clear hR hb3 bA
  unfold stv
  go_wp2_with fail
  refine (wakes_any _).mono ?_
  rintro e w4 ⟨rfl, hb4⟩
  have HB4 := Wc.hid (Wc.step HB.out (Nat.le_refl _) hb4)
  clear hb4
  go_wp2_with fail
  go_ret
  exact ⟨rfl, HB4.out⟩

/-- What the statement marks up to the i-th tree (0: the head's). -/
def onS (xs : List Int) : Nat → List Int
  | 0 => [0, 1]
  | i + 1 => onS xs i ++ (if i = 0 then [] else [(opnB xs).getD (i - 1) 0]) ++ (Wt.treN xs ((Wi.trees (opnS xs) (opnL xs)).getD i (0, 0)).1 ++ Wt.treS xs ((Wi.trees (opnS xs) (opnL xs)).getD i (0, 0)).1)

theorem trees_zero (xs : List Int) : ((Wi.trees (opnS xs) (opnL xs)).getD 0 (0, 0)).1 = (opnS xs).root := rfl
theorem trees_succ (xs : List Int) {q : Nat} (h : q < (opnL xs).length) : ((Wi.trees (opnS xs) (opnL xs)).getD (q + 1) (0, 0)).1 = ((opnL xs).getD q Wr.r0).root := by
  unfold Wi.trees
  simp [List.getD_eq_getElem?_getD, h]
theorem trees_mem (xs : List Int) {k : Nat} (h : k ≤ (opnL xs).length) : (Wi.trees (opnS xs) (opnL xs)).getD k (0, 0) ∈ Wi.trees (opnS xs) (opnL xs) := by
  have hl : k < (Wi.trees (opnS xs) (opnL xs)).length := by unfold Wi.trees; simp; omega
  rw [List.getD_eq_getElem?_getD, List.getElem?_eq_getElem hl]
  exact List.getElem_mem hl
theorem Img.treE {xs : List Int} (H : Img xs) {t : Int × Int} (ht : t ∈ Wi.trees (opnS xs) (opnL xs)) : Wt.treE xs t.1 = 0 := by
  have hz := H.sz t ht
  unfold Wi.szB at hz
  rw [Bool.and_eq_true] at hz
  unfold Wt.treE
  rw [if_pos H.dev, if_pos hz.1]
theorem onS_zero (xs : List Int) : ∀ k, (0 : Int) ∈ onS xs k
  | 0 => by simp [onS]
  | k + 1 => by
    have := onS_zero xs k
    simp [onS, this]
theorem marks_zero {w : World} {g m : Nat} {l : List Int} (h : Marks w g m l) (h0 : (0 : Int) ∈ l) : Marks w g m (l ++ [0]) := by
  refine World.rowIs.congr h fun j _ => ?_
  by_cases e : (j : Int) ∈ l
  · simp [e]
  · have h2 : ¬ (j : Int) ∈ l ++ [0] := fun h => by
      rcases List.mem_append.1 h with h | h
      · exact e h
      · have e2 : (j : Int) = 0 := by simpa using h
        exact e (by rw [e2]; exact h0)
    rw [decide_eq_false e, decide_eq_false h2]
theorem onS_mem (xs : List Int) (q : Int) : ∀ k, q ∈ onS xs k ↔ (q = 0 ∨ q = 1) ∨ (∃ i, i + 1 < k ∧ q = (opnB xs).getD i 0) ∨ ∃ i, i < k ∧ (q ∈ Wt.treN xs ((Wi.trees (opnS xs) (opnL xs)).getD i (0, 0)).1 ∨ q ∈ Wt.treS xs ((Wi.trees (opnS xs) (opnL xs)).getD i (0, 0)).1)
  | 0 => by simp [onS]
  | k + 1 => by
    show q ∈ onS xs k ++ (if k = 0 then [] else [(opnB xs).getD (k - 1) 0]) ++ (_ ++ _) ↔ _
    rw [List.mem_append, List.mem_append, List.mem_append, onS_mem xs q k]
    constructor
    · rintro (((h | ⟨i, h1, h2⟩ | ⟨i, h1, h2⟩) | h) | h)
      · exact .inl h
      · exact .inr (.inl ⟨i, by omega, h2⟩)
      · exact .inr (.inr ⟨i, by omega, h2⟩)
      · by_cases e : k = 0
        · rw [if_pos e] at h; cases h
        · rw [if_neg e] at h
          exact .inr (.inl ⟨k - 1, by omega, by simpa using h⟩)
      · exact .inr (.inr ⟨k, by omega, h⟩)
    · rintro (h | ⟨i, h1, h2⟩ | ⟨i, h1, h2⟩)
      · exact .inl (.inl (.inl h))
      · by_cases e : i + 1 = k
        · refine .inl (.inr ?_)
          rw [if_neg (by omega), show k - 1 = i by omega]
          simpa using h2
        · exact .inl (.inl (.inr (.inl ⟨i, by omega, h2⟩)))
      · by_cases e : i = k
        · subst e; exact .inr h2
        · exact .inl (.inl (.inr (.inr ⟨i, by omega, h2⟩)))
theorem mem_getD_iff {α : Type} {l : List α} {x d : α} : x ∈ l ↔ ∃ i, i < l.length ∧ x = l.getD i d := by
  rw [List.mem_iff_getElem]
  constructor
  · rintro ⟨i, h, rfl⟩
    exact ⟨i, h, by simp [h]⟩
  · rintro ⟨i, h, rfl⟩
    exact ⟨i, h, by simp [h]⟩
theorem onS_all {xs : List Int} (H : Img xs) (q : Int) : q ∈ onS xs ((opnB xs).length + 1) ↔ q ∈ cnt xs := by
  have hl : (Wi.trees (opnS xs) (opnL xs)).length = (opnB xs).length + 1 := by unfold Wi.trees opnL; simp
  rw [onS_mem, cnt_mem H]
  have h1 : (∃ i, i + 1 < (opnB xs).length + 1 ∧ q = (opnB xs).getD i 0) ↔ q ∈ opnB xs := by
    rw [mem_getD_iff (d := (0 : Int))]
    exact ⟨fun ⟨i, a, b⟩ => ⟨i, by omega, b⟩, fun ⟨i, a, b⟩ => ⟨i, by omega, b⟩⟩
  rw [h1]
  constructor
  · rintro ((h | h) | h | ⟨i, hi, h⟩)
    · exact .inl h
    · exact .inr (.inl h)
    · exact .inr (.inr (.inl h))
    · have hm := trees_mem xs (k := i) (by unfold opnL; simp; omega)
      rcases h with h | h
      · exact .inr (.inr (.inr (.inl (List.mem_flatMap.2 ⟨_, hm, h⟩))))
      · by_cases h0 : q = 0
        · exact .inl h0
        · exact .inr (.inr (.inr (.inr (List.mem_flatMap.2 ⟨_, hm, ((H.tree hm).1 q).2 ⟨h, h0⟩⟩))))
  · rintro (h | h | h | h | h)
    · exact .inl (.inl h)
    · exact .inl (.inr h)
    · exact .inr (.inl h)
    · obtain ⟨t, ht, h⟩ := List.mem_flatMap.1 h
      obtain ⟨i, hi, rfl⟩ := (mem_getD_iff (d := ((0 : Int), (0 : Int)))).1 ht
      exact .inr (.inr ⟨i, by omega, .inl h⟩)
    · obtain ⟨t, ht, h⟩ := List.mem_flatMap.1 h
      have h2 := ((H.tree ht).1 q).1 h
      obtain ⟨i, hi, rfl⟩ := (mem_getD_iff (d := ((0 : Int), (0 : Int)))).1 ht
      exact .inr (.inr ⟨i, by omega, .inr h2.1⟩)
/-- What a tree tells lies on the device. -/
theorem tell_bounds (xs : List Int) (root : Int) (hd : Wd.devB xs.length = true) : ∀ y ∈ Wt.treN xs root ++ Wt.treS xs root, 0 ≤ y ∧ y < ((xs.length / 64 : Nat) : Int) := by
  intro y hy
  have := Wd.devB_iff.1 hd
  rcases List.mem_append.1 hy with h | h
  · have := Wi.treN_bounds xs root y h; omega
  · have := Wi.treS_bounds xs root y h; omega
theorem tell_len {xs : List Int} (H : Img xs) {t : Int × Int} (ht : t ∈ Wi.trees (opnS xs) (opnL xs)) : (Wt.treN xs t.1).length + (Wt.treS xs t.1).length ≤ 1600 := by
  have h1 := Wt.treS_len (H.treE ht)
  have h2 : (Wt.treN xs t.1).length ≤ 73 := by
    rcases (H.tree ht).2 with h | ⟨u, hm, -, hn, -⟩
    · rw [h.2.1]; simp
    · have := Wt.met_room xs 3 t.1 0 Wt.s0 u hm
      rw [Wi.s0_nodes, show Wt.room 3 = 73 by decide] at this
      rw [← hn]; simpa using this
  omega

set_option maxRecDepth 100000 in
set_option maxHeartbeats 12800000 in
theorem walkReaches_some (ai : Option Addr) (ni ci : Nat) (xs : List Int) (w : World) (hv : Wc.Bs w (.slice ai ni ci) xs) (hn : ni ≤ 19200) (hE : opnE xs = 0) :
    Calls Try.prog 6 #[.slice ai ni ci] w fun e w' => e = .returned (.bool true) ∧ Below w.heap.size w w' := by
  have hh : Wd.heavyB ni [] = false := by rw [hvy_nil]; simp; omega
  have hI := img_of hE
  have HI := Wc.hid hI
  obtain ⟨m, hm⟩ : ∃ m, xs.length / 64 = m := ⟨_, rfl⟩
  have hd := Wd.devB_iff.1 hI.dev
  have hm4 : 4 ≤ m ∧ m ≤ 4096 := by omega
  have HM := Wc.hid hm
  have HE := Wc.hid hE
  have HV := Wc.hid hv
  obtain ⟨hp, hS, hT, hr, -⟩ := opn_good hE
  rw [← hS] at hr
  have hrec := Wi.rec_some hI.dev hr
  have HR1 := Wc.hid hrec.1
  have HR2 := Wc.hid hrec.2.1
  have HR3 : Hid (Wi.recL xs (opnS xs).first = opnL xs) := Wc.hid hrec.2.2
  obtain ⟨s, hs⟩ : ∃ s, opnS xs = s := ⟨_, rfl⟩
  obtain ⟨t, ht⟩ : ∃ t, opnT xs = t := ⟨_, rfl⟩
  have HS := Wc.hid hs
  have HT := Wc.hid ht
  rw [hs] at HR1 HR2 HR3
  clear hv hE hd hm hp hS hT hr hrec hs ht hI
  go_enter Try.func6, Try.ntmps6
  go_wp2_with fail
  refine (heavy_raw _ _ _ _ _ _ [] _ (rw_nil _)).mono ?_
  rintro e w1 ⟨rfl, rfl⟩
  rw [hh]
  go_wp2_with fail
  refine (counts_any _ xs _ HV.out).mono ?_
  rintro e w2 ⟨hb2, hy, -⟩
  obtain ⟨gc, rfl, hgc, hC⟩ := hy HE.out
  rw [HM.out] at hC ⊢
  have HB2 := Wc.hid hb2
  have HC2 := Wc.hid hC
  have HV2 := Wc.hid (HV.out.keep hb2)
  clear hy hb2 hC hgc
  go_wp2_with fail
  refine (oopen_any _ xs _ HV2.out).mono ?_
  rintro e w3 ⟨a, n, c, rfl, hR, hb3⟩
  rw [HE.out, HS.out, HT.out]
  have bA : Below w3.heap.size w3 (w3.alloc (.cells #[.int .i64 s.gen, .int .i64 s.blocks, .int .i64 s.root, .int .i64 s.size, .int .i64 s.first, .int .i64 t, .slice a n c] 36)) := (Below.refl _ _).alloc (Nat.le_refl _) _
  have HB3 := Wc.hid (Wc.step (Wc.step HB2.out (Nat.le_refl _) hb3) (Nat.le_refl _) bA)
  have HC3 := Wc.hid (row_keep (row_keep HC2.out hb3) bA)
  have HV3 := Wc.hid ((HV2.out.keep hb3).keep bA)
  have HL3 := Wc.hid (hR.keep bA)
  have Z3 := Wc.hid (Zh.new w3 s t (.slice a n c))
  have ⟨z0, z1, z2, z3, z4, z5, z6⟩ := Z3.out.zc
  clear hR hb3 bA
  unfold stv
  go_wp2_with fail
  refine (records_any _ xs s.first _ HV3.out).mono ?_
  rintro e w4 ⟨a4, n4, c4, a5, n5, c5, rfl, hR4, hP4, hb4⟩
  rw [HR1.out]
  rw [HR3.out] at hR4
  rw [HR2.out] at hP4
  have HB4 := Wc.hid (Wc.step HB3.out (Nat.le_refl _) hb4)
  have HC4 := Wc.hid (row_keep HC3.out hb4)
  have HV4 := Wc.hid (HV3.out.keep hb4)
  have HL4 := Wc.hid (HL3.out.keep hb4)
  have HP4 := Wc.hid hP4
  have Z4 := Wc.hid (Z3.out.keep hb4)
  have hn5 : n5 = n := by
    have h1 := Wv.rv_len hP4
    have h2 := Wi.rs_len HL3.out
    unfold opnL at h2
    rw [List.length_map] at h2
    omega
  subst hn5
  clear z0 z1 z2 z3 z4 z5 z6 hR4 hP4 hb4
  have ⟨z0, z1, z2, z3, z4, z5, z6⟩ := Z4.out.zc
  have hmk := run_make_row' (P := Try.prog) 65 4 (.bool false) 1 Try.underlying65 Try.infoB rfl .i64 .i64 m (by omega) (by omega)
  go_wp2_with fail
  clear hmk z0 z1 z2 z3 z4 z5 z6
  have HB5 := Wc.hid ((Below.refl w4.heap.size w4).alloc (Nat.le_refl _) (.cells (madeCells #[Value.bool false] m) 4))
  have M5 := Wc.hid (Marks.new w4 m)
  obtain ⟨W5, hW5⟩ : ∃ W, w4.alloc (.cells (madeCells #[Value.bool false] m) 4) = W := ⟨_, rfl⟩
  obtain ⟨g, hg⟩ : ∃ g, w4.heap.size = g := ⟨_, rfl⟩
  rw [hW5] at HB5 M5 ⊢
  rw [hg] at M5 ⊢
  have HG := Wc.hid hg
  clear hW5 hg
  go_loopw [11] (fun i wr => ∃ k : Nat, i = .int .i64 k ∧ k ≤ 2 ∧ Hid (Marks wr g m (([0, 1] : List Int).take k)) ∧ Hid (Below w4.heap.size w4 wr)) (fun i _ => 2 - (intOf i).toNat)
  case atStart => exact ⟨0, rfl, by omega, M5, HB5⟩
  case round =>
    obtain ⟨k, rfl, hk, MK, BK⟩ := hrel
    by_cases hlt : k < 2
    · have hkm : k < m := by omega
      have h2 := World.rowIs.cell MK.out hkm
      have h3 := World.rowIs.frozen MK.out k
      have MK1 : Hid (Marks (wr.setCell ⟨g, k, none⟩ (.bool true)) g m (([0, 1] : List Int).take (k + 1))) := Wc.hid (by
        have e : ([0, 1] : List Int).take (k + 1) = ([0, 1] : List Int).take k ++ [(k : Int)] := by
          have : k = 0 ∨ k = 1 := by omega
          rcases this with rfl | rfl <;> rfl
        rw [e]; exact MK.out.set k)
      have BK1 := Wc.hid (BK.out.setCell (p := ⟨g, k, none⟩) (by rw [HG.out]; exact Nat.le_refl _) (.bool true))
      go_wp2_with fail
      go_roundw
      case rel => exact ⟨k + 1, by go_num, by omega, MK1, BK1⟩
      case measure => simp [intOf]; omega
    · obtain rfl : k = 2 := by omega
      rw [show ((2 : Nat) : Int) = (2 : Int) from rfl]
      go_wp2_with fail
      have LN : Hid ((opnL xs).length = n5) := Wc.hid (Wi.rs_len HL4.out)
      have BN : Hid ((opnB xs).length = n5) := Wc.hid (Wv.rv_len HP4.out)
      have MK0 : Hid (Marks wr g m (onS xs 0)) := MK
      obtain ⟨_, _, _, e1, hll, hlc, hlc2, hln, hpos⟩ := HL4.out
      cases e1
      have HPS := Wc.hid hpos
      obtain ⟨_, _, _, e1, hpl, hpc, hpc2, hpn, hppos⟩ := HP4.out
      cases e1
      have HPB := Wc.hid hppos
      obtain ⟨ii, hii, hzz⟩ := Option.map_eq_some_iff.1 Try.infoI
      simp only [Prod.mk.injEq] at hzz
      obtain ⟨hz0, hz1, hz2⟩ := hzz
      have HII := Wc.hid hii
      have HZ0 := Wc.hid hz0
      have HZ1 := Wc.hid hz1
      have HZ2 := Wc.hid hz2
      clear MK hk hlt hll hpl hpos hppos hii hz0 hz1 hz2
      go_loopw [12] (fun i wr => ∃ k : Nat, i = .int .i64 ((k : Int) - 1) ∧ k ≤ n5 + 1 ∧ Hid (Marks wr g m (onS xs k)) ∧ Hid (Below w4.heap.size w4 wr)) (fun i _ => n5 + 1 - (intOf i + 1).toNat)
      case atStart => exact ⟨0, rfl, by omega, MK0, BK⟩
      case round =>
        obtain ⟨k, rfl, hk, MK, BK⟩ := hrel
        by_cases hlt : k < n5 + 1
        · have HTM := Wc.hid (trees_mem xs (k := k) (by rw [LN.out]; omega))
          have HTE := Wc.hid (HI.out.treE HTM.out)
          have ⟨z0, z1, z2, z3, z4, z5, z6⟩ := (Z4.out.keep BK.out).zc
          by_cases hk0 : k = 0
          · subst hk0
            have HRT : Hid (((Wi.trees (opnS xs) (opnL xs)).getD 0 (0, 0)).1 = s.root) := Wc.hid ((trees_zero xs).trans (by rw [HS.out]))
            have hon : onS xs (0 + 1) = onS xs 0 ++ (Wt.treN xs s.root ++ Wt.treS xs s.root) := by
              show onS xs 0 ++ [] ++ (Wt.treN xs (opnS xs).root ++ Wt.treS xs (opnS xs).root) = _
              rw [List.append_nil, HS.out]
            have MKA := MK
            have BKA := BK
            have hte := HTE.out
            rw [HRT.out] at hte
            have HTR := Wc.hid hte
            have htl := tell_len HI.out HTM.out
            rw [HRT.out] at htl
            have HTL := Wc.hid htl
            clear hte htl
            go_wp2_with fail
            clear z0 z1 z2 z3 z4 z5 z6
            refine (nodes_own _ xs s.root _ (HV4.out.keep BKA.out)).mono ?_
            rintro e w6 ⟨la, ln, lc, rfl, hO6, hb6⟩
            rw [HTR.out]
            have BK6 := Wc.hid (BKA.out.trans (hb6.mono BKA.out.size))
            have MK6 := Wc.hid (MKA.out.keep hb6)
            have BW6 := Wc.hid hb6.size
            have HO6 := Wc.hid hO6
            clear hb6 hO6
            go_wp2_with fail
            refine (map_any _ xs s.root _ (HV4.out.keep BK6.out)).mono ?_
            rintro e w7 ⟨ma, mn, mc, rfl, hM7, hb7, -⟩
            rw [HTR.out]
            have BK7 := Wc.hid (BK6.out.trans (hb7.mono BK6.out.size))
            have MK7 := Wc.hid (MK6.out.keep hb7)
            have HO7 := Wc.hid (HO6.out.keep hb7)
            have hsh : Wv.Shaped (.slice ma mn mc) := by
              have h2 := Wt.treS_len HTR.out
              rcases hM7.open with ⟨hnil, -⟩ | ⟨b, off, n', cap, hsl, -⟩
              · rw [hnil] at h2; simp at h2
              · cases hsl; exact .inr ⟨_, _, _, rfl⟩
            have hlen : (Wt.treN xs s.root).length + (Wt.treS xs s.root).length ≤ 17592186044416 := by have := HTL.out; omega
            obtain ⟨v8, w8, hrun, hO8, hb8⟩ := Wv.append_run (P := Try.prog) (ty := 25) (d := (0 : Int)) (ys := Wt.treS xs s.root) Try.underlying25 HII.out HZ0.out HZ1.out HZ2.out rfl (by omega) (fun _ => rfl) HO7.out hM7 hsh hlen (Nat.le_trans BW6.out hb7.size)
            have hs8 := hO8.shaped
            have HRUN := Wc.hid hrun
            have HGA := World.rowIs.lt MKA.out
            have BK8 := Wc.hid (BK7.out.trans (hb8.mono BKA.out.size))
            have MK8 := Wc.hid (show Marks w8 g m _ from World.rowIs.of_block MK7.out (hb8.block g HGA))
            obtain ⟨LL, hLL⟩ : ∃ LL, Wt.treN xs s.root ++ Wt.treS xs s.root = LL := ⟨_, rfl⟩
            have hLB := tell_bounds xs s.root HI.out.dev
            rw [hLL, HM.out] at hLB
            rw [hLL] at hO8 hon
            have HLB := Wc.hid hLB
            have HON := Wc.hid hon
            have hs9 : ∃ a9 n9 c9, v8 = .slice a9 n9 c9 := by
              rcases hs8 with rfl | ⟨_, _, _, rfl⟩
              · exact ⟨_, _, _, rfl⟩
              · exact ⟨_, _, _, rfl⟩
            obtain ⟨a9, n9, c9, rfl⟩ := hs9
            have HNG : Hid (0 < n9 → ∀ b o, a9 = some ⟨b, o, none⟩ → ¬ b = g) := Wc.hid (fun _ b o e => by
              have := (hO8.1.lt b (by rw [e]; rfl)).1
              omega)
            have HI8 : Hid (Wd.In w8 (.slice a9 n9 c9) LL) := Wc.hid hO8.rv
            have HN9 : Hid (LL.length = n9) := Wc.hid (Wv.rv_len (d := (0 : Int)) hO8.rv)
            have hn9b : n9 ≤ 1600 := by
              have h1 := HTL.out
              have h2 := HN9.out
              rw [← hLL, List.length_append] at h2
              omega
            clear hb7 hM7 hsh hlen hrun hO8 hb8 hs8 hLL hLB hon HGA
            go_wp2_with (at_builtin; refine Wv.wp_append HRUN.out rfl rfl rfl rfl ?_)
            obtain ⟨P0, hP0⟩ : ∃ P0, onS xs 0 = P0 := ⟨_, rfl⟩
            have hz0 : (0 : Int) ∈ P0 := by rw [← hP0]; simp [onS_zero]
            have HZP := Wc.hid hz0
            rw [hP0] at MK8 HON
            clear hP0 hz0
            go_loopw [18] (fun i wr => ∃ j : Nat, i = .int .i64 j ∧ j ≤ n9 ∧ Hid (Marks wr g m (P0 ++ LL.take j)) ∧ Hid (Below w4.heap.size w4 wr) ∧ Hid (Wi.But g w8 wr)) (fun i _ => n9 - (intOf i).toNat)
            case atStart => exact ⟨0, rfl, by omega, Wc.hid (by rw [List.take_zero, List.append_nil]; exact MK8.out), BK8, Wc.hid (Wi.But.refl _ _)⟩
            case round =>
              obtain ⟨j, rfl, hj, MJ, BJ, UJ⟩ := hrel
              by_cases hjl : j < n9
              · have hIn := Wi.in_but HI8.out UJ.out HNG.out
                obtain ⟨_, _, _, e1, -, -, -, -, hcel⟩ := hIn
                cases e1
                obtain ⟨b9, o9, rfl, -, hcc⟩ := hcel (by omega)
                have hc9 := hcc j hjl
                have hjL : j < LL.length := by rw [HN9.out]; exact hjl
                have hyb := HLB.out _ (mem_getD hjL)
                have HTK := Wc.hid (take_snoc LL j hjL)
                obtain ⟨y, hy⟩ : ∃ y, LL.getD j 0 = y := ⟨_, rfl⟩
                rw [hy] at hc9 hyb HTK
                obtain ⟨z, rfl⟩ : ∃ z : Nat, y = (z : Int) := ⟨y.toNat, by omega⟩
                have hzm : z < m := by omega
                clear hcel hcc hy hyb hjL
                by_cases hz : z = 0
                · subst hz
                  have MJ1 : Hid (Marks wr g m (P0 ++ LL.take (j + 1))) := Wc.hid (by
                    rw [HTK.out, ← List.append_assoc]
                    exact marks_zero MJ.out (by simp [HZP.out]))
                  go_wp2_with fail
                  go_roundw
                  case rel => exact ⟨j + 1, by go_num, by omega, MJ1, BJ, UJ⟩
                  case measure => simp [intOf]; omega
                · have h2 := World.rowIs.cell MJ.out hzm
                  have h3 := World.rowIs.frozen MJ.out z
                  have MJ1 : Hid (Marks (wr.setCell ⟨g, z, none⟩ (.bool true)) g m (P0 ++ LL.take (j + 1))) := Wc.hid (by
                    rw [HTK.out, ← List.append_assoc]
                    exact MJ.out.set z)
                  have BJ1 := Wc.hid (BJ.out.setCell (p := ⟨g, z, none⟩) (by rw [HG.out]; exact Nat.le_refl _) (.bool true))
                  have UJ1 := Wc.hid (UJ.out.set z (.bool true))
                  go_wp2_with fail
                  go_roundw
                  case rel => exact ⟨j + 1, by go_num, by omega, MJ1, BJ1, UJ1⟩
                  case measure => simp [intOf]; omega
              · obtain rfl : j = n9 := by omega
                have MKZ : Hid (Marks wr g m (onS xs (0 + 1))) := Wc.hid (by
                  have := MJ.out
                  rw [List.take_of_length_le (by rw [HN9.out]; exact Nat.le_refl _)] at this
                  rw [HON.out]; exact this)
                go_wp2_with fail
                go_roundw
                case rel => exact ⟨0 + 1, by first | go_num | (congr 1; omega), by omega, MKZ, BJ⟩
                case measure => first | (simp [intOf]; done) | (simp [intOf]; omega)
          · obtain ⟨q, rfl⟩ : ∃ q, k = q + 1 := ⟨k - 1, by omega⟩
            clear hk0
            have hql : q < (opnL xs).length := by rw [LN.out]; omega
            have hqb : q < (opnB xs).length := by rw [BN.out]; omega
            obtain ⟨rb, roff, rfl, hrlt, hrcs⟩ := HPS.out (by omega)
            have hx := (hrcs q (by omega)).keep BK.out
            have hrt := trees_succ xs hql
            obtain ⟨x, hxe⟩ : ∃ x, (opnL xs).getD q Wr.r0 = x := ⟨_, rfl⟩
            rw [hxe] at hx hrt
            obtain ⟨x0, x1, x2, ro, x4, x5, x6, x7⟩ := x
            simp only at hrt
            have HRT := Wc.hid hrt
            have ⟨d0, d1, d2, d3, d4, d5, d6, d7⟩ := hx
            simp only at d0 d1 d2 d3 d4 d5 d6 d7
            obtain ⟨pb, poff, rfl, hplt, hpcs⟩ := HPB.out (by omega)
            have hbq := HI.out.inb _ (mem_getD hqb)
            have hpc := (BK.out.cell (p := ⟨pb, poff + q, none⟩) hplt).trans (hpcs q (by omega))
            obtain ⟨bq, hbqe⟩ : ∃ bq : Nat, (opnB xs).getD q 0 = (bq : Int) := ⟨((opnB xs).getD q 0).toNat, by omega⟩
            rw [hbqe] at hbq hpc
            have hbm : bq < m := by have := HM.out; omega
            have hon : onS xs (q + 1 + 1) = onS xs (q + 1) ++ [(bq : Int)] ++ (Wt.treN xs ro ++ Wt.treS xs ro) := by
              show onS xs (q + 1) ++ (if q + 1 = 0 then [] else [(opnB xs).getD (q + 1 - 1) 0]) ++ (Wt.treN xs ((Wi.trees (opnS xs) (opnL xs)).getD (q + 1) (0, 0)).1 ++ Wt.treS xs ((Wi.trees (opnS xs) (opnL xs)).getD (q + 1) (0, 0)).1) = _
              rw [if_neg (by omega), Nat.add_sub_cancel, hbqe, HRT.out]
            have m2 := World.rowIs.cell MK.out hbm
            have m3 := World.rowIs.frozen MK.out bq
            have MKA := Wc.hid (MK.out.set bq)
            have BKA := Wc.hid (BK.out.setCell (p := ⟨g, bq, none⟩) (by rw [HG.out]; exact Nat.le_refl _) (.bool true))
            rw [show ((q + 1 : Nat) : Int) - 1 = (q : Int) by omega]
            clear hx hrcs hxe hrt hpcs hbqe hbq hql hqb
            have hte := HTE.out
            rw [HRT.out] at hte
            have HTR := Wc.hid hte
            have htl := tell_len HI.out HTM.out
            rw [HRT.out] at htl
            have HTL := Wc.hid htl
            clear hte htl
            go_wp2_with fail
            clear z0 z1 z2 z3 z4 z5 z6 d0 d1 d2 d3 d4 d5 d6 d7 m2 m3 hpc
            refine (nodes_own _ xs ro _ (HV4.out.keep BKA.out)).mono ?_
            rintro e w6 ⟨la, ln, lc, rfl, hO6, hb6⟩
            rw [HTR.out]
            have BK6 := Wc.hid (BKA.out.trans (hb6.mono BKA.out.size))
            have MK6 := Wc.hid (MKA.out.keep hb6)
            have BW6 := Wc.hid hb6.size
            have HO6 := Wc.hid hO6
            clear hb6 hO6
            go_wp2_with fail
            refine (map_any _ xs ro _ (HV4.out.keep BK6.out)).mono ?_
            rintro e w7 ⟨ma, mn, mc, rfl, hM7, hb7, -⟩
            rw [HTR.out]
            have BK7 := Wc.hid (BK6.out.trans (hb7.mono BK6.out.size))
            have MK7 := Wc.hid (MK6.out.keep hb7)
            have HO7 := Wc.hid (HO6.out.keep hb7)
            have hsh : Wv.Shaped (.slice ma mn mc) := by
              have h2 := Wt.treS_len HTR.out
              rcases hM7.open with ⟨hnil, -⟩ | ⟨b, off, n', cap, hsl, -⟩
              · rw [hnil] at h2; simp at h2
              · cases hsl; exact .inr ⟨_, _, _, rfl⟩
            have hlen : (Wt.treN xs ro).length + (Wt.treS xs ro).length ≤ 17592186044416 := by have := HTL.out; omega
            obtain ⟨v8, w8, hrun, hO8, hb8⟩ := Wv.append_run (P := Try.prog) (ty := 25) (d := (0 : Int)) (ys := Wt.treS xs ro) Try.underlying25 HII.out HZ0.out HZ1.out HZ2.out rfl (by omega) (fun _ => rfl) HO7.out hM7 hsh hlen (Nat.le_trans BW6.out hb7.size)
            have hs8 := hO8.shaped
            have HRUN := Wc.hid hrun
            have HGA := World.rowIs.lt MKA.out
            have BK8 := Wc.hid (BK7.out.trans (hb8.mono BKA.out.size))
            have MK8 := Wc.hid (show Marks w8 g m _ from World.rowIs.of_block MK7.out (hb8.block g HGA))
            obtain ⟨LL, hLL⟩ : ∃ LL, Wt.treN xs ro ++ Wt.treS xs ro = LL := ⟨_, rfl⟩
            have hLB := tell_bounds xs ro HI.out.dev
            rw [hLL, HM.out] at hLB
            rw [hLL] at hO8 hon
            have HLB := Wc.hid hLB
            have HON := Wc.hid hon
            have hs9 : ∃ a9 n9 c9, v8 = .slice a9 n9 c9 := by
              rcases hs8 with rfl | ⟨_, _, _, rfl⟩
              · exact ⟨_, _, _, rfl⟩
              · exact ⟨_, _, _, rfl⟩
            obtain ⟨a9, n9, c9, rfl⟩ := hs9
            have HNG : Hid (0 < n9 → ∀ b o, a9 = some ⟨b, o, none⟩ → ¬ b = g) := Wc.hid (fun _ b o e => by
              have := (hO8.1.lt b (by rw [e]; rfl)).1
              omega)
            have HI8 : Hid (Wd.In w8 (.slice a9 n9 c9) LL) := Wc.hid hO8.rv
            have HN9 : Hid (LL.length = n9) := Wc.hid (Wv.rv_len (d := (0 : Int)) hO8.rv)
            have hn9b : n9 ≤ 1600 := by
              have h1 := HTL.out
              have h2 := HN9.out
              rw [← hLL, List.length_append] at h2
              omega
            clear hb7 hM7 hsh hlen hrun hO8 hb8 hs8 hLL hLB hon HGA
            go_wp2_with (at_builtin; refine Wv.wp_append HRUN.out rfl rfl rfl rfl ?_)
            obtain ⟨P0, hP0⟩ : ∃ P0, onS xs (q + 1) ++ [(bq : Int)] = P0 := ⟨_, rfl⟩
            have hz0 : (0 : Int) ∈ P0 := by rw [← hP0]; simp [onS_zero]
            have HZP := Wc.hid hz0
            rw [hP0] at MK8 HON
            clear hP0 hz0
            go_loopw [18] (fun i wr => ∃ j : Nat, i = .int .i64 j ∧ j ≤ n9 ∧ Hid (Marks wr g m (P0 ++ LL.take j)) ∧ Hid (Below w4.heap.size w4 wr) ∧ Hid (Wi.But g w8 wr)) (fun i _ => n9 - (intOf i).toNat)
            case atStart => exact ⟨0, rfl, by omega, Wc.hid (by rw [List.take_zero, List.append_nil]; exact MK8.out), BK8, Wc.hid (Wi.But.refl _ _)⟩
            case round =>
              obtain ⟨j, rfl, hj, MJ, BJ, UJ⟩ := hrel
              by_cases hjl : j < n9
              · have hIn := Wi.in_but HI8.out UJ.out HNG.out
                obtain ⟨_, _, _, e1, -, -, -, -, hcel⟩ := hIn
                cases e1
                obtain ⟨b9, o9, rfl, -, hcc⟩ := hcel (by omega)
                have hc9 := hcc j hjl
                have hjL : j < LL.length := by rw [HN9.out]; exact hjl
                have hyb := HLB.out _ (mem_getD hjL)
                have HTK := Wc.hid (take_snoc LL j hjL)
                obtain ⟨y, hy⟩ : ∃ y, LL.getD j 0 = y := ⟨_, rfl⟩
                rw [hy] at hc9 hyb HTK
                obtain ⟨z, rfl⟩ : ∃ z : Nat, y = (z : Int) := ⟨y.toNat, by omega⟩
                have hzm : z < m := by omega
                clear hcel hcc hy hyb hjL
                by_cases hz : z = 0
                · subst hz
                  have MJ1 : Hid (Marks wr g m (P0 ++ LL.take (j + 1))) := Wc.hid (by
                    rw [HTK.out, ← List.append_assoc]
                    exact marks_zero MJ.out (by simp [HZP.out]))
                  go_wp2_with fail
                  go_roundw
                  case rel => exact ⟨j + 1, by go_num, by omega, MJ1, BJ, UJ⟩
                  case measure => simp [intOf]; omega
                · have h2 := World.rowIs.cell MJ.out hzm
                  have h3 := World.rowIs.frozen MJ.out z
                  have MJ1 : Hid (Marks (wr.setCell ⟨g, z, none⟩ (.bool true)) g m (P0 ++ LL.take (j + 1))) := Wc.hid (by
                    rw [HTK.out, ← List.append_assoc]
                    exact MJ.out.set z)
                  have BJ1 := Wc.hid (BJ.out.setCell (p := ⟨g, z, none⟩) (by rw [HG.out]; exact Nat.le_refl _) (.bool true))
                  have UJ1 := Wc.hid (UJ.out.set z (.bool true))
                  go_wp2_with fail
                  go_roundw
                  case rel => exact ⟨j + 1, by go_num, by omega, MJ1, BJ1, UJ1⟩
                  case measure => simp [intOf]; omega
              · obtain rfl : j = n9 := by omega
                have MKZ : Hid (Marks wr g m (onS xs ((q + 1) + 1))) := Wc.hid (by
                  have := MJ.out
                  rw [List.take_of_length_le (by rw [HN9.out]; exact Nat.le_refl _)] at this
                  rw [HON.out]; exact this)
                go_wp2_with fail
                go_roundw
                case rel => exact ⟨(q + 1) + 1, by first | go_num | (congr 1; omega), by omega, MKZ, BJ⟩
                case measure => simp [intOf]; omega
        · obtain rfl : k = n5 + 1 := by omega
          rw [show ((n5 + 1 : Nat) : Int) - 1 = (n5 : Int) by omega]
          go_wp2_with fail
          go_loopw [19] (fun i w' => ∃ j : Nat, i = .int .i64 j ∧ j ≤ m ∧ Hid (Below wr.heap.size wr w')) (fun i _ => m - (intOf i).toNat)
          case atStart => exact ⟨0, rfl, by omega, Wc.hid (Below.refl _ _)⟩
          case round =>
            obtain ⟨j, rfl, hj, DJ⟩ := hrel
            by_cases hjl : j < m
            · have hc1 := World.rowIs.cell (row_keep (row_keep HC4.out BK.out) DJ.out) hjl
              have hc2 := World.rowIs.cell (MK.out.keep DJ.out) hjl
              have hiff := onS_all HI.out (j : Int)
              rw [BN.out] at hiff
              obtain ⟨y, hy⟩ : ∃ y, (cnt xs).count (j : Int) = y := ⟨_, rfl⟩
              rw [hy] at hc1
              by_cases hy0 : y = 0
              · have hno : ¬ (j : Int) ∈ onS xs (n5 + 1) := fun h => by
                  have := List.count_pos_iff.2 (hiff.1 h)
                  omega
                rw [decide_eq_false hno] at hc2
                subst hy0
                clear hiff hy hno
                go_wp2_with fail
                go_quiet (fail)
                go_wp2_with fail
                go_roundw
                case rel => exact ⟨j + 1, by go_num, by omega, Wc.hid (below_drewN DJ.out _)⟩
                case measure => simp [intOf]; omega
              · have hyes : (j : Int) ∈ onS xs (n5 + 1) := hiff.2 (List.count_pos_iff.1 (by omega))
                rw [decide_eq_true hyes] at hc2
                have hgt : (!decide (0 < y)) = false := by rw [decide_eq_true (show 0 < y by omega)]; rfl
                have hgt2 : 0 < y := by omega
                clear hiff hy hyes
                go_wp2_with fail
                go_quiet (fail)
                go_wp2_with fail
                go_roundw
                case rel => exact ⟨j + 1, by go_num, by omega, Wc.hid (below_drewN DJ.out _)⟩
                case measure => simp [intOf]; omega
            · obtain rfl : j = m := by omega
              have hmul : j * 64 = ni := by
                have h1 := Wd.devB_iff.1 HI.out.dev
                have h2 := Wc.bs_len HV.out
                have h3 := HM.out
                omega
              have HB9 := Wc.hid (HB4.out.trans ((BK.out.trans (DJ.out.mono BK.out.size)).mono HB4.out.size))
              go_wp2_with fail
              refine (wakes_any _).mono ?_
              rintro e w8 ⟨rfl, hb8⟩
              have HB8 := Wc.hid (Wc.step HB9.out (Nat.le_refl _) hb8)
              clear hb8
              go_wp2_with fail
              go_ret
              exact ⟨rfl, HB8.out⟩
end Go.Proofs.Ytfdgeobopegeeaa
