/-
  wakes returns true: a tree of one sector.
-/
import Derived.Test.YtifjbmknghjohaaVy
import Derived.Test.YtifjbmknghjohaaVc
namespace Wt

theorem mapE_of {m : List Int} {n : Int} (hl : m.length = 512) (h : ∀ x ∈ m, x = 0 ∨ 2 ≤ x ∧ x < n) : mapE m n = 0 := by
  unfold mapE
  rw [if_pos hl, if_pos]
  rw [List.all_eq_true]
  intro x hx
  unfold plB
  rcases h x hx with rfl | h
  · rfl
  · rw [bsB_iff.2 h, Bool.or_true]

theorem wakes_facts : ∃ xs m : List Int, ch 8 2 75 6 3 = xs ∧ treE xs 4 = 0 ∧ treS xs 4 = m ∧ m.length = 512 ∧ m.getD 75 0 = 6 ∧ treN xs 4 = [4, 3, 2] ∧ secE xs 4 75 = 0 ∧ secR xs 4 75 = 6 ∧ treE xs 6 = 6 ∧ mapE m 8 = 0 := by
  obtain ⟨xs, hxs⟩ : ∃ xs, ch 8 2 75 6 3 = xs := ⟨_, rfl⟩
  obtain ⟨m, hm⟩ : ∃ m, (List.replicate 512 (0 : Int)).set 75 ((6 : Nat) : Int) = m := ⟨_, rfl⟩
  have hC := ch_cha (b := 8) (at_ := 2) (s := 75) (d := 6) (by omega) (by omega) (by omega) (by omega) (by omega)
  have hS := fun k hk => ch_sta (b := 8) (at_ := 2) (s := 75) (d := 6) (by omega) (by omega) (by omega) (by omega) (by omega) k hk
  have hrd := ch_rd (b := 8) (at_ := 2) 75 6 (by omega) (by omega) (by omega) 6 (by omega) 3 (by omega)
  rw [if_neg (by omega)] at hrd
  rw [hxs] at hC hS hrd
  have ht := tre_one hC (hS 0 (by omega)) (hS 1 (by omega)) (hS 2 (by omega)) (by omega) (by omega)
  rw [hm] at ht
  have ht4 : tre xs 4 = some ⟨[4, 3, 2], m, [6]⟩ := ht
  have h3 := tre_some hC.dev ht4
  have hno : tre xs 6 = none := tre_no (by omega) (met_no (okN_zeros hrd 2) _ _)
  have h6 := tre_none hC.dev hno
  have hml : m.length = 512 := by rw [← hm, List.length_set]; exact List.length_replicate
  have hm75 : m.getD 75 0 = 6 := by rw [← hm, map_at (by omega), if_pos rfl]; rfl
  refine ⟨xs, m, hxs, h3.1, h3.2.2, hml, hm75, h3.2.1, ?_, ?_, h6.1, mapE_of hml fun x hx => ?_⟩
  · unfold secE; rw [if_pos h3.1, if_pos (by omega)]
  · unfold secR; rw [if_pos ⟨h3.1, by omega, by omega⟩, h3.2.2]; exact hm75
  · rw [← hm] at hx
    rcases mem_map x hx with h | h
    · exact .inl h
    · exact .inr (by omega)

end Wt
namespace Go.Proofs.Ytifjbmknghjohaa
open Go.RowKit

theorem chain_wakes (xs : List Int) (hx : Wt.ch 8 2 75 6 3 = xs) (w : World) : Calls Try.prog 20 #[.int .i64 8, .int .i64 2, .int .i64 75, .int .i64 6] w fun e w' => ∃ g, e = .returned (.tuple #[.slice (some ⟨g, 0, none⟩) 512 512, .int .i64 4]) ∧ Wc.Bs w' (.slice (some ⟨g, 0, none⟩) 512 512) xs ∧ Below w.heap.size w w' := by
  refine (chain_any 8 2 75 6 512 w (by omega) (by omega) (by omega) (by omega) (by omega) (by omega) (by omega)).mono ?_
  rintro e w' ⟨g, he, hO, hb⟩
  rw [hx] at hO
  exact ⟨g, he, hO.bs, hb⟩

set_option maxRecDepth 100000 in
set_option maxHeartbeats 3200000 in
theorem wakes_any (w : World) : Calls Try.prog 18 #[] w fun e w' => e = .returned (.bool true) ∧ Below w.heap.size w w' := by
  obtain ⟨xs, m, hxs, f1, f2, f3, f4, f5, f6, f7, f8, f9⟩ := Wt.wakes_facts
  have HX := Wc.hid hxs
  have F3 := Wc.hid f3
  have F4 := Wc.hid f4
  have F9 := Wc.hid f9
  clear hxs f3 f4 f9
  have F1 := Wc.hid f1
  have F2 := Wc.hid f2
  have F5 := Wc.hid f5
  have F6 := Wc.hid f6
  have F7 := Wc.hid f7
  have F8 := Wc.hid f8
  clear f1 f2 f5 f6 f7 f8
  go_enter Try.func18, Try.ntmps18
  go_wp2_with fail
  refine (chain_wakes xs HX.out _).mono ?_
  rintro e w1 ⟨g, rfl, hv1, hb1⟩
  have V1 := Wc.hid hv1
  have B1 := Wc.hid hb1
  clear hv1 hb1
  go_wp2_with fail
  refine (map_any _ xs 4 _ V1.out).mono ?_
  rintro e w2 ⟨a2, n2, c2, rfl, hI2, hb2⟩
  rw [F1.out]
  rw [F2.out] at hI2
  have hn : n2 = 512 := by rw [← Wv.rv_len hI2]; exact F3.out
  subst hn
  have M2 := Wc.hid hI2
  have V2 := Wc.hid (V1.out.keep hb2)
  have B2 := Wc.hid (Wc.step B1.out (Nat.le_refl _) hb2)
  clear hI2 hb2 V1 B1
  go_wp2_with fail
  refine (nodes_any _ xs 4 _ V2.out).mono ?_
  rintro e w3 ⟨a3, n3, c3, rfl, hI3, hb3⟩
  rw [F1.out]
  rw [F5.out] at hI3
  have L3 := Wc.hid hI3
  have M3 := Wc.hid (M2.out.keep hb3)
  have V3 := Wc.hid (V2.out.keep hb3)
  have B3 := Wc.hid (Wc.step B2.out (Nat.le_refl _) hb3)
  clear hI3 hb3 V2 B2 M2
  go_wp2_with fail
  refine (sector_any _ xs 4 75 _ V3.out).mono ?_
  rintro e w4 ⟨rfl, hb4⟩
  rw [F6.out, F7.out]
  have L4 := Wc.hid (L3.out.keep hb4)
  have M4 := Wc.hid (M3.out.keep hb4)
  have V4 := Wc.hid (V3.out.keep hb4)
  have B4 := Wc.hid (Wc.step B3.out (Nat.le_refl _) hb4)
  clear hb4 V3 B3 M3 L3
  go_wp2_with fail
  refine (map_any _ xs 6 _ V4.out).mono ?_
  rintro e w5 ⟨a5, n5, c5, rfl, -, hb5⟩
  rw [F8.out]
  have L5 := Wc.hid (L4.out.keep hb5)
  have M5 := Wc.hid (M4.out.keep hb5)
  have B5 := Wc.hid (Wc.step B4.out (Nat.le_refl _) hb5)
  clear hb5 V4 B4 M4 L4
  rcases M5.out.open with ⟨hnil, -⟩ | ⟨b, off, n', cap, hsl, -, -, -, -, -, -, hc⟩
  · have := F3.out; rw [hnil] at this; simp at this
  cases hsl
  have c75 := hc 75 (by omega)
  rw [F4.out] at c75
  clear hc
  go_wp2_with fail
  clear c75
  have al := (Below.refl w5.heap.size w5).alloc (Nat.le_refl _) (.cells #[.int .i64 4, .int .i64 3, .int .i64 2] 3)
  refine (ints_any _ _ [4, 3, 2] [4, 3, 2] _ (L5.out.keep al) (Wv.Rv.lit w5 _ 3 3 [4, 3, 2] rfl (by omega) rfl)).mono ?_
  rintro e w6 ⟨rfl, hb6⟩
  have M6 := Wc.hid ((M5.out.keep al).keep hb6)
  have B6 := Wc.hid (Wc.step (Wc.step B5.out (Nat.le_refl _) al) (Nat.le_refl _) hb6)
  clear al hb6 M5 B5 L5
  go_wp2_with fail
  refine (tcheck_any _ m 8 _ M6.out).mono ?_
  rintro e w7 ⟨rfl, rfl⟩
  rw [F9.out]
  go_wp2_with fail
  go_ret
  exact ⟨rfl, B6.out⟩

end Go.Proofs.Ytifjbmknghjohaa
