/-
  TreeOne returns true, for every four ints.
-/
import Derived.Test.YtifjbmknghjohaaVw
namespace Go.Proofs.Ytifjbmknghjohaa
open Go.RowKit

theorem lowN (i : Int) (m : Nat) (h0 : 0 < m) (h : (m : Int) ≤ 9223372036854775807) : ∃ A : Nat, A < m ∧ wrap64 ((IntKind.u64.wrap i).tmod (m : Int)) = (A : Int) := by
  rw [IntKind.wrap_u64, Int.tmod_eq_emod_of_nonneg (by omega)]
  have h1 := Int.emod_nonneg (i % 18446744073709551616) (b := (m : Int)) (by omega)
  have h2 := Int.emod_lt_of_pos (i % 18446744073709551616) (b := (m : Int)) (by omega)
  exact ⟨((i % 18446744073709551616) % (m : Int)).toNat, by omega, by unfold wrap64; omega⟩

theorem lowA (i : Int) (m : Int) (k : Nat) (h0 : 0 < m) (h : m ≤ 4096) (hk : k ≤ 4096) : ∃ A : Nat, (k ≤ A ∧ (A : Int) < m + k) ∧ wrap64 ((k : Int) + wrap64 ((IntKind.u64.wrap i).tmod m)) = (A : Int) := by
  obtain ⟨q, rfl⟩ : ∃ q : Nat, m = q := ⟨m.toNat, by omega⟩
  obtain ⟨A, hA, e⟩ := lowN i q (by omega) (by omega)
  exact ⟨k + A, by omega, by rw [e]; unfold wrap64; omega⟩

/-- The facts of a tree of one sector. -/
theorem one_hit (b a s d : Nat) (xs : List Int) (R O : Int) (hx : Wt.ch b a s d 3 = xs) (hR : R = ((a + 2 : Nat) : Int)) (ha : 2 ≤ a) (hb : a + 3 ≤ b) (hb2 : b ≤ 4096) (hs : s < 512) (hd : 2 ≤ d) (hd2 : d < b) (h : a ≤ d ∧ d < a + 3) :
    Wt.treE xs R = 6 ∧ Wt.secE xs R O = 6 := by
  have hC := Wt.ch_cha ha hb hb2 hs hd
  have hS := fun k hk => Wt.ch_sta (s := s) ha hb hb2 hd (by omega) k hk
  rw [hx] at hC hS
  have ht := Wt.tre_self hC (hS 0 (by omega)) (hS 1 (by omega)) (hS 2 (by omega)) h
  rw [← hR] at ht
  have h6 := (Wt.tre_none hC.dev ht).1
  refine ⟨h6, ?_⟩
  unfold Wt.secE
  rw [if_neg (by rw [h6]; omega), h6]

theorem one_miss (b a s d : Nat) (xs : List Int) (R : Int) (hx : Wt.ch b a s d 3 = xs) (hR : R = ((a + 2 : Nat) : Int)) (ha : 2 ≤ a) (hb : a + 3 ≤ b) (hb2 : b ≤ 4096) (hs : s < 512) (hd : 2 ≤ d) (hd2 : d < b) (h : ¬ (a ≤ d ∧ d < a + 3)) :
    Wt.treE xs R = 0 ∧ (∃ m, Wt.treS xs R = m ∧ m.length = 512 ∧ m.getD s 0 = (d : Int)) ∧ Wt.treN xs R = [(a : Int) + 2, (a : Int) + 1, (a : Int)] ∧ ∀ o : Nat, o < 512 → Wt.secE xs R (o : Int) = 0 ∧ Wt.secR xs R (o : Int) = if o = s then (d : Int) else 0 := by
  have hC := Wt.ch_cha ha hb hb2 hs hd
  have hS := fun k hk => Wt.ch_sta (s := s) ha hb hb2 hd (by omega) k hk
  rw [hx] at hC hS
  have ht := Wt.tre_one hC (hS 0 (by omega)) (hS 1 (by omega)) (hS 2 (by omega)) hd2 h
  rw [← hR] at ht
  have h3 := Wt.tre_some hC.dev ht
  have hN : Wt.treN xs R = [(a : Int) + 2, (a : Int) + 1, (a : Int)] := by
    rw [h3.2.1, hR]
    show [((a + 2 : Nat) : Int), ((a + 1 : Nat) : Int), (a : Int)] = _
    rw [Int.natCast_add, Int.natCast_add]; rfl
  refine ⟨h3.1, ⟨_, rfl, Wt.treS_len h3.1, ?_⟩, hN, fun o ho => ⟨?_, ?_⟩⟩
  · rw [h3.2.2]
    exact (Wt.map_at hs).trans (if_pos rfl)
  · unfold Wt.secE; rw [if_pos h3.1, if_pos (by omega)]
  · unfold Wt.secR; rw [if_pos ⟨h3.1, by omega, by omega⟩, h3.2.2, Int.toNat_natCast]
    exact Wt.map_at hs

theorem chain_bs (b a s d N : Nat) (xs : List Int) (R B : Int) (w : World) (hB : B = b) (hx : Wt.ch b a s d 3 = xs) (hR : R = ((a + 2 : Nat) : Int)) (ha : 2 ≤ a) (hb : a + 3 ≤ b) (hb2 : b ≤ 4096) (hs : s < 512) (hd : 2 ≤ d) (hd2 : d < b) (hN : b * 64 = N) :
    Calls Try.prog 20 #[.int .i64 B, .int .i64 a, .int .i64 s, .int .i64 d] w fun e w' => ∃ g, e = .returned (.tuple #[.slice (some ⟨g, 0, none⟩) N N, .int .i64 R]) ∧ Wc.Ob 5 w.heap.size w' (.slice (some ⟨g, 0, none⟩) N N) xs ∧ Below w.heap.size w w' := by
  subst hB hR hx
  exact chain_any b a s d N w ha hb hb2 hs hd (by omega) hN

set_option maxRecDepth 100000 in
set_option maxHeartbeats 6400000 in
theorem treeOne_any (p s d o : Int) (w : World) :
    Calls Try.prog 4 #[.int .i64 p, .int .i64 s, .int .i64 d, .int .i64 o] w fun e w' => e = .returned (.bool true) ∧ Below w.heap.size w w' := by
  obtain ⟨A, hA, eA⟩ := lowA p 7 2 (by omega) (by omega) (by omega)
  obtain ⟨S, hS, eS⟩ := lowN s 512 (by omega) (by omega)
  obtain ⟨O, hO, eO⟩ := lowN o 512 (by omega) (by omega)
  obtain ⟨D, hD, eD⟩ := lowA d 10 2 (by omega) (by omega) (by omega)
  have eA' : wrap64 (2 + wrap64 ((IntKind.u64.wrap p).tmod 7)) = (A : Int) := eA
  have eS' : wrap64 ((IntKind.u64.wrap s).tmod 512) = (S : Int) := eS
  have eO' : wrap64 ((IntKind.u64.wrap o).tmod 512) = (O : Int) := eO
  have eD' : wrap64 (2 + wrap64 ((IntKind.u64.wrap d).tmod 10)) = (D : Int) := eD
  clear eA eS eO eD
  obtain ⟨xs, hx⟩ : ∃ xs, Wt.ch 12 A S D 3 = xs := ⟨_, rfl⟩
  obtain ⟨R, hR⟩ : ∃ R, R = ((A + 2 : Nat) : Int) := ⟨_, rfl⟩
  have HX := Wc.hid hx
  have HR := Wc.hid hR
  have EA := Wc.hid eA'
  have ES := Wc.hid eS'
  have EO := Wc.hid eO'
  have ED := Wc.hid eD'
  clear hx hR eA' eS' eO' eD'
  go_enter Try.func4, Try.ntmps4
  go_wp2_with fail
  rw [EA.out, ES.out, EO.out, ED.out]
  clear EA ES EO ED
  refine (chain_bs 12 A S D 768 xs R 12 _ rfl HX.out HR.out (by omega) (by omega) (by omega) hS (by omega) (by omega) (by omega)).mono ?_
  rintro e w1 ⟨g, rfl, hO1, hb1⟩
  have V1 := Wc.hid hO1.bs
  have B1 := Wc.hid hb1
  clear hO1 hb1
  by_cases hit : A ≤ D ∧ D < A + 3
  · obtain ⟨f1, f2⟩ := one_hit 12 A S D xs R (O : Int) HX.out HR.out (by omega) (by omega) (by omega) hS (by omega) (by omega) hit
    have F1 := Wc.hid f1
    have F2 := Wc.hid f2
    clear f1 f2 HX HR
    go_wp2_with fail
    refine (map_any _ xs R _ V1.out).mono ?_
    rintro e w2 ⟨a2, n2, c2, rfl, -, hb2⟩
    rw [F1.out]
    have V2 := Wc.hid (V1.out.keep hb2)
    have B2 := Wc.hid (Wc.step B1.out (Nat.le_refl _) hb2)
    clear hb2 V1 B1
    go_wp2_with fail
    refine (nodes_any _ xs R _ V2.out).mono ?_
    rintro e w3 ⟨a3, n3, c3, rfl, -, hb3⟩
    rw [F1.out]
    have V3 := Wc.hid (V2.out.keep hb3)
    have B3 := Wc.hid (Wc.step B2.out (Nat.le_refl _) hb3)
    clear hb3 V2 B2
    go_wp2_with fail
    refine (sector_any _ xs R (O : Int) _ V3.out).mono ?_
    rintro e w4 ⟨rfl, hb4⟩
    rw [F2.out]
    generalize Wt.secR xs R (O : Int) = Y
    have B4 := Wc.hid (Wc.step B3.out (Nat.le_refl _) hb4)
    clear hb4 V3 B3
    go_wp2_with fail
    refine (wakes_any _).mono ?_
    rintro e w5 ⟨rfl, hb5⟩
    have B5 := Wc.hid (Wc.step B4.out (Nat.le_refl _) hb5)
    clear hb5 B4
    go_wp2_with fail
    go_ret
    exact ⟨rfl, B5.out⟩
  · obtain ⟨f1, ⟨m, f2, f3, f4⟩, f5, f6⟩ := one_miss 12 A S D xs R HX.out HR.out (by omega) (by omega) (by omega) hS (by omega) (by omega) hit
    obtain ⟨f7, f8⟩ := f6 O hO
    have F1 := Wc.hid f1
    have F2 := Wc.hid f2
    have F3 := Wc.hid f3
    have F4 := Wc.hid f4
    have F5 := Wc.hid f5
    have F7 := Wc.hid f7
    have F8 := Wc.hid f8
    clear f1 f2 f3 f4 f5 f6 f7 f8 HX
    go_wp2_with fail
    refine (map_any _ xs R _ V1.out).mono ?_
    rintro e w2 ⟨a2, n2, c2, rfl, hI2, hb2⟩
    rw [F1.out]
    rw [F2.out] at hI2
    have hn : n2 = 512 := by rw [← Wv.rv_len hI2]; exact F3.out
    subst hn
    have M2 := Wc.hid hI2
    have V2 := Wc.hid (V1.out.keep hb2)
    have B2 := Wc.hid (Wc.step B1.out (Nat.le_refl _) hb2)
    clear hI2 hb2 V1 B1
    go_wp2_with fail
    refine (nodes_any _ xs R _ V2.out).mono ?_
    rintro e w3 ⟨a3, n3, c3, rfl, hI3, hb3⟩
    rw [F1.out]
    rw [F5.out] at hI3
    have L3 := Wc.hid hI3
    have M3 := Wc.hid (M2.out.keep hb3)
    have V3 := Wc.hid (V2.out.keep hb3)
    have B3 := Wc.hid (Wc.step B2.out (Nat.le_refl _) hb3)
    clear hI3 hb3 V2 B2 M2
    go_wp2_with fail
    refine (sector_any _ xs R (O : Int) _ V3.out).mono ?_
    rintro e w4 ⟨rfl, hb4⟩
    rw [F7.out, F8.out]
    have L4 := Wc.hid (L3.out.keep hb4)
    have M4 := Wc.hid (M3.out.keep hb4)
    have B4 := Wc.hid (Wc.step B3.out (Nat.le_refl _) hb4)
    clear hb4 V3 B3 M3 L3
    rcases M4.out.open with ⟨hnil, -⟩ | ⟨b, off, n', cap, hsl, -, -, -, -, -, -, hc⟩
    · have := F3.out; rw [hnil] at this; simp at this
    cases hsl
    have cS := hc S hS
    rw [F4.out] at cS
    clear hc
    have hRa : R = (A : Int) + 2 := by have := HR.out; omega
    subst hRa
    have al := (Below.refl w4.heap.size w4).alloc (Nat.le_refl _) (.cells #[.int .i64 ((A : Int) + 2), .int .i64 ((A : Int) + 1), .int .i64 (A : Int)] 3)
    have IL := ints_any _ _ _ _ _ (L4.out.keep al) (Wv.Rv.lit (val := Value.int .i64) (d := 0) w4 #[.int .i64 ((A : Int) + 2), .int .i64 ((A : Int) + 1), .int .i64 (A : Int)] 3 3 [(A : Int) + 2, (A : Int) + 1, (A : Int)] rfl (by omega) rfl)
    rw [show ([(A : Int) + 2, (A : Int) + 1, (A : Int)] == [(A : Int) + 2, (A : Int) + 1, (A : Int)]) = true from by simp] at IL
    have AL := Wc.hid al
    have IL := Wc.hid IL
    clear al
    have hcase : (D : Int) < A ∨ (A : Int) + 3 ≤ D := by omega
    by_cases hOS : O = S
    · subst hOS
      rw [if_pos rfl]
      rcases hcase with hcase | hcase
      all_goals
        go_wp2_with fail
        refine IL.out.mono ?_
        rintro e w5 ⟨rfl, hb5⟩
        have B5 := Wc.hid (Wc.step (Wc.step B4.out (Nat.le_refl _) AL.out) (Nat.le_refl _) hb5)
        clear hb5 B4 cS
        go_wp2_with fail
        refine (wakes_any _).mono ?_
        rintro e w6 ⟨rfl, hb6⟩
        have B6 := Wc.hid (Wc.step B5.out (Nat.le_refl _) hb6)
        clear hb6 B5
        go_wp2_with fail
        go_ret
        exact ⟨rfl, B6.out⟩
    · rw [if_neg hOS]
      have hne : ((O : Int) == (S : Int)) = false := by simp; omega
      rcases hcase with hcase | hcase
      all_goals
        go_wp2_with fail
        refine IL.out.mono ?_
        rintro e w5 ⟨rfl, hb5⟩
        have B5 := Wc.hid (Wc.step (Wc.step B4.out (Nat.le_refl _) AL.out) (Nat.le_refl _) hb5)
        clear hb5 B4 cS
        go_wp2_with fail
        refine (wakes_any _).mono ?_
        rintro e w6 ⟨rfl, hb6⟩
        have B6 := Wc.hid (Wc.step B5.out (Nat.le_refl _) hb6)
        clear hb6 B5
        go_wp2_with fail
        go_ret
        exact ⟨rfl, B6.out⟩

end Go.Proofs.Ytifjbmknghjohaa
