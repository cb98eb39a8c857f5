/-
  SuperBounds returns true.
-/
import Derived.Test.YtkddnjpkkkknfaaSwake
namespace Go.Proofs.Ytkddnjpkkkknfaa
open Go.RowKit

theorem lowW (m i : Int) (h0 : 0 < m) (h : m ≤ 9223372036854775807) : ∃ A : Int, (0 ≤ A ∧ A < m) ∧ wrap64 ((IntKind.u64.wrap i).tmod m) = A := by
  rw [IntKind.wrap_u64, Int.tmod_eq_emod_of_nonneg (by omega)]
  have h1 := Int.emod_nonneg (i % 18446744073709551616) (b := m) (by omega)
  have h2 := Int.emod_lt_of_pos (i % 18446744073709551616) (b := m) h0
  exact ⟨_, ⟨h1, h2⟩, by unfold wrap64; omega⟩

theorem bad_no {s : Ws.Sup} (h : ¬ ((1 ≤ s.gen ∧ s.gen ≤ 1099511627776) ∧ (4 ≤ s.blocks ∧ s.blocks ≤ 4096) ∧ (0 ≤ s.size ∧ s.size ≤ 512) ∧ (s.root = 0 ∨ 2 ≤ s.root ∧ s.root < s.blocks) ∧ (s.first = 0 ∨ 2 ≤ s.first ∧ s.first < s.blocks))) : Ws.supB s = false := by
  rw [Bool.eq_false_iff]
  exact fun e => h (Ws.supB_iff.1 e)

set_option maxHeartbeats 6400000 in
theorem superBounds_any (gen blocks size how : Int) (w : World) :
    Calls Try.prog 6 #[.int .i64 gen, .int .i64 blocks, .int .i64 size, .int .i64 how] w fun e w' => e = .returned (.bool true) ∧ Below w.heap.size w w' := by
  obtain ⟨G, ⟨hG0, hG1⟩, eG⟩ := lowW 1099511627776 gen (by omega) (by omega)
  obtain ⟨M, ⟨hM0, hM1⟩, eM⟩ := lowW 1000 blocks (by omega) (by omega)
  obtain ⟨S, ⟨hS0, hS1⟩, eS⟩ := lowW 513 size (by omega) (by omega)
  have HGD : Hid (Ws.supB ⟨1 + G, 4 + M, 4 + M - 1, S, 2⟩ = true) := Wc.hid (Ws.supB_iff.2 (by refine ⟨?_, ?_, ?_, ?_, ?_⟩ <;> simp only [] <;> omega))
  have HGP : Hid (Ws.par (Ws.blk ⟨1 + G, 4 + M, 4 + M - 1, S, 2⟩) = ⟨1 + G, 4 + M, 4 + M - 1, S, 2⟩ ∧ Ws.parE (Ws.blk ⟨1 + G, 4 + M, 4 + M - 1, S, 2⟩) = 0) := Wc.hid ⟨(Ws.par_blk HGD.out).2, (Ws.par_blk HGD.out).1⟩
  go_enter Try.func6, Try.ntmps6
  go_wp2_with fail
  · have HBAD : Hid (Ws.supB ⟨0, 4 + M, 4 + M - 1, S, 2⟩ = false) := Wc.hid (bad_no (by simp only []; omega))
    clear eG eM eS
    refine (bytes6_ok ⟨1 + G, 4 + M, 4 + M - 1, S, 2⟩ _ HGD.out).mono ?_
    rintro e w1 ⟨g, rfl, hg, hr, hb1⟩
    have A1 := Wc.hid (((Sh.new w ⟨1 + G, 4 + M, 4 + M - 1, S, 2⟩).keep ((Below.refl _ _).alloc (Nat.le_refl _) (.cells #[.int .i64 0, .int .i64 (4 + M), .int .i64 (4 + M - 1), .int .i64 S, .int .i64 2] 23))).keep hb1)
    have C1 : Hid (Sh w1 (w.heap.size + 1) ⟨0, 4 + M, 4 + M - 1, S, 2⟩) := Wc.hid (by have := (Sh.new (w.alloc (.cells #[.int .i64 (1 + G), .int .i64 (4 + M), .int .i64 (4 + M - 1), .int .i64 S, .int .i64 2] 23)) ⟨0, 4 + M, 4 + M - 1, S, 2⟩).keep hb1; simpa using this)
    have HB1 := Wc.hid (Wc.step (((Below.refl w.heap.size w).alloc (Nat.le_refl _) (.cells #[.int .i64 (1 + G), .int .i64 (4 + M), .int .i64 (4 + M - 1), .int .i64 S, .int .i64 2] 23)).alloc (by simp) (.cells #[.int .i64 0, .int .i64 (4 + M), .int .i64 (4 + M - 1), .int .i64 S, .int .i64 2] 23)) (Nat.le_refl _) hb1)
    have HR := Wc.hid (hr.bs (Ws.blk_length _) (Ws.blk_bd _))
    clear hg hr hb1
    have ⟨d0, d1, d2, d3, d4⟩ := C1.out.sc
    go_wp2_with fail
    clear d0 d1 d2 d3 d4
    refine (bytes6_bad ⟨0, 4 + M, 4 + M - 1, S, 2⟩ _ HBAD.out).mono ?_
    rintro e w2 ⟨rfl, hb2⟩
    have A2 := Wc.hid (A1.out.keep hb2)
    have C2 := Wc.hid (C1.out.keep hb2)
    have HB2 := Wc.hid (Wc.step HB1.out (Nat.le_refl _) hb2)
    have HR2 := Wc.hid (HR.out.keep hb2)
    clear hb2
    go_wp2_with fail
    refine (parse_any _ _ _ HR2.out).mono ?_
    rintro e w3 ⟨rfl, hb3⟩
    rw [HGP.out.1, HGP.out.2]
    unfold sv
    have A3 := Wc.hid ((A2.out.keep hb3).keep ((Below.refl _ _).alloc (Nat.le_refl _) (.cells #[.int .i64 (1 + G), .int .i64 (4 + M), .int .i64 (4 + M - 1), .int .i64 S, .int .i64 2] 23)))
    have C3 := Wc.hid ((C2.out.keep hb3).keep ((Below.refl _ _).alloc (Nat.le_refl _) (.cells #[.int .i64 (1 + G), .int .i64 (4 + M), .int .i64 (4 + M - 1), .int .i64 S, .int .i64 2] 23)))
    have D3 := Wc.hid (Sh.new w3 ⟨1 + G, 4 + M, 4 + M - 1, S, 2⟩)
    have HB3 := Wc.hid ((Wc.step HB2.out (Nat.le_refl _) hb3).alloc (Wc.step HB2.out (Nat.le_refl _) hb3).size (.cells #[.int .i64 (1 + G), .int .i64 (4 + M), .int .i64 (4 + M - 1), .int .i64 S, .int .i64 2] 23))
    clear hb3
    have ⟨c0, c1, c2, c3, c4⟩ := A3.out.sc
    go_wp2_with fail
    clear c0 c1 c2 c3 c4
    refine (check6_any ⟨1 + G, 4 + M, 4 + M - 1, S, 2⟩ _).mono ?_
    rintro e w4 ⟨rfl, hb4⟩
    rw [supE_yes HGD.out]
    have HB4 := Wc.hid (Wc.step HB3.out (Nat.le_refl _) hb4)
    have ⟨c0, c1, c2, c3, c4⟩ := (A3.out.keep hb4).sc
    have ⟨d0, d1, d2, d3, d4⟩ := (C3.out.keep hb4).sc
    have ⟨e0, e1, e2, e3, e4⟩ := (D3.out.keep hb4).sc
    clear hb4
    go_wp2_with fail
    refine (check6_any ⟨0, 4 + M, 4 + M - 1, S, 2⟩ _).mono ?_
    rintro e w5 ⟨rfl, hb5⟩
    rw [supE_no HBAD.out]
    have HB5 := Wc.hid (Wc.step HB4.out (Nat.le_refl _) hb5)
    clear hb5 c0 c1 c2 c3 c4 d0 d1 d2 d3 d4 e0 e1 e2 e3 e4
    go_wp2_with fail
    refine (wakes_any _).mono ?_
    rintro e w6 ⟨rfl, hb6⟩
    go_wp2_with fail
    go_ret
    exact ⟨rfl, Wc.step HB5.out (Nat.le_refl _) hb6⟩
  · have HBAD : Hid (Ws.supB ⟨1099511627777, 4 + M, 4 + M - 1, S, 2⟩ = false) := Wc.hid (bad_no (by simp only []; omega))
    clear eG eM eS
    refine (bytes6_ok ⟨1 + G, 4 + M, 4 + M - 1, S, 2⟩ _ HGD.out).mono ?_
    rintro e w1 ⟨g, rfl, hg, hr, hb1⟩
    have A1 := Wc.hid (((Sh.new w ⟨1 + G, 4 + M, 4 + M - 1, S, 2⟩).keep ((Below.refl _ _).alloc (Nat.le_refl _) (.cells #[.int .i64 1099511627777, .int .i64 (4 + M), .int .i64 (4 + M - 1), .int .i64 S, .int .i64 2] 23))).keep hb1)
    have C1 : Hid (Sh w1 (w.heap.size + 1) ⟨1099511627777, 4 + M, 4 + M - 1, S, 2⟩) := Wc.hid (by have := (Sh.new (w.alloc (.cells #[.int .i64 (1 + G), .int .i64 (4 + M), .int .i64 (4 + M - 1), .int .i64 S, .int .i64 2] 23)) ⟨1099511627777, 4 + M, 4 + M - 1, S, 2⟩).keep hb1; simpa using this)
    have HB1 := Wc.hid (Wc.step (((Below.refl w.heap.size w).alloc (Nat.le_refl _) (.cells #[.int .i64 (1 + G), .int .i64 (4 + M), .int .i64 (4 + M - 1), .int .i64 S, .int .i64 2] 23)).alloc (by simp) (.cells #[.int .i64 1099511627777, .int .i64 (4 + M), .int .i64 (4 + M - 1), .int .i64 S, .int .i64 2] 23)) (Nat.le_refl _) hb1)
    have HR := Wc.hid (hr.bs (Ws.blk_length _) (Ws.blk_bd _))
    clear hg hr hb1
    have ⟨d0, d1, d2, d3, d4⟩ := C1.out.sc
    go_wp2_with fail
    clear d0 d1 d2 d3 d4
    refine (bytes6_bad ⟨1099511627777, 4 + M, 4 + M - 1, S, 2⟩ _ HBAD.out).mono ?_
    rintro e w2 ⟨rfl, hb2⟩
    have A2 := Wc.hid (A1.out.keep hb2)
    have C2 := Wc.hid (C1.out.keep hb2)
    have HB2 := Wc.hid (Wc.step HB1.out (Nat.le_refl _) hb2)
    have HR2 := Wc.hid (HR.out.keep hb2)
    clear hb2
    go_wp2_with fail
    refine (parse_any _ _ _ HR2.out).mono ?_
    rintro e w3 ⟨rfl, hb3⟩
    rw [HGP.out.1, HGP.out.2]
    unfold sv
    have A3 := Wc.hid ((A2.out.keep hb3).keep ((Below.refl _ _).alloc (Nat.le_refl _) (.cells #[.int .i64 (1 + G), .int .i64 (4 + M), .int .i64 (4 + M - 1), .int .i64 S, .int .i64 2] 23)))
    have C3 := Wc.hid ((C2.out.keep hb3).keep ((Below.refl _ _).alloc (Nat.le_refl _) (.cells #[.int .i64 (1 + G), .int .i64 (4 + M), .int .i64 (4 + M - 1), .int .i64 S, .int .i64 2] 23)))
    have D3 := Wc.hid (Sh.new w3 ⟨1 + G, 4 + M, 4 + M - 1, S, 2⟩)
    have HB3 := Wc.hid ((Wc.step HB2.out (Nat.le_refl _) hb3).alloc (Wc.step HB2.out (Nat.le_refl _) hb3).size (.cells #[.int .i64 (1 + G), .int .i64 (4 + M), .int .i64 (4 + M - 1), .int .i64 S, .int .i64 2] 23))
    clear hb3
    have ⟨c0, c1, c2, c3, c4⟩ := A3.out.sc
    go_wp2_with fail
    clear c0 c1 c2 c3 c4
    refine (check6_any ⟨1 + G, 4 + M, 4 + M - 1, S, 2⟩ _).mono ?_
    rintro e w4 ⟨rfl, hb4⟩
    rw [supE_yes HGD.out]
    have HB4 := Wc.hid (Wc.step HB3.out (Nat.le_refl _) hb4)
    have ⟨c0, c1, c2, c3, c4⟩ := (A3.out.keep hb4).sc
    have ⟨d0, d1, d2, d3, d4⟩ := (C3.out.keep hb4).sc
    have ⟨e0, e1, e2, e3, e4⟩ := (D3.out.keep hb4).sc
    clear hb4
    go_wp2_with fail
    refine (check6_any ⟨1099511627777, 4 + M, 4 + M - 1, S, 2⟩ _).mono ?_
    rintro e w5 ⟨rfl, hb5⟩
    rw [supE_no HBAD.out]
    have HB5 := Wc.hid (Wc.step HB4.out (Nat.le_refl _) hb5)
    clear hb5 c0 c1 c2 c3 c4 d0 d1 d2 d3 d4 e0 e1 e2 e3 e4
    go_wp2_with fail
    refine (wakes_any _).mono ?_
    rintro e w6 ⟨rfl, hb6⟩
    go_wp2_with fail
    go_ret
    exact ⟨rfl, Wc.step HB5.out (Nat.le_refl _) hb6⟩
  · have HBAD : Hid (Ws.supB ⟨1 + G, 3, 4 + M - 1, S, 2⟩ = false) := Wc.hid (bad_no (by simp only []; omega))
    clear eG eM eS
    refine (bytes6_ok ⟨1 + G, 4 + M, 4 + M - 1, S, 2⟩ _ HGD.out).mono ?_
    rintro e w1 ⟨g, rfl, hg, hr, hb1⟩
    have A1 := Wc.hid (((Sh.new w ⟨1 + G, 4 + M, 4 + M - 1, S, 2⟩).keep ((Below.refl _ _).alloc (Nat.le_refl _) (.cells #[.int .i64 (1 + G), .int .i64 3, .int .i64 (4 + M - 1), .int .i64 S, .int .i64 2] 23))).keep hb1)
    have C1 : Hid (Sh w1 (w.heap.size + 1) ⟨1 + G, 3, 4 + M - 1, S, 2⟩) := Wc.hid (by have := (Sh.new (w.alloc (.cells #[.int .i64 (1 + G), .int .i64 (4 + M), .int .i64 (4 + M - 1), .int .i64 S, .int .i64 2] 23)) ⟨1 + G, 3, 4 + M - 1, S, 2⟩).keep hb1; simpa using this)
    have HB1 := Wc.hid (Wc.step (((Below.refl w.heap.size w).alloc (Nat.le_refl _) (.cells #[.int .i64 (1 + G), .int .i64 (4 + M), .int .i64 (4 + M - 1), .int .i64 S, .int .i64 2] 23)).alloc (by simp) (.cells #[.int .i64 (1 + G), .int .i64 3, .int .i64 (4 + M - 1), .int .i64 S, .int .i64 2] 23)) (Nat.le_refl _) hb1)
    have HR := Wc.hid (hr.bs (Ws.blk_length _) (Ws.blk_bd _))
    clear hg hr hb1
    have ⟨d0, d1, d2, d3, d4⟩ := C1.out.sc
    go_wp2_with fail
    clear d0 d1 d2 d3 d4
    refine (bytes6_bad ⟨1 + G, 3, 4 + M - 1, S, 2⟩ _ HBAD.out).mono ?_
    rintro e w2 ⟨rfl, hb2⟩
    have A2 := Wc.hid (A1.out.keep hb2)
    have C2 := Wc.hid (C1.out.keep hb2)
    have HB2 := Wc.hid (Wc.step HB1.out (Nat.le_refl _) hb2)
    have HR2 := Wc.hid (HR.out.keep hb2)
    clear hb2
    go_wp2_with fail
    refine (parse_any _ _ _ HR2.out).mono ?_
    rintro e w3 ⟨rfl, hb3⟩
    rw [HGP.out.1, HGP.out.2]
    unfold sv
    have A3 := Wc.hid ((A2.out.keep hb3).keep ((Below.refl _ _).alloc (Nat.le_refl _) (.cells #[.int .i64 (1 + G), .int .i64 (4 + M), .int .i64 (4 + M - 1), .int .i64 S, .int .i64 2] 23)))
    have C3 := Wc.hid ((C2.out.keep hb3).keep ((Below.refl _ _).alloc (Nat.le_refl _) (.cells #[.int .i64 (1 + G), .int .i64 (4 + M), .int .i64 (4 + M - 1), .int .i64 S, .int .i64 2] 23)))
    have D3 := Wc.hid (Sh.new w3 ⟨1 + G, 4 + M, 4 + M - 1, S, 2⟩)
    have HB3 := Wc.hid ((Wc.step HB2.out (Nat.le_refl _) hb3).alloc (Wc.step HB2.out (Nat.le_refl _) hb3).size (.cells #[.int .i64 (1 + G), .int .i64 (4 + M), .int .i64 (4 + M - 1), .int .i64 S, .int .i64 2] 23))
    clear hb3
    have ⟨c0, c1, c2, c3, c4⟩ := A3.out.sc
    go_wp2_with fail
    clear c0 c1 c2 c3 c4
    refine (check6_any ⟨1 + G, 4 + M, 4 + M - 1, S, 2⟩ _).mono ?_
    rintro e w4 ⟨rfl, hb4⟩
    rw [supE_yes HGD.out]
    have HB4 := Wc.hid (Wc.step HB3.out (Nat.le_refl _) hb4)
    have ⟨c0, c1, c2, c3, c4⟩ := (A3.out.keep hb4).sc
    have ⟨d0, d1, d2, d3, d4⟩ := (C3.out.keep hb4).sc
    have ⟨e0, e1, e2, e3, e4⟩ := (D3.out.keep hb4).sc
    clear hb4
    go_wp2_with fail
    refine (check6_any ⟨1 + G, 3, 4 + M - 1, S, 2⟩ _).mono ?_
    rintro e w5 ⟨rfl, hb5⟩
    rw [supE_no HBAD.out]
    have HB5 := Wc.hid (Wc.step HB4.out (Nat.le_refl _) hb5)
    clear hb5 c0 c1 c2 c3 c4 d0 d1 d2 d3 d4 e0 e1 e2 e3 e4
    go_wp2_with fail
    refine (wakes_any _).mono ?_
    rintro e w6 ⟨rfl, hb6⟩
    go_wp2_with fail
    go_ret
    exact ⟨rfl, Wc.step HB5.out (Nat.le_refl _) hb6⟩
  · have HBAD : Hid (Ws.supB ⟨1 + G, 4097, 4 + M - 1, S, 2⟩ = false) := Wc.hid (bad_no (by simp only []; omega))
    clear eG eM eS
    refine (bytes6_ok ⟨1 + G, 4 + M, 4 + M - 1, S, 2⟩ _ HGD.out).mono ?_
    rintro e w1 ⟨g, rfl, hg, hr, hb1⟩
    have A1 := Wc.hid (((Sh.new w ⟨1 + G, 4 + M, 4 + M - 1, S, 2⟩).keep ((Below.refl _ _).alloc (Nat.le_refl _) (.cells #[.int .i64 (1 + G), .int .i64 4097, .int .i64 (4 + M - 1), .int .i64 S, .int .i64 2] 23))).keep hb1)
    have C1 : Hid (Sh w1 (w.heap.size + 1) ⟨1 + G, 4097, 4 + M - 1, S, 2⟩) := Wc.hid (by have := (Sh.new (w.alloc (.cells #[.int .i64 (1 + G), .int .i64 (4 + M), .int .i64 (4 + M - 1), .int .i64 S, .int .i64 2] 23)) ⟨1 + G, 4097, 4 + M - 1, S, 2⟩).keep hb1; simpa using this)
    have HB1 := Wc.hid (Wc.step (((Below.refl w.heap.size w).alloc (Nat.le_refl _) (.cells #[.int .i64 (1 + G), .int .i64 (4 + M), .int .i64 (4 + M - 1), .int .i64 S, .int .i64 2] 23)).alloc (by simp) (.cells #[.int .i64 (1 + G), .int .i64 4097, .int .i64 (4 + M - 1), .int .i64 S, .int .i64 2] 23)) (Nat.le_refl _) hb1)
    have HR := Wc.hid (hr.bs (Ws.blk_length _) (Ws.blk_bd _))
    clear hg hr hb1
    have ⟨d0, d1, d2, d3, d4⟩ := C1.out.sc
    go_wp2_with fail
    clear d0 d1 d2 d3 d4
    refine (bytes6_bad ⟨1 + G, 4097, 4 + M - 1, S, 2⟩ _ HBAD.out).mono ?_
    rintro e w2 ⟨rfl, hb2⟩
    have A2 := Wc.hid (A1.out.keep hb2)
    have C2 := Wc.hid (C1.out.keep hb2)
    have HB2 := Wc.hid (Wc.step HB1.out (Nat.le_refl _) hb2)
    have HR2 := Wc.hid (HR.out.keep hb2)
    clear hb2
    go_wp2_with fail
    refine (parse_any _ _ _ HR2.out).mono ?_
    rintro e w3 ⟨rfl, hb3⟩
    rw [HGP.out.1, HGP.out.2]
    unfold sv
    have A3 := Wc.hid ((A2.out.keep hb3).keep ((Below.refl _ _).alloc (Nat.le_refl _) (.cells #[.int .i64 (1 + G), .int .i64 (4 + M), .int .i64 (4 + M - 1), .int .i64 S, .int .i64 2] 23)))
    have C3 := Wc.hid ((C2.out.keep hb3).keep ((Below.refl _ _).alloc (Nat.le_refl _) (.cells #[.int .i64 (1 + G), .int .i64 (4 + M), .int .i64 (4 + M - 1), .int .i64 S, .int .i64 2] 23)))
    have D3 := Wc.hid (Sh.new w3 ⟨1 + G, 4 + M, 4 + M - 1, S, 2⟩)
    have HB3 := Wc.hid ((Wc.step HB2.out (Nat.le_refl _) hb3).alloc (Wc.step HB2.out (Nat.le_refl _) hb3).size (.cells #[.int .i64 (1 + G), .int .i64 (4 + M), .int .i64 (4 + M - 1), .int .i64 S, .int .i64 2] 23))
    clear hb3
    have ⟨c0, c1, c2, c3, c4⟩ := A3.out.sc
    go_wp2_with fail
    clear c0 c1 c2 c3 c4
    refine (check6_any ⟨1 + G, 4 + M, 4 + M - 1, S, 2⟩ _).mono ?_
    rintro e w4 ⟨rfl, hb4⟩
    rw [supE_yes HGD.out]
    have HB4 := Wc.hid (Wc.step HB3.out (Nat.le_refl _) hb4)
    have ⟨c0, c1, c2, c3, c4⟩ := (A3.out.keep hb4).sc
    have ⟨d0, d1, d2, d3, d4⟩ := (C3.out.keep hb4).sc
    have ⟨e0, e1, e2, e3, e4⟩ := (D3.out.keep hb4).sc
    clear hb4
    go_wp2_with fail
    refine (check6_any ⟨1 + G, 4097, 4 + M - 1, S, 2⟩ _).mono ?_
    rintro e w5 ⟨rfl, hb5⟩
    rw [supE_no HBAD.out]
    have HB5 := Wc.hid (Wc.step HB4.out (Nat.le_refl _) hb5)
    clear hb5 c0 c1 c2 c3 c4 d0 d1 d2 d3 d4 e0 e1 e2 e3 e4
    go_wp2_with fail
    refine (wakes_any _).mono ?_
    rintro e w6 ⟨rfl, hb6⟩
    go_wp2_with fail
    go_ret
    exact ⟨rfl, Wc.step HB5.out (Nat.le_refl _) hb6⟩
  · have HBAD : Hid (Ws.supB ⟨1 + G, 4 + M, 4 + M - 1, 513, 2⟩ = false) := Wc.hid (bad_no (by simp only []; omega))
    clear eG eM eS
    refine (bytes6_ok ⟨1 + G, 4 + M, 4 + M - 1, S, 2⟩ _ HGD.out).mono ?_
    rintro e w1 ⟨g, rfl, hg, hr, hb1⟩
    have A1 := Wc.hid (((Sh.new w ⟨1 + G, 4 + M, 4 + M - 1, S, 2⟩).keep ((Below.refl _ _).alloc (Nat.le_refl _) (.cells #[.int .i64 (1 + G), .int .i64 (4 + M), .int .i64 (4 + M - 1), .int .i64 513, .int .i64 2] 23))).keep hb1)
    have C1 : Hid (Sh w1 (w.heap.size + 1) ⟨1 + G, 4 + M, 4 + M - 1, 513, 2⟩) := Wc.hid (by have := (Sh.new (w.alloc (.cells #[.int .i64 (1 + G), .int .i64 (4 + M), .int .i64 (4 + M - 1), .int .i64 S, .int .i64 2] 23)) ⟨1 + G, 4 + M, 4 + M - 1, 513, 2⟩).keep hb1; simpa using this)
    have HB1 := Wc.hid (Wc.step (((Below.refl w.heap.size w).alloc (Nat.le_refl _) (.cells #[.int .i64 (1 + G), .int .i64 (4 + M), .int .i64 (4 + M - 1), .int .i64 S, .int .i64 2] 23)).alloc (by simp) (.cells #[.int .i64 (1 + G), .int .i64 (4 + M), .int .i64 (4 + M - 1), .int .i64 513, .int .i64 2] 23)) (Nat.le_refl _) hb1)
    have HR := Wc.hid (hr.bs (Ws.blk_length _) (Ws.blk_bd _))
    clear hg hr hb1
    have ⟨d0, d1, d2, d3, d4⟩ := C1.out.sc
    go_wp2_with fail
    clear d0 d1 d2 d3 d4
    refine (bytes6_bad ⟨1 + G, 4 + M, 4 + M - 1, 513, 2⟩ _ HBAD.out).mono ?_
    rintro e w2 ⟨rfl, hb2⟩
    have A2 := Wc.hid (A1.out.keep hb2)
    have C2 := Wc.hid (C1.out.keep hb2)
    have HB2 := Wc.hid (Wc.step HB1.out (Nat.le_refl _) hb2)
    have HR2 := Wc.hid (HR.out.keep hb2)
    clear hb2
    go_wp2_with fail
    refine (parse_any _ _ _ HR2.out).mono ?_
    rintro e w3 ⟨rfl, hb3⟩
    rw [HGP.out.1, HGP.out.2]
    unfold sv
    have A3 := Wc.hid ((A2.out.keep hb3).keep ((Below.refl _ _).alloc (Nat.le_refl _) (.cells #[.int .i64 (1 + G), .int .i64 (4 + M), .int .i64 (4 + M - 1), .int .i64 S, .int .i64 2] 23)))
    have C3 := Wc.hid ((C2.out.keep hb3).keep ((Below.refl _ _).alloc (Nat.le_refl _) (.cells #[.int .i64 (1 + G), .int .i64 (4 + M), .int .i64 (4 + M - 1), .int .i64 S, .int .i64 2] 23)))
    have D3 := Wc.hid (Sh.new w3 ⟨1 + G, 4 + M, 4 + M - 1, S, 2⟩)
    have HB3 := Wc.hid ((Wc.step HB2.out (Nat.le_refl _) hb3).alloc (Wc.step HB2.out (Nat.le_refl _) hb3).size (.cells #[.int .i64 (1 + G), .int .i64 (4 + M), .int .i64 (4 + M - 1), .int .i64 S, .int .i64 2] 23))
    clear hb3
    have ⟨c0, c1, c2, c3, c4⟩ := A3.out.sc
    go_wp2_with fail
    clear c0 c1 c2 c3 c4
    refine (check6_any ⟨1 + G, 4 + M, 4 + M - 1, S, 2⟩ _).mono ?_
    rintro e w4 ⟨rfl, hb4⟩
    rw [supE_yes HGD.out]
    have HB4 := Wc.hid (Wc.step HB3.out (Nat.le_refl _) hb4)
    have ⟨c0, c1, c2, c3, c4⟩ := (A3.out.keep hb4).sc
    have ⟨d0, d1, d2, d3, d4⟩ := (C3.out.keep hb4).sc
    have ⟨e0, e1, e2, e3, e4⟩ := (D3.out.keep hb4).sc
    clear hb4
    go_wp2_with fail
    refine (check6_any ⟨1 + G, 4 + M, 4 + M - 1, 513, 2⟩ _).mono ?_
    rintro e w5 ⟨rfl, hb5⟩
    rw [supE_no HBAD.out]
    have HB5 := Wc.hid (Wc.step HB4.out (Nat.le_refl _) hb5)
    clear hb5 c0 c1 c2 c3 c4 d0 d1 d2 d3 d4 e0 e1 e2 e3 e4
    go_wp2_with fail
    refine (wakes_any _).mono ?_
    rintro e w6 ⟨rfl, hb6⟩
    go_wp2_with fail
    go_ret
    exact ⟨rfl, Wc.step HB5.out (Nat.le_refl _) hb6⟩
  · have HBAD : Hid (Ws.supB ⟨1 + G, 4 + M, 4 + M - 1, -1, 2⟩ = false) := Wc.hid (bad_no (by simp only []; omega))
    clear eG eM eS
    refine (bytes6_ok ⟨1 + G, 4 + M, 4 + M - 1, S, 2⟩ _ HGD.out).mono ?_
    rintro e w1 ⟨g, rfl, hg, hr, hb1⟩
    have A1 := Wc.hid (((Sh.new w ⟨1 + G, 4 + M, 4 + M - 1, S, 2⟩).keep ((Below.refl _ _).alloc (Nat.le_refl _) (.cells #[.int .i64 (1 + G), .int .i64 (4 + M), .int .i64 (4 + M - 1), .int .i64 (-1), .int .i64 2] 23))).keep hb1)
    have C1 : Hid (Sh w1 (w.heap.size + 1) ⟨1 + G, 4 + M, 4 + M - 1, -1, 2⟩) := Wc.hid (by have := (Sh.new (w.alloc (.cells #[.int .i64 (1 + G), .int .i64 (4 + M), .int .i64 (4 + M - 1), .int .i64 S, .int .i64 2] 23)) ⟨1 + G, 4 + M, 4 + M - 1, -1, 2⟩).keep hb1; simpa using this)
    have HB1 := Wc.hid (Wc.step (((Below.refl w.heap.size w).alloc (Nat.le_refl _) (.cells #[.int .i64 (1 + G), .int .i64 (4 + M), .int .i64 (4 + M - 1), .int .i64 S, .int .i64 2] 23)).alloc (by simp) (.cells #[.int .i64 (1 + G), .int .i64 (4 + M), .int .i64 (4 + M - 1), .int .i64 (-1), .int .i64 2] 23)) (Nat.le_refl _) hb1)
    have HR := Wc.hid (hr.bs (Ws.blk_length _) (Ws.blk_bd _))
    clear hg hr hb1
    have ⟨d0, d1, d2, d3, d4⟩ := C1.out.sc
    go_wp2_with fail
    clear d0 d1 d2 d3 d4
    refine (bytes6_bad ⟨1 + G, 4 + M, 4 + M - 1, -1, 2⟩ _ HBAD.out).mono ?_
    rintro e w2 ⟨rfl, hb2⟩
    have A2 := Wc.hid (A1.out.keep hb2)
    have C2 := Wc.hid (C1.out.keep hb2)
    have HB2 := Wc.hid (Wc.step HB1.out (Nat.le_refl _) hb2)
    have HR2 := Wc.hid (HR.out.keep hb2)
    clear hb2
    go_wp2_with fail
    refine (parse_any _ _ _ HR2.out).mono ?_
    rintro e w3 ⟨rfl, hb3⟩
    rw [HGP.out.1, HGP.out.2]
    unfold sv
    have A3 := Wc.hid ((A2.out.keep hb3).keep ((Below.refl _ _).alloc (Nat.le_refl _) (.cells #[.int .i64 (1 + G), .int .i64 (4 + M), .int .i64 (4 + M - 1), .int .i64 S, .int .i64 2] 23)))
    have C3 := Wc.hid ((C2.out.keep hb3).keep ((Below.refl _ _).alloc (Nat.le_refl _) (.cells #[.int .i64 (1 + G), .int .i64 (4 + M), .int .i64 (4 + M - 1), .int .i64 S, .int .i64 2] 23)))
    have D3 := Wc.hid (Sh.new w3 ⟨1 + G, 4 + M, 4 + M - 1, S, 2⟩)
    have HB3 := Wc.hid ((Wc.step HB2.out (Nat.le_refl _) hb3).alloc (Wc.step HB2.out (Nat.le_refl _) hb3).size (.cells #[.int .i64 (1 + G), .int .i64 (4 + M), .int .i64 (4 + M - 1), .int .i64 S, .int .i64 2] 23))
    clear hb3
    have ⟨c0, c1, c2, c3, c4⟩ := A3.out.sc
    go_wp2_with fail
    clear c0 c1 c2 c3 c4
    refine (check6_any ⟨1 + G, 4 + M, 4 + M - 1, S, 2⟩ _).mono ?_
    rintro e w4 ⟨rfl, hb4⟩
    rw [supE_yes HGD.out]
    have HB4 := Wc.hid (Wc.step HB3.out (Nat.le_refl _) hb4)
    have ⟨c0, c1, c2, c3, c4⟩ := (A3.out.keep hb4).sc
    have ⟨d0, d1, d2, d3, d4⟩ := (C3.out.keep hb4).sc
    have ⟨e0, e1, e2, e3, e4⟩ := (D3.out.keep hb4).sc
    clear hb4
    go_wp2_with fail
    refine (check6_any ⟨1 + G, 4 + M, 4 + M - 1, -1, 2⟩ _).mono ?_
    rintro e w5 ⟨rfl, hb5⟩
    rw [supE_no HBAD.out]
    have HB5 := Wc.hid (Wc.step HB4.out (Nat.le_refl _) hb5)
    clear hb5 c0 c1 c2 c3 c4 d0 d1 d2 d3 d4 e0 e1 e2 e3 e4
    go_wp2_with fail
    refine (wakes_any _).mono ?_
    rintro e w6 ⟨rfl, hb6⟩
    go_wp2_with fail
    go_ret
    exact ⟨rfl, Wc.step HB5.out (Nat.le_refl _) hb6⟩
  · have HBAD : Hid (Ws.supB ⟨1 + G, 4 + M, 1, S, 2⟩ = false) := Wc.hid (bad_no (by simp only []; omega))
    clear eG eM eS
    refine (bytes6_ok ⟨1 + G, 4 + M, 4 + M - 1, S, 2⟩ _ HGD.out).mono ?_
    rintro e w1 ⟨g, rfl, hg, hr, hb1⟩
    have A1 := Wc.hid (((Sh.new w ⟨1 + G, 4 + M, 4 + M - 1, S, 2⟩).keep ((Below.refl _ _).alloc (Nat.le_refl _) (.cells #[.int .i64 (1 + G), .int .i64 (4 + M), .int .i64 1, .int .i64 S, .int .i64 2] 23))).keep hb1)
    have C1 : Hid (Sh w1 (w.heap.size + 1) ⟨1 + G, 4 + M, 1, S, 2⟩) := Wc.hid (by have := (Sh.new (w.alloc (.cells #[.int .i64 (1 + G), .int .i64 (4 + M), .int .i64 (4 + M - 1), .int .i64 S, .int .i64 2] 23)) ⟨1 + G, 4 + M, 1, S, 2⟩).keep hb1; simpa using this)
    have HB1 := Wc.hid (Wc.step (((Below.refl w.heap.size w).alloc (Nat.le_refl _) (.cells #[.int .i64 (1 + G), .int .i64 (4 + M), .int .i64 (4 + M - 1), .int .i64 S, .int .i64 2] 23)).alloc (by simp) (.cells #[.int .i64 (1 + G), .int .i64 (4 + M), .int .i64 1, .int .i64 S, .int .i64 2] 23)) (Nat.le_refl _) hb1)
    have HR := Wc.hid (hr.bs (Ws.blk_length _) (Ws.blk_bd _))
    clear hg hr hb1
    have ⟨d0, d1, d2, d3, d4⟩ := C1.out.sc
    go_wp2_with fail
    clear d0 d1 d2 d3 d4
    refine (bytes6_bad ⟨1 + G, 4 + M, 1, S, 2⟩ _ HBAD.out).mono ?_
    rintro e w2 ⟨rfl, hb2⟩
    have A2 := Wc.hid (A1.out.keep hb2)
    have C2 := Wc.hid (C1.out.keep hb2)
    have HB2 := Wc.hid (Wc.step HB1.out (Nat.le_refl _) hb2)
    have HR2 := Wc.hid (HR.out.keep hb2)
    clear hb2
    go_wp2_with fail
    refine (parse_any _ _ _ HR2.out).mono ?_
    rintro e w3 ⟨rfl, hb3⟩
    rw [HGP.out.1, HGP.out.2]
    unfold sv
    have A3 := Wc.hid ((A2.out.keep hb3).keep ((Below.refl _ _).alloc (Nat.le_refl _) (.cells #[.int .i64 (1 + G), .int .i64 (4 + M), .int .i64 (4 + M - 1), .int .i64 S, .int .i64 2] 23)))
    have C3 := Wc.hid ((C2.out.keep hb3).keep ((Below.refl _ _).alloc (Nat.le_refl _) (.cells #[.int .i64 (1 + G), .int .i64 (4 + M), .int .i64 (4 + M - 1), .int .i64 S, .int .i64 2] 23)))
    have D3 := Wc.hid (Sh.new w3 ⟨1 + G, 4 + M, 4 + M - 1, S, 2⟩)
    have HB3 := Wc.hid ((Wc.step HB2.out (Nat.le_refl _) hb3).alloc (Wc.step HB2.out (Nat.le_refl _) hb3).size (.cells #[.int .i64 (1 + G), .int .i64 (4 + M), .int .i64 (4 + M - 1), .int .i64 S, .int .i64 2] 23))
    clear hb3
    have ⟨c0, c1, c2, c3, c4⟩ := A3.out.sc
    go_wp2_with fail
    clear c0 c1 c2 c3 c4
    refine (check6_any ⟨1 + G, 4 + M, 4 + M - 1, S, 2⟩ _).mono ?_
    rintro e w4 ⟨rfl, hb4⟩
    rw [supE_yes HGD.out]
    have HB4 := Wc.hid (Wc.step HB3.out (Nat.le_refl _) hb4)
    have ⟨c0, c1, c2, c3, c4⟩ := (A3.out.keep hb4).sc
    have ⟨d0, d1, d2, d3, d4⟩ := (C3.out.keep hb4).sc
    have ⟨e0, e1, e2, e3, e4⟩ := (D3.out.keep hb4).sc
    clear hb4
    go_wp2_with fail
    refine (check6_any ⟨1 + G, 4 + M, 1, S, 2⟩ _).mono ?_
    rintro e w5 ⟨rfl, hb5⟩
    rw [supE_no HBAD.out]
    have HB5 := Wc.hid (Wc.step HB4.out (Nat.le_refl _) hb5)
    clear hb5 c0 c1 c2 c3 c4 d0 d1 d2 d3 d4 e0 e1 e2 e3 e4
    go_wp2_with fail
    refine (wakes_any _).mono ?_
    rintro e w6 ⟨rfl, hb6⟩
    go_wp2_with fail
    go_ret
    exact ⟨rfl, Wc.step HB5.out (Nat.le_refl _) hb6⟩
  · have HBAD : Hid (Ws.supB ⟨1 + G, 4 + M, 4 + M, S, 2⟩ = false) := Wc.hid (bad_no (by simp only []; omega))
    clear eG eM eS
    refine (bytes6_ok ⟨1 + G, 4 + M, 4 + M - 1, S, 2⟩ _ HGD.out).mono ?_
    rintro e w1 ⟨g, rfl, hg, hr, hb1⟩
    have A1 := Wc.hid (((Sh.new w ⟨1 + G, 4 + M, 4 + M - 1, S, 2⟩).keep ((Below.refl _ _).alloc (Nat.le_refl _) (.cells #[.int .i64 (1 + G), .int .i64 (4 + M), .int .i64 (4 + M), .int .i64 S, .int .i64 2] 23))).keep hb1)
    have C1 : Hid (Sh w1 (w.heap.size + 1) ⟨1 + G, 4 + M, 4 + M, S, 2⟩) := Wc.hid (by have := (Sh.new (w.alloc (.cells #[.int .i64 (1 + G), .int .i64 (4 + M), .int .i64 (4 + M - 1), .int .i64 S, .int .i64 2] 23)) ⟨1 + G, 4 + M, 4 + M, S, 2⟩).keep hb1; simpa using this)
    have HB1 := Wc.hid (Wc.step (((Below.refl w.heap.size w).alloc (Nat.le_refl _) (.cells #[.int .i64 (1 + G), .int .i64 (4 + M), .int .i64 (4 + M - 1), .int .i64 S, .int .i64 2] 23)).alloc (by simp) (.cells #[.int .i64 (1 + G), .int .i64 (4 + M), .int .i64 (4 + M), .int .i64 S, .int .i64 2] 23)) (Nat.le_refl _) hb1)
    have HR := Wc.hid (hr.bs (Ws.blk_length _) (Ws.blk_bd _))
    clear hg hr hb1
    have ⟨d0, d1, d2, d3, d4⟩ := C1.out.sc
    go_wp2_with fail
    clear d0 d1 d2 d3 d4
    refine (bytes6_bad ⟨1 + G, 4 + M, 4 + M, S, 2⟩ _ HBAD.out).mono ?_
    rintro e w2 ⟨rfl, hb2⟩
    have A2 := Wc.hid (A1.out.keep hb2)
    have C2 := Wc.hid (C1.out.keep hb2)
    have HB2 := Wc.hid (Wc.step HB1.out (Nat.le_refl _) hb2)
    have HR2 := Wc.hid (HR.out.keep hb2)
    clear hb2
    go_wp2_with fail
    refine (parse_any _ _ _ HR2.out).mono ?_
    rintro e w3 ⟨rfl, hb3⟩
    rw [HGP.out.1, HGP.out.2]
    unfold sv
    have A3 := Wc.hid ((A2.out.keep hb3).keep ((Below.refl _ _).alloc (Nat.le_refl _) (.cells #[.int .i64 (1 + G), .int .i64 (4 + M), .int .i64 (4 + M - 1), .int .i64 S, .int .i64 2] 23)))
    have C3 := Wc.hid ((C2.out.keep hb3).keep ((Below.refl _ _).alloc (Nat.le_refl _) (.cells #[.int .i64 (1 + G), .int .i64 (4 + M), .int .i64 (4 + M - 1), .int .i64 S, .int .i64 2] 23)))
    have D3 := Wc.hid (Sh.new w3 ⟨1 + G, 4 + M, 4 + M - 1, S, 2⟩)
    have HB3 := Wc.hid ((Wc.step HB2.out (Nat.le_refl _) hb3).alloc (Wc.step HB2.out (Nat.le_refl _) hb3).size (.cells #[.int .i64 (1 + G), .int .i64 (4 + M), .int .i64 (4 + M - 1), .int .i64 S, .int .i64 2] 23))
    clear hb3
    have ⟨c0, c1, c2, c3, c4⟩ := A3.out.sc
    go_wp2_with fail
    clear c0 c1 c2 c3 c4
    refine (check6_any ⟨1 + G, 4 + M, 4 + M - 1, S, 2⟩ _).mono ?_
    rintro e w4 ⟨rfl, hb4⟩
    rw [supE_yes HGD.out]
    have HB4 := Wc.hid (Wc.step HB3.out (Nat.le_refl _) hb4)
    have ⟨c0, c1, c2, c3, c4⟩ := (A3.out.keep hb4).sc
    have ⟨d0, d1, d2, d3, d4⟩ := (C3.out.keep hb4).sc
    have ⟨e0, e1, e2, e3, e4⟩ := (D3.out.keep hb4).sc
    clear hb4
    go_wp2_with fail
    refine (check6_any ⟨1 + G, 4 + M, 4 + M, S, 2⟩ _).mono ?_
    rintro e w5 ⟨rfl, hb5⟩
    rw [supE_no HBAD.out]
    have HB5 := Wc.hid (Wc.step HB4.out (Nat.le_refl _) hb5)
    clear hb5 c0 c1 c2 c3 c4 d0 d1 d2 d3 d4 e0 e1 e2 e3 e4
    go_wp2_with fail
    refine (wakes_any _).mono ?_
    rintro e w6 ⟨rfl, hb6⟩
    go_wp2_with fail
    go_ret
    exact ⟨rfl, Wc.step HB5.out (Nat.le_refl _) hb6⟩
  · have HBAD : Hid (Ws.supB ⟨1 + G, 4 + M, 4 + M - 1, S, -2⟩ = false) := Wc.hid (bad_no (by simp only []; omega))
    clear eG eM eS
    refine (bytes6_ok ⟨1 + G, 4 + M, 4 + M - 1, S, 2⟩ _ HGD.out).mono ?_
    rintro e w1 ⟨g, rfl, hg, hr, hb1⟩
    have A1 := Wc.hid (((Sh.new w ⟨1 + G, 4 + M, 4 + M - 1, S, 2⟩).keep ((Below.refl _ _).alloc (Nat.le_refl _) (.cells #[.int .i64 (1 + G), .int .i64 (4 + M), .int .i64 (4 + M - 1), .int .i64 S, .int .i64 (-2)] 23))).keep hb1)
    have C1 : Hid (Sh w1 (w.heap.size + 1) ⟨1 + G, 4 + M, 4 + M - 1, S, -2⟩) := Wc.hid (by have := (Sh.new (w.alloc (.cells #[.int .i64 (1 + G), .int .i64 (4 + M), .int .i64 (4 + M - 1), .int .i64 S, .int .i64 2] 23)) ⟨1 + G, 4 + M, 4 + M - 1, S, -2⟩).keep hb1; simpa using this)
    have HB1 := Wc.hid (Wc.step (((Below.refl w.heap.size w).alloc (Nat.le_refl _) (.cells #[.int .i64 (1 + G), .int .i64 (4 + M), .int .i64 (4 + M - 1), .int .i64 S, .int .i64 2] 23)).alloc (by simp) (.cells #[.int .i64 (1 + G), .int .i64 (4 + M), .int .i64 (4 + M - 1), .int .i64 S, .int .i64 (-2)] 23)) (Nat.le_refl _) hb1)
    have HR := Wc.hid (hr.bs (Ws.blk_length _) (Ws.blk_bd _))
    clear hg hr hb1
    have ⟨d0, d1, d2, d3, d4⟩ := C1.out.sc
    go_wp2_with fail
    clear d0 d1 d2 d3 d4
    refine (bytes6_bad ⟨1 + G, 4 + M, 4 + M - 1, S, -2⟩ _ HBAD.out).mono ?_
    rintro e w2 ⟨rfl, hb2⟩
    have A2 := Wc.hid (A1.out.keep hb2)
    have C2 := Wc.hid (C1.out.keep hb2)
    have HB2 := Wc.hid (Wc.step HB1.out (Nat.le_refl _) hb2)
    have HR2 := Wc.hid (HR.out.keep hb2)
    clear hb2
    go_wp2_with fail
    refine (parse_any _ _ _ HR2.out).mono ?_
    rintro e w3 ⟨rfl, hb3⟩
    rw [HGP.out.1, HGP.out.2]
    unfold sv
    have A3 := Wc.hid ((A2.out.keep hb3).keep ((Below.refl _ _).alloc (Nat.le_refl _) (.cells #[.int .i64 (1 + G), .int .i64 (4 + M), .int .i64 (4 + M - 1), .int .i64 S, .int .i64 2] 23)))
    have C3 := Wc.hid ((C2.out.keep hb3).keep ((Below.refl _ _).alloc (Nat.le_refl _) (.cells #[.int .i64 (1 + G), .int .i64 (4 + M), .int .i64 (4 + M - 1), .int .i64 S, .int .i64 2] 23)))
    have D3 := Wc.hid (Sh.new w3 ⟨1 + G, 4 + M, 4 + M - 1, S, 2⟩)
    have HB3 := Wc.hid ((Wc.step HB2.out (Nat.le_refl _) hb3).alloc (Wc.step HB2.out (Nat.le_refl _) hb3).size (.cells #[.int .i64 (1 + G), .int .i64 (4 + M), .int .i64 (4 + M - 1), .int .i64 S, .int .i64 2] 23))
    clear hb3
    have ⟨c0, c1, c2, c3, c4⟩ := A3.out.sc
    go_wp2_with fail
    clear c0 c1 c2 c3 c4
    refine (check6_any ⟨1 + G, 4 + M, 4 + M - 1, S, 2⟩ _).mono ?_
    rintro e w4 ⟨rfl, hb4⟩
    rw [supE_yes HGD.out]
    have HB4 := Wc.hid (Wc.step HB3.out (Nat.le_refl _) hb4)
    have ⟨c0, c1, c2, c3, c4⟩ := (A3.out.keep hb4).sc
    have ⟨d0, d1, d2, d3, d4⟩ := (C3.out.keep hb4).sc
    have ⟨e0, e1, e2, e3, e4⟩ := (D3.out.keep hb4).sc
    clear hb4
    go_wp2_with fail
    refine (check6_any ⟨1 + G, 4 + M, 4 + M - 1, S, -2⟩ _).mono ?_
    rintro e w5 ⟨rfl, hb5⟩
    rw [supE_no HBAD.out]
    have HB5 := Wc.hid (Wc.step HB4.out (Nat.le_refl _) hb5)
    clear hb5 c0 c1 c2 c3 c4 d0 d1 d2 d3 d4 e0 e1 e2 e3 e4
    go_wp2_with fail
    refine (wakes_any _).mono ?_
    rintro e w6 ⟨rfl, hb6⟩
    go_wp2_with fail
    go_ret
    exact ⟨rfl, Wc.step HB5.out (Nat.le_refl _) hb6⟩

end Go.Proofs.Ytkddnjpkkkknfaa
