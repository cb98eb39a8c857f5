/-
  RecordKinds returns true, for every three ints.
-/
import Derived.Test.YtblbldoeknihaaaRwake
namespace Go.Proofs.Ytblbldoeknihaaa
open Go.RowKit

theorem lowW (m i : Int) (h0 : 0 < m) (h : m ≤ 9223372036854775807) : ∃ A : Int, (0 ≤ A ∧ A < m) ∧ wrap64 ((IntKind.u64.wrap i).tmod m) = A := by
  rw [IntKind.wrap_u64, Int.tmod_eq_emod_of_nonneg (by omega)]
  have h1 := Int.emod_nonneg (i % 18446744073709551616) (b := m) (by omega)
  have h2 := Int.emod_lt_of_pos (i % 18446744073709551616) (b := m) h0
  exact ⟨_, ⟨h1, h2⟩, by unfold wrap64; omega⟩

theorem lowT (B : Int) (h : 0 ≤ B) : ∃ S : Int, (0 ≤ S ∧ S < 513) ∧ (1 + B).tmod 513 = S := by
  rw [Int.tmod_eq_emod_of_nonneg (by omega)]
  exact ⟨_, ⟨Int.emod_nonneg _ (by omega), Int.emod_lt_of_pos _ (by omega)⟩, rfl⟩

theorem rec_no {r : Wr.Rec} (h : ¬ ((r.next = 0 ∨ 2 ≤ r.next ∧ r.next < 4096) ∧ (r.root = 0 ∨ 2 ≤ r.root ∧ r.root < 4096) ∧ (1 ≤ r.id ∧ r.id ≤ 4611686018427387903) ∧
    (r.parent = 0 ∨ (1 ≤ r.parent ∧ r.parent ≤ 4611686018427387903) ∧ ¬ r.parent = r.id) ∧ (0 ≤ r.size ∧ r.size ≤ 512) ∧ ((r.kind = 0 ∧ r.frames = 0 ∧ r.digest = 0) ∨ (r.kind = 1 ∧ (1 ≤ r.frames ∧ r.frames ≤ 65535) ∧ (0 ≤ r.digest ∧ r.digest ≤ 4294967295))))) : Wr.recB r = false := by
  rw [Bool.eq_false_iff]
  exact fun e => h (Wr.recB_iff.1 e)

set_option maxRecDepth 100000 in
set_option maxHeartbeats 6400000 in
theorem recordKinds_any (id n how : Int) (w : World) :
    Calls Try.prog 5 #[.int .i64 id, .int .i64 n, .int .i64 how] w fun e w' => e = .returned (.bool true) ∧ Below w.heap.size w w' := by
  obtain ⟨A, hA, eA⟩ := lowW 1000 id (by omega) (by omega)
  obtain ⟨B, hB, eB⟩ := lowW 65535 n (by omega) (by omega)
  obtain ⟨S, hS, eS⟩ := lowT B hB.1
  have HGD : Hid (Wr.recB ⟨0, 1 + A, 0, 0, S, 1, 1 + B, 1 + B⟩ = true) := Wc.hid (Wr.recB_iff.2 (by refine ⟨?_, ?_, ?_, ?_, ?_, ?_⟩ <;> simp only [] <;> first | omega | (simp; done) | (simp; omega)))
  have X0 : Hid (Wr.recB ⟨0, 1 + A, 0, 0, S, 0, 1 + B, 1 + B⟩ = false) := Wc.hid (rec_no (by simp only []; omega))
  have X1 : Hid (Wr.recB ⟨0, 1 + A, 0, 0, S, 1, 0, 1 + B⟩ = false) := Wc.hid (rec_no (by simp only []; omega))
  have X2 : Hid (Wr.recB ⟨0, 1 + A, 0, 0, S, 1, 65536, 1 + B⟩ = false) := Wc.hid (rec_no (by simp only []; omega))
  have X3 : Hid (Wr.recB ⟨0, 1 + A, 1 + A, 0, S, 1, 1 + B, 1 + B⟩ = false) := Wc.hid (rec_no (fun h => by rcases h.2.2.2.1 with h | h; simp only [] at h; omega; exact h.2 rfl))
  have X4 : Hid (Wr.recB ⟨0, 1 + A, 0, 0, 513, 1, 1 + B, 1 + B⟩ = false) := Wc.hid (rec_no (by simp only []; omega))
  have X5 : Hid (Wr.recB ⟨0, 1 + A, 0, 1, S, 1, 1 + B, 1 + B⟩ = false) := Wc.hid (rec_no (by simp only []; omega))
  have X6 : Hid (Wr.recB ⟨4096, 1 + A, 0, 0, S, 1, 1 + B, 1 + B⟩ = false) := Wc.hid (rec_no (by simp only []; omega))
  have X7 : Hid (Wr.recB ⟨0, 1 + A, 0, 0, S, 1, 1 + B, 4294967296⟩ = false) := Wc.hid (rec_no (by simp only []; omega))
  have X8 : Hid (Wr.recB ⟨0, 1 + A, 0, 0, S, 2, 1 + B, 1 + B⟩ = false) := Wc.hid (rec_no (by simp only []; omega))
  go_enter Try.func5, Try.ntmps5
  go_wp2_with fail
  · clear eA eB eS
    refine (bytes8_bad ⟨0, 1 + A, 0, 0, S, 0, 1 + B, 1 + B⟩ _ X0.out).mono ?_
    rintro e w1 ⟨rfl, hb1⟩
    have A1 := Wc.hid (((Rh.new w ⟨0, 1 + A, 0, 0, S, 1, 1 + B, 1 + B⟩).keep ((Below.refl _ _).alloc (Nat.le_refl _) (.cells #[.int .i64 0, .int .i64 (1 + A), .int .i64 0, .int .i64 0, .int .i64 S, .int .i64 0, .int .i64 (1 + B), .int .i64 (1 + B)] 23))).keep hb1)
    have C1 : Hid (Rh w1 (w.heap.size + 1) ⟨0, 1 + A, 0, 0, S, 0, 1 + B, 1 + B⟩) := Wc.hid (by have := (Rh.new (w.alloc (.cells #[.int .i64 0, .int .i64 (1 + A), .int .i64 0, .int .i64 0, .int .i64 S, .int .i64 1, .int .i64 (1 + B), .int .i64 (1 + B)] 23)) ⟨0, 1 + A, 0, 0, S, 0, 1 + B, 1 + B⟩).keep hb1; simpa using this)
    have HB1 := Wc.hid (Wc.step (((Below.refl w.heap.size w).alloc (Nat.le_refl _) (.cells #[.int .i64 0, .int .i64 (1 + A), .int .i64 0, .int .i64 0, .int .i64 S, .int .i64 1, .int .i64 (1 + B), .int .i64 (1 + B)] 23)).alloc (by simp) (.cells #[.int .i64 0, .int .i64 (1 + A), .int .i64 0, .int .i64 0, .int .i64 S, .int .i64 0, .int .i64 (1 + B), .int .i64 (1 + B)] 23)) (Nat.le_refl _) hb1)
    clear hb1
    have ⟨c0, c1, c2, c3, c4, c5, c6, c7⟩ := A1.out.rc
    go_wp2_with fail
    clear c0 c1 c2 c3 c4 c5 c6 c7
    refine (check8_any ⟨0, 1 + A, 0, 0, S, 1, 1 + B, 1 + B⟩ _).mono ?_
    rintro e w2 ⟨rfl, hb2⟩
    rw [Wr.recE_yes HGD.out]
    have HB2 := Wc.hid (Wc.step HB1.out (Nat.le_refl _) hb2)
    have ⟨c0, c1, c2, c3, c4, c5, c6, c7⟩ := (A1.out.keep hb2).rc
    have ⟨d0, d1, d2, d3, d4, d5, d6, d7⟩ := (C1.out.keep hb2).rc
    clear hb2
    go_wp2_with fail
    refine (check8_any ⟨0, 1 + A, 0, 0, S, 0, 1 + B, 1 + B⟩ _).mono ?_
    rintro e w3 ⟨rfl, hb3⟩
    rw [Wr.recE_no X0.out]
    have HB3 := Wc.hid (Wc.step HB2.out (Nat.le_refl _) hb3)
    clear hb3 c0 c1 c2 c3 c4 c5 c6 c7 d0 d1 d2 d3 d4 d5 d6 d7
    go_wp2_with fail
    refine (wakes_any _).mono ?_
    rintro e w4 ⟨rfl, hb4⟩
    go_wp2_with fail
    go_ret
    exact ⟨rfl, Wc.step HB3.out (Nat.le_refl _) hb4⟩
  · clear eA eB eS
    refine (bytes8_bad ⟨0, 1 + A, 0, 0, S, 1, 0, 1 + B⟩ _ X1.out).mono ?_
    rintro e w1 ⟨rfl, hb1⟩
    have A1 := Wc.hid (((Rh.new w ⟨0, 1 + A, 0, 0, S, 1, 1 + B, 1 + B⟩).keep ((Below.refl _ _).alloc (Nat.le_refl _) (.cells #[.int .i64 0, .int .i64 (1 + A), .int .i64 0, .int .i64 0, .int .i64 S, .int .i64 1, .int .i64 0, .int .i64 (1 + B)] 23))).keep hb1)
    have C1 : Hid (Rh w1 (w.heap.size + 1) ⟨0, 1 + A, 0, 0, S, 1, 0, 1 + B⟩) := Wc.hid (by have := (Rh.new (w.alloc (.cells #[.int .i64 0, .int .i64 (1 + A), .int .i64 0, .int .i64 0, .int .i64 S, .int .i64 1, .int .i64 (1 + B), .int .i64 (1 + B)] 23)) ⟨0, 1 + A, 0, 0, S, 1, 0, 1 + B⟩).keep hb1; simpa using this)
    have HB1 := Wc.hid (Wc.step (((Below.refl w.heap.size w).alloc (Nat.le_refl _) (.cells #[.int .i64 0, .int .i64 (1 + A), .int .i64 0, .int .i64 0, .int .i64 S, .int .i64 1, .int .i64 (1 + B), .int .i64 (1 + B)] 23)).alloc (by simp) (.cells #[.int .i64 0, .int .i64 (1 + A), .int .i64 0, .int .i64 0, .int .i64 S, .int .i64 1, .int .i64 0, .int .i64 (1 + B)] 23)) (Nat.le_refl _) hb1)
    clear hb1
    have ⟨c0, c1, c2, c3, c4, c5, c6, c7⟩ := A1.out.rc
    go_wp2_with fail
    clear c0 c1 c2 c3 c4 c5 c6 c7
    refine (check8_any ⟨0, 1 + A, 0, 0, S, 1, 1 + B, 1 + B⟩ _).mono ?_
    rintro e w2 ⟨rfl, hb2⟩
    rw [Wr.recE_yes HGD.out]
    have HB2 := Wc.hid (Wc.step HB1.out (Nat.le_refl _) hb2)
    have ⟨c0, c1, c2, c3, c4, c5, c6, c7⟩ := (A1.out.keep hb2).rc
    have ⟨d0, d1, d2, d3, d4, d5, d6, d7⟩ := (C1.out.keep hb2).rc
    clear hb2
    go_wp2_with fail
    refine (check8_any ⟨0, 1 + A, 0, 0, S, 1, 0, 1 + B⟩ _).mono ?_
    rintro e w3 ⟨rfl, hb3⟩
    rw [Wr.recE_no X1.out]
    have HB3 := Wc.hid (Wc.step HB2.out (Nat.le_refl _) hb3)
    clear hb3 c0 c1 c2 c3 c4 c5 c6 c7 d0 d1 d2 d3 d4 d5 d6 d7
    go_wp2_with fail
    refine (wakes_any _).mono ?_
    rintro e w4 ⟨rfl, hb4⟩
    go_wp2_with fail
    go_ret
    exact ⟨rfl, Wc.step HB3.out (Nat.le_refl _) hb4⟩
  · clear eA eB eS
    refine (bytes8_bad ⟨0, 1 + A, 0, 0, S, 1, 65536, 1 + B⟩ _ X2.out).mono ?_
    rintro e w1 ⟨rfl, hb1⟩
    have A1 := Wc.hid (((Rh.new w ⟨0, 1 + A, 0, 0, S, 1, 1 + B, 1 + B⟩).keep ((Below.refl _ _).alloc (Nat.le_refl _) (.cells #[.int .i64 0, .int .i64 (1 + A), .int .i64 0, .int .i64 0, .int .i64 S, .int .i64 1, .int .i64 65536, .int .i64 (1 + B)] 23))).keep hb1)
    have C1 : Hid (Rh w1 (w.heap.size + 1) ⟨0, 1 + A, 0, 0, S, 1, 65536, 1 + B⟩) := Wc.hid (by have := (Rh.new (w.alloc (.cells #[.int .i64 0, .int .i64 (1 + A), .int .i64 0, .int .i64 0, .int .i64 S, .int .i64 1, .int .i64 (1 + B), .int .i64 (1 + B)] 23)) ⟨0, 1 + A, 0, 0, S, 1, 65536, 1 + B⟩).keep hb1; simpa using this)
    have HB1 := Wc.hid (Wc.step (((Below.refl w.heap.size w).alloc (Nat.le_refl _) (.cells #[.int .i64 0, .int .i64 (1 + A), .int .i64 0, .int .i64 0, .int .i64 S, .int .i64 1, .int .i64 (1 + B), .int .i64 (1 + B)] 23)).alloc (by simp) (.cells #[.int .i64 0, .int .i64 (1 + A), .int .i64 0, .int .i64 0, .int .i64 S, .int .i64 1, .int .i64 65536, .int .i64 (1 + B)] 23)) (Nat.le_refl _) hb1)
    clear hb1
    have ⟨c0, c1, c2, c3, c4, c5, c6, c7⟩ := A1.out.rc
    go_wp2_with fail
    clear c0 c1 c2 c3 c4 c5 c6 c7
    refine (check8_any ⟨0, 1 + A, 0, 0, S, 1, 1 + B, 1 + B⟩ _).mono ?_
    rintro e w2 ⟨rfl, hb2⟩
    rw [Wr.recE_yes HGD.out]
    have HB2 := Wc.hid (Wc.step HB1.out (Nat.le_refl _) hb2)
    have ⟨c0, c1, c2, c3, c4, c5, c6, c7⟩ := (A1.out.keep hb2).rc
    have ⟨d0, d1, d2, d3, d4, d5, d6, d7⟩ := (C1.out.keep hb2).rc
    clear hb2
    go_wp2_with fail
    refine (check8_any ⟨0, 1 + A, 0, 0, S, 1, 65536, 1 + B⟩ _).mono ?_
    rintro e w3 ⟨rfl, hb3⟩
    rw [Wr.recE_no X2.out]
    have HB3 := Wc.hid (Wc.step HB2.out (Nat.le_refl _) hb3)
    clear hb3 c0 c1 c2 c3 c4 c5 c6 c7 d0 d1 d2 d3 d4 d5 d6 d7
    go_wp2_with fail
    refine (wakes_any _).mono ?_
    rintro e w4 ⟨rfl, hb4⟩
    go_wp2_with fail
    go_ret
    exact ⟨rfl, Wc.step HB3.out (Nat.le_refl _) hb4⟩
  · clear eA eB eS
    refine (bytes8_bad ⟨0, 1 + A, 1 + A, 0, S, 1, 1 + B, 1 + B⟩ _ X3.out).mono ?_
    rintro e w1 ⟨rfl, hb1⟩
    have A1 := Wc.hid (((Rh.new w ⟨0, 1 + A, 0, 0, S, 1, 1 + B, 1 + B⟩).keep ((Below.refl _ _).alloc (Nat.le_refl _) (.cells #[.int .i64 0, .int .i64 (1 + A), .int .i64 (1 + A), .int .i64 0, .int .i64 S, .int .i64 1, .int .i64 (1 + B), .int .i64 (1 + B)] 23))).keep hb1)
    have C1 : Hid (Rh w1 (w.heap.size + 1) ⟨0, 1 + A, 1 + A, 0, S, 1, 1 + B, 1 + B⟩) := Wc.hid (by have := (Rh.new (w.alloc (.cells #[.int .i64 0, .int .i64 (1 + A), .int .i64 0, .int .i64 0, .int .i64 S, .int .i64 1, .int .i64 (1 + B), .int .i64 (1 + B)] 23)) ⟨0, 1 + A, 1 + A, 0, S, 1, 1 + B, 1 + B⟩).keep hb1; simpa using this)
    have HB1 := Wc.hid (Wc.step (((Below.refl w.heap.size w).alloc (Nat.le_refl _) (.cells #[.int .i64 0, .int .i64 (1 + A), .int .i64 0, .int .i64 0, .int .i64 S, .int .i64 1, .int .i64 (1 + B), .int .i64 (1 + B)] 23)).alloc (by simp) (.cells #[.int .i64 0, .int .i64 (1 + A), .int .i64 (1 + A), .int .i64 0, .int .i64 S, .int .i64 1, .int .i64 (1 + B), .int .i64 (1 + B)] 23)) (Nat.le_refl _) hb1)
    clear hb1
    have ⟨c0, c1, c2, c3, c4, c5, c6, c7⟩ := A1.out.rc
    go_wp2_with fail
    clear c0 c1 c2 c3 c4 c5 c6 c7
    refine (check8_any ⟨0, 1 + A, 0, 0, S, 1, 1 + B, 1 + B⟩ _).mono ?_
    rintro e w2 ⟨rfl, hb2⟩
    rw [Wr.recE_yes HGD.out]
    have HB2 := Wc.hid (Wc.step HB1.out (Nat.le_refl _) hb2)
    have ⟨c0, c1, c2, c3, c4, c5, c6, c7⟩ := (A1.out.keep hb2).rc
    have ⟨d0, d1, d2, d3, d4, d5, d6, d7⟩ := (C1.out.keep hb2).rc
    clear hb2
    go_wp2_with fail
    refine (check8_any ⟨0, 1 + A, 1 + A, 0, S, 1, 1 + B, 1 + B⟩ _).mono ?_
    rintro e w3 ⟨rfl, hb3⟩
    rw [Wr.recE_no X3.out]
    have HB3 := Wc.hid (Wc.step HB2.out (Nat.le_refl _) hb3)
    clear hb3 c0 c1 c2 c3 c4 c5 c6 c7 d0 d1 d2 d3 d4 d5 d6 d7
    go_wp2_with fail
    refine (wakes_any _).mono ?_
    rintro e w4 ⟨rfl, hb4⟩
    go_wp2_with fail
    go_ret
    exact ⟨rfl, Wc.step HB3.out (Nat.le_refl _) hb4⟩
  · clear eA eB eS
    refine (bytes8_bad ⟨0, 1 + A, 0, 0, 513, 1, 1 + B, 1 + B⟩ _ X4.out).mono ?_
    rintro e w1 ⟨rfl, hb1⟩
    have A1 := Wc.hid (((Rh.new w ⟨0, 1 + A, 0, 0, S, 1, 1 + B, 1 + B⟩).keep ((Below.refl _ _).alloc (Nat.le_refl _) (.cells #[.int .i64 0, .int .i64 (1 + A), .int .i64 0, .int .i64 0, .int .i64 513, .int .i64 1, .int .i64 (1 + B), .int .i64 (1 + B)] 23))).keep hb1)
    have C1 : Hid (Rh w1 (w.heap.size + 1) ⟨0, 1 + A, 0, 0, 513, 1, 1 + B, 1 + B⟩) := Wc.hid (by have := (Rh.new (w.alloc (.cells #[.int .i64 0, .int .i64 (1 + A), .int .i64 0, .int .i64 0, .int .i64 S, .int .i64 1, .int .i64 (1 + B), .int .i64 (1 + B)] 23)) ⟨0, 1 + A, 0, 0, 513, 1, 1 + B, 1 + B⟩).keep hb1; simpa using this)
    have HB1 := Wc.hid (Wc.step (((Below.refl w.heap.size w).alloc (Nat.le_refl _) (.cells #[.int .i64 0, .int .i64 (1 + A), .int .i64 0, .int .i64 0, .int .i64 S, .int .i64 1, .int .i64 (1 + B), .int .i64 (1 + B)] 23)).alloc (by simp) (.cells #[.int .i64 0, .int .i64 (1 + A), .int .i64 0, .int .i64 0, .int .i64 513, .int .i64 1, .int .i64 (1 + B), .int .i64 (1 + B)] 23)) (Nat.le_refl _) hb1)
    clear hb1
    have ⟨c0, c1, c2, c3, c4, c5, c6, c7⟩ := A1.out.rc
    go_wp2_with fail
    clear c0 c1 c2 c3 c4 c5 c6 c7
    refine (check8_any ⟨0, 1 + A, 0, 0, S, 1, 1 + B, 1 + B⟩ _).mono ?_
    rintro e w2 ⟨rfl, hb2⟩
    rw [Wr.recE_yes HGD.out]
    have HB2 := Wc.hid (Wc.step HB1.out (Nat.le_refl _) hb2)
    have ⟨c0, c1, c2, c3, c4, c5, c6, c7⟩ := (A1.out.keep hb2).rc
    have ⟨d0, d1, d2, d3, d4, d5, d6, d7⟩ := (C1.out.keep hb2).rc
    clear hb2
    go_wp2_with fail
    refine (check8_any ⟨0, 1 + A, 0, 0, 513, 1, 1 + B, 1 + B⟩ _).mono ?_
    rintro e w3 ⟨rfl, hb3⟩
    rw [Wr.recE_no X4.out]
    have HB3 := Wc.hid (Wc.step HB2.out (Nat.le_refl _) hb3)
    clear hb3 c0 c1 c2 c3 c4 c5 c6 c7 d0 d1 d2 d3 d4 d5 d6 d7
    go_wp2_with fail
    refine (wakes_any _).mono ?_
    rintro e w4 ⟨rfl, hb4⟩
    go_wp2_with fail
    go_ret
    exact ⟨rfl, Wc.step HB3.out (Nat.le_refl _) hb4⟩
  · clear eA eB eS
    refine (bytes8_bad ⟨0, 1 + A, 0, 1, S, 1, 1 + B, 1 + B⟩ _ X5.out).mono ?_
    rintro e w1 ⟨rfl, hb1⟩
    have A1 := Wc.hid (((Rh.new w ⟨0, 1 + A, 0, 0, S, 1, 1 + B, 1 + B⟩).keep ((Below.refl _ _).alloc (Nat.le_refl _) (.cells #[.int .i64 0, .int .i64 (1 + A), .int .i64 0, .int .i64 1, .int .i64 S, .int .i64 1, .int .i64 (1 + B), .int .i64 (1 + B)] 23))).keep hb1)
    have C1 : Hid (Rh w1 (w.heap.size + 1) ⟨0, 1 + A, 0, 1, S, 1, 1 + B, 1 + B⟩) := Wc.hid (by have := (Rh.new (w.alloc (.cells #[.int .i64 0, .int .i64 (1 + A), .int .i64 0, .int .i64 0, .int .i64 S, .int .i64 1, .int .i64 (1 + B), .int .i64 (1 + B)] 23)) ⟨0, 1 + A, 0, 1, S, 1, 1 + B, 1 + B⟩).keep hb1; simpa using this)
    have HB1 := Wc.hid (Wc.step (((Below.refl w.heap.size w).alloc (Nat.le_refl _) (.cells #[.int .i64 0, .int .i64 (1 + A), .int .i64 0, .int .i64 0, .int .i64 S, .int .i64 1, .int .i64 (1 + B), .int .i64 (1 + B)] 23)).alloc (by simp) (.cells #[.int .i64 0, .int .i64 (1 + A), .int .i64 0, .int .i64 1, .int .i64 S, .int .i64 1, .int .i64 (1 + B), .int .i64 (1 + B)] 23)) (Nat.le_refl _) hb1)
    clear hb1
    have ⟨c0, c1, c2, c3, c4, c5, c6, c7⟩ := A1.out.rc
    go_wp2_with fail
    clear c0 c1 c2 c3 c4 c5 c6 c7
    refine (check8_any ⟨0, 1 + A, 0, 0, S, 1, 1 + B, 1 + B⟩ _).mono ?_
    rintro e w2 ⟨rfl, hb2⟩
    rw [Wr.recE_yes HGD.out]
    have HB2 := Wc.hid (Wc.step HB1.out (Nat.le_refl _) hb2)
    have ⟨c0, c1, c2, c3, c4, c5, c6, c7⟩ := (A1.out.keep hb2).rc
    have ⟨d0, d1, d2, d3, d4, d5, d6, d7⟩ := (C1.out.keep hb2).rc
    clear hb2
    go_wp2_with fail
    refine (check8_any ⟨0, 1 + A, 0, 1, S, 1, 1 + B, 1 + B⟩ _).mono ?_
    rintro e w3 ⟨rfl, hb3⟩
    rw [Wr.recE_no X5.out]
    have HB3 := Wc.hid (Wc.step HB2.out (Nat.le_refl _) hb3)
    clear hb3 c0 c1 c2 c3 c4 c5 c6 c7 d0 d1 d2 d3 d4 d5 d6 d7
    go_wp2_with fail
    refine (wakes_any _).mono ?_
    rintro e w4 ⟨rfl, hb4⟩
    go_wp2_with fail
    go_ret
    exact ⟨rfl, Wc.step HB3.out (Nat.le_refl _) hb4⟩
  · clear eA eB eS
    refine (bytes8_bad ⟨4096, 1 + A, 0, 0, S, 1, 1 + B, 1 + B⟩ _ X6.out).mono ?_
    rintro e w1 ⟨rfl, hb1⟩
    have A1 := Wc.hid (((Rh.new w ⟨0, 1 + A, 0, 0, S, 1, 1 + B, 1 + B⟩).keep ((Below.refl _ _).alloc (Nat.le_refl _) (.cells #[.int .i64 4096, .int .i64 (1 + A), .int .i64 0, .int .i64 0, .int .i64 S, .int .i64 1, .int .i64 (1 + B), .int .i64 (1 + B)] 23))).keep hb1)
    have C1 : Hid (Rh w1 (w.heap.size + 1) ⟨4096, 1 + A, 0, 0, S, 1, 1 + B, 1 + B⟩) := Wc.hid (by have := (Rh.new (w.alloc (.cells #[.int .i64 0, .int .i64 (1 + A), .int .i64 0, .int .i64 0, .int .i64 S, .int .i64 1, .int .i64 (1 + B), .int .i64 (1 + B)] 23)) ⟨4096, 1 + A, 0, 0, S, 1, 1 + B, 1 + B⟩).keep hb1; simpa using this)
    have HB1 := Wc.hid (Wc.step (((Below.refl w.heap.size w).alloc (Nat.le_refl _) (.cells #[.int .i64 0, .int .i64 (1 + A), .int .i64 0, .int .i64 0, .int .i64 S, .int .i64 1, .int .i64 (1 + B), .int .i64 (1 + B)] 23)).alloc (by simp) (.cells #[.int .i64 4096, .int .i64 (1 + A), .int .i64 0, .int .i64 0, .int .i64 S, .int .i64 1, .int .i64 (1 + B), .int .i64 (1 + B)] 23)) (Nat.le_refl _) hb1)
    clear hb1
    have ⟨c0, c1, c2, c3, c4, c5, c6, c7⟩ := A1.out.rc
    go_wp2_with fail
    clear c0 c1 c2 c3 c4 c5 c6 c7
    refine (check8_any ⟨0, 1 + A, 0, 0, S, 1, 1 + B, 1 + B⟩ _).mono ?_
    rintro e w2 ⟨rfl, hb2⟩
    rw [Wr.recE_yes HGD.out]
    have HB2 := Wc.hid (Wc.step HB1.out (Nat.le_refl _) hb2)
    have ⟨c0, c1, c2, c3, c4, c5, c6, c7⟩ := (A1.out.keep hb2).rc
    have ⟨d0, d1, d2, d3, d4, d5, d6, d7⟩ := (C1.out.keep hb2).rc
    clear hb2
    go_wp2_with fail
    refine (check8_any ⟨4096, 1 + A, 0, 0, S, 1, 1 + B, 1 + B⟩ _).mono ?_
    rintro e w3 ⟨rfl, hb3⟩
    rw [Wr.recE_no X6.out]
    have HB3 := Wc.hid (Wc.step HB2.out (Nat.le_refl _) hb3)
    clear hb3 c0 c1 c2 c3 c4 c5 c6 c7 d0 d1 d2 d3 d4 d5 d6 d7
    go_wp2_with fail
    refine (wakes_any _).mono ?_
    rintro e w4 ⟨rfl, hb4⟩
    go_wp2_with fail
    go_ret
    exact ⟨rfl, Wc.step HB3.out (Nat.le_refl _) hb4⟩
  · clear eA eB eS
    refine (bytes8_bad ⟨0, 1 + A, 0, 0, S, 1, 1 + B, 4294967296⟩ _ X7.out).mono ?_
    rintro e w1 ⟨rfl, hb1⟩
    have A1 := Wc.hid (((Rh.new w ⟨0, 1 + A, 0, 0, S, 1, 1 + B, 1 + B⟩).keep ((Below.refl _ _).alloc (Nat.le_refl _) (.cells #[.int .i64 0, .int .i64 (1 + A), .int .i64 0, .int .i64 0, .int .i64 S, .int .i64 1, .int .i64 (1 + B), .int .i64 4294967296] 23))).keep hb1)
    have C1 : Hid (Rh w1 (w.heap.size + 1) ⟨0, 1 + A, 0, 0, S, 1, 1 + B, 4294967296⟩) := Wc.hid (by have := (Rh.new (w.alloc (.cells #[.int .i64 0, .int .i64 (1 + A), .int .i64 0, .int .i64 0, .int .i64 S, .int .i64 1, .int .i64 (1 + B), .int .i64 (1 + B)] 23)) ⟨0, 1 + A, 0, 0, S, 1, 1 + B, 4294967296⟩).keep hb1; simpa using this)
    have HB1 := Wc.hid (Wc.step (((Below.refl w.heap.size w).alloc (Nat.le_refl _) (.cells #[.int .i64 0, .int .i64 (1 + A), .int .i64 0, .int .i64 0, .int .i64 S, .int .i64 1, .int .i64 (1 + B), .int .i64 (1 + B)] 23)).alloc (by simp) (.cells #[.int .i64 0, .int .i64 (1 + A), .int .i64 0, .int .i64 0, .int .i64 S, .int .i64 1, .int .i64 (1 + B), .int .i64 4294967296] 23)) (Nat.le_refl _) hb1)
    clear hb1
    have ⟨c0, c1, c2, c3, c4, c5, c6, c7⟩ := A1.out.rc
    go_wp2_with fail
    clear c0 c1 c2 c3 c4 c5 c6 c7
    refine (check8_any ⟨0, 1 + A, 0, 0, S, 1, 1 + B, 1 + B⟩ _).mono ?_
    rintro e w2 ⟨rfl, hb2⟩
    rw [Wr.recE_yes HGD.out]
    have HB2 := Wc.hid (Wc.step HB1.out (Nat.le_refl _) hb2)
    have ⟨c0, c1, c2, c3, c4, c5, c6, c7⟩ := (A1.out.keep hb2).rc
    have ⟨d0, d1, d2, d3, d4, d5, d6, d7⟩ := (C1.out.keep hb2).rc
    clear hb2
    go_wp2_with fail
    refine (check8_any ⟨0, 1 + A, 0, 0, S, 1, 1 + B, 4294967296⟩ _).mono ?_
    rintro e w3 ⟨rfl, hb3⟩
    rw [Wr.recE_no X7.out]
    have HB3 := Wc.hid (Wc.step HB2.out (Nat.le_refl _) hb3)
    clear hb3 c0 c1 c2 c3 c4 c5 c6 c7 d0 d1 d2 d3 d4 d5 d6 d7
    go_wp2_with fail
    refine (wakes_any _).mono ?_
    rintro e w4 ⟨rfl, hb4⟩
    go_wp2_with fail
    go_ret
    exact ⟨rfl, Wc.step HB3.out (Nat.le_refl _) hb4⟩
  · clear eA eB eS
    refine (bytes8_bad ⟨0, 1 + A, 0, 0, S, 2, 1 + B, 1 + B⟩ _ X8.out).mono ?_
    rintro e w1 ⟨rfl, hb1⟩
    have A1 := Wc.hid (((Rh.new w ⟨0, 1 + A, 0, 0, S, 1, 1 + B, 1 + B⟩).keep ((Below.refl _ _).alloc (Nat.le_refl _) (.cells #[.int .i64 0, .int .i64 (1 + A), .int .i64 0, .int .i64 0, .int .i64 S, .int .i64 2, .int .i64 (1 + B), .int .i64 (1 + B)] 23))).keep hb1)
    have C1 : Hid (Rh w1 (w.heap.size + 1) ⟨0, 1 + A, 0, 0, S, 2, 1 + B, 1 + B⟩) := Wc.hid (by have := (Rh.new (w.alloc (.cells #[.int .i64 0, .int .i64 (1 + A), .int .i64 0, .int .i64 0, .int .i64 S, .int .i64 1, .int .i64 (1 + B), .int .i64 (1 + B)] 23)) ⟨0, 1 + A, 0, 0, S, 2, 1 + B, 1 + B⟩).keep hb1; simpa using this)
    have HB1 := Wc.hid (Wc.step (((Below.refl w.heap.size w).alloc (Nat.le_refl _) (.cells #[.int .i64 0, .int .i64 (1 + A), .int .i64 0, .int .i64 0, .int .i64 S, .int .i64 1, .int .i64 (1 + B), .int .i64 (1 + B)] 23)).alloc (by simp) (.cells #[.int .i64 0, .int .i64 (1 + A), .int .i64 0, .int .i64 0, .int .i64 S, .int .i64 2, .int .i64 (1 + B), .int .i64 (1 + B)] 23)) (Nat.le_refl _) hb1)
    clear hb1
    have ⟨c0, c1, c2, c3, c4, c5, c6, c7⟩ := A1.out.rc
    go_wp2_with fail
    clear c0 c1 c2 c3 c4 c5 c6 c7
    refine (check8_any ⟨0, 1 + A, 0, 0, S, 1, 1 + B, 1 + B⟩ _).mono ?_
    rintro e w2 ⟨rfl, hb2⟩
    rw [Wr.recE_yes HGD.out]
    have HB2 := Wc.hid (Wc.step HB1.out (Nat.le_refl _) hb2)
    have ⟨c0, c1, c2, c3, c4, c5, c6, c7⟩ := (A1.out.keep hb2).rc
    have ⟨d0, d1, d2, d3, d4, d5, d6, d7⟩ := (C1.out.keep hb2).rc
    clear hb2
    go_wp2_with fail
    refine (check8_any ⟨0, 1 + A, 0, 0, S, 2, 1 + B, 1 + B⟩ _).mono ?_
    rintro e w3 ⟨rfl, hb3⟩
    rw [Wr.recE_no X8.out]
    have HB3 := Wc.hid (Wc.step HB2.out (Nat.le_refl _) hb3)
    clear hb3 c0 c1 c2 c3 c4 c5 c6 c7 d0 d1 d2 d3 d4 d5 d6 d7
    go_wp2_with fail
    refine (wakes_any _).mono ?_
    rintro e w4 ⟨rfl, hb4⟩
    go_wp2_with fail
    go_ret
    exact ⟨rfl, Wc.step HB3.out (Nat.le_refl _) hb4⟩

end Go.Proofs.Ytblbldoeknihaaa
