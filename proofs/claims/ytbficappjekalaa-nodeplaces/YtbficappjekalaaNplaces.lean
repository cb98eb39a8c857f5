/-
  NodePlaces returns true, for every two ints.
-/
import Derived.Test.YtbficappjekalaaNwake
namespace Go.Proofs.Ytbficappjekalaa
open Go.RowKit

theorem place2 (A : Int) (w : World) (h0 : 0 ≤ A) (h1 : A < 512) :
    Calls Try.prog 10 #[.int .i64 A, .int .i64 2] w fun e w' => ∃ i r : Int, e = .returned (.tuple #[.int .i64 i, .int .i64 r, .int .i64 0]) ∧ (0 ≤ i ∧ i < 8) ∧ (0 ≤ r ∧ r < 64) ∧ A = i * 64 + r ∧ Below w.heap.size w w' := by
  have e : Wn.placeR A 2 = (A / 64, A % 64, 0) := Wn.place_yes (s := A) (l := 2) ⟨by omega, by omega, h0, h1⟩
  refine (place_below A 2 w).mono ?_
  rintro e' w' ⟨rfl, hb⟩
  rw [e]
  exact ⟨A / 64, A % 64, rfl, by omega, by omega, by omega, hb⟩

theorem place1 (A : Int) (w : World) (h0 : 0 ≤ A) (h1 : A < 64) :
    Calls Try.prog 10 #[.int .i64 A, .int .i64 1] w fun e w' => ∃ i r : Int, e = .returned (.tuple #[.int .i64 i, .int .i64 r, .int .i64 0]) ∧ (0 ≤ i ∧ i < 8) ∧ (0 ≤ r ∧ r < 8) ∧ A = i * 8 + r ∧ Below w.heap.size w w' := by
  have e : Wn.placeR A 1 = (A / 8, A % 8, 0) := Wn.place_yes (s := A) (l := 1) ⟨by omega, by omega, h0, h1⟩
  refine (place_below A 1 w).mono ?_
  rintro e' w' ⟨rfl, hb⟩
  rw [e]
  exact ⟨A / 8, A % 8, rfl, by omega, by omega, by omega, hb⟩

theorem place0 (A : Int) (w : World) (h0 : 0 ≤ A) (h1 : A < 8) :
    Calls Try.prog 10 #[.int .i64 A, .int .i64 0] w fun e w' => e = .returned (.tuple #[.int .i64 A, .int .i64 0, .int .i64 0]) ∧ Below w.heap.size w w' := by
  have e : Wn.placeR A 0 = (A, 0, 0) := by
    have := Wn.place_yes (s := A) (l := 0) ⟨by omega, by omega, h0, h1⟩
    rw [this]
    simp
  refine (place_below A 0 w).mono ?_
  rintro e' w' ⟨rfl, hb⟩
  rw [e]
  exact ⟨rfl, hb⟩

set_option maxHeartbeats 3200000 in
theorem nodePlaces_any (a b : Int) (w : World) :
    Calls Try.prog 5 #[.int .i64 a, .int .i64 b] w fun e w' => e = .returned (.bool true) ∧ Below w.heap.size w w' := by
  obtain ⟨A, ⟨hA0, hA1⟩, eA⟩ := Wc.low 512 a (by omega) (by omega)
  obtain ⟨B, ⟨hB0, hB1⟩, eB⟩ := Wc.low 512 b (by omega) (by omega)
  go_enter Try.func5, Try.ntmps5
  go_wp2_with fail
  rw [eA, eB]
  clear eA eB
  refine (place2 A _ hA0 hA1).mono ?_
  rintro e w1 ⟨i, r1, rfl, ⟨hi0, hi1⟩, ⟨hr0, hr1⟩, hAi, hb1⟩
  have HAI := Wc.hid hAi
  clear hAi
  go_wp2_with fail
  refine (place1 r1 _ hr0 hr1).mono ?_
  rintro e w2 ⟨j, k, rfl, ⟨hj0, hj1⟩, ⟨hk0, hk1⟩, hAj, hb2⟩
  have HAJ := Wc.hid hAj
  clear hAj
  go_wp2_with fail
  refine (place0 k _ hk0 hk1).mono ?_
  rintro e w3 ⟨rfl, hb3⟩
  go_wp2_with fail
  refine (place2 B _ hB0 hB1).mono ?_
  rintro e w4 ⟨p, r2, rfl, ⟨hp0, hp1⟩, ⟨hs0, hs1⟩, hBp, hb4⟩
  have HBP := Wc.hid hBp
  clear hBp
  go_wp2_with fail
  refine (place1 r2 _ hs0 hs1).mono ?_
  rintro e w5 ⟨q, r, rfl, ⟨hq0, hq1⟩, ⟨ht0, ht1⟩, hBq, hb5⟩
  have HBQ := Wc.hid hBq
  clear hBq
  go_wp2_with fail
  refine (place0 r _ ht0 ht1).mono ?_
  rintro e w6 ⟨rfl, hb6⟩
  have HB := Wc.hid (Wc.step (Wc.step (Wc.step (Wc.step (Wc.step hb1 (Nat.le_refl _) hb2) (Nat.le_refl _) hb3) (Nat.le_refl _) hb4) (Nat.le_refl _) hb5) (Nat.le_refl _) hb6)
  clear hb1 hb2 hb3 hb4 hb5 hb6
  have hAi := HAI.out
  have hAj := HAJ.out
  have hBp := HBP.out
  have hBq := HBQ.out
  clear HAI HAJ HBP HBQ
  have hval : (i * 8 + j) * 8 + k = A := by omega
  have HVAL := Wc.hid hval
  by_cases hab : A = B
  · have e1 : (i == p) = true := by rw [beq_iff_eq]; omega
    have e2 : (j == q) = true := by rw [beq_iff_eq]; omega
    have e3 : (k == r) = true := by rw [beq_iff_eq]; omega
    have e4 : (A == B) = true := by rw [beq_iff_eq]; exact hab
    have e5 : ((i * 8 + j) * 8 + k == A) = true := by rw [beq_iff_eq]; exact hval
    clear hab hval hAi hAj hBp hBq HVAL
    go_wp2_with fail
    refine (wakes_any _).mono ?_
    rintro e w7 ⟨rfl, hb7⟩
    go_wp2_with fail
    go_ret
    exact ⟨rfl, Wc.step HB.out (Nat.le_refl _) hb7⟩
  · have e4 : (A == B) = false := by rw [beq_eq_false_iff_ne]; exact hab
    have e5 : ((i * 8 + j) * 8 + k == A) = true := by rw [beq_iff_eq]; exact hval
    by_cases e1 : i = p
    · by_cases e2 : j = q
      · have e1' : (i == p) = true := by simpa using e1
        have e2' : (j == q) = true := by simpa using e2
        have e3 : (k == r) = false := by rw [beq_eq_false_iff_ne]; omega
        clear hab hval hAi hAj hBp hBq HVAL e1 e2
        go_wp2_with fail
        refine (wakes_any _).mono ?_
        rintro e w7 ⟨rfl, hb7⟩
        go_wp2_with fail
        go_ret
        exact ⟨rfl, Wc.step HB.out (Nat.le_refl _) hb7⟩
      · have e1' : (i == p) = true := by simpa using e1
        have e2' : (j == q) = false := by rw [beq_eq_false_iff_ne]; exact e2
        clear hab hval hAi hAj hBp hBq HVAL e1 e2
        go_wp2_with fail
        refine (wakes_any _).mono ?_
        rintro e w7 ⟨rfl, hb7⟩
        go_wp2_with fail
        go_ret
        exact ⟨rfl, Wc.step HB.out (Nat.le_refl _) hb7⟩
    · have e1' : (i == p) = false := by rw [beq_eq_false_iff_ne]; exact e1
      clear hab hval hAi hAj hBp hBq HVAL e1
      go_wp2_with fail
      refine (wakes_any _).mono ?_
      rintro e w7 ⟨rfl, hb7⟩
      go_wp2_with fail
      go_ret
      exact ⟨rfl, Wc.step HB.out (Nat.le_refl _) hb7⟩

end Go.Proofs.Ytbficappjekalaa
