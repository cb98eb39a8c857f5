/-
  The walk of the law IdsExact: for every int, every text and every slice of ints it returns true and turns nothing that was there.
-/
import Derived.Test.YtepdldglbhpegaaBack
namespace Go.Proofs.Ytepdldglbhpegaa
open Go.RowKit

theorem par_cases (l : List UInt8) : (∃ p, Wh.par l = (p, 0)) ∨ Wh.par l = (0, 1) := by
  unfold Wh.par
  split
  · exact .inr rfl
  · split
    · exact .inr rfl
    · split
      · exact .inr rfl
      · exact .inl ⟨_, rfl⟩

theorem idText_int (id : Int) (w : World) (h : idB id = true) :
    Calls Try.prog 13 #[.int .i64 id] w fun e w' => e = .returned (.string (txtR id)) ∧ w = w' := by
  have h1 := idB_iff.1 h
  obtain ⟨k, rfl⟩ := Int.eq_ofNat_of_zero_le (show 0 ≤ id by omega)
  refine (idText_any k w (by omega)).mono ?_
  rintro e w' ⟨rfl, rfl⟩
  unfold txtR
  rw [if_pos h]
  exact ⟨rfl, rfl⟩

theorem mem_next (xs : List Int) (k : Nat) (id : Int) (h : k < xs.length) : decide (id ∈ xs.take (k + 1)) = (decide (id ∈ xs.take k) || (xs.getD k 0 == id)) := by
  rw [List.take_add_one, List.getElem?_eq_getElem h, Bool.eq_iff_iff]
  have e : xs.getD k 0 = xs[k] := by simp [List.getD, h]
  rw [e]
  simp only [Option.toList_some, List.mem_append, List.mem_singleton, decide_eq_true_eq, Bool.or_eq_true, beq_iff_eq]
  rw [eq_comm (a := id)]

theorem exact_longS (id : Int) (s : ByteArray) (a : Option Addr) (n cap : Nat) (w : World) (h : 100 < s.size) :
    Calls Try.prog 3 #[.int .i64 id, .string s, .slice a n cap] w fun e w' => e = .returned (.bool true) ∧ Below w.heap.size w w' := by
  go_enter Try.func3, Try.ntmps3
  go_wp2
  all_goals go_ret
  exact ⟨rfl, Below.refl _ _⟩

theorem exact_longL (id : Int) (s : ByteArray) (a : Option Addr) (n cap : Nat) (w : World) (hs : s.size ≤ 100) (h : 100 < n) :
    Calls Try.prog 3 #[.int .i64 id, .string s, .slice a n cap] w fun e w' => e = .returned (.bool true) ∧ Below w.heap.size w w' := by
  go_enter Try.func3, Try.ntmps3
  go_wp2
  all_goals go_ret
  exact ⟨rfl, Below.refl _ _⟩

theorem exact_cell {w w1 : World} {a : Option Addr} {n cap : Nat} {xs : List Int} (hv : Wv.Rv (Value.int .i64) 0 w (.slice a n cap) xs) (hb : Below w.heap.size w w1) (k : Nat) (hk : k < n) :
    ∃ b off, a = some ⟨b, off, none⟩ ∧ w1.cell? ⟨b, off + k, none⟩ = some (.int .i64 (xs.getD k 0)) ∧ n ≤ cap := by
  obtain ⟨a', n', cap', h1, h2, h3, h4, h5, h7⟩ := hv.keep hb
  cases h1
  obtain ⟨b, off, ha, _, hc⟩ := h7 (by omega)
  exact ⟨b, off, ha, hc k hk, h3⟩

set_option maxRecDepth 100000 in
set_option maxHeartbeats 3200000 in
theorem exact_in (id : Int) (s : ByteArray) (a : Option Addr) (n cap : Nat) (xs : List Int) (w : World) (hs : s.size ≤ 100) (hn : n ≤ 100) (hv : Wv.Rv (Value.int .i64) 0 w (.slice a n cap) xs) :
    Calls Try.prog 3 #[.int .i64 id, .string s, .slice a n cap] w fun e w' => e = .returned (.bool true) ∧ Below w.heap.size w w' := by
  have HV := Wv.hid hv
  have HL := Wv.hid (Wv.rv_len hv)
  have hs' : decide ((100 : Int) < (s.size : Int)) = false := by rw [decide_eq_false_iff_not]; omega
  have hn' : decide ((100 : Int) < (n : Int)) = false := by rw [decide_eq_false_iff_not]; omega
  clear hv hs
  obtain ⟨p, er, ok, hP, hok, HE⟩ : ∃ p e ok, Wh.par s.data.toList = (p, e) ∧ (e == 0) = ok ∧ Hid (ok = true ∧ e = 0 ∨ ok = false ∧ e = 1 ∧ p = 0) := by
    rcases par_cases s.data.toList with ⟨p, h⟩ | h
    · exact ⟨p, 0, true, h, rfl, Wv.hid (.inl ⟨rfl, rfl⟩)⟩
    · exact ⟨0, 1, false, h, rfl, Wv.hid (.inr ⟨rfl, rfl, rfl⟩)⟩
  obtain ⟨ci, ti, hc, ht, HI⟩ : ∃ ci ti, chk id = ci ∧ txtR id = ti ∧ Hid (idB id = true ∧ ci = 0 ∨ idB id = false ∧ ci = 1 ∧ ti = ⟨#[]⟩) := by
    cases h : idB id with
    | true => exact ⟨0, _, chk_ok h, rfl, Wv.hid (.inl ⟨rfl, rfl⟩)⟩
    | false => exact ⟨1, ⟨#[]⟩, chk_no h, by unfold txtR; rw [if_neg (by rw [h]; decide)], Wv.hid (.inr ⟨rfl, rfl, rfl⟩)⟩
  go_enter Try.func3, Try.ntmps3
  go_wp2_with fail
  refine (text_any _ _).mono ?_
  rintro e1 w1 ⟨rfl, hb1⟩
  rw [hc, ht]
  go_wp2_with fail
  refine (parse_any _ _).mono ?_
  rintro e2 w' ⟨rfl, rfl⟩
  rw [hP]
  go_wp2_with fail
  refine (parseId_any _ _).mono ?_
  rintro e2 w' ⟨rfl, rfl⟩
  rw [hP, hok]
  clear hP hok hs' hn'
  have HC := Wv.hid hc
  have HT := Wv.hid ht
  clear hc ht
  rcases HE.out with ⟨rfl, rfl⟩ | ⟨rfl, rfl, rfl⟩
  all_goals
    clear HE
    go_wp2
    go_loop [13, 14] (fun h i => ∃ k : Nat, k ≤ n ∧ i = .int .i64 k ∧ h = .bool (decide (id ∈ xs.take k))) (fun _ i => n - (intOf i).toNat)
    case atStart => exact ⟨0, by omega, rfl, by simp⟩
    case round =>
      obtain ⟨k, hk, rfl, rfl⟩ := hrel
      by_cases hlt : k < n
      · obtain ⟨b, off, rfl, hcell, hcap⟩ := exact_cell HV.out hb1 k hlt
        have HM := Wv.hid (mem_next xs k id (by rw [HL.out]; exact hlt))
        generalize xs.getD k 0 = x at *
        generalize decide (id ∈ xs.take k) = q at *
        cases q with
        | true =>
          go_wp2
          go_round
          case rel => exact ⟨k + 1, by omega, by go_num, by rw [HM.out]; rfl⟩
          case measure => simp only [intOf]; omega
        | false =>
          go_wp2
          go_round
          case rel => exact ⟨k + 1, by omega, by go_num, by rw [HM.out]; rfl⟩
          case measure => simp only [intOf]; omega
      · obtain rfl : k = n := by omega
        rw [List.take_of_length_le (by rw [HL.out]; omega)]
        have HB1 := Wv.hid hb1
        clear hb1
        rcases HI.out with ⟨hi, rfl⟩ | ⟨hi, rfl, rfl⟩
        · have HH := Wv.hid (fun w => idText_int id w hi)
          clear HI
          rw [HT.out] at HH
          go_wp2_with (first | (go_at_call 9; refine (has_any _ xs _ _ (HV.out.keep HB1.out)).mono ?_; rintro e w' ⟨rfl, rfl⟩) | (go_at_call 10; refine (refId_any _ _).mono ?_; rintro e w' ⟨rfl, rfl⟩; rw [hi]) | (go_at_call 11; refine (check_any _ _).mono ?_; rintro e w' ⟨rfl, rfl⟩; rw [HC.out]) | (go_at_call 13; refine (HH.out _).mono ?_; rintro e w' ⟨rfl, rfl⟩) | (go_at_call 12; refine (wakes_any _).mono ?_; rintro e w2 ⟨rfl, hb2⟩))
          all_goals go_ret
          exact ⟨rfl, Wv.step HB1.out (Nat.le_refl _) hb2⟩
        · clear HI
          go_wp2_with (first | (go_at_call 9; refine (has_any _ xs _ _ (HV.out.keep HB1.out)).mono ?_; rintro e w' ⟨rfl, rfl⟩) | (go_at_call 10; refine (refId_any _ _).mono ?_; rintro e w' ⟨rfl, rfl⟩; rw [hi]) | (go_at_call 11; refine (check_any _ _).mono ?_; rintro e w' ⟨rfl, rfl⟩; rw [HC.out]) | (go_at_call 12; refine (wakes_any _).mono ?_; rintro e w2 ⟨rfl, hb2⟩))
          all_goals go_ret
          exact ⟨rfl, Wv.step HB1.out (Nat.le_refl _) hb2⟩

/-- The law, for every int, every text, every slice of ints. -/
theorem idsExact_any (id : Int) (s : ByteArray) (a : Option Addr) (n cap : Nat) (xs : List Int) (w : World) (hv : n ≤ 100 → Wv.Rv (Value.int .i64) 0 w (.slice a n cap) xs) :
    Calls Try.prog 3 #[.int .i64 id, .string s, .slice a n cap] w fun e w' => e = .returned (.bool true) ∧ Below w.heap.size w w' := by
  by_cases hs : s.size ≤ 100
  · by_cases hn : n ≤ 100
    · exact exact_in id s a n cap xs w hs hn (hv hn)
    · exact exact_longL id s a n cap w hs (by omega)
  · exact exact_longS id s a n cap w (by omega)

end Go.Proofs.Ytepdldglbhpegaa
