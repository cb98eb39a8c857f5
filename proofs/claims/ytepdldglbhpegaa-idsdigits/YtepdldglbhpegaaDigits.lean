/-
  The walk of the law IdsDigits: for every int it returns true and turns nothing that was there.
-/
import Derived.Test.YtepdldglbhpegaaBack
namespace Go.Proofs.Ytepdldglbhpegaa
open Go.RowKit

theorem lowM (m i : Int) (h0 : 0 < m) (h : m < 9223372036854775808) : ∃ A : Nat, ((A : Int) < m) ∧ wrap64 ((IntKind.u64.wrap i).tmod m) = A := by
  rw [IntKind.wrap_u64, Int.tmod_eq_emod_of_nonneg (by omega)]
  have h1 := Int.emod_nonneg (i % 18446744073709551616) (b := m) (by omega)
  have h2 := Int.emod_lt_of_pos (i % 18446744073709551616) (b := m) h0
  obtain ⟨A, hA⟩ := Int.eq_ofNat_of_zero_le h1
  refine ⟨A, by omega, ?_⟩
  rw [hA] at h2 ⊢
  unfold wrap64; omega

theorem txt_digit2 (n : Nat) (j : Nat) (hj : j < (Wh.txt 16 n).length) : ∃ d : Nat, d < 16 ∧ ((Wh.txt 16 n)[j]).toNat = Wh.dn d ∧ Wh.dv (((Wh.txt 16 n)[j]).toNat : Int) = d := by
  have h := Wh.txt_get 16 n j (by rw [Wh.txt_length] at hj; exact hj)
  rw [List.getElem?_eq_getElem hj] at h
  refine ⟨n / 16 ^ (16 - 1 - j) % 16, Nat.mod_lt _ (by omega), ?_, ?_⟩
  · rw [Option.some.inj h, Wh.dc_toNat (Nat.mod_lt _ (by omega))]
  · rw [Option.some.inj h, Wh.dv_dc (Nat.mod_lt _ (by omega))]

theorem txt_last : Wh.txt 16 4611686018427387903 = [51, 102, 102, 102, 102, 102, 102, 102, 102, 102, 102, 102, 102, 102, 102, 102] := by decide +kernel
theorem text_last (w : World) : Calls Try.prog 6 #[.int .i64 4611686018427387903] w fun e w' => e = .returned (.tuple #[.string ⟨#[51, 102, 102, 102, 102, 102, 102, 102, 102, 102, 102, 102, 102, 102, 102, 102]⟩, .int .i64 0]) ∧ Below w.heap.size w w' := by
  refine (text_in 4611686018427387903 w (by omega) (by omega)).mono ?_
  rintro e w' ⟨rfl, hb⟩
  rw [txt_last]
  exact ⟨rfl, hb⟩
theorem par_0 : Wh.par (ByteArray.mk #[48, 48, 48, 48, 48, 48, 48, 48, 48, 48, 48, 48, 48, 48, 48, 48]).data.toList = (0, 1) := by decide
theorem par_4 : Wh.par (ByteArray.mk #[52, 48, 48, 48, 48, 48, 48, 48, 48, 48, 48, 48, 48, 48, 48, 48]).data.toList = (0, 1) := by decide
theorem chk_beyond : chk 4611686018427387904 = 1 := by decide
theorem chk_less : chk (-1) = 1 := by decide

set_option maxRecDepth 100000 in
set_option maxHeartbeats 1600000 in
theorem idsDigits_any (a : Int) (w : World) :
    Calls Try.prog 5 #[.int .i64 a] w fun e w' => e = .returned (.bool true) ∧ Below w.heap.size w w' := by
  obtain ⟨A, hA, eA⟩ := lowM 4611686018427387903 a (by omega) (by omega)
  have ht : txtR (1 + (A : Int)) = ⟨(Wh.txt 16 (1 + A)).toArray⟩ := by
    unfold txtR
    rw [if_pos (idB_iff.2 (by omega)), show (1 + (A : Int)).toNat = 1 + A by omega]
  have hc : chk (1 + (A : Int)) = 0 := chk_ok (idB_iff.2 (by omega))
  have hx := Wh.hx_txt 16 (1 + A)
  rw [Nat.mod_eq_of_lt (show 1 + A < 16 ^ 16 by omega)] at hx
  have HX := Wv.hid hx
  clear hx
  have HD := Wv.hid (txt_digit2 (1 + A))
  have hl := Wh.txt_length 16 (1 + A)
  generalize Wh.txt 16 (1 + A) = S at *
  go_enter Try.func5, Try.ntmps5
  go_wp2_with fail
  rw [eA]
  refine (text_any _ _).mono ?_
  rintro e w1 ⟨rfl, hb1⟩
  rw [ht, hc]
  clear eA ht hc
  have hsz : S.toArray.size = 16 := by simp [hl]
  go_wp2_with fail
  generalize (IntKind.u64.wrap a).tmod 4611686018427387903 = z at *
  generalize IntKind.u64.wrap a = z' at *
  have HL := Wv.hid hl
  have HA : Hid (∀ x : Int, 16 * x ≤ 1 + (A : Int) → x < 288230376151711744) := Wv.hid fun x hx => by omega
  clear hl hsz hA
  go_loop [5, 6] (fun n i => ∃ (k : Nat) (m : Int), k ≤ 16 ∧ i = .int .i64 k ∧ n = .int .i64 m ∧ Hid (Wh.hx (S.take k) = some m) ∧ 0 ≤ m ∧ m ≤ 1 + (A : Int)) (fun _ i => 16 - (intOf i).toNat)
  case atStart => exact ⟨0, 0, by omega, rfl, rfl, Wv.hid (by simp [Wh.hx]), by omega, by omega⟩
  case round =>
    obtain ⟨k, m, hk, rfl, rfl, HM, h0, hB⟩ := hrel
    by_cases hlt : k < 16
    · have hkl : k < S.length := by rw [HL.out]; exact hlt
      have hidx : ∀ w, (Instr.index 9 (.string ⟨S.toArray⟩) (.int .i64 (k : Int))).run Try.prog w = .ok (.int .u8 ((S[k]).toNat : Int)) w := fun w => idx_str Try.underlying9 ⟨S.toArray⟩ k hkl w
      obtain ⟨d, hd, hdn, hdv⟩ := HD.out k hkl
      have hnx := Wh.hx_next hkl HM.out (by rw [hdv]; omega)
      rw [hdv] at hnx
      have hle := Wh.hx_ge (by omega) hnx HX.out
      have HN := Wv.hid hnx
      have HLE := Wv.hid hle
      have hm1 : m < 288230376151711744 := HA.out m (by omega)
      rw [hdn] at hidx
      clear hdn hdv hnx hle hkl
      have HB := Wv.hid hB
      clear hB
      by_cases h10 : d < 10
      · have HC : Hid (((Wh.dn d : Nat) : Int) = 48 + (d : Int)) := Wv.hid (by unfold Wh.dn; rw [if_pos h10]; omega)
        generalize ((Wh.dn d : Nat) : Int) = c at *
        have c0 : 48 ≤ c := by have := HC.out; omega
        have c1 : c ≤ 57 := by have := HC.out; omega
        go_wp2
        go_round
        case rel => exact ⟨k + 1, 16 * m + d, by omega, by go_num, congrArg (Value.int .i64) (by have := HC.out; omega), HN, by omega, by have := HLE.out; omega⟩
        case measure => simp only [intOf]; omega
      · have HC : Hid (((Wh.dn d : Nat) : Int) = 87 + (d : Int)) := Wv.hid (by unfold Wh.dn; rw [if_neg h10]; omega)
        generalize ((Wh.dn d : Nat) : Int) = c at *
        have c0 : 97 ≤ c := by have := HC.out; omega
        have c1 : c ≤ 102 := by have := HC.out; omega
        go_wp2
        go_round
        case rel => exact ⟨k + 1, 16 * m + d, by omega, by go_num, congrArg (Value.int .i64) (by have := HC.out; omega), HN, by omega, by have := HLE.out; omega⟩
        case measure => simp only [intOf]; omega
    · obtain rfl : k = 16 := by omega
      obtain rfl : m = 1 + (A : Int) := by
        have := HM.out
        rw [List.take_of_length_le (by rw [HL.out]; omega), HX.out] at this
        have := Option.some.inj this
        omega
      go_wp2_with fail
      refine (text_last _).mono ?_
      rintro e w2 ⟨rfl, hb2⟩
      have hb3 := Wv.step hb1 (Nat.le_refl _) hb2
      go_wp2_with (first | (go_at_call 7; refine (parse_any _ _).mono ?_; rintro e w' ⟨rfl, rfl⟩; first | rw [par_0] | rw [par_4]) | (go_at_call 11; refine (check_any _ _).mono ?_; rintro e w' ⟨rfl, rfl⟩; first | rw [chk_beyond] | rw [chk_less]) | (go_at_call 12; refine (wakes_any _).mono ?_; rintro e w3 ⟨rfl, hb4⟩))
      all_goals go_ret
      exact ⟨rfl, Wv.step hb3 (Nat.le_refl _) hb4⟩

end Go.Proofs.Ytepdldglbhpegaa
