/-
  What ids.Parse and the page's ParseId return, for every text.
-/
import Derived.Test.YtepdldglbhpegaaIdl
import Derived.Laws.BitsAllLaws
namespace Go.Proofs.Ytepdldglbhpegaa
open Go.RowKit

/-- A byte of a text. -/
theorem idx_str {P : Program} {t : TypeId} (h : P.underlying t = some .string) (s : ByteArray) (k : Nat) (hk : k < s.data.toList.length) (w : World) :
    (Instr.index t (.string s) (.int .i64 (k : Int))).run P w = .ok (.int .u8 ((s.data.toList[k]).toNat : Int)) w := by
  have hs : s.size = s.data.toList.length := rfl
  rw [run_index_string w t s .i64 k h, dif_pos (by omega)]
  rfl

theorem byte_bd (b : UInt8) : 0 ≤ (b.toNat : Int) ∧ (b.toNat : Int) < 256 := by
  have := b.toNat_lt
  omega

/-- A digit behind a number. -/
theorem or_digit (m d : Int) (h0 : 0 ≤ m) (h1 : m < 1152921504606846976) (h2 : 0 ≤ d) (h3 : d < 16) :
    bits BinOp.or IntKind.u64 (IntKind.u64.wrap (m * 16)) d = 16 * m + d := by
  obtain ⟨a, rfl⟩ := Int.eq_ofNat_of_zero_le h0
  obtain ⟨b, rfl⟩ := Int.eq_ofNat_of_zero_le h2
  rw [IntKind.wrap_u64, Int.emod_eq_of_lt (by omega) (by omega), show (a : Int) * 16 = ((a * 16 : Nat) : Int) by omega, u64_or_nat (a * 16) b (by omega) (by omega)]
  have h4 : a * 16 ||| b = a * 16 + b := by
    rw [show a * 16 = a <<< 4 by rw [Nat.shiftLeft_eq], Nat.shiftLeft_add_eq_or_of_lt (by omega)]
  rw [h4]
  omega

theorem low15 {m : Int} {k : Nat} (h : m < 16 ^ k) (hk : k < 16) : m < 1152921504606846976 := by
  have h1 : (16 : Nat) ^ k ≤ 16 ^ 15 := Nat.pow_le_pow_right (by omega) (by omega)
  have h2 : (16 : Int) ^ k = ((16 ^ k : Nat) : Int) := by rw [Int.natCast_pow]; rfl
  rw [h2] at h
  omega

theorem next16 {m d : Int} {k : Nat} (h : m < 16 ^ k) (hd : d < 16) : 16 * m + d < 16 ^ (k + 1) := by
  rw [Int.pow_succ]; omega

set_option maxHeartbeats 800000 in
theorem parse_any (s : ByteArray) (w : World) :
    Calls Try.prog 7 #[.string s] w fun e w' => e = .returned (.tuple #[.int .i64 (Wh.par s.data.toList).1, .int .i64 (Wh.par s.data.toList).2]) ∧ w = w' := by
  have hs : s.size = s.data.toList.length := rfl
  by_cases hlen : s.size = 16
  · have HS := Wv.hid hs
    clear hs
    have hneq : (s.size == 16) = true := by simp [hlen]
    go_enter Try.func7, Try.ntmps7
    go_wp2
    go_loop [4, 10] (fun n i => ∃ (k : Nat) (m : Int), k ≤ 16 ∧ i = .int .i64 k ∧ n = .int .u64 m ∧ Hid (Wh.hx (s.data.toList.take k) = some m) ∧ 0 ≤ m ∧ Hid (m < 16 ^ k)) (fun _ i => 16 - (intOf i).toNat)
    case atStart => exact ⟨0, 0, by omega, rfl, rfl, Wv.hid (by simp [Wh.hx]), by omega, Wv.hid (by decide)⟩
    case round =>
      obtain ⟨k, m, hk, rfl, rfl, HM, h0, HB⟩ := hrel
      by_cases hlt : k < 16
      · have hkl : k < s.data.toList.length := by rw [← HS.out, hlen]; exact hlt
        have hidx := fun w => idx_str Try.underlying9 s k hkl w
        have HN := Wv.hid (Wh.hx_next hkl HM.out)
        have HX := Wv.hid (Wh.hx_bad hkl)
        obtain ⟨c0, c1⟩ := byte_bd (s.data.toList[k])
        generalize ((s.data.toList[k]).toNat : Int) = c at *
        obtain ⟨d0, d1⟩ := Wh.dv_bd c
        go_wp2_with (first | (go_at_call 14; refine (idx14 _ _ c0 c1).mono ?_; rintro e w' ⟨rfl, rfl⟩))
        · rename_i h1
          go_ret2
          exact ⟨by rw [Wh.par_none (HX.out h1)]; rfl, rfl⟩
        · rename_i h1
          go_round
          case rel => exact ⟨k + 1, 16 * m + Wh.dv c, by omega, by go_num, by rw [or_digit m _ h0 (low15 HB.out hlt) h1 d1], Wv.hid (HN.out h1), by omega, Wv.hid (next16 HB.out d1)⟩
          case measure => simp only [intOf]; omega
      · obtain rfl : k = 16 := by omega
        have HM2 : Hid (Wh.hx s.data.toList = some m) := Wv.hid (by
          have := HM.out
          rwa [List.take_of_length_le (by rw [← HS.out]; omega)] at this)
        go_wp2
        all_goals go_ret2
        all_goals first | exact ⟨by rw [Wh.par_out HM2.out (by omega)]; rfl, rfl⟩ | exact ⟨by rw [Wh.par_some (by rw [← HS.out]; exact hlen) HM2.out (by omega) (by omega)]; rfl, rfl⟩
  · have hneq : (s.size == 16) = false := by simp [hlen]
    have HE := Wv.hid (Wh.par_len (l := s.data.toList) (by rw [← hs]; exact hlen))
    clear hs hlen
    go_enter Try.func7, Try.ntmps7
    go_wp2
    go_ret2
    exact ⟨by rw [HE.out]; rfl, rfl⟩

set_option maxHeartbeats 1600000 in
theorem parseId_any (s : ByteArray) (w : World) :
    Calls Try.prog 8 #[.string s] w fun e w' => e = .returned (.tuple #[.int .i64 (Wh.par s.data.toList).1, .bool ((Wh.par s.data.toList).2 == 0)]) ∧ w = w' := by
  have hs : s.size = s.data.toList.length := rfl
  by_cases hlen : s.size = 16
  · have HS := Wv.hid hs
    clear hs
    have hneq : (s.size == 16) = true := by simp [hlen]
    go_enter Try.func8, Try.ntmps8
    go_wp2
    go_loop [4, 5] (fun n i => ∃ (k : Nat) (m : Int), k ≤ 16 ∧ i = .int .i64 k ∧ n = .int .i64 m ∧ Hid (Wh.hx (s.data.toList.take k) = some m) ∧ 0 ≤ m ∧ m ≤ 4611686018427387903) (fun _ i => 16 - (intOf i).toNat)
    case atStart => exact ⟨0, 0, by omega, rfl, rfl, Wv.hid (by simp [Wh.hx]), by omega, by omega⟩
    case round =>
      obtain ⟨k, m, hk, rfl, rfl, HM, h0, hB⟩ := hrel
      by_cases hlt : k < 16
      · have hkl : k < s.data.toList.length := by rw [← HS.out, hlen]; exact hlt
        have hidx := fun w => idx_str Try.underlying9 s k hkl w
        have HN := Wv.hid (Wh.hx_next hkl HM.out)
        have HX := Wv.hid (Wh.hx_bad hkl)
        obtain ⟨c0, c1⟩ := byte_bd (s.data.toList[k])
        generalize ((s.data.toList[k]).toNat : Int) = c at *
        have HD : Hid (Wh.dv c = if 48 ≤ c ∧ c ≤ 57 then c - 48 else if 97 ≤ c ∧ c ≤ 102 then c - 87 else -1) := Wv.hid rfl
        generalize Wh.dv c = d at *
        clear hkl
        have HG : Hid (0 ≤ d → 4611686018427387903 < 16 * m + d → Wh.par s.data.toList = (0, 1)) := Wv.hid fun hd hg => Wh.par_big (by omega) (HN.out (by omega)) hg
        by_cases k1 : 48 ≤ c ∧ c ≤ 57
        · obtain ⟨k1, k2⟩ := k1
          obtain rfl : d = c - 48 := by rw [HD.out, if_pos ⟨k1, k2⟩]
          clear HD
          by_cases k3 : 288230376151711743 < m
          · go_wp2
            all_goals go_ret2
            all_goals exact ⟨by rw [HG.out (by omega) (by omega)]; rfl, rfl⟩
          · go_wp2
            all_goals go_round
            case rel => exact ⟨k + 1, 16 * m + (c - 48), by omega, by go_num, rfl, Wv.hid (HN.out (by omega)), by omega, by omega⟩
            case measure => simp only [intOf]; omega
        · by_cases k4 : 97 ≤ c ∧ c ≤ 102
          · obtain rfl : d = c - 97 + 10 := by rw [HD.out, if_neg k1, if_pos k4]; omega
            obtain ⟨k4, k5⟩ := k4
            clear HD
            have k6 : ¬ c ≤ 57 := by omega
            clear k1
            by_cases k3 : 288230376151711743 < m
            · go_wp2
              all_goals go_ret2
              all_goals exact ⟨by rw [HG.out (by omega) (by omega)]; rfl, rfl⟩
            · go_wp2
              all_goals go_round
              case rel => exact ⟨k + 1, 16 * m + (c - 97 + 10), by omega, by go_num, rfl, Wv.hid (HN.out (by omega)), by omega, by omega⟩
              case measure => simp only [intOf]; omega
          · obtain rfl : d = -1 := by rw [HD.out, if_neg k1, if_neg k4]
            have HE := Wv.hid (Wh.par_none (HX.out (by omega)))
            clear HD HG HN HX
            have K1 := Wv.hid k1
            have K4 := Wv.hid k4
            clear k1 k4
            go_wp2
            all_goals first | (exfalso; have := K1.out; have := K4.out; omega) | go_ret2
            all_goals exact ⟨by rw [HE.out]; rfl, rfl⟩
      · obtain rfl : k = 16 := by omega
        have HM2 : Hid (Wh.hx s.data.toList = some m) := Wv.hid (by
          have := HM.out
          rwa [List.take_of_length_le (by rw [← HS.out]; omega)] at this)
        by_cases h1 : 1 ≤ m
        · go_wp2
          go_ret2
          exact ⟨by rw [Wh.par_some (by rw [← HS.out]; exact hlen) HM2.out h1 hB]; rfl, rfl⟩
        · obtain rfl : m = 0 := by omega
          go_wp2
          go_ret2
          exact ⟨by rw [Wh.par_out HM2.out (by omega)]; rfl, rfl⟩
  · have hneq : (s.size == 16) = false := by simp [hlen]
    have HE := Wv.hid (Wh.par_len (l := s.data.toList) (by rw [← hs]; exact hlen))
    clear hs hlen
    go_enter Try.func8, Try.ntmps8
    go_wp2
    go_ret2
    exact ⟨by rw [HE.out]; rfl, rfl⟩

end Go.Proofs.Ytepdldglbhpegaa
