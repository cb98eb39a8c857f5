/-
  The page's Get4 and Good for every input; the statements' own wakes returns true.
-/
import Derived.Test.YtifjbmknghjohaaMore
import Derived.Deep.QuietTactic
import Derived.BigQuiet
import Derived.Lib.SlBytesConst
namespace Go.Proofs.Ytifjbmknghjohaa
open Go.RowKit

theorem num_four (ys : List Int) (hl : ys.length = 4) (hx : ∀ x ∈ ys, 0 ≤ x ∧ x < 256) : numR ys = (Wc.val ys, true) := by
  have hb := Wc.val_bd ys hx
  rw [hl] at hb
  unfold numR
  rw [if_pos (by omega)]

set_option maxHeartbeats 400000 in
theorem refGet4_any (b off n cap m : Nat) (xs : List Int) (w : World) (hv : Wc.Bs w (.slice (some ⟨b, off, none⟩) n cap) xs) (h4 : m + 4 ≤ n) (hcap : n ≤ cap) (hcap2 : cap ≤ 9223372036854775807) :
    Calls Try.prog 57 #[.slice (some ⟨b, off, none⟩) n cap, .int .i64 m] w fun e w' => e = .returned (.int .i64 (Wc.val ((xs.drop m).take 4))) ∧ w = w' := by
  have HV := Wc.hid hv
  have HN := Wc.hid (num_four ((xs.drop m).take 4) (by have := Wc.bs_len hv; simp; omega) (fun x h => Wc.bs_bytes hv x (List.mem_of_mem_drop (List.mem_of_mem_take h))))
  clear hv
  go_enter Try.func57, Try.ntmps57
  go_wp2_with fail
  refine (refNumber_any _ _ _ (Wc.bs_mid HV.out m 4 (by omega))).mono ?_
  rintro e w2 ⟨rfl, rfl⟩
  rw [HN.out]
  go_wp2_with fail
  go_ret
  exact ⟨rfl, rfl⟩

set_option maxHeartbeats 400000 in
theorem refGood_any (v : Value) (xs : List Int) (w : World) (hv : Wc.Bs w v xs) :
    Calls Try.prog 67 #[v] w fun e w' => e = .returned (.bool (Wc.goodB xs)) ∧ Below w.heap.size w w' := by
  have HV := Wc.hid hv
  rcases hv.open with ⟨rfl, a, cap, rfl, _⟩ | ⟨b, off, n, cap, rfl, h0, hl, hcap, hcap2, hn, hx, _, hc⟩
  · have hd : (4 : Int) ≤ 0 ↔ False := iff_false_intro (by omega)
    go_enter Try.func67, Try.ntmps67
    go_wp2
    go_quiet (fail)
    go_wp2
    go_ret
    exact ⟨rfl, below_drewN (Below.refl _ _) _⟩
  · clear hv hc
    by_cases h4 : n < 4
    · rw [good_short xs (by omega)]
      have hd : (4 : Int) ≤ (n : Int) ↔ False := iff_false_intro (by omega)
      clear hl
      go_enter Try.func67, Try.ntmps67
      go_wp2
      go_quiet (fail)
      go_wp2
      go_ret
      exact ⟨rfl, below_drewN (Below.refl _ _) _⟩
    · obtain ⟨m, rfl⟩ : ∃ m, n = m + 4 := ⟨n - 4, by omega⟩
      have HE := Wc.hid (good_long xs (m + 4) hl (by omega))
      rw [show m + 4 - 4 = m by omega] at HE
      have HT : Hid ((xs.drop m).take 4 = xs.drop m) := Wc.hid (List.take_of_length_le (by simp; omega))
      rw [HE.out]
      have hd : decide ((4 : Int) ≤ (m : Int) + 4) = true := decide_eq_true (by omega)
      clear hl hx
      go_enter Try.func67, Try.ntmps67
      go_wp2
      go_quiet (first | (go_at_call 57; refine Wc.quiet_same (refGet4_any b off (m + 4) cap m xs _ (Wc.bs_drewN HV.out _) (by omega) hcap hcap2)) | (go_at_call 70; refine Wc.quiet_same (refSum_any _ _ _ (Wc.bs_take (Wc.bs_drewN HV.out _) m (by omega)))) | fail)
      go_wp2
      go_ret
      exact ⟨by rw [HT.out]; rfl, below_drewN (Below.refl _ _) _⟩

theorem wake_sum : Wc.more 0 [49, 50, 51, 52, 53, 54, 55, 56, 57] = 3808858755 := by decide +kernel
theorem wake_nil : Wc.more 0 [] = 0 := by decide +kernel
theorem wake_good : Wc.goodB [1, 2, 3, 4, 5] = false := by decide +kernel
