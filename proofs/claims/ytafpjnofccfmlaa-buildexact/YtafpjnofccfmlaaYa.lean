/-
  What keep.TwinInts and the page's Map return, for every input.
-/
import Derived.Test.YtafpjnofccfmlaaJG
namespace Go.Proofs.Ytafpjnofccfmlaa
open Go.RowKit

theorem infoI : (Try.prog.info? 3).map (fun i => (i.zero, i.size, i.bytes)) = some (some (.int .i64 0), 1, 8) := by kernel_rfl

set_option maxHeartbeats 400000 in
theorem twinInts_any (v : Value) (xs : List Int) (w : World) (hv : Wd.In w v xs) (hs : Wv.Shaped v) :
    Calls Try.prog 9 #[v] w fun e w' => ∃ a c, e = .returned (.slice a xs.length c) ∧ Wd.In w' (.slice a xs.length c) xs ∧ Below w.heap.size w w' := by
  obtain ⟨i0, hi, hz0, hz1, hz2⟩ := info_parts infoI
  have hlen : xs.length ≤ 17592186044416 := by obtain ⟨_, n, _, _, h, _, _, h5, _⟩ := hv; omega
  obtain ⟨v', w', hrun, hO, hb⟩ := Wv.append_run (P := Try.prog) (ty := 23) (val := Value.int .i64) (d := 0) Try.underlying23 hi hz0 hz1 hz2 rfl (by omega) (fun _ => rfl) (Wv.Ov.nil 3 w.heap.size w) hv hs (by simpa using hlen) (Nat.le_refl _)
  have HI : Hid (Wd.In w' v' xs) := Wc.hid hO.rv
  have HB := Wc.hid hb
  clear hO hb hv
  go_enter Try.func9, Try.ntmps9
  go_wp2_with (at_builtin; refine Wv.wp_append hrun rfl rfl rfl rfl ?_)
  go_ret
  obtain ⟨a, n, c, rfl, hn, -⟩ := id HI.out
  subst hn
  exact ⟨a, c, rfl, HI.out, HB.out⟩

set_option maxHeartbeats 1600000 in
theorem refMap_any (v : Value) (m : List Int) (n : Int) (w : World) (hv : Wd.In w v m) :
    Calls Try.prog 16 #[v, .int .i64 n] w fun e w' => e = .returned (.int .i64 (Wt.mapE m n)) ∧ w = w' := by
  by_cases hl : m.length = 512
  · rcases hv.open with ⟨hnil, -⟩ | ⟨b, off, N, cap, rfl, -, hlen, -, -, hNN, -, hc⟩
    · rw [hnil] at hl; simp at hl
    have hN5 : ((N : Int) != 512) = false := by simp; omega
    have HLN := Wc.hid hlen
    have HC := Wc.hid hc
    have HL := Wc.hid hl
    clear hc hlen hl hv
    go_enter Try.func16, Try.ntmps16
    go_wp2_with fail
    go_loop [5] (fun i => ∃ k : Nat, i = .int .i64 k ∧ k ≤ N ∧ Hid (∀ j, j < k → Wt.plB n (m.getD j 0) = true)) (fun i => N - (intOf i).toNat)
    case atStart => exact ⟨0, rfl, by omega, fun j h => by omega⟩
    case round =>
      obtain ⟨k, rfl, hk, HZ⟩ := hrel
      by_cases hlt : k < N
      · have h1 := HC.out k hlt
        obtain ⟨x, hx⟩ : ∃ x, m.getD k 0 = x := ⟨_, rfl⟩
        rw [hx] at h1
        have HX := Wc.hid hx
        clear hx
        by_cases hb : x = 0 ∨ 2 ≤ x ∧ x < n
        · have HP : Hid (Wt.plB n x = true) := Wc.hid (by
            unfold Wt.plB
            rcases hb with rfl | hb
            · rfl
            · rw [Wt.bsB_iff.2 hb, Bool.or_true])
          have hrel' : ∃ k' : Nat, Value.int .i64 ((k : Int) + 1) = .int .i64 k' ∧ k' ≤ N ∧ Hid (∀ j, j < k' → Wt.plB n (m.getD j 0) = true) := ⟨k + 1, by go_num, by omega, fun j hj => by
            by_cases hjk : j = k
            · subst hjk; rw [HX.out]; exact HP.out
            · exact HZ.out j (by omega)⟩
          have HREL := Wc.hid hrel'
          clear hrel'
          rcases hb with rfl | ⟨hb1, hb2⟩
          · go_wp2_with fail
            go_round
            case rel => exact HREL.out
            case measure => simp [intOf]; omega
          · have hx0 : (x != 0) = true := by simp; omega
            go_wp2_with fail
            go_round
            case rel => exact HREL.out
            case measure => simp [intOf]; omega
        · have HP : Hid (Wt.plB n x = false) := Wc.hid (by
            unfold Wt.plB
            have h1 : (x == 0) = false := by simp; omega
            have h2 : Wt.bsB x n = false := by rw [Bool.eq_false_iff]; intro e; have := Wt.bsB_iff.1 e; omega
            rw [h1, h2]; rfl)
          have hx0 : (x != 0) = true := by simp; omega
          have hor : x < 2 ∨ (2 ≤ x ∧ n ≤ x) := by omega
          have HM : Hid ((1 : Int) = Wt.mapE m n) := Wc.hid (by
            unfold Wt.mapE
            rw [if_pos HL.out, all_not (k := k) (by rw [HLN.out]; exact hlt) (by rw [HX.out]; exact HP.out)]
            rfl)
          clear hb
          rcases hor with ho | ⟨ho, ho2⟩
          · go_wp2_with fail
            go_ret
            exact ⟨ret_int HM.out, rfl⟩
          · go_wp2_with fail
            go_ret
            exact ⟨ret_int HM.out, rfl⟩
      · go_wp2_with fail
        go_ret
        refine ⟨ret_int ?_, rfl⟩
        unfold Wt.mapE
        rw [if_pos HL.out, if_pos (all_upto fun j hj => HZ.out j (by rw [HLN.out] at hj; omega))]
  · obtain ⟨a, k, cap, rfl, hlen, -⟩ := hv
    have hk : ((k : Int) != 512) = true := by simp; omega
    have HL := Wc.hid hl
    clear hl hlen
    go_enter Try.func16, Try.ntmps16
    go_wp2_with fail
    go_ret
    refine ⟨ret_int ?_, rfl⟩
    unfold Wt.mapE
    rw [if_neg HL.out]

end Go.Proofs.Ytafpjnofccfmlaa
