/-
  What alloc.Left returns, for every input: what is not reached.
-/
import Derived.Test.YtiobegoiehjfiaaGreatLb
import Derived.Test.YtiobegoiehjfiaaGreatKf
namespace Wl
open Wj
theorem okC_cts {T : List Int} {m : Nat} (hm : m ≤ 4096) (hT : T.length ≤ 900000) : okC (cts T m) = true := by
  refine okC_iff.2 ⟨by rw [cts_length]; exact hm, fun x hx => ?_⟩
  obtain ⟨j, hj, rfl⟩ := List.mem_map.1 hx
  have := List.count_le_length (a := (j : Int)) (l := T)
  omega
/-- The free ones and the used ones are all. -/
theorem fre_used {T : List Int} {m : Nat} (h0 : 0 < T.count 0) (h1 : 0 < T.count 1) : ∀ k, k ≤ m → (fre (cts T m) k).length + usedN T k = k
  | 0, _ => rfl
  | k + 1, h => by
    have hi := fre_used (m := m) h0 h1 k (by omega)
    have hg := cts_get T (m := m) (j := k) (by omega)
    have hk : k = 0 → 0 < T.count (k : Int) := by rintro rfl; exact h0
    have hk1 : k = 1 → 0 < T.count (k : Int) := by rintro rfl; exact h1
    rw [usedN_succ]
    by_cases hz : 0 < T.count (k : Int)
    · rw [if_pos hz, fre_no (by rw [hg]; omega)]; omega
    · rw [if_neg hz, fre_yes ⟨by omega, by rw [hg]; omega⟩, List.length_append]; simp; omega
theorem used_two {T : List Int} {m : Nat} (h0 : 0 < T.count 0) (h1 : 0 < T.count 1) (hm : 2 ≤ m) : 2 ≤ usedN T m := by
  have a := fre_used (m := m) h0 h1 m (Nat.le_refl _)
  have b : ∀ k, (fre (cts T m) (k + 2)).length ≤ k := by
    intro k
    induction k with
    | zero => rw [fre_low _ _ (Nat.le_refl _)]; exact Nat.le_refl _
    | succ k ih =>
      show (fre (cts T m) (k + 2) ++ _).length ≤ _
      rw [List.length_append]
      split <;> simp <;> omega
  have c := b (m - 2)
  rw [show m - 2 + 2 = m by omega] at c
  omega
end Wl
namespace Go.Proofs.YtiobegoiehjfiaaGreat
open Go.RowKit

theorem cnt_len {xs : List Int} (H : Img xs) : (cnt xs).length ≤ 900000 := by
  rw [← upto_all]
  exact upto_len xs _ (by unfold opnL; rw [List.length_map]; exact H.len)
theorem cnt_slots {xs : List Int} (H : Img xs) : 0 < (cnt xs).count 0 ∧ 0 < (cnt xs).count 1 := by
  rw [List.count_pos_iff, List.count_pos_iff]
  exact ⟨(cnt_mem H 0).2 (.inl rfl), (cnt_mem H 1).2 (.inr (.inl rfl))⟩

/-- What Left returns. -/
def LeftPost (xs : List Int) (w : World) : Ending → World → Prop := fun e w' =>
  Below w.heap.size w w' ∧ (opnE xs = 0 → e = .returned (.tuple #[.int .i64 ((Wl.fre (Wj.cts (cnt xs) (xs.length / 64)) (xs.length / 64)).length : Nat), .int .i64 0])) ∧
    (¬ opnE xs = 0 → e = .returned (.tuple #[.int .i64 0, .int .i64 (opnE xs)]))

set_option maxHeartbeats 3200000 in
theorem left13_any (v : Value) (xs : List Int) (w : World) (hv : Wc.Bs w v xs) : Calls Tryz.prog 10 #[v] w (LeftPost xs w) := by
  unfold LeftPost
  have HV := Wc.hid hv
  clear hv
  by_cases h0 : opnE xs = 0
  · have H0 := Wc.hid h0
    have hI := img_of h0
    have hd := Wd.devB_iff.1 hI.dev
    obtain ⟨m, hm⟩ : ∃ m, xs.length / 64 = m := ⟨_, rfl⟩
    have hm4 : 4 ≤ m ∧ m ≤ 4096 := by omega
    have HM := Wc.hid hm
    obtain ⟨T, hT⟩ : ∃ T, cnt xs = T := ⟨_, rfl⟩
    have hlen := cnt_len hI
    rw [hT] at hlen
    have HOK := Wc.hid (Wl.okC_cts hm4.2 hlen)
    have HT := Wc.hid hT
    clear hd h0 hm hT hI hlen
    go_enter Tryz.func10, Tryz.ntmps10
    go_wp2_with fail
    refine (counts_any v xs _ HV.out).mono ?_
    rintro e w1 ⟨hb1, hy, -⟩
    obtain ⟨g, rfl, hg, hc⟩ := hy H0.out
    rw [HM.out] at hc
    rw [HT.out] at hc
    rw [HM.out]
    have HB := Wc.hid hb1
    have HC := Wc.hid (cn_in hc (by omega))
    clear hy hc hb1
    go_wp2_with fail
    refine (free13_any _ _ _ _ _ HC.out).mono ?_
    rintro e w2 ⟨hb2, hy, -⟩
    obtain ⟨a', n', c', rfl, hO⟩ := hy HOK.out
    have hl := Wv.rv_len (val := Value.int .i64) (d := (0 : Int)) hO.rv
    have HL := Wc.hid hl
    have HB2 := Wc.hid (Wc.step HB.out (Nat.le_refl _) hb2)
    clear hy hb2 hO hl
    go_wp2_with fail
    go_ret2
    exact ⟨HB2.out, fun _ => by rw [HT.out, HM.out, HL.out]; rfl, fun h => absurd H0.out h⟩
  · obtain ⟨E, hE⟩ : ∃ E, opnE xs = E := ⟨_, rfl⟩
    have H0 := Wc.hid h0
    have HE := Wc.hid hE
    have hne : (E != 0) = true := by rw [bne_iff_ne, ← hE]; exact h0
    clear h0 hE
    go_enter Tryz.func10, Tryz.ntmps10
    go_wp2_with fail
    refine (counts_any v xs _ HV.out).mono ?_
    rintro e w1 ⟨hb1, -, hn⟩
    obtain rfl := hn H0.out
    rw [HE.out]
    have HB := Wc.hid hb1
    clear hn hb1
    go_wp2_with fail
    go_ret2
    exact ⟨HB.out, fun h => absurd (HE.out.symm.trans h) (fun _ => H0.out h), fun _ => by rw [HE.out]; rfl⟩
end Go.Proofs.YtiobegoiehjfiaaGreat
