/-
  OpenNew returns true, for every two ints and every four bytes.
-/
import Derived.Test.YtifoghbacifhnaaQw
namespace Wi
theorem zipx_zero (C : List Int) (h : ∀ y ∈ C, 0 ≤ y) : Wc.zipx C (List.replicate C.length 0) = C := by
  unfold Wc.zipx
  apply List.ext_getElem (by simp)
  intro i h1 h2
  have := h C[i] (List.getElem_mem h2)
  simp
  omega
theorem zipx_zeros (k : Nat) : Wc.zipx (List.replicate k 0) (List.replicate k 0) = List.replicate k 0 := by
  have := zipx_zero (List.replicate k 0) (fun y hy => by rw [List.eq_of_mem_replicate hy]; decide)
  rwa [List.length_replicate] at this
theorem runAt_split {A N : Nat} {zs : List Int} (hA : A ≤ 60) (hN : 64 ≤ N) : Wc.runAt A (N - 4 - A) zs = Wc.runAt A (60 - A) zs ++ List.replicate (N - 64) 0 := by
  unfold Wc.runAt
  rw [show N - 4 - A = (60 - A) + (N - 64) by omega, ← List.replicate_append_replicate]
  simp
theorem newC_form {m N A : Nat} {zs : List Int} (h : 4 ≤ m) (hN : m * 64 = N) (hA : A ≤ 60) (hz : zs.length = 4) :
    Wc.zipx (newI m) (Wc.runAt A (N - 4 - A) zs) = Wc.zipx (Ws.blk (newS m)) (Wc.runAt A (60 - A) zs) ++ List.replicate (N - 64) 0 := by
  rw [runAt_split hA (by omega), newI_form, hN]
  unfold Wc.zipx
  rw [List.zipWith_append (by rw [Ws.blk_length]; simp [Wc.runAt, hz]; omega)]
  congr 1
  exact zipx_zeros _
end Wi
namespace Go.Proofs.Ytifoghbacifhnaa
open Go.RowKit

theorem lowN (i : Int) (m : Nat) (h0 : 0 < m) (h : (m : Int) ≤ 9223372036854775807) : ∃ A : Nat, A < m ∧ wrap64 ((IntKind.u64.wrap i).tmod (m : Int)) = (A : Int) := by
  rw [IntKind.wrap_u64, Int.tmod_eq_emod_of_nonneg (by omega)]
  have h1 := Int.emod_nonneg (i % 18446744073709551616) (b := (m : Int)) (by omega)
  have h2 := Int.emod_lt_of_pos (i % 18446744073709551616) (b := (m : Int)) (by omega)
  exact ⟨((i % 18446744073709551616) % (m : Int)).toNat, by omega, by unfold wrap64; omega⟩
theorem lowA (i : Int) (m : Int) (k : Nat) (h0 : 0 < m) (h : m ≤ 4096) (hk : k ≤ 4096) : ∃ A : Nat, (k ≤ A ∧ (A : Int) < m + k) ∧ wrap64 ((k : Int) + wrap64 ((IntKind.u64.wrap i).tmod m)) = (A : Int) := by
  obtain ⟨q, rfl⟩ : ∃ q : Nat, m = q := ⟨m.toNat, by omega⟩
  obtain ⟨A, hA, e⟩ := lowN i q (by omega) (by omega)
  exact ⟨k + A, by omega, by rw [e]; unfold wrap64; omega⟩

/-- With a superblock that is none, and noughts behind it, nothing opens. -/
theorem head_open {Y : List Int} {k : Nat} (hY : Y.length = 64) (hd : Wd.devB (64 + k) = true) (hp : ¬ Ws.parE Y = 0) : opnE (Y ++ List.replicate k 0) = 8 := by
  have hk := Wd.devB_iff.1 hd
  have : pickA (Y ++ List.replicate k 0) = (Ws.s0, 0, 8) := by
    unfold pickA
    rw [if_pos (by rw [List.length_append, hY, List.length_replicate]; exact hd)]
    unfold Ws.pickR
    have h1 : (Y ++ List.replicate k (0 : Int)).take 64 = Y := by rw [List.take_append_of_le_length (by omega), List.take_of_length_le (by omega)]
    have h2 : ((Y ++ List.replicate k (0 : Int)).drop 64).take 64 = List.replicate 64 0 := by
      rw [List.drop_append, hY, List.drop_eq_nil_of_le (by omega), List.nil_append, Nat.sub_self, List.drop_zero, List.take_replicate, Nat.min_eq_left (by omega)]
    rw [h1, h2, zeros_slot2, Ws.slot_no (fun h => hp h.1)]
    rfl
  unfold opnE
  rw [this]
  rfl
theorem newC_open {m N A : Nat} {zs : List Int} (h : 4 ≤ m) (h2 : m ≤ 4096) (hN : m * 64 = N) (hA : A ≤ 60) (hz : zs.length = 4) (hb : ∀ y ∈ zs, 0 ≤ y ∧ y < 256) :
    opnE (Wc.zipx (Wi.newI m) (Wc.runAt A (N - 4 - A) zs)) = if chgB zs 4 = true then 8 else 0 := by
  have hc := Ws.par_changed (Wi.newS_ok h h2) A (60 - A) zs hz hb (by omega)
  have hall := chgB_all zs
  rw [hz] at hall
  rw [Wi.newC_form h hN hA hz]
  cases hq : chgB zs 4 with
  | true =>
    rw [if_pos rfl]
    refine head_open (by unfold Wc.zipx; rw [List.length_zipWith, Ws.blk_length]; simp [Wc.runAt, hz]; omega) (by rw [show 64 + (N - 64) = m * 64 by omega]; exact Wt.devB_b h h2) (fun h0 => ?_)
    have := hall.2 (hc.1 h0)
    rw [hq] at this
    cases this
  | false =>
    rw [if_neg (by decide)]
    have hz0 := hall.1 hq
    have hR : Wc.runAt A (60 - A) zs = List.replicate (Ws.blk (Wi.newS m)).length 0 := by
      rw [List.eq_replicate_iff]
      refine ⟨by rw [Ws.blk_length]; simp [Wc.runAt, hz]; omega, fun b hb => ?_⟩
      unfold Wc.runAt at hb
      rcases List.mem_append.1 hb with hb | hb
      · exact List.eq_of_mem_replicate hb
      · rcases List.mem_append.1 hb with hb | hb
        · exact hz0 b hb
        · exact List.eq_of_mem_replicate hb
    rw [hR, Wi.zipx_zero _ (fun y hy => (Ws.blk_bd _ y hy).1), ← hN, ← Wi.newI_form]
    exact (new_open h h2).1
theorem ob_row {base g n : Nat} {w : World} {xs : List Int} (h : Wc.Ob 5 base w (.slice (some ⟨g, 0, none⟩) n n) xs) (_h0 : 0 < n) : w.rowIs g 5 n (fun j => .int .u8 (xs.getD j 0)) := by
  have hl := Wc.bs_len h.bs
  rcases h.1.2 with ⟨hn, _⟩ | ⟨g', cap, cur, hv, hbg, hg, c1, c2, c3, c4⟩
  · cases hn
  · injection hv with e1 e2 e3
    injection e1 with e1
    injection e1 with e1
    subst e1 e3
    refine ⟨cur, hg, by omega, fun j hj => ?_⟩
    have := congrArg (fun l : List Value => l[j]?) c4
    simp only [List.getElem?_take, List.getElem?_map] at this
    rw [if_pos (by omega)] at this
    rw [← Array.getElem?_toList, this]
    simp [show j < xs.length by omega]

end Go.Proofs.Ytifoghbacifhnaa
