/-
  The records, blocks and free blocks of CommitLinks; what the records that are written say. It speaks of no program.
-/
import Derived.Test.YtfflhiajbioheaaEj
namespace Wq
open Wr
def olds (I : Int) (k : Nat) : List Rec := (List.range k).map fun (i : Nat) => (⟨0, I + i, I + i + 1, 0, i, 0, 0, 0⟩ : Rec)
def bls (k : Nat) : List Int := (List.range k).map fun (i : Nat) => 40 + (i : Int)
def frs (k : Nat) : List Int := (List.range k).map fun (i : Nat) => 2 + 3 * (i : Int)
theorem olds_len (I : Int) (k : Nat) : (olds I k).length = k := by simp [olds]
theorem bls_len (k : Nat) : (bls k).length = k := by simp [bls]
theorem frs_len (k : Nat) : (frs k).length = k := by simp [frs]
theorem olds_succ (I : Int) (k : Nat) : olds I (k + 1) = olds I k ++ [⟨0, I + k, I + k + 1, 0, k, 0, 0, 0⟩] := by unfold olds; rw [List.range_succ, List.map_append]; rfl
theorem bls_succ (k : Nat) : bls (k + 1) = bls k ++ [40 + (k : Int)] := by unfold bls; rw [List.range_succ, List.map_append]; rfl
theorem frs_succ (k : Nat) : frs (k + 1) = frs k ++ [2 + 3 * (k : Int)] := by unfold frs; rw [List.range_succ, List.map_append]; rfl
theorem olds_at (I : Int) {k i : Nat} (h : i < k) : (olds I k).getD i r0 = ⟨0, I + i, I + i + 1, 0, i, 0, 0, 0⟩ := by
  unfold olds; rw [List.getD_eq_getElem?_getD, List.getElem?_map, List.getElem?_range h]; rfl
theorem bls_at {k i : Nat} (h : i < k) : (bls k).getD i 0 = 40 + (i : Int) := by
  unfold bls; rw [List.getD_eq_getElem?_getD, List.getElem?_map, List.getElem?_range h]; rfl
theorem frs_at {k i : Nat} (h : i < k) : (frs k).getD i 0 = 2 + 3 * (i : Int) := by
  unfold frs; rw [List.getD_eq_getElem?_getD, List.getElem?_map, List.getElem?_range h]; rfl
/-- The first one. -/
def r5 : Rec := ⟨0, 5000, 0, 0, 0, 0, 0, 0⟩
theorem links_may {I : Int} {n : Nat} {b : Bool} (h1 : 1 ≤ I) (h2 : I ≤ 1000) (hn : n ≤ 9) : mayB (olds I n) (bls n) (n : Int) r5 b (frs (n + 1)) = true := by
  refine mayB_iff.2 ⟨chB_iff.2 ⟨by rw [olds_len, bls_len], fun j hj => ?_⟩, by omega, by rw [olds_len]; omega, fun _ => by decide, frB_iff.2 fun j hj => ?_⟩
  · rw [olds_len] at hj
    unfold okC
    rw [olds_at I hj, bls_at hj, Bool.and_eq_true, recB_iff, bkB_iff]
    refine ⟨⟨.inl rfl, .inl rfl, ⟨?_, ?_⟩, .inr ⟨⟨?_, ?_⟩, ?_⟩, ⟨?_, ?_⟩, .inl ⟨rfl, rfl, rfl⟩⟩, by omega, by omega⟩
    · show (1 : Int) ≤ I + j; omega
    · show I + (j : Int) ≤ 4611686018427387903; omega
    · show (1 : Int) ≤ I + j + 1; omega
    · show I + (j : Int) + 1 ≤ 4611686018427387903; omega
    · show ¬ I + (j : Int) + 1 = I + j; omega
    · show (0 : Int) ≤ (j : Int); omega
    · show (j : Int) ≤ 512; omega
  · rw [frs_len] at hj
    rw [okF_iff, frs_at hj]
    refine ⟨?_, by omega, by omega⟩
    unfold prv
    by_cases e : j = 0
    · rw [if_pos e]; omega
    · rw [if_neg e, frs_at (by omega)]; omega
theorem links_stay (n : Nat) : stay (bls n) n = 0 := by unfold stay; rw [List.getD_eq_getElem?_getD, List.getElem?_eq_none (by rw [bls_len]; omega)]; rfl
theorem links_len (I : Int) (n : Nat) (b : Bool) : (news (olds I n) n r5 b).length = n - 1 + (if b then 1 else 0) := news_len (by rw [olds_len]; omega) _ _
theorem nx_succ (p : Int) (T : List Int) (k : Nat) : nx p T (k + 1) = T.getD k 0 := by unfold nx; rw [if_neg (by omega), Nat.add_sub_cancel]
/-- What the k-th one says, among the old ones. -/
theorem links_at {I : Int} {n k : Nat} (b : Bool) (h : k < n - 1) (T : List Int) : lk (news (olds I n) n r5 b) 0 T k = ⟨nx 0 T k, I + ((n - 2 - k : Nat) : Int), I + ((n - 2 - k : Nat) : Int) + 1, 0, ((n - 2 - k : Nat) : Int), 0, 0, 0⟩ := by
  unfold lk
  rw [news_at (by rw [olds_len]; omega) h, olds_at I (by omega)]
theorem links_end {I : Int} {n : Nat} (T : List Int) : lk (news (olds I n) n r5 true) 0 T (n - 1) = ⟨nx 0 T (n - 1), 5000, 0, 0, 0, 0, 0, 0⟩ := by
  unfold lk
  rw [news_last (by rw [olds_len]; omega)]
  rfl
end Wq
