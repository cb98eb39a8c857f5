/-
  CommitChain's records: what stands behind the commit, by its ids. It speaks of no program but for what Open tells.
-/
import Derived.Test.YtfflhiajbioheaaEr
namespace Wq
open Wi Wr
/-- The ids that are to be told, up to the q-th record. -/
def wid (I : Int) (b lv : Bool) (o q : Nat) : List Int := (if b then [I + 500] else []) ++ ((List.range q).filter fun i => !lv || !decide (i = o)).map fun (i : Nat) => I + (i : Int)
theorem wid_zero (I : Int) (b lv : Bool) (o : Nat) : wid I b lv o 0 = if b then [I + 500] else [] := by unfold wid; simp
theorem wid_yes {I : Int} {b lv : Bool} {o q : Nat} (h : lv = false ∨ ¬ q = o) : wid I b lv o (q + 1) = wid I b lv o q ++ [I + (q : Int)] := by
  have hq : (!lv || !decide (q = o)) = true := by
    rcases h with h | h
    · rw [h]; rfl
    · simp [h]
  unfold wid
  rw [List.range_succ, List.filter_append, List.map_append, List.append_assoc]
  congr 2
  rw [List.filter_cons, if_pos hq]; rfl
theorem wid_no {I : Int} {b lv : Bool} {o q : Nat} (h : lv = true) (h2 : q = o) : wid I b lv o (q + 1) = wid I b lv o q := by
  have e : List.filter (fun i => !lv || !decide (i = o)) [q] = [] := by simp [h, h2]
  unfold wid
  rw [List.range_succ, List.filter_append, List.map_append, e]
  simp
theorem wid_low {I : Int} {b lv : Bool} {o : Nat} (h : lv = true) : ∀ q, q ≤ o → wid I b lv o q = (if b then [I + 500] else []) ++ (List.range q).map fun (i : Nat) => I + (i : Int)
  | 0, _ => by rw [wid_zero]; simp
  | q + 1, hq => by
    rw [wid_yes (.inr (by omega)), wid_low h q (by omega), List.range_succ, List.map_append, List.append_assoc]; rfl
theorem wid_high {I : Int} {b lv : Bool} {o : Nat} (h : lv = true) : ∀ d, wid I b lv o (o + 1 + d) = (if b then [I + 500] else []) ++ ((List.range o).map (fun (i : Nat) => I + (i : Int)) ++ (List.range d).map fun (i : Nat) => I + ((o + 1 + i : Nat) : Int))
  | 0 => by rw [Nat.add_zero, wid_no h rfl, wid_low h o (Nat.le_refl _)]; simp
  | d + 1 => by
    rw [show o + 1 + (d + 1) = o + 1 + d + 1 by omega, wid_yes (.inr (by omega)), wid_high h d, List.range_succ, List.map_append, List.append_assoc, List.append_assoc]; rfl
theorem wid_all {I : Int} {b lv : Bool} {o : Nat} (h : lv = false) : ∀ q, wid I b lv o q = (if b then [I + 500] else []) ++ (List.range q).map fun (i : Nat) => I + (i : Int)
  | 0 => by rw [wid_zero]; simp
  | q + 1 => by
    rw [wid_yes (.inl h), wid_all h q, List.range_succ, List.map_append, List.append_assoc]; rfl
/-- They are unlike. -/
theorem wid_nodup (I : Int) (b lv : Bool) (o : Nat) : ∀ q, q ≤ 100 → (wid I b lv o q).Nodup ∧ ∀ x ∈ wid I b lv o q, x = I + 500 ∨ I ≤ x ∧ x < I + q
  | 0, _ => by
    rw [wid_zero]
    cases b
    · exact ⟨List.nodup_nil, fun x hx => by simp at hx⟩
    · exact ⟨by simp, fun x hx => .inl (by simpa using hx)⟩
  | q + 1, hq => by
    obtain ⟨h1, h2⟩ := wid_nodup I b lv o q (by omega)
    by_cases c : lv = false ∨ ¬ q = o
    · rw [wid_yes c]
      refine ⟨?_, fun x hx => ?_⟩
      · rw [List.nodup_append]
        refine ⟨h1, by simp, fun x hx y hy => ?_⟩
        have hy : y = I + (q : Int) := by simpa using hy
        have := h2 x hx
        intro e
        omega
      · rcases List.mem_append.1 hx with hx | hx
        · have := h2 x hx; omega
        · have : x = I + (q : Int) := by simpa using hx
          omega
    · have hl : lv = true := by cases lv <;> simp_all
      have ho : q = o := by by_cases e : q = o; exact e; exact absurd (.inr e) c
      rw [wid_no hl ho]
      exact ⟨h1, fun x hx => by have := h2 x hx; omega⟩
/-- How many are left out. -/
def kk (lv : Bool) (o : Nat) : Nat := if lv then o + 1 else 0
def r6 (I : Int) : Rec := ⟨0, I + 500, 0, 0, 0, 0, 0, 0⟩
def frs10 : List Int := [2, 3, 4, 5, 6, 7, 8, 9, 10, 11]
theorem frs10_at {i : Nat} (h : i < 10) : frs10.getD i 0 = 2 + (i : Int) := by
  rcases i with _ | _ | _ | _ | _ | _ | _ | _ | _ | _ | i <;> first | rfl | omega
/-- The old records. -/
def oldr (n a : Nat) (I : Int) : List Rec := (List.range n).map (fr n a I)
theorem oldr_len (n a : Nat) (I : Int) : (oldr n a I).length = n := by simp [oldr]
theorem oldr_at {n a i : Nat} {I : Int} (h : i < n) : (oldr n a I).getD i r0 = fr n a I i := by
  unfold oldr; rw [List.getD_eq_getElem?_getD, List.getElem?_map, List.getElem?_range h]; rfl
theorem chain_may {n a : Nat} {I : Int} {b lv : Bool} {o : Nat} (ha : 12 ≤ a) (han : a + n ≤ 30) (h1 : 1 ≤ I) (h2 : I ≤ 1000) (ho : o < n) : mayB (oldr n a I) (sq a n) ((kk lv o : Nat) : Int) (r6 I) b frs10 = true := by
  have hk : kk lv o ≤ n := by unfold kk; split <;> omega
  refine mayB_iff.2 ⟨chB_iff.2 ⟨by rw [oldr_len, sq_length], fun j hj => ?_⟩, by omega, by rw [oldr_len]; omega, fun _ => ?_, frB_iff.2 fun j hj => ?_⟩
  · rw [oldr_len] at hj
    unfold okC
    rw [oldr_at hj, sq_getD hj, Bool.and_eq_true, bkB_iff]
    exact ⟨fr_ok (by omega) (by omega) h1 (by omega) hj, by omega, by omega⟩
  · rw [recB_iff]
    exact ⟨.inl rfl, .inl rfl, ⟨by show (1 : Int) ≤ I + 500; omega, by show I + 500 ≤ 4611686018427387903; omega⟩, .inl rfl, ⟨by show (0 : Int) ≤ 0; decide, by show (0 : Int) ≤ 512; decide⟩, .inl ⟨rfl, rfl, rfl⟩⟩
  · have hj : j < 10 := hj
    rw [okF_iff, frs10_at hj]
    refine ⟨?_, by omega, by omega⟩
    unfold prv
    by_cases e : j = 0
    · rw [if_pos e]; omega
    · rw [if_neg e, frs10_at (by omega)]; omega
theorem sq_stay {a n k : Nat} : stay (sq a n) k = if k < n then ((a + k : Nat) : Int) else 0 := by
  unfold stay
  by_cases h : k < n
  · rw [if_pos h, sq_getD h]
  · rw [if_neg h, List.getD_eq_getElem?_getD, List.getElem?_eq_none (by rw [sq_length]; omega)]; rfl
end Wq
