/-
  The plain mathematics of build's Tree: which blocks are taken, which nodes are right, that only the first free blocks count.
-/
import Derived.Test.YtafpjnofccfmlaaCh
namespace Wb
open Wt Wn

theorem getD_in {l : List Int} {i : Nat} (h : i < l.length) : l.getD i 0 ∈ l := by
  rw [List.getD_eq_getElem?_getD, List.getElem?_eq_getElem h]; exact List.getElem_mem h
theorem in_getD {l : List Int} {x : Int} (h : x ∈ l) : ∃ i, i < l.length ∧ l.getD i 0 = x := by
  obtain ⟨i, hi, rfl⟩ := List.mem_iff_getElem.1 h
  exact ⟨i, hi, by rw [List.getD_eq_getElem?_getD, List.getElem?_eq_getElem hi]; rfl⟩
theorem getD_out {l : List Int} {i : Nat} (h : ¬ i < l.length) : l.getD i 0 = 0 := by
  rw [List.getD_eq_getElem?_getD, List.getElem?_eq_none (by omega)]; rfl

section
variable {xs : List Int} {r : Int} {t : St}
theorem rw_in (ht : tre xs r = some t) : ∀ q, q ≤ 3 → ∀ i, (rw xs r q).getD i 0 = 0 ∨ 2 ≤ (rw xs r q).getD i 0 ∧ (rw xs r q).getD i 0 < ((xs.length / 64 : Nat) : Int)
  | 0, _, i => by
    obtain ⟨-, -, -, o4, -⟩ := Ld_of_tre ht
    by_cases hi : i = 0
    · subst hi; exact o4
    · left
      rw [getD_out (by rw [rw_length]; simpa using hi)]
  | q + 1, hq, i => by
    obtain ⟨o1, -, -, -, o5, o6⟩ := Ld_of_tre ht
    by_cases hi : i < 8 ^ (q + 1)
    · have hi8 : i / 8 < 8 ^ q := by rw [Nat.pow_succ] at hi; omega
      have h := rw_Ld o1 q (by omega) (i / 8) hi8
      rw [show 3 - q = 3 - (q + 1) + 1 by omega] at h
      have e : (rw xs r (q + 1)).getD i 0 = (kids xs ((rw xs r q).getD (i / 8) 0)).getD (i % 8) 0 := by
        show ((rw xs r q).flatMap (kids xs)).getD i 0 = _
        have := flat8 (kids_length xs) (rw xs r q) (i / 8) (i % 8) (by omega)
        rw [if_pos (by rw [rw_length]; exact hi8), show 8 * (i / 8) + i % 8 = i by omega] at this
        exact this
      have h1 := kids_rng h (i % 8)
      rw [← e] at h1
      rcases h1 with h1 | h1
      · exact .inl h1
      · refine .inr ⟨h1.1, ?_⟩
        by_cases hq3 : q + 1 = 3
        · obtain rfl : q = 2 := by omega
          have hs := rw_map o1 (i := i) (by simpa using hi)
          rcases o6 i (by simpa using hi) with h0 | h0
          · rw [hs, h0] at h1; exact absurd h1.1 (by decide)
          · rw [hs]; exact h0.1
        · have h2 := rw_Ld o1 (q + 1) hq i hi
          obtain ⟨d, hd⟩ : ∃ d, 3 - (q + 1) = d + 1 := ⟨3 - (q + 1) - 1, by omega⟩
          rw [hd] at h2
          rcases h2 with ⟨h0, -⟩ | ⟨-, h0, -⟩
          · rw [h0] at h1; omega
          · exact (okN_nod h0).2.1.2
    · left
      exact getD_out (by rw [rw_length]; exact hi)
theorem rw_sec (ht : tre xs r = some t) : rw xs r 3 = t.sec := by
  obtain ⟨o1, -, -, -, o5, -⟩ := Ld_of_tre ht
  refine list_ext0 (by rw [rw_length, o5]) fun i hi => ?_
  rw [rw_length] at hi
  exact rw_map o1 (by simpa using hi)
theorem rw_nodes (ht : tre xs r = some t) {x : Int} (hx : ¬ x = 0) : (∃ j, j < 3 ∧ x ∈ rw xs r j) ↔ x ∈ t.nodes := by
  obtain ⟨-, o2, -⟩ := Ld_of_tre ht
  rw [← o2, ← List.count_pos_iff, nds3_count hx]
  have e2 : (kids xs r).flatMap (kids xs) = rw xs r 2 := by rw [rw_two]; rfl
  have e1 : kids xs r = rw xs r 1 := by rw [rw_one]; rfl
  rw [e2, e1]
  constructor
  · rintro ⟨j, hj, h⟩
    have h := List.count_pos_iff.2 h
    rcases (by omega : j = 0 ∨ j = 1 ∨ j = 2) with rfl | rfl | rfl
    · have h : 0 < [r].count x := h
      omega
    · omega
    · omega
  · intro h
    by_cases h0 : 0 < [r].count x
    · exact ⟨0, by omega, List.count_pos_iff.1 h0⟩
    · by_cases h1 : 0 < (rw xs r 1).count x
      · exact ⟨1, by omega, List.count_pos_iff.1 h1⟩
      · exact ⟨2, by omega, List.count_pos_iff.1 (by omega)⟩
theorem hall_in (ht : tre xs r = some t) {m : List Int} {x : Int} (hx : ¬ x = 0) : x ∈ hall xs r m 5 ↔ x ∈ t.nodes ++ t.sec ++ m := by
  rw [hall_mem, List.mem_append, List.mem_append, ← rw_nodes ht hx, ← rw_sec ht]
  constructor
  · rintro (⟨j, hj, h⟩ | h)
    · by_cases h3 : j = 3
      · subst h3; exact .inl (.inr h)
      · exact .inl (.inl ⟨j, by omega, h⟩)
    · exact .inr h
  · rintro ((⟨j, hj, h⟩ | h) | h)
    · exact .inl ⟨j, by omega, h⟩
    · exact .inl ⟨3, by omega, h⟩
    · exact .inr h
/-- What may not be used are the old tree's nodes and sectors' blocks, and the map's. -/
theorem usB_tre (ht : tre xs r = some t) (F m : List Int) (n : Nat) : usB F (hall xs r m 5) n = usB F (t.nodes ++ t.sec ++ m) n := by
  rw [Bool.eq_iff_iff]
  constructor
  · intro h
    have h2 := (usB_rises h).2
    refine usB_at.2 fun j hj => ?_
    obtain ⟨a, b, c⟩ := usB_at.1 h j hj
    exact ⟨a, b, fun e => c ((hall_in ht (by have := (h2 _ (getD_in hj)).1; omega)).2 e)⟩
  · intro h
    have h2 := (usB_rises h).2
    refine usB_at.2 fun j hj => ?_
    obtain ⟨a, b, c⟩ := usB_at.1 h j hj
    exact ⟨a, b, fun e => c ((hall_in ht (by have := (h2 _ (getD_in hj)).1; omega)).1 e)⟩
end

section
variable {F G : List Int} {lv' : Nat} {a : List Int} {kpf : Nat → Bool} {od : List Int}
theorem lvl_congr {K : Nat} (hFG : ∀ j, j < K → F.getD j 2 = G.getD j 2) (N : List Nod) : ∀ c, (lvl F lv' a kpf od c N).new.length ≤ K → lvl F lv' a kpf od c N = lvl G lv' a kpf od c N
  | 0, _ => rfl
  | c + 1, h => by
    have hle := lvl_le (F := F) (lv := lv') (a := a) (kp := kpf) (od := od) N c 1
    have ih := lvl_congr hFG N c (by omega)
    show stp F lv' a kpf od c (lvl F lv' a kpf od c N) = stp G lv' a kpf od c (lvl G lv' a kpf od c N)
    rw [← ih]
    unfold stp
    by_cases hn : nul a c = true
    · rw [if_pos hn, if_pos hn]
    · rw [if_neg hn, if_neg hn]
      by_cases hk : kpf c = true
      · rw [if_pos hk, if_pos hk]
      · rw [if_neg hk, if_neg hk]
        have := (lvl_new (F := F) (lv := lv') (a := a) (kp := kpf) (od := od) N (show c < c + 1 by omega) hn hk).2.1
        have e := hFG _ (Nat.lt_of_lt_of_le this h)
        unfold ord at e
        rw [e]
end
section
variable {xs : List Int} {r : Int} {m was F G : List Int}
/-- Only the free blocks that are needed count. -/
theorem lv_congr (hFG : ∀ j, j < need xs r m was F → F.getD j 2 = G.getD j 2) : ∀ L, L ≤ 3 → lv xs r m was F L = lv xs r m was G L
  | 0, _ => rfl
  | L + 1, h => by
    have ih := lv_congr hFG L (by omega)
    have hn := lv_new (xs := xs) (r := r) (m := m) (was := was) (F := F) (L + 1) h
    show lvl F L (lv xs r m was F L).up _ _ _ (lv xs r m was F L).new = lvl G L (lv xs r m was G L).up _ _ _ (lv xs r m was G L).new
    rw [← ih]
    exact lvl_congr hFG _ _ hn
theorem new_congr (hFG : ∀ j, j < need xs r m was F → F.getD j 2 = G.getD j 2) : new xs r m was F = new xs r m was G ∧ root xs r m was F = root xs r m was G := by
  have h := lv_congr hFG 3 (Nat.le_refl _)
  rw [lv_three, lv_three] at h
  exact ⟨congrArg B.new h, congrArg (fun b => b.up.getD 0 0) h⟩

theorem lv_rng (hF : ∀ j, j < need xs r m was F → 2 ≤ F.getD j 2 ∧ F.getD j 2 < 4096) (hm : ∀ i, m.getD i 0 = 0 ∨ 2 ≤ m.getD i 0 ∧ m.getD i 0 < 4096) (hr : ∀ q, q ≤ 2 → ∀ i, (rw xs r q).getD i 0 = 0 ∨ 2 ≤ (rw xs r q).getD i 0 ∧ (rw xs r q).getD i 0 < 4096) :
    ∀ L, L ≤ 3 → ∀ i, (lv xs r m was F L).up.getD i 0 = 0 ∨ 2 ≤ (lv xs r m was F L).up.getD i 0 ∧ (lv xs r m was F L).up.getD i 0 < 4096
  | 0, _, i => hm i
  | L + 1, h, i => lvl_rng (fun j hj => hF j (Nat.lt_of_lt_of_le hj (lv_new (L + 1) h))) (hr (2 - L) (by omega)) i
/-- All new nodes are right. -/
theorem new_right (hF : ∀ j, j < need xs r m was F → 2 ≤ F.getD j 2 ∧ F.getD j 2 < 4096) (hm : ∀ i, m.getD i 0 = 0 ∨ 2 ≤ m.getD i 0 ∧ m.getD i 0 < 4096) (hr : ∀ q, q ≤ 2 → ∀ i, (rw xs r q).getD i 0 = 0 ∨ 2 ≤ (rw xs r q).getD i 0 ∧ (rw xs r q).getD i 0 < 4096) :
    ∀ L, L ≤ 3 → ∀ n ∈ (lv xs r m was F L).new, nodB n = true
  | 0, _, n, h => by cases h
  | L + 1, hL, n, h => by
    have ih := new_right hF hm hr L (by omega)
    obtain ⟨j, hj, hjn⟩ := List.mem_iff_getElem.1 h
    by_cases hlo : j < (lv xs r m was F L).new.length
    · obtain ⟨E, hE⟩ := lvl_pre (F := F) (lv := L) (a := (lv xs r m was F L).up) (kp := kp m was L) (od := rw xs r (2 - L)) (lv xs r m was F L).new 0 (8 ^ (2 - L))
      rw [Nat.zero_add] at hE
      have hE : (lv xs r m was F (L + 1)).new = (lv xs r m was F L).new ++ E := hE
      refine ih n ?_
      have h1 : (lv xs r m was F (L + 1)).new[j]? = some n := by rw [List.getElem?_eq_getElem hj, hjn]
      rw [hE, List.getElem?_append_left hlo] at h1
      exact List.mem_of_getElem? h1
    · obtain ⟨i, hi, h0, hk, ho⟩ := new_of (F := F) (lv := L) (a := (lv xs r m was F L).up) (kp := kp m was L) (od := rw xs r (2 - L)) (lv xs r m was F L).new (8 ^ (2 - L)) j (by omega) hj
      have h3 := (lvl_new (F := F) (lv := L) (a := (lv xs r m was F L).up) (kp := kp m was L) (od := rw xs r (2 - L)) (lv xs r m was F L).new hi h0 hk).2.2
      rw [ho] at h3
      have h4 : (lv xs r m was F (L + 1)).new[j]? = some (mk L (lv xs r m was F L).up i) := h3
      rw [List.getElem?_eq_getElem hj, hjn] at h4
      cases h4
      have hrg := lv_rng hF hm hr L (by omega)
      refine nodB_iff.2 ⟨?_, fun x hx => ?_, ?_⟩
      · show (0 : Int) ≤ (L : Int) ∧ (L : Int) ≤ 2
        omega
      · obtain ⟨k, hk8, rfl⟩ := mem_pat hx
        rw [pat_mk _ _ _ hk8]
        exact hrg _
      · obtain ⟨k, hk8, hne⟩ := nul_no h0
        refine ⟨pat (mk L (lv xs r m was F L).up i) k, pat_mem _ hk8, ?_⟩
        rw [pat_mk _ _ _ hk8]
        exact hne
end
end Wb
