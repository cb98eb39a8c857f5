/-
  A tree laid beside another one, written: what Needs and Tree tell of it, in the words of their contracts.
-/
import Derived.Test.YtafpjnofccfmlaaCm
namespace Wb
open Wt Wn

theorem mapE_ok {m : List Int} {n : Int} (hl : m.length = 512) (h : ∀ i, m.getD i 0 = 0 ∨ 2 ≤ m.getD i 0 ∧ m.getD i 0 < n) : mapE m n = 0 := by
  unfold mapE
  rw [if_pos hl, if_pos]
  refine List.all_eq_true.2 fun x hx => ?_
  obtain ⟨i, hi, rfl⟩ := in_getD hx
  unfold plB
  rw [Bool.or_eq_true]
  rcases h i with h | h
  · left; simpa using h
  · right; exact bsB_iff.2 h
theorem begE_ok {xs : List Int} {r : Int} {t : St} {m : List Int} (hd : Wd.devB xs.length = true) (ht : tre xs r = some t) (hl : m.length = 512) (h : ∀ i, m.getD i 0 = 0 ∨ 2 ≤ m.getD i 0 ∧ m.getD i 0 < ((xs.length / 64 : Nat) : Int)) : begE xs r m = 0 := by
  unfold begE
  rw [if_pos (tre_some hd ht).1]
  exact mapE_ok hl h
theorem usB_ok {F l : List Int} {n : Nat} (hF : F.Pairwise (· < ·)) (h : ∀ f ∈ F, 2 ≤ f ∧ f < (n : Int) ∧ ¬ f ∈ l) : usB F l n = true := by
  refine usB_at.2 fun j hj => ?_
  have h1 := h _ (getD_in hj)
  refine ⟨?_, h1.2⟩
  unfold pre
  by_cases h0 : j = 0
  · rw [if_pos h0]; omega
  · rw [if_neg h0]
    have := List.pairwise_iff_getElem.1 hF (j - 1) j (by omega) hj (by omega)
    rwa [List.getD_eq_getElem?_getD, List.getD_eq_getElem?_getD, List.getElem?_eq_getElem hj, List.getElem?_eq_getElem (show j - 1 < F.length by omega)]

/-- What stands when a tree is laid and written. -/
structure Laid (xs : List Int) (r : Int) (m F : List Int) (t : St) : Prop where
  beg : begE xs r m = 0
  sec : treS xs r = t.sec
  nod : treN xs r = t.nodes
  err : treE' xs r m F = 0
  steps : Wd.stepsE xs.length (ios F (new xs r m (treS xs r) F) (needN xs r m)) = 0
  dev : Wd.devB (Wd.app xs (ios F (new xs r m (treS xs r) F) (needN xs r m))).length = true
  len : (Wd.app xs (ios F (new xs r m (treS xs r) F) (needN xs r m))).length = xs.length
  is : ∃ u, tre (Wd.app xs (ios F (new xs r m (treS xs r) F) (needN xs r m))) (root xs r m (treS xs r) F) = some u ∧ u.sec = m ∧ (∀ q ∈ u.nodes, q ∈ t.nodes ∨ ∃ j, j < needN xs r m ∧ F.getD j 2 = q) ∧ ∀ j, j < needN xs r m → F.getD j 2 ∈ u.nodes
  old : ∃ u, tre (Wd.app xs (ios F (new xs r m (treS xs r) F) (needN xs r m))) r = some u ∧ u.sec = t.sec ∧ u.nodes = t.nodes

theorem laid {xs m F : List Int} {r : Int} {t : St} (hd : Wd.devB xs.length = true) (ht : tre xs r = some t) (hl : m.length = 512)
   (hm : ∀ i, m.getD i 0 = 0 ∨ 2 ≤ m.getD i 0 ∧ m.getD i 0 < ((xs.length / 64 : Nat) : Int)) (hmo : ∀ i, ¬ m.getD i 0 ∈ t.nodes)
   (hF : F.Pairwise (· < ·)) (hFr : ∀ f ∈ F, 2 ≤ f ∧ f < ((xs.length / 64 : Nat) : Int) ∧ ¬ f ∈ t.nodes ∧ ¬ f ∈ t.sec ∧ ¬ f ∈ m) (hroom : needN xs r m ≤ F.length) : Laid xs r m F t := by
  obtain ⟨s1, s2, s3⟩ := tre_some hd ht
  have hb := begE_ok hd ht hl hm
  have h2 : ∀ f ∈ F, 2 ≤ f := fun f hf => (hFr f hf).1
  have hn : need xs r m t.sec F = needN xs r m := by rw [← s3]; exact need_two h2
  have out : ∀ {l : List Int} {f : Int} {i : Nat}, 2 ≤ f → ¬ f ∈ l → ¬ l.getD i 0 = f := fun {l f i} h2 hf e => by
    by_cases hi : i < l.length
    · exact hf (by rw [← e]; exact getD_in hi)
    · rw [getD_out hi] at e; omega
  obtain ⟨b1, ⟨u, u1, u2, u3, u4⟩, b3⟩ := built_app hd ht hl (fun i _ => hm i) (fun i _ => hmo i) (by rw [hn]; exact hroom) hF (fun f hf => by
    obtain ⟨c1, c2, c3, c4, c5⟩ := hFr f hf
    exact ⟨c1, c2, c3, fun i _ => out c1 c5, fun i _ => out c1 c4⟩)
  rw [hn] at b1 u1 u3 u4 b3
  have hlen : (Wd.app xs (ios F (new xs r m t.sec F) (needN xs r m))).length = xs.length := by
    rw [app_ios]
    refine wri_length (fun j hj => ?_) _ (by have : (new xs r m t.sec F).length = needN xs r m := hn; omega)
    have hj : j < needN xs r m := by have : (new xs r m t.sec F).length = needN xs r m := hn; omega
    have hj2 : j < F.length := by omega
    rw [List.getD_eq_getElem?_getD, List.getElem?_eq_getElem hj2]
    have := hFr _ (List.getElem_mem hj2)
    exact ⟨this.1, this.2.1⟩
  refine ⟨hb, s3, s2, ?_, by rw [s3]; exact b1, by rw [s3, hlen]; exact hd, by rw [s3]; exact hlen, by rw [s3]; exact ⟨u, u1, u2, u3, u4⟩, by rw [s3]; exact b3⟩
  unfold treE'
  rw [if_pos hb, if_pos, if_pos hroom]
  unfold treN'
  rw [s2, s3]
  refine usB_ok hF fun f hf => ?_
  obtain ⟨c1, c2, c3, c4, c5⟩ := hFr f hf
  refine ⟨c1, c2, fun h => ?_⟩
  rcases List.mem_append.1 h with h | h
  · rcases List.mem_append.1 h with h | h
    · exact c3 h
    · exact c4 h
  · exact c5 h

/-- The numbers from a on. -/
def rng (a n : Nat) : List Int := (List.range n).map fun i => ((a + i : Nat) : Int)
theorem rng_length (a n : Nat) : (rng a n).length = n := by simp [rng]
theorem rng_succ (a n : Nat) : rng a (n + 1) = rng a n ++ [((a + n : Nat) : Int)] := by
  unfold rng; rw [List.range_succ, List.map_append]; rfl
theorem rng_mem {a n : Nat} {f : Int} (h : f ∈ rng a n) : (a : Int) ≤ f ∧ f < ((a + n : Nat) : Int) := by
  obtain ⟨i, hi, rfl⟩ := List.mem_map.1 h
  have := List.mem_range.1 hi
  omega
theorem rng_rises (a n : Nat) : (rng a n).Pairwise (· < ·) := by
  unfold rng
  rw [List.pairwise_map]
  exact List.pairwise_lt_range.imp fun h => by omega
theorem rng_at {a n i : Nat} (h : i < n) (d : Int) : (rng a n).getD i d = ((a + i : Nat) : Int) := by
  unfold rng
  rw [List.getD_eq_getElem?_getD, List.getElem?_map, List.getElem?_range h]; rfl
theorem zeros_tre (n : Nat) : tre (List.replicate n 0) 0 = some s0 := by unfold tre; rw [if_pos rfl]
end Wb
