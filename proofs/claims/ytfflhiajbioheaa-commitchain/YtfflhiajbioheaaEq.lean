/-
  The chain of records behind a commit: told one by one. It speaks of no program but for what Open tells.
-/
import Derived.Test.YtfflhiajbioheaaEo
import Derived.Test.YtfflhiajbioheaaJP
namespace Wq
open Wi Wr
theorem way_app {xs : List Int} : ∀ (c d : List Int) {p m q : Int}, Way xs p c m → Way xs m d q → Way xs p (c ++ d) q
  | [], _, _, _, _, h, k => by obtain rfl := h; exact k
  | _ :: c, d, _, _, _, h, k => ⟨h.1, h.2.1, h.2.2.1, way_app c d h.2.2.2 k⟩
/-- Blocks in the order in which they lead to one another: the last written first. -/
def back (F : List Int) (K : Nat) : List Int := ((List.range K).map fun i => F.getD i 0).reverse
theorem back_succ (F : List Int) (K : Nat) : back F (K + 1) = F.getD K 0 :: back F K := by
  unfold back; rw [List.range_succ, List.map_append, List.reverse_append]; rfl
theorem back_way {xs : List Int} {N : List Rec} {P : Int} {F : List Int} : ∀ K, (∀ i, i < K → recOk xs (F.getD i 0) = true ∧ recAt xs (F.getD i 0) = lk N P F i) → Way xs (nx P F K) (back F K) P
  | 0, _ => rfl
  | K + 1, h => by
    have hK := h K (by omega)
    rw [back_succ, nx_succ]
    refine ⟨rfl, ?_, hK.1, ?_⟩
    · have := (recOk_in hK.1).1; omega
    · rw [hK.2]
      exact back_way K (fun i hi => h i (by omega))
theorem tail_way {xs : List Int} {a n : Nat} {f : Nat → Rec} (h : ∀ i, i < n → recOk xs ((a + i : Nat) : Int) = true ∧ recAt xs ((a + i : Nat) : Int) = f i) (hn : ∀ i, i + 1 < n → (f i).next = ((a + i + 1 : Nat) : Int)) (hz : ∀ i, i + 1 = n → (f i).next = 0) :
    ∀ d k, n = k + d → Way xs (if k < n then ((a + k : Nat) : Int) else 0) (sq (a + k) d) 0
  | 0, k, e => by rw [if_neg (by omega)]; rfl
  | d + 1, k, e => by
    rw [if_pos (by omega)]
    have hk := h k (by omega)
    refine ⟨rfl, ?_, hk.1, ?_⟩
    · have := (recOk_in hk.1).1; omega
    · rw [hk.2]
      have := tail_way h hn hz d (k + 1) (by omega)
      by_cases c : k + 1 < n
      · rw [if_pos c] at this
        rw [hn k c]
        exact this
      · rw [if_neg c] at this
        rw [hz k (by omega)]
        exact this
/-- Records told one by one, if their ids are unlike and each is a whole one. -/
theorem recs_way {xs : List Int} {p : Int} {c : List Int} (hw : Way xs p c 0) (hl : c.length ≤ 60) (hid : ((c.map (recAt xs)).map Rec.id).Nodup) (hk : ∀ r ∈ c.map (recAt xs), r.kind = 0) : recs xs p = some c := by
  have := chn_all c 62 p [] (by omega) hw (fun i hi => ?_)
  · rw [List.nil_append] at this; exact this
  · rw [List.nil_append]
    obtain ⟨R, hR⟩ : ∃ R, c.map (recAt xs) = R := ⟨_, rfl⟩
    have hRl : R.length = c.length := by rw [← hR, List.length_map]
    have e1 : recAt xs (c.getD i 0) = R.getD i r0 := by
      rw [← hR, List.getD_eq_getElem?_getD, List.getD_eq_getElem?_getD, List.getElem?_map, List.getElem?_eq_getElem hi]; rfl
    have e2 : (c.take i).map (recAt xs) = R.take i := by rw [← hR, List.map_take]
    rw [e1, e2]
    rw [hR] at hid hk
    have hiR : i < R.length := by omega
    have eg : R.getD i r0 = R[i] := by simp [hiR]
    unfold fitsB
    rw [Bool.and_eq_true]
    constructor
    · unfold hasB
      rw [Bool.not_eq_true', List.any_eq_false]
      intro x hx
      obtain ⟨j, hj, rfl⟩ := List.getElem_of_mem hx
      have hj' : j < i := by rw [List.length_take] at hj; omega
      rw [List.getElem_take, eg]
      have := List.pairwise_iff_getElem.1 hid j i (by rw [List.length_map]; omega) (by rw [List.length_map]; exact hiR) hj'
      rw [List.getElem_map, List.getElem_map] at this
      simpa using this
    · have h0 := hk _ (List.getElem_mem hiR)
      rw [eg, if_neg (by rw [h0]; decide)]
      have hle := whN_le (R.take i)
      rw [List.length_take] at hle
      exact decide_eq_true (by omega)
end Wq
