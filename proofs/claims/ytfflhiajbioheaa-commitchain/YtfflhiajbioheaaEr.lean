/-
  A device with records, behind a commit of a new chain: which records it tells. It speaks of no program but for what Open tells.
-/
import Derived.Test.YtfflhiajbioheaaEq
namespace Wq
open Wi Wr
theorem rdv_cdv {X : List Int} {b a n : Nat} {f : Nat → Rec} (H : Rdv X b a n f) : Cdv X b (rcS b a n) 0 (rcB b a n f) := by
  have h1 := H.ha
  refine ⟨H.bdv, H.h4, H.hb, by omega, rcS_ok H.h4 H.hb h1 H.h, rfl, ?_, .inl ?_⟩
  · unfold rcB; rw [if_neg (by omega), if_pos rfl]
  · unfold rcB; rw [if_neg (by omega), if_neg (by omega)]
/-- The blocks behind the writes of a new chain. -/
theorem ws_cdv {X : List Int} {B : Nat} {s : Ws.Sup} {bl0 : Nat → List Int} (H : Cdv X B s 0 bl0) {N : List Rec} {P : Int} {F : List Int} : ∀ K, (∀ i, i < K → 2 ≤ F.getD i 0 ∧ F.getD i 0 < (B : Int)) → (∀ i j, i < j → j < K → ¬ F.getD i 0 = F.getD j 0) →
    ∃ bl, Cdv (Wd.app X (ws N P F K)) B s 0 bl ∧ (∀ i, i < K → bl (F.getD i 0).toNat = Wr.blk (lk N P F i)) ∧ ∀ q, (∀ i, i < K → ¬ (F.getD i 0).toNat = q) → bl q = bl0 q
  | 0, _, _ => ⟨bl0, H, fun i hi => by omega, fun q _ => rfl⟩
  | K + 1, h, hd => by
    obtain ⟨bl, h1, h2, h3⟩ := ws_cdv H K (fun i hi => h i (by omega)) (fun i j hij hj => hd i j hij (by omega)) (N := N) (P := P)
    have hK := h K (by omega)
    obtain ⟨p, hp⟩ : ∃ p : Nat, F.getD K 0 = p := ⟨(F.getD K 0).toNat, by omega⟩
    have e : Wd.app X (ws N P F (K + 1)) = Wd.lay (Wd.app X (ws N P F K)) (p * 64) (Wr.blk (lk N P F K)) := by
      rw [ws_succ, Wd.app_snoc, Wd.one_pos (p := p) hp]
    rw [e]
    refine ⟨_, h1.lay (p := p) (by omega) (by omega) (Wr.blk_length _), fun i hi => ?_, fun q hq => ?_⟩
    · by_cases c : i = K
      · subst c
        rw [hp]
        exact if_pos (by simp)
      · have hne := hd i K (by omega) (by omega)
        have hi2 := h i (by omega)
        rw [if_neg (by omega)]
        exact h2 i (by omega)
    · have := hq K (by omega)
      rw [if_neg (by rw [hp] at this; simpa using this)]
      exact h3 q (fun i hi => hq i (by omega))
theorem back_map {xs : List Int} {N : List Rec} {P : Int} {F : List Int} : ∀ K, (∀ i, i < K → recAt xs (F.getD i 0) = lk N P F i) → (back F K).map (recAt xs) = ((List.range K).map (lk N P F)).reverse
  | 0, _ => rfl
  | K + 1, h => by
    rw [back_succ, List.map_cons, h K (by omega), back_map K (fun i hi => h i (by omega)), List.range_succ, List.map_append, List.reverse_append]; rfl
theorem back_length (F : List Int) (K : Nat) : (back F K).length = K := by simp [back]
theorem sq_map {xs : List Int} {a : Nat} {f : Nat → Rec} : ∀ d k, (∀ i, i < d → recAt xs ((a + (k + i) : Nat) : Int) = f (k + i)) → (sq (a + k) d).map (recAt xs) = (List.range d).map fun i => f (k + i)
  | 0, _, _ => rfl
  | d + 1, k, h => by
    have h0 := h 0 (by omega)
    rw [Nat.add_zero] at h0
    have ih := sq_map (xs := xs) (a := a) (f := f) d (k + 1) (fun i hi => by
      have := h (i + 1) (by omega)
      rw [show k + 1 + i = k + (i + 1) by omega]; exact this)
    rw [sq, List.map_cons, h0, show a + k + 1 = a + (k + 1) by omega, ih, List.range_succ_eq_map, List.map_cons, List.map_map]
    congr 1
    refine List.map_congr_left fun i _ => ?_
    show f (k + 1 + i) = f (k + (i + 1))
    rw [show k + 1 + i = k + (i + 1) by omega]
end Wq
namespace Go.Proofs.Ytfflhiajbioheaa
open Go.RowKit
/-- The new chain is told. -/
theorem chain_open {X : List Int} {b a n : Nat} {f : Nat → Wr.Rec} (H : Wi.Rdv X b a n f) {N : List Wr.Rec} {F : List Int} {K k : Nat} (hkn : k ≤ n) (ha : 12 ≤ a)
    (hn : ∀ i, i + 1 < n → (f i).next = ((a + i + 1 : Nat) : Int)) (hz : ∀ i, i + 1 = n → (f i).next = 0)
    (hF : ∀ i, i < K → 2 ≤ F.getD i 0 ∧ F.getD i 0 < 12) (hd : ∀ i j, i < j → j < K → ¬ F.getD i 0 = F.getD j 0)
    (hok : ∀ i, i < K → Wr.recB (Wq.lk N (if k < n then ((a + k : Nat) : Int) else 0) F i) = true)
    (hs : Ws.supB (Wq.nxt (Wi.rcS b a n) 0 0 (Wq.nx (if k < n then ((a + k : Nat) : Int) else 0) F K)) = true)
    (hl : K + (n - k) ≤ 60) (R : List Wr.Rec) (hR : ((List.range K).map (Wq.lk N (if k < n then ((a + k : Nat) : Int) else 0) F)).reverse ++ (List.range (n - k)).map (fun i => f (k + i)) = R)
    (hid : (R.map Wr.Rec.id).Nodup) (hk : ∀ r ∈ R, r.kind = 0) (hrt : ∀ r ∈ R, r.root = 0) :
    opnE (Wd.app X (Wq.sts (Wi.rcS b a n) 0 (Wq.ws N (if k < n then ((a + k : Nat) : Int) else 0) F K) 0 0 (Wq.nx (if k < n then ((a + k : Nat) : Int) else 0) F K))) = 0 ∧
      opnL (Wd.app X (Wq.sts (Wi.rcS b a n) 0 (Wq.ws N (if k < n then ((a + k : Nat) : Int) else 0) F K) 0 0 (Wq.nx (if k < n then ((a + k : Nat) : Int) else 0) F K))) = R := by
  obtain ⟨P, hP⟩ : ∃ P, (if k < n then ((a + k : Nat) : Int) else 0) = P := ⟨_, rfl⟩
  rw [hP] at hok hs hR ⊢
  obtain ⟨bl, c1, c2, c3⟩ := Wq.ws_cdv (Wq.rdv_cdv H) (N := N) (P := P) (F := F) K (fun i hi => by have := hF i hi; have := H.ha; have := H.h; have := H.h4; by_cases h0 : n = 0 <;> first | exact ⟨by omega, by omega⟩ | skip) hd
  have c4 := c1.next hs
  have e : Wd.app X (Wq.sts (Wi.rcS b a n) 0 (Wq.ws N P F K) 0 0 (Wq.nx P F K)) = Wd.lay (Wd.app X (Wq.ws N P F K)) ((1 - 0) * 64) (Ws.blk (Wq.nxt (Wi.rcS b a n) 0 0 (Wq.nx P F K))) := Wq.app_sts X _ 0 (by omega) _ 0 0 _
  rw [e]
  obtain ⟨Y, hY⟩ : ∃ Y, Wd.lay (Wd.app X (Wq.ws N P F K)) ((1 - 0) * 64) (Ws.blk (Wq.nxt (Wi.rcS b a n) 0 0 (Wq.nx P F K))) = Y := ⟨_, rfl⟩
  rw [hY] at c4 ⊢
  have hAt : ∀ i, i < K → Wi.recOk Y (F.getD i 0) = true ∧ Wi.recAt Y (F.getD i 0) = Wq.lk N P F i := by
    intro i hi
    obtain ⟨p, hp⟩ : ∃ p : Nat, F.getD i 0 = p := ⟨(F.getD i 0).toNat, by have := hF i hi; omega⟩
    have h2 := c2 i hi
    have h3 := hF i hi
    rw [hp] at h2 h3 ⊢
    have hB := H.h
    exact c4.bdv.recOk c4.h4 c4.hB (by omega) (by have := H.ha; have := H.h4; omega) (hok i hi) (by rw [if_neg (by omega)]; simpa using h2)
  have hTl : ∀ i, i < n → Wi.recOk Y ((a + i : Nat) : Int) = true ∧ Wi.recAt Y ((a + i : Nat) : Int) = f i := by
    intro i hi
    have hB := H.h
    refine c4.bdv.recOk c4.h4 c4.hB (by omega) (by omega) (H.ok i hi) ?_
    rw [if_neg (by omega), c3 (a + i) (fun j hj => by have := hF j hj; omega)]
    unfold Wi.rcB
    rw [if_pos ⟨by omega, by omega⟩]
    congr 2; omega
  have hw1 := Wq.back_way (N := N) (P := P) K hAt
  have hw2 := Wq.tail_way hTl hn hz (n - k) k (by omega)
  rw [hP] at hw2
  have hw := Wq.way_app _ _ hw1 hw2
  have hmap : (Wq.back F K ++ Wi.sq (a + k) (n - k)).map (Wi.recAt Y) = R := by
    rw [List.map_append, Wq.back_map K (fun i hi => (hAt i hi).2), Wq.sq_map (n - k) k (fun i hi => (hTl (k + i) (by omega)).2), hR]
  have hrec := Wq.recs_way hw (by rw [List.length_append, Wq.back_length, Wi.sq_length]; omega) (by rw [hmap]; exact hid) (by rw [hmap]; exact hk)
  have ho := opn_recs (cdv_pick c4) (b := Wq.back F K ++ Wi.sq (a + k) (n - k)) hrec (by
    unfold Wi.sndB
    refine snd_zeros c4.dev.1 _ _ (fun t ht => ?_)
    unfold Wi.trees at ht
    rw [hmap] at ht
    rcases List.mem_cons.1 ht with rfl | ht
    · rfl
    · obtain ⟨r, hr2, rfl⟩ := List.mem_map.1 ht
      exact hrt r hr2)
  exact ⟨ho.1, by unfold opnL; rw [ho.2.2.2, hmap]⟩
end Go.Proofs.Ytfflhiajbioheaa
