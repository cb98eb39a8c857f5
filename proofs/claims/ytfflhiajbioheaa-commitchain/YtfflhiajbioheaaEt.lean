/-
  CommitChain's device behind the commit: it opens, its records are those that are to be told. It speaks of no program but for what Open tells.
-/
import Derived.Test.YtfflhiajbioheaaEs
namespace Wq
open Wi Wr
theorem lk_ids (N : List Rec) (P : Int) (F : List Int) : (List.range N.length).map (fun i => (lk N P F i).id) = N.map Rec.id := by
  apply List.ext_getElem (by simp)
  intro i h1 h2
  have hi : i < N.length := by simpa using h2
  simp only [List.getElem_map, List.getElem_range, lk]
  rw [List.getD_eq_getElem?_getD, List.getElem?_eq_getElem hi]; rfl
theorem chain_news {n a k : Nat} {I : Int} {b : Bool} : ∀ r ∈ news (oldr n a I) k (r6 I) b, r.kind = 0 ∧ r.root = 0 := by
  intro r hr
  unfold news at hr
  rcases List.mem_append.1 hr with hr | hr
  · have := List.mem_of_mem_take (List.mem_reverse.1 hr)
    obtain ⟨i, -, rfl⟩ := List.mem_map.1 this
    exact ⟨rfl, rfl⟩
  · cases b
    · simp at hr
    · have : r = r6 I := by simpa using hr
      subst this
      exact ⟨rfl, rfl⟩
theorem oldr_ids {n a m : Nat} {I : Int} (h : m ≤ n) : ((oldr n a I).take m).map Rec.id = (List.range m).map fun (i : Nat) => I + (i : Int) := by
  unfold oldr
  rw [← List.map_take, List.take_range, Nat.min_eq_left h, List.map_map]
  rfl
theorem kk_le {lv : Bool} {o n : Nat} (ho : o < n) : kk lv o ≤ n := by unfold kk; split <;> omega
theorem chain_len {n a : Nat} {I : Int} {b lv : Bool} {o : Nat} (ho : o < n) : (news (oldr n a I) (kk lv o) (r6 I) b).length = (if lv then o else 0) + (if b then 1 else 0) := by
  rw [news_len (by rw [oldr_len]; exact kk_le ho)]
  unfold kk
  cases lv <;> simp
/-- The ids behind the commit. -/
theorem chain_wid {n a : Nat} {I : Int} {b lv : Bool} {o : Nat} (ho : o < n) (P : Int) (F : List Int) {R : List Rec}
    (hR : ((List.range (news (oldr n a I) (kk lv o) (r6 I) b).length).map (lk (news (oldr n a I) (kk lv o) (r6 I) b) P F)).reverse ++ (List.range (n - kk lv o)).map (fun i => fr n a I (kk lv o + i)) = R) :
    R.map Rec.id = wid I b lv o n := by
  rw [← hR, List.map_append, List.map_reverse, List.map_map, List.map_map]
  have e1 : (List.range (news (oldr n a I) (kk lv o) (r6 I) b).length).map (Rec.id ∘ lk (news (oldr n a I) (kk lv o) (r6 I) b) P F) = (news (oldr n a I) (kk lv o) (r6 I) b).map Rec.id := lk_ids _ P F
  rw [e1]
  have e2 : ((news (oldr n a I) (kk lv o) (r6 I) b).map Rec.id).reverse = (if b then [I + 500] else []) ++ ((oldr n a I).take (kk lv o - 1)).map Rec.id := by
    unfold news
    rw [List.map_append, List.reverse_append, List.map_reverse, List.reverse_reverse]
    congr 1
    cases b <;> rfl
  rw [e2, oldr_ids (by have := kk_le (lv := lv) ho; omega)]
  cases lv with
  | true =>
    have e3 := wid_high (I := I) (b := b) (lv := true) (o := o) rfl (n - (o + 1))
    rw [show o + 1 + (n - (o + 1)) = n by omega] at e3
    rw [e3, List.append_assoc]
    rfl
  | false =>
    rw [wid_all (I := I) (b := b) (lv := false) (o := o) rfl n]
    show _ ++ (List.range (0 - 1)).map _ ++ _ = _
    rw [List.range_zero, List.map_nil, List.append_nil]
    congr 1
    show (List.range n).map (Rec.id ∘ fun i => fr n a I (0 + i)) = _
    refine List.map_congr_left fun i _ => ?_
    show I + ((0 + i : Nat) : Int) = I + (i : Int)
    rw [Nat.zero_add]
theorem wid_length (I : Int) (b lv : Bool) (o n : Nat) : (wid I b lv o n).length ≤ n + 1 := by
  unfold wid
  rw [List.length_append, List.length_map]
  have := List.length_filter_le (fun (i : Nat) => !lv || !decide (i = o)) (List.range n)
  rw [List.length_range] at this
  cases b <;> simp <;> omega
theorem rcS_nxt {a n : Nat} {p : Int} (hp : p = 0 ∨ 2 ≤ p ∧ p < 30) : Ws.supB (nxt (rcS 30 a n) 0 0 p) = true := by
  rw [Ws.supB_iff]
  exact ⟨⟨by show (1 : Int) ≤ 1 + 1; decide, by show (1 : Int) + 1 ≤ 1099511627776; decide⟩, ⟨by show (4 : Int) ≤ ((30 : Nat) : Int); decide, by show ((30 : Nat) : Int) ≤ 4096; decide⟩, ⟨by show (0 : Int) ≤ 0; decide, by show (0 : Int) ≤ 512; decide⟩, .inl rfl, hp⟩
end Wq
namespace Go.Proofs.Ytfflhiajbioheaa
open Go.RowKit
/-- What CommitChain's steps are, and what stands behind them. -/
theorem chain_all {n a : Nat} {I : Int} {b lv : Bool} {o : Nat} (ha : 12 ≤ a) (han : a + n ≤ 30) (hn8 : n ≤ 8) (h1 : 1 ≤ I) (h2 : I ≤ 1000) (ho : o < n) {N : List Wr.Rec} (hN : Wq.news (Wq.oldr n a I) (Wq.kk lv o) (Wq.r6 I) b = N) {P : Int} (hP : Wq.stay (Wi.sq a n) (Wq.kk lv o) = P) {K : Nat} (hK : N.length = K) :
    K = (if lv then o else 0) + (if b then 1 else 0) ∧ (Wq.ws N P Wq.frs10 K).all (Wq.okW 30) = true ∧ Ws.supB (Wq.nxt (Wi.rcS 30 a n) 0 0 (Wq.nx P Wq.frs10 K)) = true ∧
    opnE (Wd.app (Wi.rcX 30 a n (Wi.fr n a I)) (Wq.sts (Wi.rcS 30 a n) 0 (Wq.ws N P Wq.frs10 K) 0 0 (Wq.nx P Wq.frs10 K))) = 0 ∧
    (opnL (Wd.app (Wi.rcX 30 a n (Wi.fr n a I)) (Wq.sts (Wi.rcS 30 a n) 0 (Wq.ws N P Wq.frs10 K) 0 0 (Wq.nx P Wq.frs10 K)))).map Wr.Rec.id = Wq.wid I b lv o n := by
  have hKl : K = (if lv then o else 0) + (if b then 1 else 0) := by rw [← hK, ← hN]; exact Wq.chain_len ho
  have hK8 : K ≤ 8 := by rw [hKl]; split <;> split <;> omega
  have hkn := Wq.kk_le (lv := lv) ho
  have hP' : P = if Wq.kk lv o < n then ((a + Wq.kk lv o : Nat) : Int) else 0 := by rw [← hP]; exact Wq.sq_stay
  have hPr : P = 0 ∨ 2 ≤ P ∧ P < 30 := by rw [hP']; split <;> omega
  have hnx : Wq.nx P Wq.frs10 K = 0 ∨ 2 ≤ Wq.nx P Wq.frs10 K ∧ Wq.nx P Wq.frs10 K < 30 := by
    unfold Wq.nx
    split
    · exact hPr
    · rw [Wq.frs10_at (by omega)]; omega
  have hs := Wq.rcS_nxt (a := a) (n := n) (p := Wq.nx P Wq.frs10 K) hnx
  have hmay := Wq.chain_may (n := n) (a := a) (I := I) (b := b) (lv := lv) (o := o) ha han h1 h2 ho
  have hok : ∀ i, i < K → Wr.recB (Wq.lk N P Wq.frs10 i) = true := by
    intro i hi
    have := Wq.lk_ok (k := i) hmay (by rw [hN, hK]; exact hi) (by rw [hN, hK]; show K ≤ 10; omega)
    rw [hN, hP] at this
    exact this
  have H := Wi.rcX_rdv (b := 30) (a := a) (n := n) (f := Wi.fr n a I) (by omega) (by omega) (by omega) han (fun i hi => Wi.fr_ok (by omega) (by omega) h1 (by omega) hi)
  obtain ⟨R, hR⟩ : ∃ R, ((List.range K).map (Wq.lk N P Wq.frs10)).reverse ++ (List.range (n - Wq.kk lv o)).map (fun i => Wi.fr n a I (Wq.kk lv o + i)) = R := ⟨_, rfl⟩
  have hwid : R.map Wr.Rec.id = Wq.wid I b lv o n := by
    refine Wq.chain_wid ho P Wq.frs10 (a := a) ?_
    rw [hN, hK]; exact hR
  have hall : ∀ r ∈ R, r.kind = 0 ∧ r.root = 0 := by
    intro r hr
    rw [← hR] at hr
    rcases List.mem_append.1 hr with hr | hr
    · obtain ⟨i, hi, rfl⟩ := List.mem_map.1 (List.mem_reverse.1 hr)
      have hi := List.mem_range.1 hi
      have hm : N.getD i Wr.r0 ∈ N := by
        rw [List.getD_eq_getElem?_getD, List.getElem?_eq_getElem (by omega)]; exact List.getElem_mem _
      have h := hm
      rw [← hN] at h
      have := Wq.chain_news _ h
      rw [hN] at this
      exact this
    · obtain ⟨i, -, rfl⟩ := List.mem_map.1 hr
      exact ⟨rfl, rfl⟩
  subst hP'
  have hop := chain_open H hkn ha (fun i hi => if_pos hi) (fun i hi => if_neg (by omega)) (fun i hi => by rw [Wq.frs10_at (by omega)]; omega) (fun i j hij hj => by rw [Wq.frs10_at (by omega), Wq.frs10_at (by omega)]; omega) hok hs (by omega) R hR (by rw [hwid]; exact (Wq.wid_nodup I b lv o n (by omega)).1) (fun r hr => (hall r hr).1) (fun r hr => (hall r hr).2)
  refine ⟨hKl, Wq.all_good fun i hi => ?_, hs, hop.1, by rw [hop.2]; exact hwid⟩
  rw [Wq.ws_length] at hi
  rw [Wq.ws_at hi, Wq.okW_iff, Wq.frs10_at (by omega)]
  exact ⟨rfl, by show (2 : Int) ≤ 2 + (i : Int); omega, by show 2 + (i : Int) ≤ 30 - 1; omega, Wr.blk_length _⟩
end Go.Proofs.Ytfflhiajbioheaa
