/-
  A device with a pending record among plain ones: whether it opens. It speaks of no program but for what Open tells.
-/
import Derived.Test.YtifoghbacifhnaaQx
namespace Wi
open Wr
/-- The pending record. -/
def pr (n a k : Nat) : Rec := ⟨if k + 1 < n then ((a + k + 1 : Nat) : Int) else 0, 50 + k, 0, 0, 0, 1, 3, 9⟩
theorem pr_ok {n a k : Nat} (ha : 2 ≤ a) (h : a + n ≤ 20) (hk : k < n) : recB (pr n a k) = true := by
  rw [recB_iff]
  refine ⟨?_, .inl rfl, ⟨?_, ?_⟩, .inl rfl, ⟨?_, ?_⟩, .inr ⟨rfl, ⟨?_, ?_⟩, ⟨?_, ?_⟩⟩⟩
  · show (if k + 1 < n then ((a + k + 1 : Nat) : Int) else 0) = 0 ∨ 2 ≤ (if k + 1 < n then ((a + k + 1 : Nat) : Int) else 0) ∧ (if k + 1 < n then ((a + k + 1 : Nat) : Int) else 0) < 4096
    by_cases e : k + 1 < n
    · rw [if_pos e]; right; omega
    · rw [if_neg e]; exact .inl rfl
  · show (1 : Int) ≤ 50 + (k : Int); omega
  · show (50 : Int) + (k : Int) ≤ 4611686018427387903; omega
  · show (0 : Int) ≤ 0; decide
  · show (0 : Int) ≤ 512; decide
  · show (1 : Int) ≤ 3; decide
  · show (3 : Int) ≤ 65535; decide
  · show (0 : Int) ≤ 9; decide
  · show (9 : Int) ≤ 4294967295; decide
def pf (n a k : Nat) : Nat → Rec := fun i => if i = k then pr n a k else fr n a 50 i
theorem pf_id {n a k i : Nat} : (pf n a k i).id = 50 + (i : Int) := by
  unfold pf
  by_cases e : i = k
  · rw [if_pos e, e]; rfl
  · rw [if_neg e]; rfl
theorem pf_next {n a k i : Nat} (h : i + 1 < n) : (pf n a k i).next = ((a + i + 1 : Nat) : Int) := by
  unfold pf
  by_cases e : i = k
  · rw [if_pos e, ← e]; exact if_pos h
  · rw [if_neg e]; exact if_pos h
theorem pf_last {n a k : Nat} (h : 0 < n) : (pf n a k (n - 1)).next = 0 := by
  unfold pf
  by_cases e : n - 1 = k
  · rw [if_pos e, ← e]; exact if_neg (by omega)
  · rw [if_neg e]; exact if_neg (by omega)
def pX (n a k : Nat) : List Int := Wd.lay (rcX 20 a n (fr n a 50)) ((a + k) * 64) (Wr.blk (pr n a k))
theorem pX_rdv {n a k : Nat} (ha : 2 ≤ a) (h : a + n ≤ 20) (hk : k < n) : Rdv (pX n a k) 20 a n (pf n a k) :=
  (rcX_rdv (by omega) (by omega) ha h (fun i hi => fr_ok ha (by omega) (by decide) (by decide) hi)).set hk (pr_ok ha h hk)
end Wi
namespace Go.Proofs.Ytifoghbacifhnaa
open Go.RowKit
theorem pend_no {n a k : Nat} (ha : 2 ≤ a) (h : a + n ≤ 20) (hk : k < n) (h0 : 0 < k) : opnE (Wi.pX n a k) = 7 := by
  have H := Wi.pX_rdv ha h hk
  refine (rdv_no H (by omega) (Wi.chn_stop (q := ((a + k : Nat) : Int)) (by omega) (Wi.sq a k) 62 _ [] (H.way k hk (fun i hi => Wi.pf_next (by omega))) (.inr ?_))).1
  rw [(H.at hk).2, List.nil_append, H.map (by omega)]
  refine Wi.fits_pend ?_ (by simpa using h0)
  unfold Wi.pf; rw [if_pos rfl]; rfl
theorem pend_yes {n a : Nat} (ha : 2 ≤ a) (h : a + n ≤ 20) (h0 : 0 < n) : opnE (Wi.pX n a 0) = 0 ∧ opnS (Wi.pX n a 0) = Wi.rcS 20 a n ∧ opnT (Wi.pX n a 0) = 0 ∧
    ∃ l, opnL (Wi.pX n a 0) = l ∧ l.length = n ∧ l.getD 0 Wr.r0 = Wi.pr n a 0 ∧ Wi.fnd l 50 = none := by
  have H := Wi.pX_rdv (k := 0) ha h h0
  obtain ⟨o1, o2, o3, -, o5, -⟩ := rdv_yes H h0 (by omega) (fun i hi => Wi.pf_next hi) (Wi.pf_last h0) (fun i j hj hi => by rw [Wi.pf_id, Wi.pf_id]; omega) (fun i h1 hi => by unfold Wi.pf; rw [if_neg (by omega)]; rfl) (fun i hi => by unfold Wi.pf; split <;> rfl)
  refine ⟨o1, o2, o3, _, o5, by simp, ?_, Wi.fnd_none (fun j hj => ?_)⟩
  · simp [List.getD_eq_getElem?_getD, List.getElem?_range h0]
    unfold Wi.pf; rw [if_pos rfl]
  · have hj' : j < n := by simpa using hj
    have e : ((List.range n).map (Wi.pf n a 0)).getD j Wr.r0 = Wi.pf n a 0 j := by simp [List.getD_eq_getElem?_getD, List.getElem?_range hj']
    rw [e, Wi.pf_id, Bool.and_eq_false_iff]
    by_cases e0 : j = 0
    · subst e0
      right
      unfold Wi.pf; rw [if_pos rfl]; rfl
    · left
      simp; omega
theorem lrecs_bs (b a n N : Nat) (B id : Int) (w : World) (hB : B = b) (h4 : 4 ≤ b) (hb : b ≤ 4096) (ha : 2 ≤ a) (h : a + n ≤ b) (hn : n ≤ 100) (h1 : 1 ≤ id) (h2 : id ≤ 1000000) (hN : b * 64 = N) :
    Calls Try.prog 24 #[.int .i64 B, .int .i64 (a : Int), .int .i64 (n : Int), .int .i64 id] w fun e w' => ∃ g, e = .returned (.slice (some ⟨g, 0, none⟩) N N) ∧ Wc.Ob 5 w.heap.size w' (.slice (some ⟨g, 0, none⟩) N N) (Wi.rcX b a n (Wi.fr n a id)) ∧ Below w.heap.size w w' := by
  subst hB
  exact lrecs_any b a n N id w h4 hb ha h hn h1 h2 hN
end Go.Proofs.Ytifoghbacifhnaa
