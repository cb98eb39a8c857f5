/-
  FrameBack, for every right command.
-/
import Derived.Test.YtfejabeifabdlaaFbk
namespace Go.Proofs.Ytfejabeifabdlaa
open Go.RowKit

/-- The bytes behind k rounds. -/
def chl (C zs : List Int) (p : Nat) : Nat → List Int
  | 0 => C
  | k + 1 => (chl C zs p k).set (p + k) ((((C.getD (p + k) 0).toNat ^^^ (zs.getD k 0).toNat : Nat) : Int))

theorem chl_length (C zs : List Int) (p k : Nat) : (chl C zs p k).length = C.length := by
  induction k with
  | zero => rfl
  | succ k ih => simp [chl, ih]

theorem chl_get (C zs : List Int) (p k j : Nat) (hj : j < C.length) : (chl C zs p k).getD j 0 = chg C zs p k j := by
  induction k with
  | zero => rw [chg_zero]; rfl
  | succ k ih =>
    have hl := chl_length C zs p k
    unfold chl
    rw [List.getD_eq_getElem?_getD, List.getElem?_set]
    by_cases h : p + k = j
    · subst h
      rw [if_pos rfl, if_pos (by omega)]
      unfold chg
      rw [if_pos (by omega), show p + k - p = k by omega]; rfl
    · rw [if_neg h, ← List.getD_eq_getElem?_getD, ih]
      unfold chg
      by_cases h2 : p ≤ j ∧ j < p + k
      · rw [if_pos h2, if_pos (by omega)]
      · rw [if_neg h2, if_neg (by omega)]

theorem chl_end (C zs : List Int) (p m : Nat) (hC : C.length = p + 4 + m) (hz : zs.length = 4) (hb : ∀ y ∈ C, 0 ≤ y ∧ y < 256) : chl C zs p 4 = Wc.zipx C (Wc.runAt p m zs) := by
  have hl := chl_length C zs p 4
  have hZ : (Wc.zipx C (Wc.runAt p m zs)).length = C.length := Wk.zipx_length _ _ (by rw [Wk.runAt_length, hz]; omega)
  have := Wc.list_eq (xs := chl C zs p 4) (ys := Wc.zipx C (Wc.runAt p m zs)) (by omega) (fun j hj => by
    rw [chl_get _ _ _ _ _ (by omega)]
    have h := chg_end C zs p (p + m) (by omega) hz (by omega) hb j (by omega)
    rw [show p + m - p = m by omega] at h
    exact h)
  exact beq_iff_eq.1 this

theorem ob_set {base g n k i : Nat} {w : World} {xs : List Int} (h : Wc.Ob 5 base w (.slice (some ⟨g, 0, none⟩) n k) xs) {z : Int} (hz : 0 ≤ z ∧ z < 256) : Wc.Ob 5 base (w.setCell ⟨g, i, none⟩ (.int .u8 z)) (.slice (some ⟨g, 0, none⟩) n k) (xs.set i z) := by
  obtain ⟨⟨h1, h2⟩, h3, h4⟩ := h
  rcases h2 with ⟨hn, _⟩ | ⟨g', cap, cur, hv, hbg, hg, c1, c2, c3, c4⟩
  · cases hn
  · injection hv with e1 e2 e3
    injection e1 with e1
    injection e1 with e1
    subst e1 e2 e3
    refine ⟨⟨by simp, .inr ⟨g, k, cur.setIfInBounds i (.int .u8 z), by simp, hbg, heap_setCell_same w g i cur 5 _ hg, by simpa using c1, c2, by simpa using c3, ?_⟩⟩, by simpa using h3, ?_⟩
    · rw [List.length_set, Array.toList_setIfInBounds, List.take_set, c4, List.map_set]
    · intro x hx
      rcases List.mem_or_eq_of_mem_set hx with h | h
      · exact h4 x h
      · rw [h]; exact hz

theorem ob_frozen {base g n k i : Nat} {w : World} {xs : List Int} (h : Wc.Ob 5 base w (.slice (some ⟨g, 0, none⟩) n k) xs) : w.frozen? ⟨g, i, none⟩ = false := by
  rcases h.1.2 with ⟨hn, _⟩ | ⟨g', cap, cur, hv, hbg, hg, _⟩
  · cases hn
  · injection hv with e1
    injection e1 with e1
    injection e1 with e1
    subst e1
    simp [World.frozen?, hg]

theorem ob_base {base g n k : Nat} {w : World} {xs : List Int} (h : Wc.Ob 5 base w (.slice (some ⟨g, 0, none⟩) n k) xs) : base ≤ g := by
  rcases h.1.2 with ⟨hn, _⟩ | ⟨g', cap, cur, hv, hbg, hg, _⟩
  · cases hn
  · injection hv with e1
    injection e1 with e1
    injection e1 with e1
    subst e1
    exact hbg

theorem lowN (p : Int) (m : Nat) (h0 : 0 < m) (h : m ≤ 4294967296) : ∃ A : Nat, A < m ∧ wrap64 ((IntKind.u64.wrap p).tmod (m : Int)) = (A : Int) := by
  obtain ⟨A, hA, e⟩ := Wc.low (m : Int) p (by omega) (by omega)
  obtain ⟨a, rfl⟩ := Int.eq_ofNat_of_zero_le hA.1
  exact ⟨a, by omega, e⟩

end Go.Proofs.Ytfejabeifabdlaa
