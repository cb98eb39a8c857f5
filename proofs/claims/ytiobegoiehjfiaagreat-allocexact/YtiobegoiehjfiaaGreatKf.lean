/-
  What walk.Used and walk.Shared tell of any device.
-/
import Derived.Test.YtiobegoiehjfiaaGreatKe
namespace Wj
/-- How many of the first k blocks are met. -/
def usedN (T : List Int) (k : Nat) : Nat := ((List.range k).filter fun (j : Nat) => decide (0 < T.count (j : Int))).length
theorem usedN_succ (T : List Int) (k : Nat) : usedN T (k + 1) = usedN T k + (if 0 < T.count (k : Int) then 1 else 0) := by
  unfold usedN
  rw [List.range_succ, List.filter_append, List.length_append]
  by_cases h : 0 < T.count (k : Int)
  · rw [if_pos h, List.filter_cons_of_pos (by simpa using h)]; rfl
  · rw [if_neg h, List.filter_cons_of_neg (by simpa using h)]; rfl
theorem usedN_le (T : List Int) (k : Nat) : usedN T k ≤ k := by
  have := List.length_filter_le (fun j : Nat => decide (0 < T.count (j : Int))) (List.range k)
  simpa [usedN] using this
/-- The blocks from 2 to k that more than one pointer leads to. -/
def shr (T : List Int) : Nat → List Int
  | 0 => []
  | k + 1 => shr T k ++ (if 2 ≤ k ∧ 1 < T.count (k : Int) then [(k : Int)] else [])
theorem shr_len (T : List Int) : ∀ k, (shr T k).length ≤ k
  | 0 => Nat.le_refl _
  | k + 1 => by
    have := shr_len T k
    show (shr T k ++ _).length ≤ _
    rw [List.length_append]
    split <;> simp <;> omega
theorem shr_no {T : List Int} {k : Nat} (h : ¬ (2 ≤ k ∧ 1 < T.count (k : Int))) : shr T (k + 1) = shr T k := by
  show shr T k ++ _ = _
  rw [if_neg h, List.append_nil]
theorem shr_yes {T : List Int} {k : Nat} (h : 2 ≤ k ∧ 1 < T.count (k : Int)) : shr T (k + 1) = shr T k ++ [(k : Int)] := by
  show shr T k ++ _ = _
  rw [if_pos h]
theorem shr_two (T : List Int) : shr T 2 = [] := by
  rw [shr_no (by omega), shr_no (by omega)]; rfl
end Wj
namespace Go.Proofs.YtiobegoiehjfiaaGreat
open Go.RowKit

/-- One number is put behind memory of the call's own; blocks of other things stay. -/
theorem push_wide (w : World) (gb base : Nat) (hgb : gb = w.heap.size) (v : Value) (l : List Int) (p : Int) (hO : Wv.Ov (Value.int .i64) 3 base w v l) (hl : l.length ≤ 100000) (hb : base ≤ w.heap.size) :
    ∃ a n c w', Sem.run Tryz.prog (Builtin.append_ #[22, 22] 22 #[v, .slice (some ⟨gb, 0, none⟩) 1 1]) (w.alloc (.cells #[.int .i64 p] 3)) = .ok (.slice a n c) w' ∧ Wv.Ov (Value.int .i64) 3 base w' (.slice a n c) (l ++ [p]) ∧ Below base (w.alloc (.cells #[.int .i64 p] 3)) w' ∧
      ∀ (b : Nat) (cs : Array Value) (T : TypeId) (fr : Nat × Nat), (w.alloc (.cells #[.int .i64 p] 3)).heap[b]? = some (.cells cs T fr) → T ≠ 3 → w'.heap[b]? = some (.cells cs T fr) := by
  subst hgb
  obtain ⟨i, hi, hzz⟩ := Option.map_eq_some_iff.1 Tryz.infoI
  simp only [Prod.mk.injEq] at hzz
  obtain ⟨hz, hs, hby⟩ := hzz
  have hO1 : Wv.Ov (Value.int .i64) 3 base (w.alloc (.cells #[.int .i64 p] 3)) v l := hO.keep ((Below.refl _ _).alloc (Nat.le_refl _) _)
  have hR : Wv.Rv (Value.int .i64) 0 (w.alloc (.cells #[.int .i64 p] 3)) (.slice (some ⟨w.heap.size, 0, none⟩) 1 1) [p] := Wv.Rv.lit w _ 3 1 [p] rfl (by omega) rfl
  obtain ⟨v', w', k1, k2, k3, k4⟩ := run_append_own (P := Tryz.prog) (w.alloc (.cells #[.int .i64 p] 3)) base 22 22 3 i (.int .i64 0) 1 8 Tryz.underlying22 hi hz hs hby rfl (by decide) v _ _ hO1.1 ⟨w.heap.size, 0, none⟩ 1 1 [.int .i64 p] rfl (by
      intro j c hj
      have hj0 : j = 0 := by have := (List.getElem?_eq_some_iff.1 hj).1; simpa using this
      subst hj0
      have := (Wv.rv_cells hR (by omega)).2 0 (by omega)
      rw [Wv.add_none]
      rw [this]
      simpa using hj) (by intro c hc; simp at hc; subst hc; rfl) (by unfold maxLen; omega) (by omega) (by simp; omega)
  have hO2 : Wv.Ov (Value.int .i64) 3 base w' v' (l ++ [p]) := ⟨by simpa using k2, by simp; omega⟩
  have hbl : Below base (w.alloc (.cells #[.int .i64 p] 3)) w' := (Below.refl _ _).grown k3 (by simp; omega) (fun g hg => (hO1.1.lt g hg).1)
  have hoth : ∀ (b : Nat) (cs : Array Value) (T : TypeId) (fr : Nat × Nat), (w.alloc (.cells #[.int .i64 p] 3)).heap[b]? = some (.cells cs T fr) → T ≠ 3 → w'.heap[b]? = some (.cells cs T fr) := by
    intro b cs T fr hh hT
    refine (k3.block b (Array.getElem?_eq_some_iff.1 hh).1 (fun ee => ?_)).trans hh
    rcases hO1.1.2 with ⟨rfl, _⟩ | ⟨g2, c2, cur2, rfl, _, hg2, _⟩
    · cases ee
    · have : b = g2 := by simpa [Value.ownBlock] using ee
      subst this
      rw [hh] at hg2
      cases hg2
      exact hT rfl
  rcases hO2.shaped with rfl | ⟨ad, n, c, rfl⟩
  · exact ⟨_, _, _, _, k1, hO2, hbl, hoth⟩
  · exact ⟨_, _, _, _, k1, hO2, hbl, hoth⟩
