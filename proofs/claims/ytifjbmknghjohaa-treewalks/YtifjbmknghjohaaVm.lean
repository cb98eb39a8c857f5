/-
  The plain mathematics of a way through a tree, pointer by pointer. It speaks of no program.
-/
import Derived.Test.YtifjbmknghjohaaUq
namespace Wt
open Wn

/-- A pointer that leads to a node of that level, and whatever is below it. -/
def Way (xs : List Int) : Nat → Int → Prop
  | 0, _ => True
  | L + 1, p => okN xs p L = true ∧ 2 ≤ p ∧ ∀ k, k < 8 → ¬ pat (nd xs p) k = 0 → Way xs L (pat (nd xs p) k)

theorem go_each {f : Int → Nat → St → Option St} {n : Nod} {pl : Nat} {s : St} {k : Nat} : ∀ (m : Nat) (t : St), go f n pl m s = some t → k < m → ¬ pat n k = 0 → ∃ u v, f (pat n k) (pl * 8 + k) u = some v
  | 0, _, _, hk, _ => by omega
  | m + 1, t, h, hk, hp => by
    cases h1 : go f n pl m s with
    | none => simp [go, h1] at h
    | some u =>
      by_cases e : k = m
      · subst e
        rw [go_step h1 hp] at h
        exact ⟨u, t, h⟩
      · exact go_each m u h1 (by omega) hp

theorem met_way (xs : List Int) : ∀ (L : Nat) (p : Int) (pl : Nat) (s t : St), met xs L p pl s = some t → 2 ≤ p → Way xs L p
  | 0, _, _, _, _, _, _ => trivial
  | L + 1, p, pl, s, t, h, hp => by
    cases ho : okN xs p L
    · rw [met_no ho] at h; cases h
    · rw [met_yes ho] at h
      refine ⟨ho, hp, fun k hk hz => ?_⟩
      obtain ⟨u, v, e⟩ := go_each 8 t h hk hz
      exact met_way xs L _ _ u v e (by have := pat_link (okN_nod ho).1 hk; omega)

/-- Where a way stands: what is still to be found is v. -/
def On (xs : List Int) (v : Int) (L : Nat) (p : Int) (r : Nat) : Prop := (p = 0 ∧ v = 0) ∨ (¬ p = 0 ∧ Way xs L p ∧ look xs L p r = v ∧ r < 8 ^ L)

theorem On.last {xs : List Int} {v : Int} {p : Int} {r : Nat} (h : On xs v 0 p r) : p = v := by
  rcases h with ⟨rfl, rfl⟩ | ⟨-, -, h, -⟩
  · rfl
  · exact h

theorem On.zero {xs : List Int} {v : Int} {L r : Nat} (h : On xs v L 0 r) : v = 0 := by
  rcases h with ⟨-, h⟩ | ⟨h, -⟩
  · exact h
  · exact absurd rfl h

theorem On.next {xs : List Int} {v : Int} {L : Nat} {p : Int} {r : Nat} (h : On xs v (L + 1) p r) (hp : ¬ p = 0) :
    okN xs p L = true ∧ 2 ≤ p ∧ r < 8 * 8 ^ L ∧ r / 8 ^ L < 8 ∧ On xs v L (pat (nd xs p) (r / 8 ^ L)) (r % 8 ^ L) := by
  rcases h with ⟨h, -⟩ | ⟨-, ⟨h1, h2, h3⟩, h4, h5⟩
  · exact absurd h hp
  · have hD : 0 < 8 ^ L := Nat.pos_of_ne_zero (by simp)
    have hr8 : r / 8 ^ L < 8 := by rw [Nat.div_lt_iff_lt_mul hD, Nat.mul_comm, ← Nat.pow_succ]; exact h5
    refine ⟨h1, h2, by rw [Nat.mul_comm, ← Nat.pow_succ]; exact h5, hr8, ?_⟩
    simp only [look] at h4
    by_cases hz : pat (nd xs p) (r / 8 ^ L) = 0
    · rw [if_pos hz] at h4
      exact .inl ⟨hz, h4.symm⟩
    · rw [if_neg hz] at h4
      exact .inr ⟨hz, h3 _ hr8 hz, h4, Nat.mod_lt _ hD⟩

/-- A tree's way to each sector. -/
theorem On.start {xs : List Int} {root : Int} {t : St} (hr : ¬ root = 0) (h : tre xs root = some t) (s : Nat) (hs : s < 512) : On xs (t.sec.getD s 0) 3 root s := by
  obtain ⟨h2, -, hm, -⟩ := tre_met hr h
  exact .inr ⟨hr, met_way xs 3 root 0 s0 t hm h2, (met_map hm hr s hs).symm, hs⟩

/-- What is told of a tree. -/
theorem tree_told {xs : List Int} {root : Int} (hr : ¬ root = 0) (h : treE xs root = 0) :
    Wd.devB xs.length = true ∧ (treS xs root).length = 512 ∧ (∃ a, treN xs root = root :: a) ∧ (treN xs root).Nodup ∧ (treN xs root).length ≤ 1000 ∧ ∀ s, s < 512 → On xs ((treS xs root).getD s 0) 3 root s := by
  cases hd : Wd.devB xs.length with
  | false => rw [(tre_dev hd).1] at h; omega
  | true =>
    cases ht : tre xs root with
    | none => rw [(tre_none hd ht).1] at h; omega
    | some t =>
      have h3 := tre_some hd ht
      obtain ⟨-, -, hm, hnd, -⟩ := tre_met hr ht
      obtain ⟨a, ha⟩ := met_root hm
      have hrm := met_room xs 3 root 0 s0 t hm
      refine ⟨rfl, treS_len h, ⟨a, by rw [h3.2.1, ha]; rfl⟩, by rw [h3.2.1]; exact hnd, ?_, fun s hs => ?_⟩
      · rw [h3.2.1]
        have e : s0.nodes.length = 0 := rfl
        have e2 : room 3 = 73 := rfl
        omega
      · rw [h3.2.2]; exact On.start hr ht s hs

theorem nodup_at {l : List Int} (h : l.Nodup) {i k : Nat} (hi : i < l.length) (hk : k < i) : (l.getD k 0 == l.getD i 0) = false := by
  have e1 : l.getD k 0 = l[k] := by simp [show k < l.length by omega]
  have e2 : l.getD i 0 = l[i] := by simp [hi]
  rw [e1, e2]
  have := (List.pairwise_iff_getElem.1 h) k i (by omega) hi hk
  simpa using this

/-- What is told where there is none. -/
theorem tree_untold {xs : List Int} {root : Int} (h : ¬ treE xs root = 0) : treS xs root = [] ∧ treN xs root = [] := by
  cases hd : Wd.devB xs.length with
  | false => exact ⟨(tre_dev hd).2.2, (tre_dev hd).2.1⟩
  | true =>
    cases ht : tre xs root with
    | none => exact ⟨(tre_none hd ht).2.2, (tre_none hd ht).2.1⟩
    | some t => exact absurd (tre_some hd ht).1 h

theorem tree_zero {xs : List Int} (h : treE xs 0 = 0) : treS xs 0 = List.replicate 512 0 ∧ treN xs 0 = [] := by
  have ht : tre xs 0 = some s0 := by unfold tre; rw [if_pos rfl]
  cases hd : Wd.devB xs.length with
  | false => rw [(tre_dev hd).1] at h; omega
  | true => exact ⟨(tre_some hd ht).2.2, (tre_some hd ht).2.1⟩

end Wt
