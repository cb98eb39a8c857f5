/-
  The plain mathematics of trees, at last: the page's way and the program's way tell the same. It speaks of no program.
-/
import Derived.Test.YtifjbmknghjohaaTh
namespace Wt
open Wn

/-- Is no block both a node's and a sector's? -/
def sepB (ns dt : List Int) (N : Nat) : Bool := (List.range N).all fun i => !decide ((i : Int) ∈ ns) || !decide ((i : Int) ∈ dt)

/-- What the page's Tree finds. -/
def rtre (xs : List Int) (root : Int) : Option St :=
  if root = 0 then some s0 else
  if 2 ≤ root then
    match rmet xs ((xs.length / 64 : Nat) : Int) 3 root 0 s0 with
    | none => none
    | some t => if sepB t.nodes t.dat (xs.length / 64) = true then some t else none
  else none

theorem met_two (xs : List Int) : ∀ (L : Nat) (p : Int) (pl : Nat) (s t : St), met xs L p pl s = some t → 2 ≤ p → (∀ x ∈ s.nodes, 2 ≤ x) → ∀ x ∈ t.nodes, 2 ≤ x
  | 0, p, pl, s, t, h, _, hs => by
    rw [met_zero] at h
    cases h
    exact hs
  | L + 1, p, pl, s, t, h, hp, hs => by
    cases ho : okN xs p L
    · rw [met_no ho] at h; cases h
    · rw [met_yes ho] at h
      refine go_keeps (R := fun s t => (∀ x ∈ s.nodes, 2 ≤ x) → ∀ x ∈ t.nodes, 2 ≤ x) (fun _ h => h) (fun _ _ _ a b h => b (a h)) (fun k hk s t hz h => met_two xs L _ _ s t h (by have := pat_link (okN_nod ho).1 hk; omega)) 8 (Nat.le_refl _) _ _ h ?_
      intro x hx
      rcases List.mem_append.1 hx with hx | hx
      · exact hs x hx
      · have : x = p := by simpa using hx
        omega

/-- The map, place by place. -/
theorem met_map {xs : List Int} {root : Int} {t : St} (h : met xs 3 root 0 s0 = some t) (hr : ¬ root = 0) (i : Nat) (hi : i < 512) : t.sec.getD i 0 = look xs 3 root i := by
  have h1 := met_sec xs 3 root 0 s0 t h hr (by show (0 + 1) * 8 ^ 3 ≤ (List.replicate 512 (0 : Int)).length; rw [List.length_replicate]; omega) i
  rw [h1]
  have e1 : i / 8 ^ 3 = 0 := by omega
  have e2 : i % 8 ^ 3 = i := by omega
  have hz : s0.sec.getD i 0 = 0 := by
    show (List.replicate 512 (0 : Int)).getD i 0 = 0
    generalize 512 = n
    rw [List.getD_eq_getElem?_getD, List.getElem?_replicate]
    split <;> rfl
  rw [e1, e2, hz]
  by_cases hl : look xs 3 root i = 0
  · rw [if_neg (fun h => h.2 hl), hl]
  · rw [if_pos ⟨rfl, hl⟩]

theorem met_len {xs : List Int} {root : Int} {t : St} (h : met xs 3 root 0 s0 = some t) : t.sec.length = 512 := by
  rw [met_secLen xs 3 root 0 s0 t h]; exact List.length_replicate

/-- A place of the map is 0 or a sector's block; each sector's block is a place of the map. -/
theorem sec_dat {xs : List Int} {root : Int} {t : St} (h : met xs 3 root 0 s0 = some t) (hr : ¬ root = 0) (d : Int) : (d ∈ t.dat → ¬ d = 0 ∧ d ∈ t.sec) ∧ (d ∈ t.sec → d = 0 ∨ d ∈ t.dat) := by
  have h1 := met_dat xs 3 root 0 s0 t h hr d
  have hl := met_len h
  have hn : ¬ d ∈ s0.dat := by intro h; cases h
  constructor
  · intro hd
    rcases h1.1 hd with hd | ⟨h0, r, hr8, e⟩
    · exact absurd hd hn
    · have hr5 : r < 512 := by omega
      refine ⟨h0, ?_⟩
      rw [← met_map h hr r hr5] at e
      rw [← e]
      have hrl : r < t.sec.length := by omega
      have : t.sec.getD r 0 = t.sec[r] := by simp [hrl]
      rw [this]; exact List.getElem_mem _
  · intro hd
    by_cases h0 : d = 0
    · exact .inl h0
    · obtain ⟨i, hi, e⟩ := List.getElem_of_mem hd
      refine .inr (h1.2 (.inr ⟨h0, i, by omega, ?_⟩))
      rw [← met_map h hr i (by omega), ← e]
      simp [hi]

theorem apB_iff {xs : List Int} {root : Int} {t : St} (h : met xs 3 root 0 s0 = some t) (hr : 2 ≤ root) : apB t.nodes t.sec (xs.length / 64) = true ↔ t.nodes.Nodup ∧ ∀ x ∈ t.dat, x < ((xs.length / 64 : Nat) : Int) ∧ ¬ x ∈ t.nodes := by
  have hz : ¬ root = 0 := by omega
  have h2 := met_two xs 3 root 0 s0 t h hr (by intro x hx; cases hx)
  obtain ⟨a, ha⟩ := met_root h
  have hrt : root ∈ t.nodes := by rw [ha]; simp
  have hrn := met_nodes xs 3 root 0 s0 t h (by intro x hx; cases hx) root hrt
  simp only [apB, Bool.and_eq_true, decide_eq_true_eq, Bool.not_eq_true', List.any_eq_false, outB, Bool.or_eq_true, not_or]
  refine and_congr_right fun _ => ⟨fun k x hx => ?_, fun k x hx => ?_⟩
  · have := k x ((sec_dat h hz x).1 hx).2
    exact ⟨by omega, this.2⟩
  · rcases (sec_dat h hz x).2 hx with rfl | hx
    · exact ⟨by omega, fun hm => by have := h2 _ hm; omega⟩
    · have := k x hx
      exact ⟨by omega, this.2⟩

theorem sepB_iff {ns dt : List Int} {N : Nat} (hn : ∀ x ∈ ns, 0 ≤ x ∧ x < (N : Int)) : sepB ns dt N = true ↔ ∀ x ∈ dt, ¬ x ∈ ns := by
  simp only [sepB, List.all_eq_true, List.mem_range, Bool.or_eq_true, Bool.not_eq_true', decide_eq_false_iff_not]
  constructor
  · intro h x hx hm
    have h1 := hn x hm
    have h2 := h x.toNat (by omega)
    rw [show ((x.toNat : Nat) : Int) = x by omega] at h2
    rcases h2 with h2 | h2
    · exact h2 hm
    · exact h2 hx
  · intro h i _
    by_cases hm : (i : Int) ∈ ns
    · exact .inr (fun hd => h _ hd hm)
    · exact .inl hm

theorem tre_rtre (xs : List Int) (root : Int) : tre xs root = rtre xs root := by
  unfold tre rtre
  by_cases hr : root = 0
  · rw [if_pos hr, if_pos hr]
  rw [if_neg hr, if_neg hr]
  by_cases h2 : 2 ≤ root
  · rw [if_pos h2]
    cases hm : met xs 3 root 0 s0 with
    | none =>
      have h1 : rmet xs ((xs.length / 64 : Nat) : Int) 3 root 0 s0 = none := by
        cases h1 : rmet xs ((xs.length / 64 : Nat) : Int) 3 root 0 s0 with
        | none => rfl
        | some t =>
          rw [rmet_met _ _ _ _ _ _ _ h1] at hm
          cases hm
      rw [h1]
      by_cases hb : bsB root ((xs.length / 64 : Nat) : Int) = true
      · rw [if_pos hb]
      · rw [if_neg hb]
    | some t =>
      have hnod := met_nodes xs 3 root 0 s0 t hm (by intro x hx; cases hx)
      obtain ⟨a, ha⟩ := met_root hm
      have hrn := hnod root (by rw [ha]; simp)
      have hb : bsB root ((xs.length / 64 : Nat) : Int) = true := bsB_iff.2 ⟨h2, hrn.2⟩
      rw [if_pos hb]
      have hap := apB_iff hm h2
      have hse := sepB_iff (dt := t.dat) hnod
      show (if apB t.nodes t.sec (xs.length / 64) = true then some t else none) = _
      by_cases hg : Good ((xs.length / 64 : Nat) : Int) t
      · rw [met_rmet xs _ rfl 3 root 0 s0 t hm hg]
        show _ = (if sepB t.nodes t.dat (xs.length / 64) = true then some t else none)
        by_cases hs : sepB t.nodes t.dat (xs.length / 64) = true
        · rw [if_pos hs, if_pos (hap.2 ⟨hg.1, fun x hx => ⟨hg.2 x hx, hse.1 hs x hx⟩⟩)]
        · rw [if_neg hs, if_neg (fun h => hs (hse.2 fun x hx => ((hap.1 h).2 x hx).2))]
      · have h1 : rmet xs ((xs.length / 64 : Nat) : Int) 3 root 0 s0 = none := by
          cases h1 : rmet xs ((xs.length / 64 : Nat) : Int) 3 root 0 s0 with
          | none => rfl
          | some u =>
            have h3 := rmet_met _ _ _ _ _ _ _ h1
            rw [hm] at h3
            cases h3
            exact absurd (rmet_good _ _ _ _ _ _ _ h1 ⟨List.nodup_nil, by intro x hx; cases hx⟩) hg
        rw [h1, if_neg (fun h => hg ⟨(hap.1 h).1, fun x hx => ((hap.1 h).2 x hx).1⟩)]
  · have hb : ¬ bsB root ((xs.length / 64 : Nat) : Int) = true := fun h => h2 (bsB_iff.1 h).1
    rw [if_neg hb, if_neg h2]

/-- Where there is a tree, it is met on the way from its root. -/
theorem tre_met {xs : List Int} {root : Int} {t : St} (hr : ¬ root = 0) (h : tre xs root = some t) : 2 ≤ root ∧ root < ((xs.length / 64 : Nat) : Int) ∧ met xs 3 root 0 s0 = some t ∧ t.nodes.Nodup ∧ ∀ x ∈ t.dat, x < ((xs.length / 64 : Nat) : Int) ∧ ¬ x ∈ t.nodes := by
  unfold tre at h
  rw [if_neg hr] at h
  by_cases hb : bsB root ((xs.length / 64 : Nat) : Int) = true
  · rw [if_pos hb] at h
    have hb2 := bsB_iff.1 hb
    cases hm : met xs 3 root 0 s0 with
    | none => rw [hm] at h; cases h
    | some u =>
      rw [hm] at h
      have h' : (if apB u.nodes u.sec (xs.length / 64) = true then some u else none) = some t := h
      by_cases ha : apB u.nodes u.sec (xs.length / 64) = true
      · rw [if_pos ha] at h'
        cases h'
        exact ⟨hb2.1, hb2.2, rfl, (apB_iff hm hb2.1).1 ha⟩
      · rw [if_neg ha] at h'; cases h'
  · rw [if_neg hb] at h; cases h

end Wt
