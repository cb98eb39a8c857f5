/-
  The plain mathematics of trees, on: what is met is right; the way that goes along with marks meets the same; where each sector's block comes from. It speaks of no program.
-/
import Derived.Test.YtifjbmknghjohaaTm
namespace Wt
open Wn

theorem okN_nod {xs : List Int} {p : Int} {L : Nat} (h : okN xs p L = true) : nodB (nd xs p) = true ∧ (0 ≤ p ∧ p < ((xs.length / 64 : Nat) : Int)) ∧ Wd.devB xs.length = true ∧ parE (Wd.rdR xs p) = 0 ∧ (nd xs p).level = (L : Int) := by
  have h1 : parE (Wd.rdR xs p) = 0 ∧ (nd xs p).level = (L : Int) := by simpa [okN] using h
  obtain ⟨hl, -, hn⟩ := parE_zero h1.1
  have hr : Wd.rdE xs.length p = 0 := by
    apply Classical.byContradiction
    intro hne
    have : Wd.rdR xs p = [] := by unfold Wd.rdR; rw [if_neg hne]
    rw [this] at hl
    simp at hl
  unfold Wd.rdE at hr
  cases hd : Wd.devB xs.length
  · rw [hd] at hr; simp at hr
  · rw [hd] at hr
    simp only [if_true] at hr
    by_cases hp : 0 ≤ p ∧ p < (xs.length : Int) / 64
    · exact ⟨hn, by omega, rfl, h1.1, h1.2⟩
    · rw [if_neg hp] at hr; omega

theorem pat_link {n : Nod} (h : nodB n = true) {k : Nat} (hk : k < 8) : pat n k = 0 ∨ 2 ≤ pat n k := by
  have := (nodB_iff.1 h).2.1 _ (pat_mem n hk)
  omega

/-- All nodes met lie on the device. -/
theorem met_nodes (xs : List Int) : ∀ (L : Nat) (p : Int) (pl : Nat) (s t : St), met xs L p pl s = some t → (∀ x ∈ s.nodes, 0 ≤ x ∧ x < ((xs.length / 64 : Nat) : Int)) → ∀ x ∈ t.nodes, 0 ≤ x ∧ x < ((xs.length / 64 : Nat) : Int)
  | 0, p, pl, s, t, h, hs => by
    rw [met_zero] at h
    cases h
    exact hs
  | L + 1, p, pl, s, t, h, hs => by
    cases ho : okN xs p L
    · rw [met_no ho] at h; cases h
    · rw [met_yes ho] at h
      refine go_keeps (R := fun s t => (∀ x ∈ s.nodes, 0 ≤ x ∧ x < ((xs.length / 64 : Nat) : Int)) → ∀ x ∈ t.nodes, 0 ≤ x ∧ x < ((xs.length / 64 : Nat) : Int)) (fun _ h => h) (fun _ _ _ a b h => b (a h)) (fun _ _ s t _ h => met_nodes xs L _ _ s t h) 8 (Nat.le_refl _) _ _ h ?_
      intro x hx
      rcases List.mem_append.1 hx with hx | hx
      · exact hs x hx
      · have : x = p := by simpa using hx
        subst this
        exact (okN_nod ho).2.1

/-- All sectors' blocks are from 0 on. -/
theorem met_pos (xs : List Int) : ∀ (L : Nat) (p : Int) (pl : Nat) (s t : St), met xs L p pl s = some t → 0 ≤ p → (∀ x ∈ s.sec, 0 ≤ x) → ∀ x ∈ t.sec, 0 ≤ x
  | 0, p, pl, s, t, h, hp, hs => by
    rw [met_zero] at h
    cases h
    intro x hx
    rcases List.mem_or_eq_of_mem_set hx with h | h
    · exact hs x h
    · omega
  | L + 1, p, pl, s, t, h, hp, hs => by
    cases ho : okN xs p L
    · rw [met_no ho] at h; cases h
    · rw [met_yes ho] at h
      exact go_keeps (R := fun s t => (∀ x ∈ s.sec, 0 ≤ x) → ∀ x ∈ t.sec, 0 ≤ x) (fun _ h => h) (fun _ _ _ a b h => b (a h)) (fun _ hk s t _ h => met_pos xs L _ _ s t h (nodB_pat (okN_nod ho).1 hk).1) 8 (Nat.le_refl _) _ _ h hs

theorem met_root {xs : List Int} {L : Nat} {p : Int} {pl : Nat} {s t : St} (h : met xs (L + 1) p pl s = some t) : ∃ a, t.nodes = s.nodes ++ p :: a := by
  cases ho : okN xs p L
  · rw [met_no ho] at h; cases h
  · rw [met_yes ho] at h
    obtain ⟨a, b, h1, -⟩ := go_keeps (R := Ext) Ext.refl (fun _ _ _ => Ext.trans) (fun _ _ s t _ h => met_ext xs L _ _ s t h) 8 (Nat.le_refl _) _ _ h
    exact ⟨a, by rw [h1]; simp⟩

/-! The page's way: it looks at marks as it goes. -/

/-- What the page's way makes of a pointer. -/
def rmet (xs : List Int) (N : Int) : Nat → Int → Nat → St → Option St
  | 0, p, pl, s => if p < N then some ⟨s.nodes, s.sec.set pl p, s.dat ++ [p]⟩ else none
  | L + 1, p, pl, s => if p < N ∧ ¬ p ∈ s.nodes ∧ okN xs p L = true then go (rmet xs N L) (nd xs p) pl 8 ⟨s.nodes ++ [p], s.sec, s.dat⟩ else none

/-- Each node once, all sectors' blocks on the device. -/
def Good (N : Int) (s : St) : Prop := s.nodes.Nodup ∧ ∀ x ∈ s.dat, x < N

theorem Good.of_ext {N : Int} {s t : St} (h : Good N t) (e : Ext s t) : Good N s := by
  obtain ⟨a, b, h1, h2⟩ := e
  obtain ⟨g1, g2⟩ := h
  rw [h1] at g1
  exact ⟨(List.nodup_append.1 g1).1, fun x hx => g2 x (by rw [h2]; exact List.mem_append_left _ hx)⟩

theorem rmet_met (xs : List Int) (N : Int) : ∀ (L : Nat) (p : Int) (pl : Nat) (s t : St), rmet xs N L p pl s = some t → met xs L p pl s = some t
  | 0, p, pl, s, t, h => by
    unfold rmet at h
    by_cases hp : p < N
    · rw [if_pos hp] at h; exact h
    · rw [if_neg hp] at h; cases h
  | L + 1, p, pl, s, t, h => by
    unfold rmet at h
    by_cases hp : p < N ∧ ¬ p ∈ s.nodes ∧ okN xs p L = true
    · rw [if_pos hp] at h
      rw [met_yes hp.2.2]
      have gen : ∀ k s t, go (rmet xs N L) (nd xs p) pl k s = some t → go (met xs L) (nd xs p) pl k s = some t := by
        intro k
        induction k with
        | zero => intro s t h; exact h
        | succ k ih =>
          intro s t h
          cases h1 : go (rmet xs N L) (nd xs p) pl k s with
          | none => simp [go, h1] at h
          | some u =>
            have h2 := ih s u h1
            by_cases hz : pat (nd xs p) k = 0
            · rw [go_skip h1 hz] at h
              rw [go_skip h2 hz]; exact h
            · rw [go_step h1 hz] at h
              rw [go_step h2 hz]
              exact rmet_met xs N L _ _ u t h
      exact gen 8 _ t h
    · rw [if_neg hp] at h; cases h

theorem nodup_snoc {l : List Int} {x : Int} : (l ++ [x]).Nodup ↔ l.Nodup ∧ ¬ x ∈ l := by
  rw [List.nodup_append]
  constructor
  · rintro ⟨h1, -, h3⟩
    exact ⟨h1, fun hx => h3 x hx x (by simp) rfl⟩
  · rintro ⟨h1, h2⟩
    refine ⟨h1, by simp, fun a ha b hb e => ?_⟩
    have : b = x := by simpa using hb
    subst this
    subst e
    exact h2 ha

theorem rmet_good (xs : List Int) (N : Int) : ∀ (L : Nat) (p : Int) (pl : Nat) (s t : St), rmet xs N L p pl s = some t → Good N s → Good N t
  | 0, p, pl, s, t, h, hg => by
    unfold rmet at h
    by_cases hp : p < N
    · rw [if_pos hp] at h
      cases h
      refine ⟨hg.1, fun x hx => ?_⟩
      rcases List.mem_append.1 hx with hx | hx
      · exact hg.2 x hx
      · have : x = p := by simpa using hx
        omega
    · rw [if_neg hp] at h; cases h
  | L + 1, p, pl, s, t, h, hg => by
    unfold rmet at h
    by_cases hp : p < N ∧ ¬ p ∈ s.nodes ∧ okN xs p L = true
    · rw [if_pos hp] at h
      refine go_keeps (R := fun s t => Good N s → Good N t) (fun _ h => h) (fun _ _ _ a b h => b (a h)) (fun _ _ s t _ h => rmet_good xs N L _ _ s t h) 8 (Nat.le_refl _) _ _ h ?_
      exact ⟨nodup_snoc.2 ⟨hg.1, hp.2.1⟩, hg.2⟩
    · rw [if_neg hp] at h; cases h

theorem met_rmet (xs : List Int) (N : Int) (hN : N = ((xs.length / 64 : Nat) : Int)) : ∀ (L : Nat) (p : Int) (pl : Nat) (s t : St), met xs L p pl s = some t → Good N t → rmet xs N L p pl s = some t
  | 0, p, pl, s, t, h, hg => by
    rw [met_zero] at h
    cases h
    unfold rmet
    rw [if_pos (hg.2 p (by simp))]
  | L + 1, p, pl, s, t, h, hg => by
    cases ho : okN xs p L
    · rw [met_no ho] at h; cases h
    · rw [met_yes ho] at h
      have gen : ∀ k s t, go (met xs L) (nd xs p) pl k s = some t → Good N t → go (rmet xs N L) (nd xs p) pl k s = some t ∧ Good N s := by
        intro k
        induction k with
        | zero =>
          intro s t h hg
          simp only [go, Option.some.injEq] at h
          subst h
          exact ⟨rfl, hg⟩
        | succ k ih =>
          intro s t h hg
          cases h1 : go (met xs L) (nd xs p) pl k s with
          | none => simp [go, h1] at h
          | some u =>
            by_cases hz : pat (nd xs p) k = 0
            · rw [go_skip h1 hz] at h
              cases h
              have h2 := ih s t h1 hg
              exact ⟨go_skip h2.1 hz, h2.2⟩
            · rw [go_step h1 hz] at h
              have hgu := hg.of_ext (met_ext xs L _ _ u t h)
              have h2 := ih s u h1 hgu
              refine ⟨?_, h2.2⟩
              rw [go_step h2.1 hz]
              exact met_rmet xs N hN L _ _ u t h hg
      have h2 := gen 8 _ t h hg
      have h3 := nodup_snoc.1 h2.2.1
      have h4 := (okN_nod ho).2.1.2
      unfold rmet
      rw [if_pos ⟨by omega, h3.2, ho⟩]
      exact h2.1

/-! Where each sector's block comes from. -/

/-- From a pointer of a node of level L down to the r-th sector below it. -/
def look (xs : List Int) : Nat → Int → Nat → Int
  | 0, p, _ => p
  | L + 1, p, r => if pat (nd xs p) (r / 8 ^ L) = 0 then 0 else look xs L (pat (nd xs p) (r / 8 ^ L)) (r % 8 ^ L)

theorem div_split (i D pl k : Nat) (hk : k < 8) : i / D = pl * 8 + k ↔ i / (D * 8) = pl ∧ i % (D * 8) / D = k := by
  rw [← Nat.div_div_eq_div_mul, Nat.mod_mul_right_div_self]
  omega

theorem mod_split (i D : Nat) : i % (D * 8) % D = i % D := Nat.mod_mul_right_mod _ _ _

theorem met_sec (xs : List Int) : ∀ (L : Nat) (p : Int) (pl : Nat) (s t : St), met xs L p pl s = some t → ¬ p = 0 → (pl + 1) * 8 ^ L ≤ s.sec.length →
    ∀ i, t.sec.getD i 0 = if i / 8 ^ L = pl ∧ ¬ look xs L p (i % 8 ^ L) = 0 then look xs L p (i % 8 ^ L) else s.sec.getD i 0
  | 0, p, pl, s, t, h, hp, hl, i => by
    rw [met_zero] at h
    cases h
    simp only [Nat.pow_zero, Nat.div_one, look, Nat.mul_one] at *
    by_cases e : i = pl
    · subst e
      rw [if_pos ⟨rfl, hp⟩, List.getD_eq_getElem?_getD, List.getElem?_set_self (by omega)]; rfl
    · rw [if_neg (fun h => e h.1), List.getD_eq_getElem?_getD, List.getD_eq_getElem?_getD, List.getElem?_set_ne (by omega)]
  | L + 1, p, pl, s, t, h, hp, hl, i => by
    cases ho : okN xs p L
    · rw [met_no ho] at h; cases h
    · rw [met_yes ho] at h
      have hD : 0 < 8 ^ L := Nat.pos_of_ne_zero (by simp)
      have gen : ∀ k, k ≤ 8 → ∀ u : St, go (met xs L) (nd xs p) pl k ⟨s.nodes ++ [p], s.sec, s.dat⟩ = some u → ∀ i, u.sec.getD i 0 = if i / 8 ^ (L + 1) = pl ∧ i % 8 ^ (L + 1) / 8 ^ L < k ∧ ¬ look xs (L + 1) p (i % 8 ^ (L + 1)) = 0 then look xs (L + 1) p (i % 8 ^ (L + 1)) else s.sec.getD i 0 := by
        intro k
        induction k with
        | zero =>
          intro _ u hu i
          simp only [go, Option.some.injEq] at hu
          subst hu
          rw [if_neg (fun h => Nat.not_lt_zero _ h.2.1)]
        | succ k ih =>
          intro hk u hu i
          cases h1 : go (met xs L) (nd xs p) pl k ⟨s.nodes ++ [p], s.sec, s.dat⟩ with
          | none => simp [go, h1] at hu
          | some y =>
            have h2 := ih (by omega) y h1 i
            have hyl : y.sec.length = s.sec.length := go_secLen (met_secLen xs L) k (by omega) ⟨s.nodes ++ [p], s.sec, s.dat⟩ y h1
            have hlk : i % 8 ^ (L + 1) / 8 ^ L = k → look xs (L + 1) p (i % 8 ^ (L + 1)) = if pat (nd xs p) k = 0 then 0 else look xs L (pat (nd xs p) k) (i % 8 ^ L) := by
              intro e
              simp only [look]
              rw [e, Nat.pow_succ, mod_split]
            by_cases hz : pat (nd xs p) k = 0
            · rw [go_skip h1 hz] at hu
              cases hu
              rw [h2]
              by_cases e : i % 8 ^ (L + 1) / 8 ^ L = k
              · have := hlk e
                rw [if_pos hz] at this
                rw [if_neg (fun h => h.2.2 this), if_neg (fun h => h.2.2 this)]
              · by_cases e2 : i / 8 ^ (L + 1) = pl ∧ i % 8 ^ (L + 1) / 8 ^ L < k ∧ ¬ look xs (L + 1) p (i % 8 ^ (L + 1)) = 0
                · rw [if_pos e2, if_pos ⟨e2.1, by omega, e2.2.2⟩]
                · rw [if_neg e2, if_neg (fun h => e2 ⟨h.1, by omega, h.2.2⟩)]
            · rw [go_step h1 hz] at hu
              have h3 := met_sec xs L _ _ y u hu hz (by
                rw [hyl]
                have h4 : (pl * 8 + k + 1) * 8 ^ L ≤ (pl * 8 + 8) * 8 ^ L := Nat.mul_le_mul_right _ (by omega)
                have h5 : (pl * 8 + 8) * 8 ^ L = (pl + 1) * 8 ^ (L + 1) := by rw [show pl * 8 + 8 = (pl + 1) * 8 by omega, Nat.mul_assoc, Nat.pow_succ, Nat.mul_comm 8]
                omega) i
              have hds := div_split i (8 ^ L) pl k (by omega)
              rw [← Nat.pow_succ] at hds
              rw [h3]
              by_cases e : i / 8 ^ (L + 1) = pl ∧ i % 8 ^ (L + 1) / 8 ^ L = k
              · have h6 := hlk e.2
                rw [if_neg hz] at h6
                by_cases h7 : look xs L (pat (nd xs p) k) (i % 8 ^ L) = 0
                · rw [if_neg (fun h => h.2 h7), h2, h6, h7]
                  rw [if_neg (fun h => h.2.2 rfl), if_neg (fun h => h.2.2 rfl)]
                · rw [if_pos ⟨hds.2 e, h7⟩, h6, if_pos ⟨e.1, by omega, h7⟩]
              · rw [if_neg (fun h => e (hds.1 h.1)), h2]
                by_cases e2 : i / 8 ^ (L + 1) = pl ∧ i % 8 ^ (L + 1) / 8 ^ L < k ∧ ¬ look xs (L + 1) p (i % 8 ^ (L + 1)) = 0
                · rw [if_pos e2, if_pos ⟨e2.1, by omega, e2.2.2⟩]
                · rw [if_neg e2, if_neg (fun h => e2 ⟨h.1, by
                    have := h.2.1
                    have hne : ¬ i % 8 ^ (L + 1) / 8 ^ L = k := fun e' => e ⟨h.1, e'⟩
                    omega, h.2.2⟩)]
      have h8 := gen 8 (Nat.le_refl _) t h i
      rw [h8]
      have hlt : i % 8 ^ (L + 1) / 8 ^ L < 8 := by
        rw [Nat.div_lt_iff_lt_mul hD, Nat.mul_comm, ← Nat.pow_succ]
        exact Nat.mod_lt _ (Nat.pos_of_ne_zero (by simp))
      by_cases e2 : i / 8 ^ (L + 1) = pl ∧ ¬ look xs (L + 1) p (i % 8 ^ (L + 1)) = 0
      · rw [if_pos e2, if_pos ⟨e2.1, hlt, e2.2⟩]
      · rw [if_neg e2, if_neg (fun h => e2 ⟨h.1, h.2.2⟩)]

/-- The sectors' blocks in order are those that a look finds. -/
theorem met_dat (xs : List Int) : ∀ (L : Nat) (p : Int) (pl : Nat) (s t : St), met xs L p pl s = some t → ¬ p = 0 → ∀ d, d ∈ t.dat ↔ d ∈ s.dat ∨ (¬ d = 0 ∧ ∃ r, r < 8 ^ L ∧ look xs L p r = d)
  | 0, p, pl, s, t, h, hp, d => by
    rw [met_zero] at h
    cases h
    simp only [List.mem_append, List.mem_singleton, look, Nat.pow_zero]
    constructor
    · rintro (h | rfl)
      · exact .inl h
      · exact .inr ⟨hp, 0, by omega, rfl⟩
    · rintro (h | ⟨-, r, -, rfl⟩)
      · exact .inl h
      · exact .inr rfl
  | L + 1, p, pl, s, t, h, hp, d => by
    cases ho : okN xs p L
    · rw [met_no ho] at h; cases h
    · rw [met_yes ho] at h
      have hD : 0 < 8 ^ L := Nat.pos_of_ne_zero (by simp)
      have gen : ∀ k, k ≤ 8 → ∀ u : St, go (met xs L) (nd xs p) pl k ⟨s.nodes ++ [p], s.sec, s.dat⟩ = some u → (d ∈ u.dat ↔ d ∈ s.dat ∨ (¬ d = 0 ∧ ∃ r, r < k * 8 ^ L ∧ look xs (L + 1) p r = d)) := by
        intro k
        induction k with
        | zero =>
          intro _ u hu
          simp only [go, Option.some.injEq] at hu
          subst hu
          simp
        | succ k ih =>
          intro hk u hu
          cases h1 : go (met xs L) (nd xs p) pl k ⟨s.nodes ++ [p], s.sec, s.dat⟩ with
          | none => simp [go, h1] at hu
          | some y =>
            have h2 := ih (by omega) y h1
            have hmul : (k + 1) * 8 ^ L = k * 8 ^ L + 8 ^ L := Nat.succ_mul _ _
            have hlk : ∀ q, q < 8 ^ L → look xs (L + 1) p (k * 8 ^ L + q) = if pat (nd xs p) k = 0 then 0 else look xs L (pat (nd xs p) k) q := by
              intro q hq
              simp only [look]
              have e1 : (k * 8 ^ L + q) / 8 ^ L = k := by
                rw [Nat.mul_comm, Nat.mul_add_div hD, Nat.div_eq_of_lt hq]; omega
              have e2 : (k * 8 ^ L + q) % 8 ^ L = q := by
                rw [Nat.mul_comm, Nat.mul_add_mod, Nat.mod_eq_of_lt hq]
              rw [e1, e2]
            have hsplit : (∃ r, r < (k + 1) * 8 ^ L ∧ look xs (L + 1) p r = d) ↔ (∃ r, r < k * 8 ^ L ∧ look xs (L + 1) p r = d) ∨ ∃ q, q < 8 ^ L ∧ look xs (L + 1) p (k * 8 ^ L + q) = d := by
              constructor
              · rintro ⟨r, hr, e⟩
                by_cases hlt : r < k * 8 ^ L
                · exact .inl ⟨r, hlt, e⟩
                · exact .inr ⟨r - k * 8 ^ L, by omega, by rw [show k * 8 ^ L + (r - k * 8 ^ L) = r by omega]; exact e⟩
              · rintro (⟨r, hr, e⟩ | ⟨q, hq, e⟩)
                · exact ⟨r, by omega, e⟩
                · exact ⟨_, by omega, e⟩
            by_cases hz : pat (nd xs p) k = 0
            · rw [go_skip h1 hz] at hu
              cases hu
              rw [h2, hsplit]
              constructor
              · rintro (h | ⟨h0, h⟩)
                · exact .inl h
                · exact .inr ⟨h0, .inl h⟩
              · rintro (h | ⟨h0, h | ⟨q, hq, e⟩⟩)
                · exact .inl h
                · exact .inr ⟨h0, h⟩
                · rw [hlk q hq, if_pos hz] at e
                  exact absurd e.symm h0
            · rw [go_step h1 hz] at hu
              rw [met_dat xs L _ _ y u hu hz d, h2, hsplit]
              constructor
              · rintro ((h | ⟨h0, h⟩) | ⟨h0, q, hq, e⟩)
                · exact .inl h
                · exact .inr ⟨h0, .inl h⟩
                · exact .inr ⟨h0, .inr ⟨q, hq, by rw [hlk q hq, if_neg hz]; exact e⟩⟩
              · rintro (h | ⟨h0, h | ⟨q, hq, e⟩⟩)
                · exact .inl (.inl h)
                · exact .inl (.inr ⟨h0, h⟩)
                · rw [hlk q hq, if_neg hz] at e
                  exact .inr ⟨h0, q, hq, e⟩
      have h8 := gen 8 (Nat.le_refl _) t h
      rw [h8, Nat.pow_succ, Nat.mul_comm 8]

end Wt
