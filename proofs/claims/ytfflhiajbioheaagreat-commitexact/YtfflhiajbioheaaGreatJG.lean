/-
  The plain mathematics of trees: what is met on the way from a root, pointer by pointer. It speaks of no program.
  The plain mathematics of trees, on: what is met is right; the way that goes along with marks meets the same; where each sector's block comes from. It speaks of no program.
  What the small functions of package tree return, for every input.
  What found.meet and found.follow do, for every device and every way.
  What found.follow does, for every device and every way.
  What found.apart returns: whether each node has a block of its own, and no sector's block is a node's or beyond the device.
  What found.apart returns, for whatever is met.
  What tree.find returns, for every device and every root.
  What tree.Map, tree.Nodes, tree.Sector, tree.Check return, for every input.
  The plain mathematics of trees, at last: the page's way and the program's way tell the same. It speaks of no program.
-/
import Derived.Test.YtfflhiajbioheaaGreatJC
import Derived.Test.YtfflhiajbioheaaGreatJB
import Derived.Test.YtfflhiajbioheaaGreatJE
import Derived.Deep.RegionLaw
import Derived.Deep.RegionWith
namespace Wt
open Wn

/-- What a block says, where it says a node. -/
def nd (xs : List Int) (p : Int) : Nod := par (Wd.rdR xs p)
/-- Is there a node of that level? -/
def okN (xs : List Int) (p : Int) (L : Nat) : Bool := parE (Wd.rdR xs p) == 0 && (nd xs p).level == (L : Int)

/-- What has been met: the nodes' blocks, of each sector its block, the sectors' blocks in order. -/
structure St where
  nodes : List Int
  sec : List Int
  dat : List Int

/-- The first k pointers of a node, one behind the other. -/
def go (f : Int → Nat → St → Option St) (n : Nod) (pl : Nat) : Nat → St → Option St
  | 0, s => some s
  | k + 1, s =>
    match go f n pl k s with
    | none => none
    | some t => if pat n k = 0 then some t else f (pat n k) (pl * 8 + k) t

/-- What a pointer of a node of level L leads to. -/
def met (xs : List Int) : Nat → Int → Nat → St → Option St
  | 0, p, pl, s => some ⟨s.nodes, s.sec.set pl p, s.dat ++ [p]⟩
  | L + 1, p, pl, s => if okN xs p L = true then go (met xs L) (nd xs p) pl 8 ⟨s.nodes ++ [p], s.sec, s.dat⟩ else none

theorem met_zero (xs : List Int) (p : Int) (pl : Nat) (s : St) : met xs 0 p pl s = some ⟨s.nodes, s.sec.set pl p, s.dat ++ [p]⟩ := rfl
theorem met_yes {xs : List Int} {L : Nat} {p : Int} (h : okN xs p L = true) (pl : Nat) (s : St) : met xs (L + 1) p pl s = go (met xs L) (nd xs p) pl 8 ⟨s.nodes ++ [p], s.sec, s.dat⟩ := by
  simp [met, h]
theorem met_no {xs : List Int} {L : Nat} {p : Int} (h : okN xs p L = false) (pl : Nat) (s : St) : met xs (L + 1) p pl s = none := by
  simp [met, h]

section
variable {f g : Int → Nat → St → Option St} {n : Nod} {pl : Nat}

theorem go_skip {k : Nat} {s t : St} (h : go f n pl k s = some t) (hp : pat n k = 0) : go f n pl (k + 1) s = some t := by
  simp [go, h, hp]
theorem go_step {k : Nat} {s t : St} (h : go f n pl k s = some t) (hp : ¬ pat n k = 0) : go f n pl (k + 1) s = f (pat n k) (pl * 8 + k) t := by
  simp [go, h, hp]
theorem go_none {k : Nat} {s : St} (h : go f n pl k s = none) : ∀ j, go f n pl (k + j) s = none
  | 0 => h
  | j + 1 => by
    have := go_none h j
    show go f n pl (k + j + 1) s = none
    simp [go, this]

/-- A law that every pointer's way keeps is kept by all. -/
theorem go_keeps {R : St → St → Prop} (hr : ∀ s, R s s) (ht : ∀ a b c, R a b → R b c → R a c) (hf : ∀ k, k < 8 → ∀ s t, ¬ pat n k = 0 → f (pat n k) (pl * 8 + k) s = some t → R s t) :
    ∀ k, k ≤ 8 → ∀ s t, go f n pl k s = some t → R s t
  | 0, _, s, t, h => by
    simp only [go, Option.some.injEq] at h
    subst h
    exact hr s
  | k + 1, hk, s, t, h => by
    cases h1 : go f n pl k s with
    | none => simp [go, h1] at h
    | some u =>
      have h2 := go_keeps hr ht hf k (by omega) s u h1
      by_cases hp : pat n k = 0
      · rw [go_skip h1 hp] at h
        cases h
        exact h2
      · rw [go_step h1 hp] at h
        exact ht s u t h2 (hf k (by omega) u t hp h)

end

/-- More nodes, more sectors' blocks behind the old ones. -/
def Ext (s t : St) : Prop := ∃ a b, t.nodes = s.nodes ++ a ∧ t.dat = s.dat ++ b

theorem Ext.refl (s : St) : Ext s s := ⟨[], [], by simp, by simp⟩
theorem Ext.trans {a b c : St} (h : Ext a b) (k : Ext b c) : Ext a c := by
  obtain ⟨x, y, h1, h2⟩ := h
  obtain ⟨x', y', k1, k2⟩ := k
  exact ⟨x ++ x', y ++ y', by rw [k1, h1, List.append_assoc], by rw [k2, h2, List.append_assoc]⟩

theorem met_ext (xs : List Int) : ∀ (L : Nat) (p : Int) (pl : Nat) (s t : St), met xs L p pl s = some t → Ext s t
  | 0, p, pl, s, t, h => by
    rw [met_zero] at h
    cases h
    exact ⟨[], [p], by simp, rfl⟩
  | L + 1, p, pl, s, t, h => by
    cases ho : okN xs p L
    · rw [met_no ho] at h; cases h
    · rw [met_yes ho] at h
      have h1 := go_keeps (R := Ext) Ext.refl (fun _ _ _ => Ext.trans) (fun _ _ s t _ h => met_ext xs L _ _ s t h) 8 (Nat.le_refl _) _ _ h
      exact Ext.trans ⟨[p], [], rfl, by simp⟩ h1

/-- How many nodes there may be. -/
def room : Nat → Nat
  | 0 => 0
  | L + 1 => 1 + 8 * room L

theorem go_room {f : Int → Nat → St → Option St} {n : Nod} {pl c : Nat} (hf : ∀ p q s t, f p q s = some t → t.nodes.length ≤ s.nodes.length + c) :
    ∀ k s t, go f n pl k s = some t → t.nodes.length ≤ s.nodes.length + k * c
  | 0, s, t, h => by
    simp only [go, Option.some.injEq] at h
    subst h; omega
  | k + 1, s, t, h => by
    cases h1 : go f n pl k s with
    | none => simp [go, h1] at h
    | some u =>
      have h2 := go_room hf k s u h1
      have h3 : (k + 1) * c = k * c + c := Nat.succ_mul k c
      by_cases hp : pat n k = 0
      · rw [go_skip h1 hp] at h
        cases h
        omega
      · rw [go_step h1 hp] at h
        have := hf _ _ _ _ h
        omega

theorem met_room (xs : List Int) : ∀ (L : Nat) (p : Int) (pl : Nat) (s t : St), met xs L p pl s = some t → t.nodes.length ≤ s.nodes.length + room L
  | 0, p, pl, s, t, h => by
    rw [met_zero] at h
    cases h
    simp [room]
  | L + 1, p, pl, s, t, h => by
    cases ho : okN xs p L
    · rw [met_no ho] at h; cases h
    · rw [met_yes ho] at h
      have h1 := go_room (fun p q s t => met_room xs L p q s t) 8 _ _ h
      simp only [List.length_append, List.length_cons, List.length_nil] at h1
      simp only [room]
      omega

theorem go_secLen {f : Int → Nat → St → Option St} {n : Nod} {pl : Nat} (hf : ∀ p q s t, f p q s = some t → t.sec.length = s.sec.length) (k : Nat) (hk : k ≤ 8) (s t : St) (h : go f n pl k s = some t) : t.sec.length = s.sec.length :=
  go_keeps (R := fun s t => t.sec.length = s.sec.length) (fun _ => rfl) (fun _ _ _ a b => b.trans a) (fun _ _ s t _ h => hf _ _ s t h) k hk s t h

theorem met_secLen (xs : List Int) : ∀ (L : Nat) (p : Int) (pl : Nat) (s t : St), met xs L p pl s = some t → t.sec.length = s.sec.length
  | 0, p, pl, s, t, h => by
    rw [met_zero] at h
    cases h
    simp
  | L + 1, p, pl, s, t, h => by
    cases ho : okN xs p L
    · rw [met_no ho] at h; cases h
    · rw [met_yes ho] at h
      exact go_secLen (met_secLen xs L) 8 (Nat.le_refl _) ⟨s.nodes ++ [p], s.sec, s.dat⟩ t h

end Wt
namespace Wt
open Wn

theorem okN_nod {xs : List Int} {p : Int} {L : Nat} (h : okN xs p L = true) : nodB (nd xs p) = true ∧ (0 ≤ p ∧ p < ((xs.length / 64 : Nat) : Int)) ∧ Wd.devB xs.length = true ∧ parE (Wd.rdR xs p) = 0 ∧ (nd xs p).level = (L : Int) := by
  have h1 : parE (Wd.rdR xs p) = 0 ∧ (nd xs p).level = (L : Int) := by simpa [okN] using h
  obtain ⟨hl, -, hn⟩ := parE_zero h1.1
  have hr : Wd.rdE xs.length p = 0 := by
    apply Classical.byContradiction
    intro hne
    have : Wd.rdR xs p = [] := by unfold Wd.rdR; rw [if_neg hne]
    rw [this] at hl
    simp at hl
  unfold Wd.rdE at hr
  cases hd : Wd.devB xs.length
  · rw [hd] at hr; simp at hr
  · rw [hd] at hr
    simp only [if_true] at hr
    by_cases hp : 0 ≤ p ∧ p < (xs.length : Int) / 64
    · exact ⟨hn, by omega, rfl, h1.1, h1.2⟩
    · rw [if_neg hp] at hr; omega

theorem pat_link {n : Nod} (h : nodB n = true) {k : Nat} (hk : k < 8) : pat n k = 0 ∨ 2 ≤ pat n k := by
  have := (nodB_iff.1 h).2.1 _ (pat_mem n hk)
  omega

/-- All nodes met lie on the device. -/
theorem met_nodes (xs : List Int) : ∀ (L : Nat) (p : Int) (pl : Nat) (s t : St), met xs L p pl s = some t → (∀ x ∈ s.nodes, 0 ≤ x ∧ x < ((xs.length / 64 : Nat) : Int)) → ∀ x ∈ t.nodes, 0 ≤ x ∧ x < ((xs.length / 64 : Nat) : Int)
  | 0, p, pl, s, t, h, hs => by
    rw [met_zero] at h
    cases h
    exact hs
  | L + 1, p, pl, s, t, h, hs => by
    cases ho : okN xs p L
    · rw [met_no ho] at h; cases h
    · rw [met_yes ho] at h
      refine go_keeps (R := fun s t => (∀ x ∈ s.nodes, 0 ≤ x ∧ x < ((xs.length / 64 : Nat) : Int)) → ∀ x ∈ t.nodes, 0 ≤ x ∧ x < ((xs.length / 64 : Nat) : Int)) (fun _ h => h) (fun _ _ _ a b h => b (a h)) (fun _ _ s t _ h => met_nodes xs L _ _ s t h) 8 (Nat.le_refl _) _ _ h ?_
      intro x hx
      rcases List.mem_append.1 hx with hx | hx
      · exact hs x hx
      · have : x = p := by simpa using hx
        subst this
        exact (okN_nod ho).2.1

/-- All sectors' blocks are from 0 on. -/
theorem met_pos (xs : List Int) : ∀ (L : Nat) (p : Int) (pl : Nat) (s t : St), met xs L p pl s = some t → 0 ≤ p → (∀ x ∈ s.sec, 0 ≤ x) → ∀ x ∈ t.sec, 0 ≤ x
  | 0, p, pl, s, t, h, hp, hs => by
    rw [met_zero] at h
    cases h
    intro x hx
    rcases List.mem_or_eq_of_mem_set hx with h | h
    · exact hs x h
    · omega
  | L + 1, p, pl, s, t, h, hp, hs => by
    cases ho : okN xs p L
    · rw [met_no ho] at h; cases h
    · rw [met_yes ho] at h
      exact go_keeps (R := fun s t => (∀ x ∈ s.sec, 0 ≤ x) → ∀ x ∈ t.sec, 0 ≤ x) (fun _ h => h) (fun _ _ _ a b h => b (a h)) (fun _ hk s t _ h => met_pos xs L _ _ s t h (nodB_pat (okN_nod ho).1 hk).1) 8 (Nat.le_refl _) _ _ h hs

theorem met_root {xs : List Int} {L : Nat} {p : Int} {pl : Nat} {s t : St} (h : met xs (L + 1) p pl s = some t) : ∃ a, t.nodes = s.nodes ++ p :: a := by
  cases ho : okN xs p L
  · rw [met_no ho] at h; cases h
  · rw [met_yes ho] at h
    obtain ⟨a, b, h1, -⟩ := go_keeps (R := Ext) Ext.refl (fun _ _ _ => Ext.trans) (fun _ _ s t _ h => met_ext xs L _ _ s t h) 8 (Nat.le_refl _) _ _ h
    exact ⟨a, by rw [h1]; simp⟩

/-! The page's way: it looks at marks as it goes. -/

/-- What the page's way makes of a pointer. -/
def rmet (xs : List Int) (N : Int) : Nat → Int → Nat → St → Option St
  | 0, p, pl, s => if p < N then some ⟨s.nodes, s.sec.set pl p, s.dat ++ [p]⟩ else none
  | L + 1, p, pl, s => if p < N ∧ ¬ p ∈ s.nodes ∧ okN xs p L = true then go (rmet xs N L) (nd xs p) pl 8 ⟨s.nodes ++ [p], s.sec, s.dat⟩ else none

/-- Each node once, all sectors' blocks on the device. -/
def Good (N : Int) (s : St) : Prop := s.nodes.Nodup ∧ ∀ x ∈ s.dat, x < N

theorem Good.of_ext {N : Int} {s t : St} (h : Good N t) (e : Ext s t) : Good N s := by
  obtain ⟨a, b, h1, h2⟩ := e
  obtain ⟨g1, g2⟩ := h
  rw [h1] at g1
  exact ⟨(List.nodup_append.1 g1).1, fun x hx => g2 x (by rw [h2]; exact List.mem_append_left _ hx)⟩

theorem rmet_met (xs : List Int) (N : Int) : ∀ (L : Nat) (p : Int) (pl : Nat) (s t : St), rmet xs N L p pl s = some t → met xs L p pl s = some t
  | 0, p, pl, s, t, h => by
    unfold rmet at h
    by_cases hp : p < N
    · rw [if_pos hp] at h; exact h
    · rw [if_neg hp] at h; cases h
  | L + 1, p, pl, s, t, h => by
    unfold rmet at h
    by_cases hp : p < N ∧ ¬ p ∈ s.nodes ∧ okN xs p L = true
    · rw [if_pos hp] at h
      rw [met_yes hp.2.2]
      have gen : ∀ k s t, go (rmet xs N L) (nd xs p) pl k s = some t → go (met xs L) (nd xs p) pl k s = some t := by
        intro k
        induction k with
        | zero => intro s t h; exact h
        | succ k ih =>
          intro s t h
          cases h1 : go (rmet xs N L) (nd xs p) pl k s with
          | none => simp [go, h1] at h
          | some u =>
            have h2 := ih s u h1
            by_cases hz : pat (nd xs p) k = 0
            · rw [go_skip h1 hz] at h
              rw [go_skip h2 hz]; exact h
            · rw [go_step h1 hz] at h
              rw [go_step h2 hz]
              exact rmet_met xs N L _ _ u t h
      exact gen 8 _ t h
    · rw [if_neg hp] at h; cases h

theorem nodup_snoc {l : List Int} {x : Int} : (l ++ [x]).Nodup ↔ l.Nodup ∧ ¬ x ∈ l := by
  rw [List.nodup_append]
  constructor
  · rintro ⟨h1, -, h3⟩
    exact ⟨h1, fun hx => h3 x hx x (by simp) rfl⟩
  · rintro ⟨h1, h2⟩
    refine ⟨h1, by simp, fun a ha b hb e => ?_⟩
    have : b = x := by simpa using hb
    subst this
    subst e
    exact h2 ha

theorem rmet_good (xs : List Int) (N : Int) : ∀ (L : Nat) (p : Int) (pl : Nat) (s t : St), rmet xs N L p pl s = some t → Good N s → Good N t
  | 0, p, pl, s, t, h, hg => by
    unfold rmet at h
    by_cases hp : p < N
    · rw [if_pos hp] at h
      cases h
      refine ⟨hg.1, fun x hx => ?_⟩
      rcases List.mem_append.1 hx with hx | hx
      · exact hg.2 x hx
      · have : x = p := by simpa using hx
        omega
    · rw [if_neg hp] at h; cases h
  | L + 1, p, pl, s, t, h, hg => by
    unfold rmet at h
    by_cases hp : p < N ∧ ¬ p ∈ s.nodes ∧ okN xs p L = true
    · rw [if_pos hp] at h
      refine go_keeps (R := fun s t => Good N s → Good N t) (fun _ h => h) (fun _ _ _ a b h => b (a h)) (fun _ _ s t _ h => rmet_good xs N L _ _ s t h) 8 (Nat.le_refl _) _ _ h ?_
      exact ⟨nodup_snoc.2 ⟨hg.1, hp.2.1⟩, hg.2⟩
    · rw [if_neg hp] at h; cases h

theorem met_rmet (xs : List Int) (N : Int) (hN : N = ((xs.length / 64 : Nat) : Int)) : ∀ (L : Nat) (p : Int) (pl : Nat) (s t : St), met xs L p pl s = some t → Good N t → rmet xs N L p pl s = some t
  | 0, p, pl, s, t, h, hg => by
    rw [met_zero] at h
    cases h
    unfold rmet
    rw [if_pos (hg.2 p (by simp))]
  | L + 1, p, pl, s, t, h, hg => by
    cases ho : okN xs p L
    · rw [met_no ho] at h; cases h
    · rw [met_yes ho] at h
      have gen : ∀ k s t, go (met xs L) (nd xs p) pl k s = some t → Good N t → go (rmet xs N L) (nd xs p) pl k s = some t ∧ Good N s := by
        intro k
        induction k with
        | zero =>
          intro s t h hg
          simp only [go, Option.some.injEq] at h
          subst h
          exact ⟨rfl, hg⟩
        | succ k ih =>
          intro s t h hg
          cases h1 : go (met xs L) (nd xs p) pl k s with
          | none => simp [go, h1] at h
          | some u =>
            by_cases hz : pat (nd xs p) k = 0
            · rw [go_skip h1 hz] at h
              cases h
              have h2 := ih s t h1 hg
              exact ⟨go_skip h2.1 hz, h2.2⟩
            · rw [go_step h1 hz] at h
              have hgu := hg.of_ext (met_ext xs L _ _ u t h)
              have h2 := ih s u h1 hgu
              refine ⟨?_, h2.2⟩
              rw [go_step h2.1 hz]
              exact met_rmet xs N hN L _ _ u t h hg
      have h2 := gen 8 _ t h hg
      have h3 := nodup_snoc.1 h2.2.1
      have h4 := (okN_nod ho).2.1.2
      unfold rmet
      rw [if_pos ⟨by omega, h3.2, ho⟩]
      exact h2.1

/-! Where each sector's block comes from. -/

/-- From a pointer of a node of level L down to the r-th sector below it. -/
def look (xs : List Int) : Nat → Int → Nat → Int
  | 0, p, _ => p
  | L + 1, p, r => if pat (nd xs p) (r / 8 ^ L) = 0 then 0 else look xs L (pat (nd xs p) (r / 8 ^ L)) (r % 8 ^ L)

theorem div_split (i D pl k : Nat) (hk : k < 8) : i / D = pl * 8 + k ↔ i / (D * 8) = pl ∧ i % (D * 8) / D = k := by
  rw [← Nat.div_div_eq_div_mul, Nat.mod_mul_right_div_self]
  omega

theorem mod_split (i D : Nat) : i % (D * 8) % D = i % D := Nat.mod_mul_right_mod _ _ _

theorem met_sec (xs : List Int) : ∀ (L : Nat) (p : Int) (pl : Nat) (s t : St), met xs L p pl s = some t → ¬ p = 0 → (pl + 1) * 8 ^ L ≤ s.sec.length →
    ∀ i, t.sec.getD i 0 = if i / 8 ^ L = pl ∧ ¬ look xs L p (i % 8 ^ L) = 0 then look xs L p (i % 8 ^ L) else s.sec.getD i 0
  | 0, p, pl, s, t, h, hp, hl, i => by
    rw [met_zero] at h
    cases h
    simp only [Nat.pow_zero, Nat.div_one, look, Nat.mul_one] at *
    by_cases e : i = pl
    · subst e
      rw [if_pos ⟨rfl, hp⟩, List.getD_eq_getElem?_getD, List.getElem?_set_self (by omega)]; rfl
    · rw [if_neg (fun h => e h.1), List.getD_eq_getElem?_getD, List.getD_eq_getElem?_getD, List.getElem?_set_ne (by omega)]
  | L + 1, p, pl, s, t, h, hp, hl, i => by
    cases ho : okN xs p L
    · rw [met_no ho] at h; cases h
    · rw [met_yes ho] at h
      have hD : 0 < 8 ^ L := Nat.pos_of_ne_zero (by simp)
      have gen : ∀ k, k ≤ 8 → ∀ u : St, go (met xs L) (nd xs p) pl k ⟨s.nodes ++ [p], s.sec, s.dat⟩ = some u → ∀ i, u.sec.getD i 0 = if i / 8 ^ (L + 1) = pl ∧ i % 8 ^ (L + 1) / 8 ^ L < k ∧ ¬ look xs (L + 1) p (i % 8 ^ (L + 1)) = 0 then look xs (L + 1) p (i % 8 ^ (L + 1)) else s.sec.getD i 0 := by
        intro k
        induction k with
        | zero =>
          intro _ u hu i
          simp only [go, Option.some.injEq] at hu
          subst hu
          rw [if_neg (fun h => Nat.not_lt_zero _ h.2.1)]
        | succ k ih =>
          intro hk u hu i
          cases h1 : go (met xs L) (nd xs p) pl k ⟨s.nodes ++ [p], s.sec, s.dat⟩ with
          | none => simp [go, h1] at hu
          | some y =>
            have h2 := ih (by omega) y h1 i
            have hyl : y.sec.length = s.sec.length := go_secLen (met_secLen xs L) k (by omega) ⟨s.nodes ++ [p], s.sec, s.dat⟩ y h1
            have hlk : i % 8 ^ (L + 1) / 8 ^ L = k → look xs (L + 1) p (i % 8 ^ (L + 1)) = if pat (nd xs p) k = 0 then 0 else look xs L (pat (nd xs p) k) (i % 8 ^ L) := by
              intro e
              simp only [look]
              rw [e, Nat.pow_succ, mod_split]
            by_cases hz : pat (nd xs p) k = 0
            · rw [go_skip h1 hz] at hu
              cases hu
              rw [h2]
              by_cases e : i % 8 ^ (L + 1) / 8 ^ L = k
              · have := hlk e
                rw [if_pos hz] at this
                rw [if_neg (fun h => h.2.2 this), if_neg (fun h => h.2.2 this)]
              · by_cases e2 : i / 8 ^ (L + 1) = pl ∧ i % 8 ^ (L + 1) / 8 ^ L < k ∧ ¬ look xs (L + 1) p (i % 8 ^ (L + 1)) = 0
                · rw [if_pos e2, if_pos ⟨e2.1, by omega, e2.2.2⟩]
                · rw [if_neg e2, if_neg (fun h => e2 ⟨h.1, by omega, h.2.2⟩)]
            · rw [go_step h1 hz] at hu
              have h3 := met_sec xs L _ _ y u hu hz (by
                rw [hyl]
                have h4 : (pl * 8 + k + 1) * 8 ^ L ≤ (pl * 8 + 8) * 8 ^ L := Nat.mul_le_mul_right _ (by omega)
                have h5 : (pl * 8 + 8) * 8 ^ L = (pl + 1) * 8 ^ (L + 1) := by rw [show pl * 8 + 8 = (pl + 1) * 8 by omega, Nat.mul_assoc, Nat.pow_succ, Nat.mul_comm 8]
                omega) i
              have hds := div_split i (8 ^ L) pl k (by omega)
              rw [← Nat.pow_succ] at hds
              rw [h3]
              by_cases e : i / 8 ^ (L + 1) = pl ∧ i % 8 ^ (L + 1) / 8 ^ L = k
              · have h6 := hlk e.2
                rw [if_neg hz] at h6
                by_cases h7 : look xs L (pat (nd xs p) k) (i % 8 ^ L) = 0
                · rw [if_neg (fun h => h.2 h7), h2, h6, h7]
                  rw [if_neg (fun h => h.2.2 rfl), if_neg (fun h => h.2.2 rfl)]
                · rw [if_pos ⟨hds.2 e, h7⟩, h6, if_pos ⟨e.1, by omega, h7⟩]
              · rw [if_neg (fun h => e (hds.1 h.1)), h2]
                by_cases e2 : i / 8 ^ (L + 1) = pl ∧ i % 8 ^ (L + 1) / 8 ^ L < k ∧ ¬ look xs (L + 1) p (i % 8 ^ (L + 1)) = 0
                · rw [if_pos e2, if_pos ⟨e2.1, by omega, e2.2.2⟩]
                · rw [if_neg e2, if_neg (fun h => e2 ⟨h.1, by
                    have := h.2.1
                    have hne : ¬ i % 8 ^ (L + 1) / 8 ^ L = k := fun e' => e ⟨h.1, e'⟩
                    omega, h.2.2⟩)]
      have h8 := gen 8 (Nat.le_refl _) t h i
      rw [h8]
      have hlt : i % 8 ^ (L + 1) / 8 ^ L < 8 := by
        rw [Nat.div_lt_iff_lt_mul hD, Nat.mul_comm, ← Nat.pow_succ]
        exact Nat.mod_lt _ (Nat.pos_of_ne_zero (by simp))
      by_cases e2 : i / 8 ^ (L + 1) = pl ∧ ¬ look xs (L + 1) p (i % 8 ^ (L + 1)) = 0
      · rw [if_pos e2, if_pos ⟨e2.1, hlt, e2.2⟩]
      · rw [if_neg e2, if_neg (fun h => e2 ⟨h.1, h.2.2⟩)]

/-- The sectors' blocks in order are those that a look finds. -/
theorem met_dat (xs : List Int) : ∀ (L : Nat) (p : Int) (pl : Nat) (s t : St), met xs L p pl s = some t → ¬ p = 0 → ∀ d, d ∈ t.dat ↔ d ∈ s.dat ∨ (¬ d = 0 ∧ ∃ r, r < 8 ^ L ∧ look xs L p r = d)
  | 0, p, pl, s, t, h, hp, d => by
    rw [met_zero] at h
    cases h
    simp only [List.mem_append, List.mem_singleton, look, Nat.pow_zero]
    constructor
    · rintro (h | rfl)
      · exact .inl h
      · exact .inr ⟨hp, 0, by omega, rfl⟩
    · rintro (h | ⟨-, r, -, rfl⟩)
      · exact .inl h
      · exact .inr rfl
  | L + 1, p, pl, s, t, h, hp, d => by
    cases ho : okN xs p L
    · rw [met_no ho] at h; cases h
    · rw [met_yes ho] at h
      have hD : 0 < 8 ^ L := Nat.pos_of_ne_zero (by simp)
      have gen : ∀ k, k ≤ 8 → ∀ u : St, go (met xs L) (nd xs p) pl k ⟨s.nodes ++ [p], s.sec, s.dat⟩ = some u → (d ∈ u.dat ↔ d ∈ s.dat ∨ (¬ d = 0 ∧ ∃ r, r < k * 8 ^ L ∧ look xs (L + 1) p r = d)) := by
        intro k
        induction k with
        | zero =>
          intro _ u hu
          simp only [go, Option.some.injEq] at hu
          subst hu
          simp
        | succ k ih =>
          intro hk u hu
          cases h1 : go (met xs L) (nd xs p) pl k ⟨s.nodes ++ [p], s.sec, s.dat⟩ with
          | none => simp [go, h1] at hu
          | some y =>
            have h2 := ih (by omega) y h1
            have hmul : (k + 1) * 8 ^ L = k * 8 ^ L + 8 ^ L := Nat.succ_mul _ _
            have hlk : ∀ q, q < 8 ^ L → look xs (L + 1) p (k * 8 ^ L + q) = if pat (nd xs p) k = 0 then 0 else look xs L (pat (nd xs p) k) q := by
              intro q hq
              simp only [look]
              have e1 : (k * 8 ^ L + q) / 8 ^ L = k := by
                rw [Nat.mul_comm, Nat.mul_add_div hD, Nat.div_eq_of_lt hq]; omega
              have e2 : (k * 8 ^ L + q) % 8 ^ L = q := by
                rw [Nat.mul_comm, Nat.mul_add_mod, Nat.mod_eq_of_lt hq]
              rw [e1, e2]
            have hsplit : (∃ r, r < (k + 1) * 8 ^ L ∧ look xs (L + 1) p r = d) ↔ (∃ r, r < k * 8 ^ L ∧ look xs (L + 1) p r = d) ∨ ∃ q, q < 8 ^ L ∧ look xs (L + 1) p (k * 8 ^ L + q) = d := by
              constructor
              · rintro ⟨r, hr, e⟩
                by_cases hlt : r < k * 8 ^ L
                · exact .inl ⟨r, hlt, e⟩
                · exact .inr ⟨r - k * 8 ^ L, by omega, by rw [show k * 8 ^ L + (r - k * 8 ^ L) = r by omega]; exact e⟩
              · rintro (⟨r, hr, e⟩ | ⟨q, hq, e⟩)
                · exact ⟨r, by omega, e⟩
                · exact ⟨_, by omega, e⟩
            by_cases hz : pat (nd xs p) k = 0
            · rw [go_skip h1 hz] at hu
              cases hu
              rw [h2, hsplit]
              constructor
              · rintro (h | ⟨h0, h⟩)
                · exact .inl h
                · exact .inr ⟨h0, .inl h⟩
              · rintro (h | ⟨h0, h | ⟨q, hq, e⟩⟩)
                · exact .inl h
                · exact .inr ⟨h0, h⟩
                · rw [hlk q hq, if_pos hz] at e
                  exact absurd e.symm h0
            · rw [go_step h1 hz] at hu
              rw [met_dat xs L _ _ y u hu hz d, h2, hsplit]
              constructor
              · rintro ((h | ⟨h0, h⟩) | ⟨h0, q, hq, e⟩)
                · exact .inl h
                · exact .inr ⟨h0, .inl h⟩
                · exact .inr ⟨h0, .inr ⟨q, hq, by rw [hlk q hq, if_neg hz]; exact e⟩⟩
              · rintro (h | ⟨h0, h | ⟨q, hq, e⟩⟩)
                · exact .inl (.inl h)
                · exact .inl (.inr ⟨h0, h⟩)
                · rw [hlk q hq, if_neg hz] at e
                  exact .inr ⟨h0, q, hq, e⟩
      have h8 := gen 8 (Nat.le_refl _) t h
      rw [h8, Nat.pow_succ, Nat.mul_comm 8]

end Wt
namespace Wt
open Go Go.RowKit

/-- A block of so many that is no slot's. -/
def bsB (p n : Int) : Bool := decide (2 ≤ p) && decide (p < n)
theorem bsB_iff {p n : Int} : bsB p n = true ↔ 2 ≤ p ∧ p < n := by simp [bsB]

end Wt
namespace Go.Proofs.YtfflhiajbioheaaGreat
open Go.RowKit

set_option maxHeartbeats 400000 in
theorem behind_any (p n : Int) (w : World) :
    Calls Tryz.prog 102 #[.int .i64 p, .int .i64 n] w fun e w' => e = .returned (.bool (Wt.bsB p n)) ∧ w = w' := by
  go_enter Tryz.func102, Tryz.ntmps102
  go_wp2
  all_goals go_ret
  all_goals (refine ⟨ret_bool ?_, rfl⟩; rw [Bool.eq_iff_iff]; simp [Wt.bsB]; try omega)

theorem ret_cell52 {fn : Func} {tmps : Array Value} {w : World} {B : Nat} {s : Wn.Nod} {v : Value} (hr : fn.results = #[.cell 4 133, .tmp 5]) (hp : tmps.getD 4 undef = .pointer (some ⟨B, 0, none⟩)) (hv : tmps.getD 5 undef = v) (h : Nc w B s) :
    (results fn tmps).run Tryz.prog w = .ok (.tuple #[nv s, v]) w := by
  obtain ⟨c, c0, c1, c2, c3, c4, c5, c6, c7⟩ := h
  rw [results_cell_tmp hr, hp, hv]
  simp [go_sem, c, c0, c1, c2, c3, c4, c5, c6, c7, nv]

theorem rd_fail {xs : List Int} {p : Int} (h : ¬ Wd.rdE xs.length p = 0) : Wd.rdR xs p = [] := by
  unfold Wd.rdR; rw [if_neg h]

set_option maxHeartbeats 1600000 in
theorem tread_any (v : Value) (p : Int) (xs : List Int) (w : World) (hv : Wc.Bs w v xs) :
    Calls Tryz.prog 105 #[v, .int .i64 p] w fun e w' => e = .returned (.tuple #[nv (Wt.nd xs p), .bool (Wn.parE (Wd.rdR xs p) == 0)]) ∧ Below w.heap.size w w' := by
  obtain ⟨ai, ni, ci, rfl, -⟩ := id hv
  have H0 := Wc.hid (hv.alloc (.cells #[.int .i64 0, .int .i64 0, .int .i64 0, .int .i64 0, .int .i64 0, .int .i64 0, .int .i64 0, .int .i64 0, .int .i64 0] 133))
  clear hv
  have C0 := Wc.hid (Nh.new w Wn.n0)
  by_cases hz : Wd.rdE xs.length p = 0
  · have HZ := Wc.hid hz
    clear hz
    go_enter Tryz.func105, Tryz.ntmps105
    go_wp2_with fail
    refine (read_any ai ni ci p xs _ H0.out).mono ?_
    rintro e w1 ⟨ax, cx, rfl, hv1, hb1⟩
    rw [HZ.out]
    go_wp2_with fail
    refine (parse7_any _ _ _ hv1).mono ?_
    rintro e w2 ⟨rfl, hb2⟩
    obtain ⟨n, hn⟩ : ∃ n, Wn.par (Wd.rdR xs p) = n := ⟨_, rfl⟩
    obtain ⟨E, hE⟩ : ∃ E, Wn.parE (Wd.rdR xs p) = E := ⟨_, rfl⟩
    rw [hn, hE]
    have HN := Wc.hid hn
    have HE := Wc.hid hE
    clear hn hE
    unfold nv
    have C2 := Wc.hid (((C0.out.keep hb1).keep hb2).keep ((Below.refl _ _).alloc (Nat.le_refl _) (.cells #[.int .i64 n.level, .int .i64 n.p0, .int .i64 n.p1, .int .i64 n.p2, .int .i64 n.p3, .int .i64 n.p4, .int .i64 n.p5, .int .i64 n.p6, .int .i64 n.p7] 133)))
    have ⟨d, d0, d1, d2, d3, d4, d5, d6, d7⟩ := (Nh.new w2 n).nc
    have ⟨c, c0, c1, c2, c3, c4, c5, c6, c7⟩ := C2.out.nc
    have hf := C2.out.frozen
    have HB := Wc.hid ((Wc.step (Wc.step ((Below.refl w.heap.size w).alloc (Nat.le_refl _) _) (Nat.le_refl _) hb1) (Nat.le_refl _) hb2))
    clear hb1 hb2 hv1
    go_wp2_with fail
    have H9 := C2.out.over n
    exact bodyPost_ret (ret_cell52 rfl rfl rfl H9.nc) rfl ⟨by unfold Wt.nd; rw [HN.out, HE.out]; rfl, below9 (HB.out.alloc HB.out.size _) (Nat.le_refl _) n⟩
  · have e1 := rd_fail hz
    have HZ := Wc.hid hz
    obtain ⟨E, hE⟩ : ∃ E, Wd.rdE xs.length p = E := ⟨_, rfl⟩
    rw [hE] at hz
    have hz' : (E != 0) = true := by simpa using hz
    have HE := Wc.hid hE
    clear hE hz
    go_enter Tryz.func105, Tryz.ntmps105
    go_wp2_with fail
    refine (read_any ai ni ci p xs _ H0.out).mono ?_
    rintro e w1 ⟨ax, cx, rfl, hv1, hb1⟩
    rw [HE.out]
    have C2 := Wc.hid (C0.out.keep hb1)
    have ⟨c, c0, c1, c2, c3, c4, c5, c6, c7⟩ := C2.out.nc
    have hf := C2.out.frozen
    have HB := Wc.hid (Wc.step ((Below.refl w.heap.size w).alloc (Nat.le_refl _) _) (Nat.le_refl _) hb1)
    clear hb1 hv1
    go_wp2_with fail
    have H9 := C2.out.over Wn.n0
    exact bodyPost_ret (ret_cell52 rfl rfl rfl H9.nc) rfl ⟨by unfold Wt.nd; rw [e1]; rfl, below9 HB.out (Nat.le_refl _) Wn.n0⟩

end Go.Proofs.YtfflhiajbioheaaGreat
namespace Go.Proofs.YtfflhiajbioheaaGreat
open Go.RowKit

/-- The block B is what has been met so far: its nodes lie in memory of the call's own from the block nb on, its sectors in the block g. -/
def Fo (w : World) (B g nb : Nat) (s : Wt.St) : Prop :=
  ∃ a n c, w.heap[B]? = some (.cells #[.slice a n c, .slice (some ⟨g, 0, none⟩) 512 512] 123 (0, 0)) ∧ Wv.Ov (Value.int .i64) 3 nb w (.slice a n c) s.nodes ∧ w.rowIs g 3 512 (fun j => .int .i64 (s.sec.getD j 0)) ∧ s.sec.length = 512 ∧ B < nb ∧ g < nb ∧ B ≠ g ∧ nb ≤ w.heap.size

theorem Fo.keep {w w' : World} {B g nb : Nat} {s : Wt.St} (h : Fo w B g nb s) (hb : Below w.heap.size w w') : Fo w' B g nb s := by
  obtain ⟨a, n, c, h1, h2, h3, h4, h5, h6, h7, h8⟩ := h
  exact ⟨a, n, c, by rw [hb.block B (by omega)]; exact h1, h2.keep hb, h3.of_block (hb.block g (by omega)), h4, h5, h6, h7, Nat.le_trans h8 hb.size⟩

/-- A sector's block is laid down. -/
theorem Fo.sec {w : World} {B g nb : Nat} {s : Wt.St} (h : Fo w B g nb s) (pl : Nat) (p : Int) (d : List Int) : Fo (w.setCell ⟨g, pl, none⟩ (.int .i64 p)) B g nb ⟨s.nodes, s.sec.set pl p, d⟩ := by
  obtain ⟨a, n, c, h1, h2, h3, h4, h5, h6, h7, h8⟩ := h
  refine ⟨a, n, c, by rw [heap_setCell_other _ _ _ _ h7]; exact h1, ⟨ownsRow_setCell_below h2.1 h6 _, h2.2⟩, (h3.set pl _).congr fun j hj => ?_, by simpa using h4, h5, h6, h7, by simpa using h8⟩
  by_cases e : j = pl
  · subst e; rw [if_pos rfl]; simp [h4, hj]
  · rw [if_neg e]
    rw [List.getD_eq_getElem?_getD, List.getD_eq_getElem?_getD, List.getElem?_set_ne (by omega)]

theorem heap_two {w : World} {B : Nat} {x y : Value} {T : TypeId} (h : w.heap[B]? = some (.cells #[x, y] T (0, 0))) (z : Value) : (w.setCell ⟨B, 0, none⟩ z).heap[B]? = some (.cells #[z, y] T (0, 0)) := by
  have := heap_setCell_same w B 0 _ T z h
  simpa using this

/-- A node is put behind the others. -/
theorem Fo.push {w w' : World} {B g nb : Nat} {s : Wt.St} (h : Fo w B g nb s) (hb : Below nb w w') {a : Option Addr} {n c : Nat} {l : List Int} (hO : Wv.Ov (Value.int .i64) 3 nb w' (.slice a n c) l) (d : List Int) :
    Fo (w'.setCell ⟨B, 0, none⟩ (.slice a n c)) B g nb ⟨l, s.sec, d⟩ := by
  obtain ⟨a', n', c', h1, h2, h3, h4, h5, h6, h7, h8⟩ := h
  refine ⟨a, n, c, heap_two (x := .slice a' n' c') (by rw [hb.block B h5]; exact h1) _, ⟨ownsRow_setCell_below hO.1 h5 _, hO.2⟩, (h3.of_block (hb.block g h6)).setOther (a := ⟨B, 0, none⟩) (fun e => h7 e.symm) _, h4, h5, h6, h7, ?_⟩
  have := hb.size
  simp; omega

theorem Fo.cells {w : World} {B g nb : Nat} {s : Wt.St} (h : Fo w B g nb s) :
    ∃ a n c, w.cell? ⟨B, 0, none⟩ = some (.slice a n c) ∧ w.cell? ⟨B, 1, none⟩ = some (.slice (some ⟨g, 0, none⟩) 512 512) ∧ (∀ i, w.frozen? ⟨B, i, none⟩ = false) ∧ Wv.Ov (Value.int .i64) 3 nb w (.slice a n c) s.nodes := by
  obtain ⟨a, n, c, h1, h2, -⟩ := h
  exact ⟨a, n, c, by simp [World.cell?, h1], by simp [World.cell?, h1], fun i => by simp [World.frozen?, h1], h2⟩

theorem Fo.row {w : World} {B g nb : Nat} {s : Wt.St} (h : Fo w B g nb s) : w.rowIs g 3 512 (fun j => .int .i64 (s.sec.getD j 0)) ∧ s.sec.length = 512 ∧ B < nb ∧ g < nb ∧ B ≠ g ∧ nb ≤ w.heap.size := by
  obtain ⟨a, n, c, h1, h2, h3, h4, h5, h6, h7, h8⟩ := h
  exact ⟨h3, h4, h5, h6, h7, h8⟩

/-- What meet does at a level. -/
def MeetOk (xs : List Int) (v : Value) (w0 : World) (B g nb L : Nat) : Prop :=
  ∀ (p l q : Int) (pl : Nat) (s : Wt.St) (w : World), l = L → q = pl → (pl + 1) * 8 ^ L ≤ 512 → s.nodes.length + Wt.room L ≤ 1000 → Below w0.heap.size w0 w → Fo w B g nb s →
    Calls Tryz.prog 106 #[.pointer (some ⟨B, 0, none⟩), v, .int .i64 p, .int .i64 l, .int .i64 q] w fun e w' => e = .returned (.bool (Wt.met xs L p pl s).isSome) ∧ Below w0.heap.size w0 w' ∧ ∀ t, Wt.met xs L p pl s = some t → Fo w' B g nb t

/-- What follow does at a level. -/
def FollowOk (xs : List Int) (v : Value) (w0 : World) (B g nb L : Nat) : Prop :=
  ∀ (p l q : Int) (pl : Nat) (s : Wt.St) (w : World), l = L → q = pl → (pl + 1) * 8 ^ (L + 1) ≤ 512 → s.nodes.length + Wt.room (L + 1) ≤ 1000 → Below w0.heap.size w0 w → Fo w B g nb s →
    Calls Tryz.prog 103 #[.pointer (some ⟨B, 0, none⟩), v, .int .i64 p, .int .i64 l, .int .i64 q] w fun e w' => e = .returned (.bool (Wt.met xs (L + 1) p pl s).isSome) ∧ Below w0.heap.size w0 w' ∧ ∀ t, Wt.met xs (L + 1) p pl s = some t → Fo w' B g nb t

set_option maxHeartbeats 1600000 in
theorem meet_zero (xs : List Int) (v : Value) (w0 : World) (B g nb : Nat) (hg : w0.heap.size ≤ g) : MeetOk xs v w0 B g nb 0 := by
  intro p l q pl s w hl hq hpl hr hb hF
  subst hq
  have hl0 : l = 0 := by simpa using hl
  subst hl0
  have hp5 : pl < 512 := by rw [Nat.pow_zero] at hpl; omega
  obtain ⟨a, n, c, c0, c1, cf, -⟩ := hF.cells
  have hc := (hF.row.1).cell hp5
  have hf := (hF.row.1).frozen pl
  have HF := Wc.hid hF
  have HB := Wc.hid hb
  clear hF hb hr hpl hl
  rw [Wt.met_zero]
  go_enter Tryz.func106, Tryz.ntmps106
  go_wp2_with fail
  go_ret
  refine ⟨rfl, HB.out.setCell hg _, fun t ht => ?_⟩
  cases ht
  exact HF.out.sec pl p _

set_option maxHeartbeats 1600000 in
theorem meet_succ (xs : List Int) (v : Value) (w0 : World) (B g nb L : Nat) (hL : L ≤ 2) (hF : FollowOk xs v w0 B g nb L) : MeetOk xs v w0 B g nb (L + 1) := by
  intro p l q pl s w hl hq hpl hr hb hFo
  have HF := Wc.hid hF
  have h1 : 0 < l := by omega
  have h2 : l ≤ 3 := by omega
  have HL : Hid (l - 1 = (L : Int)) := Wc.hid (by omega)
  have HB := Wc.hid hb
  have HO := Wc.hid hFo
  have HQ := Wc.hid hq
  clear hF hb hFo hl hq
  go_enter Tryz.func106, Tryz.ntmps106
  go_wp2_with fail
  refine (HF.out p (l - 1) q pl s w HL.out HQ.out hpl hr HB.out HO.out).mono ?_
  rintro e w' ⟨rfl, hb', hK⟩
  have HK := Wc.hid hK
  clear hK
  go_wp2_with fail
  go_ret
  exact ⟨rfl, hb', HK.out⟩

end Go.Proofs.YtfflhiajbioheaaGreat
namespace Go.Proofs.YtfflhiajbioheaaGreat
open Go.RowKit

theorem Tryz.infoI : (Tryz.prog.info? 3).map (fun i => (i.zero, i.size, i.bytes)) = some (some (.int .i64 0), 1, 8) := by kernel_rfl

/-- One number is put behind memory of the call's own; blocks of other things stay. -/
theorem push_run (w : World) (gb base : Nat) (hgb : gb = w.heap.size) (v : Value) (l : List Int) (p : Int) (hO : Wv.Ov (Value.int .i64) 3 base w v l) (hl : l.length ≤ 1000) (hb : base ≤ w.heap.size) :
    ∃ a n c w', Sem.run Tryz.prog (Builtin.append_ #[28, 28] 28 #[v, .slice (some ⟨gb, 0, none⟩) 1 1]) (w.alloc (.cells #[.int .i64 p] 3)) = .ok (.slice a n c) w' ∧ Wv.Ov (Value.int .i64) 3 base w' (.slice a n c) (l ++ [p]) ∧ Below base (w.alloc (.cells #[.int .i64 p] 3)) w' ∧
      ∀ (b : Nat) (cs : Array Value) (T : TypeId) (fr : Nat × Nat), (w.alloc (.cells #[.int .i64 p] 3)).heap[b]? = some (.cells cs T fr) → T ≠ 3 → w'.heap[b]? = some (.cells cs T fr) := by
  subst hgb
  obtain ⟨i, hi, hzz⟩ := Option.map_eq_some_iff.1 Tryz.infoI
  simp only [Prod.mk.injEq] at hzz
  obtain ⟨hz, hs, hby⟩ := hzz
  have hO1 : Wv.Ov (Value.int .i64) 3 base (w.alloc (.cells #[.int .i64 p] 3)) v l := hO.keep ((Below.refl _ _).alloc (Nat.le_refl _) _)
  have hR : Wv.Rv (Value.int .i64) 0 (w.alloc (.cells #[.int .i64 p] 3)) (.slice (some ⟨w.heap.size, 0, none⟩) 1 1) [p] := Wv.Rv.lit w _ 3 1 [p] rfl (by omega) rfl
  obtain ⟨v', w', k1, k2, k3, k4⟩ := run_append_own (P := Tryz.prog) (w.alloc (.cells #[.int .i64 p] 3)) base 28 28 3 i (.int .i64 0) 1 8 Tryz.underlying28 hi hz hs hby rfl (by decide) v _ _ hO1.1 ⟨w.heap.size, 0, none⟩ 1 1 [.int .i64 p] rfl (by
      intro j c hj
      have hj0 : j = 0 := by have := (List.getElem?_eq_some_iff.1 hj).1; simpa using this
      subst hj0
      have := (Wv.rv_cells hR (by omega)).2 0 (by omega)
      rw [Wv.add_none]
      rw [this]
      simpa using hj) (by intro c hc; simp at hc; subst hc; rfl) (by unfold maxLen; omega) (by omega) (by simp; omega)
  have hO2 : Wv.Ov (Value.int .i64) 3 base w' v' (l ++ [p]) := ⟨by simpa using k2, by simp; omega⟩
  have hbl : Below base (w.alloc (.cells #[.int .i64 p] 3)) w' := (Below.refl _ _).grown k3 (by simp; omega) (fun g hg => (hO1.1.lt g hg).1)
  have hoth : ∀ (b : Nat) (cs : Array Value) (T : TypeId) (fr : Nat × Nat), (w.alloc (.cells #[.int .i64 p] 3)).heap[b]? = some (.cells cs T fr) → T ≠ 3 → w'.heap[b]? = some (.cells cs T fr) := by
    intro b cs T fr hh hT
    refine (k3.block b (Array.getElem?_eq_some_iff.1 hh).1 (fun ee => ?_)).trans hh
    rcases hO1.1.2 with ⟨rfl, _⟩ | ⟨g2, c2, cur2, rfl, _, hg2, _⟩
    · cases ee
    · have : b = g2 := by simpa [Value.ownBlock] using ee
      subst this
      rw [hh] at hg2
      cases hg2
      exact hT rfl
  rcases hO2.shaped with rfl | ⟨ad, n, c, rfl⟩
  · exact ⟨_, _, _, _, k1, hO2, hbl, hoth⟩
  · exact ⟨_, _, _, _, k1, hO2, hbl, hoth⟩

theorem okN_iff {xs : List Int} {p : Int} {L : Nat} : Wt.okN xs p L = true ↔ (Wn.parE (Wd.rdR xs p) == 0) = true ∧ (Wt.nd xs p).level = (L : Int) := by
  simp [Wt.okN]

theorem isSome_none : (none : Option Wt.St).isSome = false := rfl

set_option maxHeartbeats 3200000 in
theorem follow_no (xs : List Int) (v : Value) (w0 : World) (B g nb L : Nat) (hv : Wc.Bs w0 v xs) (p l q : Int) (pl : Nat) (s : Wt.St) (w : World) (hl : l = L) (hb : Below w0.heap.size w0 w) (ho : Wt.okN xs p L = false) :
    Calls Tryz.prog 103 #[.pointer (some ⟨B, 0, none⟩), v, .int .i64 p, .int .i64 l, .int .i64 q] w fun e w' => e = .returned (.bool (Wt.met xs (L + 1) p pl s).isSome) ∧ Below w0.heap.size w0 w' ∧ ∀ t, Wt.met xs (L + 1) p pl s = some t → Fo w' B g nb t := by
  rw [Wt.met_no ho]
  have HV := Wc.hid (hv.keep hb)
  have HB := Wc.hid hb
  clear hv hb
  cases hk : (Wn.parE (Wd.rdR xs p) == 0)
  · clear ho
    go_enter Tryz.func103, Tryz.ntmps103
    go_wp2_with fail
    refine (tread_any v p xs _ HV.out).mono ?_
    rintro e w1 ⟨rfl, hb1⟩
    rw [hk]
    have HB1 := Wc.hid ((Wc.step HB.out (Nat.le_refl _) hb1).alloc (Wc.step HB.out (Nat.le_refl _) hb1).size (.cells #[.int .i64 (Wt.nd xs p).level, .int .i64 (Wt.nd xs p).p0, .int .i64 (Wt.nd xs p).p1, .int .i64 (Wt.nd xs p).p2, .int .i64 (Wt.nd xs p).p3, .int .i64 (Wt.nd xs p).p4, .int .i64 (Wt.nd xs p).p5, .int .i64 (Wt.nd xs p).p6, .int .i64 (Wt.nd xs p).p7] 133))
    unfold nv
    clear hb1
    go_wp2_with fail
    go_ret
    exact ⟨rfl, HB1.out, fun t ht => by cases ht⟩
  · have hlev : ¬ (Wt.nd xs p).level = (L : Int) := fun e => by
      rw [okN_iff.2 ⟨hk, e⟩] at ho; cases ho
    clear ho
    go_enter Tryz.func103, Tryz.ntmps103
    go_wp2_with fail
    refine (tread_any v p xs _ HV.out).mono ?_
    rintro e w1 ⟨rfl, hb1⟩
    rw [hk]
    generalize Wt.nd xs p = n at hlev
    have HB1 := Wc.hid ((Wc.step HB.out (Nat.le_refl _) hb1).alloc (Wc.step HB.out (Nat.le_refl _) hb1).size (.cells #[.int .i64 n.level, .int .i64 n.p0, .int .i64 n.p1, .int .i64 n.p2, .int .i64 n.p3, .int .i64 n.p4, .int .i64 n.p5, .int .i64 n.p6, .int .i64 n.p7] 133))
    have ⟨d, d0, d1, d2, d3, d4, d5, d6, d7⟩ := (Nh.new w1 n).nc
    have hne : (n.level != l) = true := by simp; omega
    unfold nv
    clear hb1
    go_wp2_with fail
    go_ret
    exact ⟨rfl, HB1.out, fun t ht => by cases ht⟩

set_option maxRecDepth 100000 in
set_option maxHeartbeats 6400000 in
theorem follow_yes (xs : List Int) (v : Value) (w0 : World) (B g nb L : Nat) (hv : Wc.Bs w0 v xs) (hM : MeetOk xs v w0 B g nb L) (hB : w0.heap.size ≤ B) (p l q : Int) (pl : Nat) (s : Wt.St) (w : World) (hl : l = L) (hq : q = pl)
   (hpl : (pl + 1) * 8 ^ (L + 1) ≤ 512) (hr : s.nodes.length + Wt.room (L + 1) ≤ 1000) (hb : Below w0.heap.size w0 w) (hF : Fo w B g nb s) (ho : Wt.okN xs p L = true) :
    Calls Tryz.prog 103 #[.pointer (some ⟨B, 0, none⟩), v, .int .i64 p, .int .i64 l, .int .i64 q] w fun e w' => e = .returned (.bool (Wt.met xs (L + 1) p pl s).isSome) ∧ Below w0.heap.size w0 w' ∧ ∀ t, Wt.met xs (L + 1) p pl s = some t → Fo w' B g nb t := by
  rw [Wt.met_yes ho]
  obtain ⟨hk, hlev⟩ := okN_iff.1 ho
  obtain ⟨n, hn⟩ : ∃ n, Wt.nd xs p = n := ⟨_, rfl⟩
  rw [hn] at hlev ⊢
  have HN := Wc.hid hn
  have HV := Wc.hid (hv.keep hb)
  have HB := Wc.hid hb
  have HF := Wc.hid hF
  have HM := Wc.hid hM
  have h8 : 1 ≤ 8 ^ L := Nat.pos_of_ne_zero (by simp)
  have hp64 : pl < 64 := by rw [Nat.pow_succ] at hpl; apply Classical.byContradiction; intro hn; have := Nat.mul_le_mul (show 65 ≤ pl + 1 by omega) (show 8 ≤ 8 ^ L * 8 by omega); omega
  have HP : Hid ((pl + 1) * 8 ^ (L + 1) ≤ 512) := Wc.hid hpl
  have HR := Wc.hid hr
  clear hv hb hF hM ho hpl hr h8 hn
  subst hq
  go_enter Tryz.func103, Tryz.ntmps103
  go_wp2_with fail
  refine (tread_any v p xs _ HV.out).mono ?_
  rintro e w1 ⟨rfl, hb1⟩
  rw [hk, HN.out]
  have HB1 := Wc.hid ((Wc.step HB.out (Nat.le_refl _) hb1).alloc (Wc.step HB.out (Nat.le_refl _) hb1).size (.cells #[.int .i64 n.level, .int .i64 n.p0, .int .i64 n.p1, .int .i64 n.p2, .int .i64 n.p3, .int .i64 n.p4, .int .i64 n.p5, .int .i64 n.p6, .int .i64 n.p7] 133))
  have F1 := Wc.hid ((HF.out.keep hb1).keep ((Below.refl _ _).alloc (Nat.le_refl _) (.cells #[.int .i64 n.level, .int .i64 n.p0, .int .i64 n.p1, .int .i64 n.p2, .int .i64 n.p3, .int .i64 n.p4, .int .i64 n.p5, .int .i64 n.p6, .int .i64 n.p7] 133)))
  have N1 := Wc.hid (Nh.new w1 n)
  have ⟨d, d0, d1, d2, d3, d4, d5, d6, d7⟩ := N1.out.nc
  have hne : (n.level != l) = false := by simp; omega
  obtain ⟨a, m, c, c0, c1, cf, hO⟩ := F1.out.cells
  obtain ⟨-, -, hBn, hgn, hBg, hnb⟩ := F1.out.row
  have hln : s.nodes.length ≤ 1000 := by have := HR.out; omega
  obtain ⟨a', m', c', w4, hrun, hO4, hb4, hoth⟩ := push_run _ (w1.heap.size + 1) nb (by simp) _ s.nodes p hO hln hnb
  have F1b := F1.out.keep ((Below.refl _ _).alloc (Nat.le_refl _) (.cells #[.int .i64 p] 3))
  have F4 := Wc.hid (F1b.push hb4 hO4 s.dat)
  have N4 : Nh (w4.setCell ⟨B, 0, none⟩ (.slice a' m' c')) w1.heap.size n := by
    refine Nh.other ?_ (fun e => ?_) 0 _
    · exact hoth _ _ _ _ (N1.out.keep ((Below.refl _ _).alloc (Nat.le_refl _) (.cells #[.int .i64 p] 3))) (by decide)
    · have h9 := N1.out
      obtain ⟨a9, n9, c9, h10, -⟩ := F1.out
      unfold Nh at h9
      rw [e, h10] at h9
      cases h9
  have ⟨f, f0, f1, f2, f3, f4, f5, f6, f7⟩ := N4.nc
  obtain ⟨a5, m5, c5, k0, -, kf, -⟩ := F1b.cells
  have e0 : w4.cell? ⟨B, 0, none⟩ = some (.slice a5 m5 c5) := (hb4.cell (p := ⟨B, 0, none⟩) hBn).trans k0
  have e1 : w4.frozen? ⟨B, 0, none⟩ = false := (hb4.frozen (p := ⟨B, 0, none⟩) hBn).trans (kf 0)
  have HRUN := Wc.hid hrun
  have HB4 := Wc.hid (((HB1.out.alloc HB1.out.size (.cells #[.int .i64 p] 3)).trans (hb4.mono (by omega))).setCell (p := ⟨B, 0, none⟩) hB (.slice a' m' c'))
  unfold nv
  clear hb1 hrun hO hO4 hb4 hoth F1b k0 kf N4 hnb hBn hgn hBg hlev
  go_wp2_with (at_builtin; refine Wv.wp_append HRUN.out rfl rfl rfl rfl ?_)
  clear d d0 d1 d2 d3 d4 d5 d6 d7 f f0 f1 f2 f3 f4 f5 f6 f7 e0 e1 c0 c1 cf hk hne HRUN N1 F1 HB1 HF HB HV
  go_loopw [41] (fun i wr => ∃ (k : Nat) (t : Wt.St), i = .int .i64 k ∧ k ≤ 8 ∧ Hid (Wt.go (Wt.met xs L) n pl k ⟨s.nodes ++ [p], s.sec, s.dat⟩ = some t) ∧ Hid (Fo wr B g nb t) ∧ Hid (Below w0.heap.size w0 wr)) (fun i _ => 8 - (intOf i).toNat)
  case atStart => exact ⟨0, _, rfl, by omega, rfl, F4, HB4⟩
  case round =>
    obtain ⟨k, t, rfl, hk, HG, FT, BT⟩ := hrel
    by_cases hlt : k < 8
    · have hi := idx8 n hlt
      have hle : (pl * 8 + k + 1) * 8 ^ L ≤ 512 := by
        have h1 := HP.out
        rw [Nat.pow_succ] at h1
        have h2 : (pl * 8 + k + 1) * 8 ^ L ≤ (pl * 8 + 8) * 8 ^ L := Nat.mul_le_mul_right _ (by omega)
        have h3 : (pl * 8 + 8) * 8 ^ L = (pl + 1) * (8 ^ L * 8) := by rw [show pl * 8 + 8 = (pl + 1) * 8 by omega, Nat.mul_assoc, Nat.mul_comm 8]
        omega
      have hroom : t.nodes.length + Wt.room L ≤ 1000 := by
        have h1 := Wt.go_room (Wt.met_room xs L) k _ _ HG.out
        have h2 := HR.out
        simp only [Wt.room] at h2
        simp only [List.length_append, List.length_cons, List.length_nil] at h1
        have h3 : k * Wt.room L ≤ 7 * Wt.room L := Nat.mul_le_mul_right _ (by omega)
        omega
      have HLE := Wc.hid hle
      have HRO := Wc.hid hroom
      clear hle hroom
      by_cases hp : Wn.pat n k = 0
      · have HG1 := Wc.hid (Wt.go_skip HG.out hp)
        have hpb : (Wn.pat n k != 0) = false := by simpa using hp
        clear hp
        go_wp2_with fail
        go_roundw
        case rel => exact ⟨k + 1, t, by go_num, by omega, HG1, FT, BT⟩
        case measure => simp [intOf]; omega
      · have HG1 := Wc.hid (Wt.go_step HG.out hp)
        have hpb : (Wn.pat n k != 0) = true := by simpa using hp
        clear hp
        cases ho : Wt.met xs L (Wn.pat n k) (pl * 8 + k) t with
        | none =>
          have HO := Wc.hid ho
          clear ho
          go_wp2_with fail
          refine (HM.out (Wn.pat n k) _ _ (pl * 8 + k) t wr rfl (by omega) HLE.out HRO.out BT.out FT.out).mono ?_
          rintro e w5 ⟨rfl, hb5, -⟩
          rw [HO.out]
          have HB5 := Wc.hid hb5
          have HE : Hid (Wt.go (Wt.met xs L) n pl 8 ⟨s.nodes ++ [p], s.sec, s.dat⟩ = none) := by
            have h1 := HG1.out
            rw [HO.out] at h1
            have h2 := Wt.go_none h1 (7 - k)
            rw [show k + 1 + (7 - k) = 8 by omega] at h2
            exact h2
          clear hb5
          go_wp2_with fail
          go_ret
          rw [HE.out]
          exact ⟨rfl, HB5.out, fun t ht => by cases ht⟩
        | some u =>
          have HO := Wc.hid ho
          clear ho
          go_wp2_with fail
          refine (HM.out (Wn.pat n k) _ _ (pl * 8 + k) t wr rfl (by omega) HLE.out HRO.out BT.out FT.out).mono ?_
          rintro e w5 ⟨rfl, hb5, hu⟩
          rw [HO.out]
          have HB5 := Wc.hid hb5
          have HU := Wc.hid (hu u HO.out)
          have HG2 : Hid (Wt.go (Wt.met xs L) n pl (k + 1) ⟨s.nodes ++ [p], s.sec, s.dat⟩ = some u) := Wc.hid (HG1.out.trans HO.out)
          clear hb5 hu
          go_wp2_with fail
          go_roundw
          case rel => exact ⟨k + 1, u, by go_num, by omega, HG2, HU, HB5⟩
          case measure => simp [intOf]; omega
    · obtain rfl : k = 8 := by omega
      go_wp2_with fail
      go_ret
      rw [HG.out]
      refine ⟨rfl, BT.out, fun u hu => ?_⟩
      cases hu
      exact FT.out

theorem follow_of (xs : List Int) (v : Value) (w0 : World) (B g nb L : Nat) (hv : Wc.Bs w0 v xs) (hB : w0.heap.size ≤ B) (hM : MeetOk xs v w0 B g nb L) : FollowOk xs v w0 B g nb L := by
  intro p l q pl s w hl hq hpl hr hb hF
  cases ho : Wt.okN xs p L
  · exact follow_no xs v w0 B g nb L hv p l q pl s w hl hb ho
  · exact follow_yes xs v w0 B g nb L hv hM hB p l q pl s w hl hq hpl hr hb hF ho

theorem meet_all (xs : List Int) (v : Value) (w0 : World) (B g nb : Nat) (hv : Wc.Bs w0 v xs) (hB : w0.heap.size ≤ B) (hg : w0.heap.size ≤ g) : ∀ L, L ≤ 3 → MeetOk xs v w0 B g nb L
  | 0, _ => meet_zero xs v w0 B g nb hg
  | L + 1, h => meet_succ xs v w0 B g nb L (by omega) (follow_of xs v w0 B g nb L hv hB (meet_all xs v w0 B g nb hv hB hg L (by omega)))

/-- What follow does from a root. -/
theorem follow_any (xs : List Int) (v : Value) (w0 : World) (B g nb : Nat) (hv : Wc.Bs w0 v xs) (hB : w0.heap.size ≤ B) (hg : w0.heap.size ≤ g) (p : Int) (s : Wt.St) (w : World) (hs : s.nodes = []) (hb : Below w0.heap.size w0 w) (hF : Fo w B g nb s) :
    Calls Tryz.prog 103 #[.pointer (some ⟨B, 0, none⟩), v, .int .i64 p, .int .i64 2, .int .i64 0] w fun e w' => e = .returned (.bool (Wt.met xs 3 p 0 s).isSome) ∧ Below w0.heap.size w0 w' ∧ ∀ t, Wt.met xs 3 p 0 s = some t → Fo w' B g nb t :=
  follow_of xs v w0 B g nb 2 hv hB (meet_all xs v w0 B g nb hv hB hg 2 (by omega)) p 2 0 0 s w rfl rfl (by omega) (by rw [hs]; decide) hb hF

end Go.Proofs.YtfflhiajbioheaaGreat
namespace Wt
open Go Go.RowKit

/-- Is a block beyond the device, or a node's? -/
def outB (nodes : List Int) (m : Nat) (x : Int) : Bool := decide ((m : Int) ≤ x) || decide (x ∈ nodes)
/-- Is all that is met apart? -/
def apB (nodes sec : List Int) (m : Nat) : Bool := decide nodes.Nodup && !(sec.any (outB nodes m))

end Wt
namespace Go.Proofs.YtfflhiajbioheaaGreat
open Go.RowKit

theorem Tryz.infoB : (Tryz.prog.info? 4).map (fun i => (i.zero, i.size, i.bytes)) = some (some (.bool false), 1, 1) := by kernel_rfl

/-- A block of one cell. -/
def One (w : World) (B : Nat) (v : Value) (T : TypeId) : Prop := w.heap[B]? = some (.cells #[v] T (0, 0))

theorem One.lt {w : World} {B : Nat} {v : Value} {T : TypeId} (h : One w B v T) : B < w.heap.size := (Array.getElem?_eq_some_iff.1 h).1
theorem One.cell {w : World} {B : Nat} {v : Value} {T : TypeId} (h : One w B v T) : w.cell? ⟨B, 0, none⟩ = some v := by
  unfold One at h; simp [World.cell?, h]
theorem One.frozen {w : World} {B : Nat} {v : Value} {T : TypeId} (h : One w B v T) : w.frozen? ⟨B, 0, none⟩ = false := by
  unfold One at h; simp [World.frozen?, h]
theorem One.new (w : World) (v : Value) (T : TypeId) : One (w.alloc (.cells #[v] T)) w.heap.size v T := by
  show (w.heap.push _)[w.heap.size]? = _; simp
theorem One.keep {w w' : World} {B : Nat} {v : Value} {T : TypeId} (h : One w B v T) (hb : Below w.heap.size w w') : One w' B v T := by
  unfold One; rw [hb.block B h.lt]; exact h
theorem One.other {w : World} {B : Nat} {v : Value} {T : TypeId} (h : One w B v T) {B' : Nat} (hne : B ≠ B') (o : Nat) (u : Value) : One (w.setCell ⟨B', o, none⟩ u) B v T := by
  unfold One; rw [heap_setCell_other _ _ _ _ hne]; exact h

/-- The row of marks: which blocks are among the nodes. -/
def Marks (w : World) (g m : Nat) (l : List Int) : Prop := w.rowIs g 4 m (fun j => .bool (decide ((j : Int) ∈ l)))

set_option maxHeartbeats 800000 in
theorem clos_any (P1 P2 g m : Nat) (l : List Int) (x : Int) (w : World) (h1 : One w P1 (.int .i64 m) 3) (h2 : One w P2 (.slice (some ⟨g, 0, none⟩) m m) 136) (hM : Marks w g m l) (hx : 0 ≤ x) (_hm : m ≤ 100000) :
    Calls Tryz.prog 107 #[.int .i64 x, .pointer (some ⟨P1, 0, none⟩), .pointer (some ⟨P2, 0, none⟩)] w fun e w' => e = .returned (.bool (Wt.outB l m x)) ∧ w = w' := by
  have c1 := h1.cell
  have c2 := h2.cell
  by_cases hb : (m : Int) ≤ x
  · clear hM h1 h2
    go_enter Tryz.func107, Tryz.ntmps107
    go_wp2_with fail
    go_ret
    exact ⟨ret_bool (by simp [Wt.outB, hb]), rfl⟩
  · obtain ⟨k, rfl⟩ : ∃ k : Nat, x = k := ⟨x.toNat, by omega⟩
    have hk : k < m := by omega
    have c3 := hM.cell hk
    clear hM h1 h2
    cases hd : decide ((k : Int) ∈ l)
    · rw [hd] at c3
      go_enter Tryz.func107, Tryz.ntmps107
      go_wp2_with fail
      go_ret
      exact ⟨ret_bool (by unfold Wt.outB; rw [hd]; simp; omega), rfl⟩
    · rw [hd] at c3
      go_enter Tryz.func107, Tryz.ntmps107
      go_wp2_with fail
      go_ret
      exact ⟨ret_bool (by unfold Wt.outB; rw [hd]; simp), rfl⟩

theorem getD_at {xs : List Int} {k : Nat} (h : k < xs.length) : xs.getD k 0 = xs[k] := by simp [h]

theorem any_take {P : Int → Bool} {xs : List Int} {k : Nat} (hk : k < xs.length) (_h : ∀ j, j < k → P (xs.getD j 0) = false) (hp : P (xs.getD k 0) = true) : xs.any P = true := by
  rw [List.any_eq_true]
  exact ⟨_, by rw [getD_at hk]; exact List.getElem_mem hk, hp⟩

theorem any_none {P : Int → Bool} {xs : List Int} (h : ∀ j, j < xs.length → P (xs.getD j 0) = false) : xs.any P = false := by
  rw [List.any_eq_false]
  intro x hx
  obtain ⟨j, hj, rfl⟩ := List.getElem_of_mem hx
  have := h j hj
  rw [getD_at hj] at this
  rw [this]; decide

set_option maxHeartbeats 1600000 in
theorem indexf_any (b off n cap : Nat) (xs : List Int) (P : Int → Bool) (p1 p2 : Value) (w : World) (hl : xs.length = n) (hn : n ≤ 17592186044416) (hc : ∀ i, i < n → w.cell? ⟨b, off + i, none⟩ = some (.int .i64 (xs.getD i 0)))
   (hf : ∀ x ∈ xs, Calls Tryz.prog 107 #[.int .i64 x, p1, p2] w fun e w' => e = .returned (.bool (P x)) ∧ w = w') :
    Calls Tryz.prog 100 #[.slice (some ⟨b, off, none⟩) n cap, .func (.func 107) #[] #[p1, p2]] w fun e w' => ∃ r : Int, e = .returned (.int .i64 r) ∧ decide (0 ≤ r) = xs.any P ∧ w = w' := by
  have HL := Wc.hid hl
  have HF := Wc.hid hf
  have HC := Wc.hid hc
  clear hl hf hc
  go_enter Tryz.func100, Tryz.ntmps100
  go_wp2_with fail
  go_loop [8] (fun i => ∃ k : Nat, i = .int .i64 k ∧ k ≤ n ∧ Hid (∀ j, j < k → P (xs.getD j 0) = false)) (fun i => n - (intOf i).toNat)
  case atStart => exact ⟨0, rfl, by omega, fun j h => by omega⟩
  case round =>
    obtain ⟨k, rfl, hk, HZ⟩ := hrel
    by_cases hlt : k < n
    · have h1 := HC.out k hlt
      have hmem : xs.getD k 0 ∈ xs := by
        have hk' : k < xs.length := by rw [HL.out]; exact hlt
        rw [getD_at hk']; exact List.getElem_mem hk'
      have HM := Wc.hid hmem
      obtain ⟨x, hx⟩ : ∃ x, xs.getD k 0 = x := ⟨_, rfl⟩
      rw [hx] at h1
      have HX := Wc.hid hx
      clear hx hmem
      cases hp : P x
      · have HP := Wc.hid hp
        clear hp
        go_wp2_with fail
        refine (HF.out x (by rw [← HX.out]; exact HM.out)).mono ?_
        rintro e w1 ⟨rfl, rfl⟩
        rw [HP.out]
        go_wp2_with fail
        go_round
        case rel =>
          refine ⟨k + 1, by go_num, by omega, fun j hj => ?_⟩
          by_cases hjk : j = k
          · subst hjk; rw [HX.out]; exact HP.out
          · exact HZ.out j (by omega)
        case measure => simp [intOf]; omega
      · have HP := Wc.hid hp
        clear hp
        go_wp2_with fail
        refine (HF.out x (by rw [← HX.out]; exact HM.out)).mono ?_
        rintro e w1 ⟨rfl, rfl⟩
        rw [HP.out]
        go_wp2_with fail
        go_ret
        refine ⟨_, rfl, ?_, rfl⟩
        rw [any_take (k := k) (by rw [HL.out]; exact hlt) HZ.out (by rw [HX.out]; exact HP.out)]
        simp
    · go_wp2_with fail
      go_ret
      refine ⟨_, rfl, ?_, rfl⟩
      rw [any_none (fun j hj => HZ.out j (by rw [HL.out] at hj; omega))]
      rfl

set_option maxHeartbeats 800000 in
theorem containsf_any (b off n cap : Nat) (xs : List Int) (P : Int → Bool) (p1 p2 : Value) (w : World) (hl : xs.length = n) (hn : n ≤ 17592186044416) (hc : ∀ i, i < n → w.cell? ⟨b, off + i, none⟩ = some (.int .i64 (xs.getD i 0)))
   (hf : ∀ x ∈ xs, Calls Tryz.prog 107 #[.int .i64 x, p1, p2] w fun e w' => e = .returned (.bool (P x)) ∧ w = w') :
    Calls Tryz.prog 92 #[.slice (some ⟨b, off, none⟩) n cap, .func (.func 107) #[] #[p1, p2]] w fun e w' => e = .returned (.bool (xs.any P)) ∧ w = w' := by
  have HI := Wc.hid (indexf_any b off n cap xs P p1 p2 w hl hn hc hf)
  clear hl hc hf
  go_enter Tryz.func92, Tryz.ntmps92
  go_wp2_with fail
  refine HI.out.mono ?_
  rintro e w1 ⟨r, rfl, hr, rfl⟩
  have HR := Wc.hid hr
  clear hr
  go_wp2_with fail
  go_ret
  exact ⟨ret_bool (by rw [← HR.out]), rfl⟩

end Go.Proofs.YtfflhiajbioheaaGreat
namespace Go.Proofs.YtfflhiajbioheaaGreat
open Go.RowKit

theorem mem_getD {xs : List Int} {k : Nat} (h : k < xs.length) : xs.getD k 0 ∈ xs := by
  rw [getD_at h]; exact List.getElem_mem h

theorem take_snoc (xs : List Int) (k : Nat) (h : k < xs.length) : xs.take (k + 1) = xs.take k ++ [xs.getD k 0] := by
  rw [List.take_succ_eq_append_getElem h, getD_at h]

theorem nodup_snoc {l : List Int} {x : Int} : (l ++ [x]).Nodup ↔ l.Nodup ∧ ¬ x ∈ l := by
  rw [List.nodup_append]
  constructor
  · rintro ⟨h1, -, h3⟩
    exact ⟨h1, fun hx => h3 x hx x (by simp) rfl⟩
  · rintro ⟨h1, h2⟩
    refine ⟨h1, by simp, fun a ha b hb e => ?_⟩
    have : b = x := by simpa using hb
    subst this
    subst e
    exact h2 ha

theorem nodup_take_no {l : List Int} {k : Nat} (hk : k < l.length) (h : l.getD k 0 ∈ l.take k) : ¬ l.Nodup := by
  intro hn
  have h1 : (l.take (k + 1)).Nodup := hn.sublist (List.take_sublist _ _)
  rw [take_snoc l k hk, nodup_snoc] at h1
  exact h1.2 h

theorem Marks.new (w : World) (m : Nat) : Marks (w.alloc (.cells (madeCells #[.bool false] m) 4)) w.heap.size m [] :=
  (World.rowIs_made w (.bool false) m 4).congr fun j _ => by simp

theorem Marks.set {w : World} {g m : Nat} {l : List Int} (h : Marks w g m l) (k : Nat) : Marks (w.setCell ⟨g, k, none⟩ (.bool true)) g m (l ++ [(k : Int)]) := by
  refine (World.rowIs.set h k (.bool true)).congr fun j _ => ?_
  by_cases e : j = k
  · subst e; rw [if_pos rfl]; simp
  · rw [if_neg e]
    have : ¬ (j : Int) = (k : Int) := by omega
    simp [this]

set_option maxRecDepth 100000 in
set_option maxHeartbeats 6400000 in
theorem apart_any (B g nb m : Nat) (s : Wt.St) (w : World) (hF : Fo w B g nb s) (hm : m ≤ 100000) (h0 : ¬ s.nodes = []) (hnd : ∀ x ∈ s.nodes, 0 ≤ x ∧ x < m) (hsc : ∀ x ∈ s.sec, 0 ≤ x) :
    Calls Tryz.prog 104 #[.pointer (some ⟨B, 0, none⟩), .int .i64 m] w fun e w' => e = .returned (.bool (Wt.apB s.nodes s.sec m)) ∧ Below w.heap.size w w' := by
  have hmk := run_make_row' (P := Tryz.prog) 136 4 (.bool false) 1 Tryz.underlying136 Tryz.infoB rfl .i64 .i64 m (by omega) (by omega)
  have a1 := One.new w (.int .i64 m) 3
  have c1 := a1.cell
  have b2 : Below w.heap.size w (w.alloc (.cells #[.int .i64 m] 3)) := (Below.refl _ _).alloc (Nat.le_refl _) _
  have b3 : Below (w.alloc (.cells #[.int .i64 m] 3)).heap.size (w.alloc (.cells #[.int .i64 m] 3)) ((w.alloc (.cells #[.int .i64 m] 3)).alloc (.cells (madeCells #[.bool false] m) 4)) := (Below.refl _ _).alloc (Nat.le_refl _) _
  have b4 : Below ((w.alloc (.cells #[.int .i64 m] 3)).alloc (.cells (madeCells #[.bool false] m) 4)).heap.size ((w.alloc (.cells #[.int .i64 m] 3)).alloc (.cells (madeCells #[.bool false] m) 4)) (((w.alloc (.cells #[.int .i64 m] 3)).alloc (.cells (madeCells #[.bool false] m) 4)).alloc (.cells #[.slice (some ⟨w.heap.size + 1, 0, none⟩) m m] 136)) := (Below.refl _ _).alloc (Nat.le_refl _) _
  have M4 : Marks (((w.alloc (.cells #[.int .i64 m] 3)).alloc (.cells (madeCells #[.bool false] m) 4)).alloc (.cells #[.slice (some ⟨w.heap.size + 1, 0, none⟩) m m] 136)) (w.heap.size + 1) m [] := by
    have h1 := World.rowIs.alloc (Marks.new (w.alloc (.cells #[.int .i64 m] 3)) m) (.cells #[.slice (some ⟨w.heap.size + 1, 0, none⟩) m m] 136)
    rw [show (w.alloc (.cells #[.int .i64 m] 3)).heap.size = w.heap.size + 1 by simp] at h1
    exact h1
  have A4 : One (((w.alloc (.cells #[.int .i64 m] 3)).alloc (.cells (madeCells #[.bool false] m) 4)).alloc (.cells #[.slice (some ⟨w.heap.size + 1, 0, none⟩) m m] 136)) w.heap.size (.int .i64 m) 3 := (a1.keep b3).keep b4
  have V4 : One (((w.alloc (.cells #[.int .i64 m] 3)).alloc (.cells (madeCells #[.bool false] m) 4)).alloc (.cells #[.slice (some ⟨w.heap.size + 1, 0, none⟩) m m] 136)) (w.heap.size + 1 + 1) (.slice (some ⟨w.heap.size + 1, 0, none⟩) m m) 136 := by
    have h1 := One.new ((w.alloc (.cells #[.int .i64 m] 3)).alloc (.cells (madeCells #[.bool false] m) 4)) (.slice (some ⟨w.heap.size + 1, 0, none⟩) m m) 136
    rw [show ((w.alloc (.cells #[.int .i64 m] 3)).alloc (.cells (madeCells #[.bool false] m) 4)).heap.size = w.heap.size + 1 + 1 by simp] at h1
    exact h1
  have B4 : Below w.heap.size w (((w.alloc (.cells #[.int .i64 m] 3)).alloc (.cells (madeCells #[.bool false] m) 4)).alloc (.cells #[.slice (some ⟨w.heap.size + 1, 0, none⟩) m m] 136)) := Wc.step (Wc.step b2 (Nat.le_refl _) b3) (Nat.le_refl _) b4
  obtain ⟨a, n, c, k0, k1, -, hO⟩ := hF.cells
  obtain ⟨hrow, hrl, hBn, hgn, -, hnbs⟩ := hF.row
  have hR := hO.rv (d := 0)
  rcases hR.open with ⟨hnil, -⟩ | ⟨b, off, n', cap, hsl, hpos, hlen, -, -, hnb, hblt, hcells⟩
  · exact absurd hnil h0
  cases hsl
  have k2 : (((w.alloc (.cells #[.int .i64 m] 3)).alloc (.cells (madeCells #[.bool false] m) 4)).alloc (.cells #[.slice (some ⟨w.heap.size + 1, 0, none⟩) m m] 136)).cell? ⟨B, 0, none⟩ = some (.slice (some ⟨b, off, none⟩) n c) := (B4.cell (p := ⟨B, 0, none⟩) (show B < w.heap.size by omega)).trans k0
  have K1 := Wc.hid k1
  have HBS := Wc.hid (show B < w.heap.size by omega)
  have HG := Wc.hid (show g < w.heap.size by omega)
  have HROW := Wc.hid hrow
  have HRL := Wc.hid hrl
  have HM := Wc.hid M4
  have HA := Wc.hid A4
  have HV := Wc.hid V4
  have HB := Wc.hid B4
  have HC := Wc.hid hcells
  have HBL := Wc.hid hblt
  have HL := Wc.hid hlen
  have HND := Wc.hid hnd
  have HSC := Wc.hid hsc
  clear hF b2 b3 b4 M4 A4 V4 B4 hO hR hcells hlen hnd hsc a1 h0 k0 k1 hrow hrl hBn hgn hnbs hblt
  go_enter Tryz.func104, Tryz.ntmps104
  go_wp2_with fail
  clear k2 c1 hmk
  have hmf : ∀ (fn : Fn) (first cap : Array Value) (w : World), (Instr.makeFunc fn first cap).run Tryz.prog w = .ok (.func fn first cap) w := fun _ _ _ _ => rfl
  go_loopw [15] (fun i wr => ∃ k : Nat, i = .int .i64 k ∧ k ≤ n ∧ Hid (Marks wr (w.heap.size + 1) m (s.nodes.take k)) ∧ Hid (s.nodes.take k).Nodup ∧ Hid (One wr w.heap.size (.int .i64 m) 3) ∧ Hid (One wr (w.heap.size + 1 + 1) (.slice (some ⟨w.heap.size + 1, 0, none⟩) m m) 136) ∧ Hid (Below w.heap.size w wr)) (fun i _ => n - (intOf i).toNat)
  case atStart => exact ⟨0, rfl, by omega, HM, by simp [Hid], HA, HV, HB⟩
  case round =>
    obtain ⟨k, rfl, hk, RM, RN, RA, RV, RB⟩ := hrel
    by_cases hlt : k < n
    · obtain ⟨j, hj⟩ : ∃ j : Nat, s.nodes.getD k 0 = j := by
        have := (HND.out _ (mem_getD (show k < s.nodes.length by rw [HL.out]; exact hlt))).1
        exact ⟨(s.nodes.getD k 0).toNat, by omega⟩
      have hjm : j < m := by
        have := (HND.out _ (mem_getD (show k < s.nodes.length by rw [HL.out]; exact hlt))).2
        omega
      have h1 : wr.cell? ⟨b, off + k, none⟩ = some (.int .i64 (j : Int)) := by
        rw [RB.out.cell (p := ⟨b, off + k, none⟩) HBL.out, HC.out k hlt, hj]
      have h2 := RV.out.cell
      have h3 := RM.out.cell hjm
      have h4 := RM.out.frozen j
      have HJ := Wc.hid hj
      clear hj
      cases hd : decide ((j : Int) ∈ s.nodes.take k)
      · rw [hd] at h3
        have HD := Wc.hid hd
        have hmem : ¬ s.nodes.getD k 0 ∈ s.nodes.take k := by rw [HJ.out]; simpa using hd
        have HN1 : Hid (s.nodes.take (k + 1)).Nodup := Wc.hid (by
          rw [take_snoc s.nodes k (by rw [HL.out]; exact hlt), nodup_snoc]
          exact ⟨RN.out, hmem⟩)
        have HM1 : Hid (Marks (wr.setCell ⟨w.heap.size + 1, j, none⟩ (.bool true)) (w.heap.size + 1) m (s.nodes.take (k + 1))) := Wc.hid (by
          rw [take_snoc s.nodes k (by rw [HL.out]; exact hlt), HJ.out]
          exact RM.out.set j)
        have HA1 := Wc.hid (RA.out.other (B' := w.heap.size + 1) (by omega) j (.bool true))
        have HV1 := Wc.hid (RV.out.other (B' := w.heap.size + 1) (by omega) j (.bool true))
        have HB1 := Wc.hid (RB.out.setCell (p := ⟨w.heap.size + 1, j, none⟩) (show w.heap.size ≤ w.heap.size + 1 by omega) (.bool true))
        clear hd hmem
        go_wp2_with fail
        go_roundw
        case rel => exact ⟨k + 1, by go_num, by omega, HM1, HN1, HA1, HV1, HB1⟩
        case measure => simp [intOf]; omega
      · rw [hd] at h3
        have HD := Wc.hid hd
        clear hd
        go_wp2_with fail
        go_ret
        refine ⟨ret_bool ?_, RB.out⟩
        have : ¬ s.nodes.Nodup := nodup_take_no (k := k) (by rw [HL.out]; exact hlt) (by rw [HJ.out]; simpa using HD.out)
        simp [Wt.apB, this]
    · obtain rfl : k = n := by omega
      have hall : s.nodes.take k = s.nodes := List.take_of_length_le (by rw [HL.out]; omega)
      have h1 : wr.cell? ⟨B, 1, none⟩ = some (.slice (some ⟨g, 0, none⟩) 512 512) := (RB.out.cell (p := ⟨B, 1, none⟩) HBS.out).trans K1.out
      rw [hall] at RM RN
      have HCF := Wc.hid (containsf_any g 0 512 512 s.sec (Wt.outB s.nodes m) (.pointer (some ⟨w.heap.size, 0, none⟩)) (.pointer (some ⟨w.heap.size + 1 + 1, 0, none⟩)) wr HRL.out (by omega) (fun i hi => by
        rw [Nat.zero_add, RB.out.cell (p := ⟨g, i, none⟩) HG.out]; exact HROW.out.cell hi) (fun x hx => clos_any _ _ _ m s.nodes x wr RA.out RV.out RM.out (HSC.out x hx) hm))
      go_wp2_with fail
      refine HCF.out.mono ?_
      rintro e w1 ⟨rfl, rfl⟩
      obtain ⟨q, hq⟩ : ∃ q, s.sec.any (Wt.outB s.nodes m) = q := ⟨_, rfl⟩
      rw [hq]
      have HQ := Wc.hid hq
      clear hq
      go_wp2_with fail
      go_ret
      refine ⟨ret_bool ?_, RB.out⟩
      unfold Wt.apB
      rw [HQ.out]
      have := RN.out
      simp [this]

end Go.Proofs.YtfflhiajbioheaaGreat
namespace Wt
open Go Go.RowKit

/-- Nothing is met yet. -/
def s0 : St := ⟨[], List.replicate 512 0, []⟩
/-- What the tree of a root holds, on a right device. -/
def tre (xs : List Int) (root : Int) : Option St :=
  if root = 0 then some s0 else
  if bsB root ((xs.length / 64 : Nat) : Int) = true then
    match met xs 3 root 0 s0 with
    | none => none
    | some t => if apB t.nodes t.sec (xs.length / 64) = true then some t else none
  else none
def treE (xs : List Int) (root : Int) : Int := if Wd.devB xs.length = true then (if (tre xs root).isSome = true then 0 else 6) else 2
def treN (xs : List Int) (root : Int) : List Int := if Wd.devB xs.length = true then (match tre xs root with | none => [] | some t => t.nodes) else []
def treS (xs : List Int) (root : Int) : List Int := if Wd.devB xs.length = true then (match tre xs root with | none => [] | some t => t.sec) else []

theorem tre_none {xs : List Int} {root : Int} (hd : Wd.devB xs.length = true) (h : tre xs root = none) : treE xs root = 6 ∧ treN xs root = [] ∧ treS xs root = [] := by
  simp [treE, treN, treS, hd, h]
theorem tre_some {xs : List Int} {root : Int} {t : St} (hd : Wd.devB xs.length = true) (h : tre xs root = some t) : treE xs root = 0 ∧ treN xs root = t.nodes ∧ treS xs root = t.sec := by
  simp [treE, treN, treS, hd, h]
theorem tre_dev {xs : List Int} {root : Int} (hd : Wd.devB xs.length = false) : treE xs root = 2 ∧ treN xs root = [] ∧ treS xs root = [] := by
  simp [treE, treN, treS, hd]

end Wt
namespace Go.Proofs.YtfflhiajbioheaaGreat
open Go.RowKit

/-- A block of two cells. -/
def Two (w : World) (B : Nat) (x y : Value) (T : TypeId) : Prop := w.heap[B]? = some (.cells #[x, y] T (0, 0))

theorem Two.lt {w : World} {B : Nat} {x y : Value} {T : TypeId} (h : Two w B x y T) : B < w.heap.size := (Array.getElem?_eq_some_iff.1 h).1
theorem Two.cells {w : World} {B : Nat} {x y : Value} {T : TypeId} (h : Two w B x y T) : w.cell? ⟨B, 0, none⟩ = some x ∧ w.cell? ⟨B, 1, none⟩ = some y ∧ ∀ i, w.frozen? ⟨B, i, none⟩ = false := by
  unfold Two at h
  exact ⟨by simp [World.cell?, h], by simp [World.cell?, h], fun i => by simp [World.frozen?, h]⟩
theorem Two.new (w : World) (x y : Value) (T : TypeId) : Two (w.alloc (.cells #[x, y] T)) w.heap.size x y T := by
  show (w.heap.push _)[w.heap.size]? = _; simp
theorem Two.keep {w w' : World} {B : Nat} {x y : Value} {T : TypeId} (h : Two w B x y T) (hb : Below w.heap.size w w') : Two w' B x y T := by
  unfold Two; rw [hb.block B h.lt]; exact h
theorem Two.below {w w' : World} {B base : Nat} {x y : Value} {T : TypeId} (h : Two w B x y T) (hb : Below base w w') (hB : B < base) : Two w' B x y T := by
  unfold Two; rw [hb.block B hB]; exact h
theorem Two.over {w : World} {B : Nat} {x y : Value} {T : TypeId} (h : Two w B x y T) (x' y' : Value) : Two ((w.setCell ⟨B, 0, none⟩ x').setCell ⟨B, 1, none⟩ y') B x' y' T := by
  have h0 := heap_setCell_same w B 0 _ T x' h
  have h1 := heap_setCell_same _ B 1 _ T y' h0
  unfold Two
  simpa using h1

theorem ret_cell26 {fn : Func} {tmps : Array Value} {w : World} {B : Nat} {x y v : Value} {a a' : Option Addr} {n n' c c' : Nat} (hx : x = .slice a n c) (hy : y = .slice a' n' c') (hr : fn.results = #[.cell 4 123, .tmp 5]) (hp : tmps.getD 4 undef = .pointer (some ⟨B, 0, none⟩)) (hv : tmps.getD 5 undef = v) (h : Two w B x y 123) :
    (results fn tmps).run Tryz.prog w = .ok (.tuple #[.agg #[x, y], v]) w := by
  subst hx hy
  obtain ⟨c0, c1, -⟩ := h.cells
  rw [results_cell_tmp hr, hp, hv]
  simp [go_sem, c0, c1]

theorem rv_row {w : World} {g n : Nat} {xs : List Int} (h : w.rowIs g 3 n (fun j => .int .i64 (xs.getD j 0))) (hl : xs.length = n) (hn : n ≤ 17592186044416) : Wd.In w (.slice (some ⟨g, 0, none⟩) n n) xs := by
  refine ⟨_, n, n, rfl, hl, Nat.le_refl _, by omega, hn, fun _ => ⟨g, 0, rfl, h.lt, fun i hi => ?_⟩⟩
  rw [Nat.zero_add]; exact h.cell hi

/-- A slice that lies in memory of the call's own, if anywhere. -/
def Young (base : Nat) (v : Value) : Prop := ∀ a n c, v = .slice (some a) n c → base ≤ a.block
theorem Young.nil (base n c : Nat) : Young base (.slice none n c) := fun a n c h => by cases h
theorem Young.at {base g o n c : Nat} {t : Option Nat} (h : base ≤ g) : Young base (.slice (some ⟨g, o, t⟩) n c) := fun a n c e => by cases e; exact h

/-- What is met, told by two slices, also where another block is written. -/
theorem Fo.tell {w : World} {B g nb R : Nat} {s : Wt.St} (h : Fo w B g nb s) (hR : R < nb) (hg : R ≠ g) :
    ∃ a n c, w.cell? ⟨B, 0, none⟩ = some (.slice a n c) ∧ Young nb (.slice a n c) ∧ ∀ x y, Wd.In ((w.setCell ⟨R, 0, none⟩ x).setCell ⟨R, 1, none⟩ y) (.slice a n c) s.nodes ∧ Wd.In ((w.setCell ⟨R, 0, none⟩ x).setCell ⟨R, 1, none⟩ y) (.slice (some ⟨g, 0, none⟩) 512 512) s.sec := by
  obtain ⟨a, n, c, c0, c1, cf, hO⟩ := h.cells
  obtain ⟨r1, r2, -⟩ := h.row
  refine ⟨a, n, c, c0, fun a' n' c' e => ?_, fun x y => ⟨?_, ?_⟩⟩
  · cases e
    exact (hO.1.lt _ rfl).1
  · have h1 : Wv.Ov (Value.int .i64) 3 nb ((w.setCell ⟨R, 0, none⟩ x).setCell ⟨R, 1, none⟩ y) (.slice a n c) s.nodes := ⟨ownsRow_setCell_below (ownsRow_setCell_below hO.1 (a := ⟨R, 0, none⟩) hR x) (a := ⟨R, 1, none⟩) hR y, hO.2⟩
    exact h1.rv
  · exact rv_row ((r1.setOther (a := ⟨R, 0, none⟩) (fun e => hg e.symm) x).setOther (a := ⟨R, 1, none⟩) (fun e => hg e.symm) y) r2 (by omega)

/-- What find tells. -/
def FindPost (xs : List Int) (root : Int) (w : World) : Ending → World → Prop := fun e w' =>
  ∃ a n c a' n' c', e = .returned (.tuple #[.agg #[.slice a n c, .slice a' n' c'], .int .i64 (Wt.treE xs root)]) ∧ Wd.In w' (.slice a n c) (Wt.treN xs root) ∧ Wd.In w' (.slice a' n' c') (Wt.treS xs root) ∧ Below w.heap.size w w' ∧ Young w.heap.size (.slice a n c) ∧ Young w.heap.size (.slice a' n' c')

theorem find_nil {xs : List Int} {root : Int} {w w' : World} {E : Int} (h : Wt.treE xs root = E ∧ Wt.treN xs root = [] ∧ Wt.treS xs root = []) (hb : Below w.heap.size w w') : FindPost xs root w (.returned (.tuple #[.agg #[.slice none 0 0, .slice none 0 0], .int .i64 E])) w' := by
  refine ⟨none, 0, 0, none, 0, 0, by rw [h.1], ?_, ?_, hb, Young.nil _ _ _, Young.nil _ _ _⟩
  · rw [h.2.1]; exact Wv.Rv.nil _
  · rw [h.2.2]; exact Wv.Rv.nil _

set_option maxHeartbeats 1600000 in
theorem find_dev (ai : Option Addr) (ni ci : Nat) (xs : List Int) (root : Int) (w : World) (hv : Wc.Bs w (.slice ai ni ci) xs) (hd : Wd.devB xs.length = false) :
    Calls Tryz.prog 99 #[.slice ai ni ci, .int .i64 root] w (FindPost xs root w) := by
  have hni : ni ≤ 140737488355328 := by obtain ⟨_, _, _, h1, _, _, _, h5, _⟩ := hv; cases h1; exact h5
  have hl := Wc.bs_len hv
  have HT := Wc.hid (Wt.tre_dev (root := root) hd)
  rw [hl] at hd
  have hE := Wd.chk_no (fun h => by rw [Wd.devB_iff.2 h] at hd; cases hd)
  have h0 := hE.1.symm
  have h2 := hE.2.symm
  have T0 := Two.new w (.slice none 0 0) (.slice none 0 0) 123
  have HB := Wc.hid ((Below.refl w.heap.size w).alloc (Nat.le_refl _) (.cells #[.slice none 0 0, .slice none 0 0] 123))
  have HT0 := Wc.hid T0
  clear hv hl hd hE T0
  go_enter Tryz.func99, Tryz.ntmps99
  go_wp2_with fail
  refine (check_any _ _ _ _ hni).mono ?_
  rintro e w1 ⟨rfl, rfl⟩
  rw [h0, h2]
  go_wp2_with fail
  exact bodyPost_ret (ret_cell26 rfl rfl rfl rfl rfl HT0.out) rfl (find_nil HT.out HB.out)

theorem zeros_getD (n j : Nat) : (List.replicate n (0 : Int)).getD j 0 = 0 := by
  rw [List.getD_eq_getElem?_getD, List.getElem?_replicate]
  split <;> rfl

theorem made512 : ∃ mc : Array Value, (∀ w : World, (Instr.makeSlice 28 (.int .i64 512) (.int .i64 512)).run Tryz.prog w = .ok (.slice (some ⟨w.heap.size, 0, none⟩) 512 512) (w.alloc (.cells mc 3))) ∧ ∀ w : World, (w.alloc (.cells mc 3)).rowIs w.heap.size 3 512 (fun _ => .int .i64 0) :=
  ⟨madeCells #[.int .i64 0] 512, run_make_row' (P := Tryz.prog) 28 3 (.int .i64 0) 8 Tryz.underlying28 Tryz.infoI rfl .i64 .i64 512 (by omega) (by omega), fun w => World.rowIs_made w (.int .i64 0) 512 3⟩

theorem fo_start (w : World) (X : Obj) (mc : Array Value) (hmc : ∀ w : World, (w.alloc (.cells mc 3)).rowIs w.heap.size 3 512 (fun _ => .int .i64 0)) :
    Fo (((w.alloc X).alloc (.cells mc 3)).alloc (.cells #[.slice none 0 0, .slice (some ⟨w.heap.size + 1, 0, none⟩) 512 512] 123)) (w.heap.size + 2) (w.heap.size + 1) (w.heap.size + 3) Wt.s0 := by
  have h1 := World.rowIs.alloc (hmc (w.alloc X)) (.cells #[.slice none 0 0, .slice (some ⟨w.heap.size + 1, 0, none⟩) 512 512] 123)
  rw [show (w.alloc X).heap.size = w.heap.size + 1 by simp] at h1
  have h2 := Two.new ((w.alloc X).alloc (.cells mc 3)) (.slice none 0 0) (.slice (some ⟨w.heap.size + 1, 0, none⟩) 512 512) 123
  rw [show ((w.alloc X).alloc (.cells mc 3)).heap.size = w.heap.size + 2 by simp] at h2
  refine ⟨none, 0, 0, h2, Wv.Ov.nil _ _ _, h1.congr fun j hj => ?_, List.length_replicate, by omega, by omega, by omega, by simp⟩
  rw [show Wt.s0.sec.getD j 0 = 0 from zeros_getD 512 j]

set_option maxHeartbeats 1600000 in
theorem find_rest_zero (ai : Option Addr) (ni ci : Nat) (xs : List Int) (w : World) (hv : Wc.Bs w (.slice ai ni ci) xs) (hd : Wd.devB xs.length = true) :
    Calls Tryz.prog 99 #[.slice ai ni ci, .int .i64 0] w (FindPost xs 0 w) := by
  have hni : ni ≤ 140737488355328 := by obtain ⟨_, _, _, h1, _, _, _, h5, _⟩ := hv; cases h1; exact h5
  have hl := Wc.bs_len hv
  have hd2 := hd
  rw [hl] at hd2
  have hE := Wd.chk_yes (Wd.devB_iff.1 hd2)
  have hdd := Wd.devB_iff.1 hd2
  obtain ⟨m, hm⟩ : ∃ m : Nat, ni / 64 = m := ⟨_, rfl⟩
  have hmi : (ni : Int) / 64 = (m : Int) := by omega
  have hml : m ≤ 4096 := by omega
  have h0 := hE.1.symm
  rw [hmi] at h0
  have h2 := hE.2.symm
  have hxm : xs.length / 64 = m := by rw [hl]; exact hm
  have HXM := Wc.hid hxm
  have HD := Wc.hid hd
  obtain ⟨mc, hmk, hmc⟩ := made512
  have HMC := Wc.hid hmc
  have F3 := Wc.hid (fo_start w (.cells #[.slice none 0 0, .slice none 0 0] 123) mc hmc)
  have T1 := Two.new w (.slice none 0 0) (.slice none 0 0) 123
  have b1 : Below w.heap.size w (w.alloc (.cells #[.slice none 0 0, .slice none 0 0] 123)) := (Below.refl _ _).alloc (Nat.le_refl _) _
  have b2 : Below (w.alloc (.cells #[.slice none 0 0, .slice none 0 0] 123)).heap.size (w.alloc (.cells #[.slice none 0 0, .slice none 0 0] 123)) ((w.alloc (.cells #[.slice none 0 0, .slice none 0 0] 123)).alloc (.cells mc 3)) := (Below.refl _ _).alloc (Nat.le_refl _) _
  have b3 : Below ((w.alloc (.cells #[.slice none 0 0, .slice none 0 0] 123)).alloc (.cells mc 3)).heap.size ((w.alloc (.cells #[.slice none 0 0, .slice none 0 0] 123)).alloc (.cells mc 3)) (((w.alloc (.cells #[.slice none 0 0, .slice none 0 0] 123)).alloc (.cells mc 3)).alloc (.cells #[.slice none 0 0, .slice (some ⟨w.heap.size + 1, 0, none⟩) 512 512] 123)) := (Below.refl _ _).alloc (Nat.le_refl _) _
  have T3 := Wc.hid ((T1.keep b2).keep b3)
  have V1 := Wc.hid (hv.keep b1)
  have B1 := Wc.hid b1
  have B3 := Wc.hid (Wc.step b2 (Nat.le_refl _) b3)
  have V3 := Wc.hid ((hv.keep b1).keep (Wc.step b2 (Nat.le_refl _) b3))
  clear hv hl hd hd2 hE hdd hm hmi hxm hmc T1 b1 b2 b3
  have HT := Wc.hid (Wt.tre_some (root := 0) (t := Wt.s0) HD.out (by simp [Wt.tre]))
  have b1 : Below w.heap.size w (w.alloc (.cells #[.slice none 0 0, .slice (some ⟨w.heap.size + 1, 0, none⟩) 512 512] 123)) := (Below.refl _ _).alloc (Nat.le_refl _) _
  have b2 : Below (w.alloc (.cells #[.slice none 0 0, .slice (some ⟨w.heap.size + 1, 0, none⟩) 512 512] 123)).heap.size (w.alloc (.cells #[.slice none 0 0, .slice (some ⟨w.heap.size + 1, 0, none⟩) 512 512] 123)) ((w.alloc (.cells #[.slice none 0 0, .slice (some ⟨w.heap.size + 1, 0, none⟩) 512 512] 123)).alloc (.cells mc 3)) := (Below.refl _ _).alloc (Nat.le_refl _) _
  have b3 : Below ((w.alloc (.cells #[.slice none 0 0, .slice (some ⟨w.heap.size + 1, 0, none⟩) 512 512] 123)).alloc (.cells mc 3)).heap.size ((w.alloc (.cells #[.slice none 0 0, .slice (some ⟨w.heap.size + 1, 0, none⟩) 512 512] 123)).alloc (.cells mc 3)) (((w.alloc (.cells #[.slice none 0 0, .slice (some ⟨w.heap.size + 1, 0, none⟩) 512 512] 123)).alloc (.cells mc 3)).alloc (.cells #[.slice none 0 0, .slice (some ⟨w.heap.size + 1, 0, none⟩) 512 512] 123)) := (Below.refl _ _).alloc (Nat.le_refl _) _
  have T5 := Wc.hid (((Two.new w (.slice none 0 0) (.slice (some ⟨w.heap.size + 1, 0, none⟩) 512 512) 123).keep b2).keep b3)
  have F5 := Wc.hid (fo_start w (.cells #[.slice none 0 0, .slice (some ⟨w.heap.size + 1, 0, none⟩) 512 512] 123) mc HMC.out)
  have HB5 := Wc.hid (Wc.step (Wc.step b1 (Nat.le_refl _) b2) (Nat.le_refl _) b3)
  clear b1 b2 b3 T3 F3 V3 V1 B1 B3
  go_enter Tryz.func99, Tryz.ntmps99
  go_wp2_with fail
  refine (check_any _ _ _ _ hni).mono ?_
  rintro e w1 ⟨rfl, rfl⟩
  rw [h0, h2]
  go_wp2_with fail
  refine bodyPost_ret (ret_cell26 rfl rfl rfl rfl rfl T5.out) rfl ⟨_, _, _, _, _, _, by rw [HT.out.1]; rfl, ?_, ?_, HB5.out, Young.nil _ _ _, Young.at (by omega)⟩
  · rw [HT.out.2.1]; exact Wv.Rv.nil _
  · rw [HT.out.2.2]; exact rv_row F5.out.row.1 F5.out.row.2.1 (by omega)

set_option maxHeartbeats 1600000 in
theorem find_slot (ai : Option Addr) (ni ci : Nat) (xs : List Int) (root : Int) (w : World) (hv : Wc.Bs w (.slice ai ni ci) xs) (hd : Wd.devB xs.length = true) (hr : ¬ root = 0) (hb : Wt.bsB root ((xs.length / 64 : Nat) : Int) = false) :
    Calls Tryz.prog 99 #[.slice ai ni ci, .int .i64 root] w (FindPost xs root w) := by
  have hni : ni ≤ 140737488355328 := by obtain ⟨_, _, _, h1, _, _, _, h5, _⟩ := hv; cases h1; exact h5
  have hl := Wc.bs_len hv
  have hd2 := hd
  rw [hl] at hd2
  have hE := Wd.chk_yes (Wd.devB_iff.1 hd2)
  have hdd := Wd.devB_iff.1 hd2
  obtain ⟨m, hm⟩ : ∃ m : Nat, ni / 64 = m := ⟨_, rfl⟩
  have hmi : (ni : Int) / 64 = (m : Int) := by omega
  have hml : m ≤ 4096 := by omega
  have h0 := hE.1.symm
  rw [hmi] at h0
  have h2 := hE.2.symm
  have hxm : xs.length / 64 = m := by rw [hl]; exact hm
  have HXM := Wc.hid hxm
  have HD := Wc.hid hd
  obtain ⟨mc, hmk, hmc⟩ := made512
  have F3 := Wc.hid (fo_start w (.cells #[.slice none 0 0, .slice none 0 0] 123) mc hmc)
  have T1 := Two.new w (.slice none 0 0) (.slice none 0 0) 123
  have b1 : Below w.heap.size w (w.alloc (.cells #[.slice none 0 0, .slice none 0 0] 123)) := (Below.refl _ _).alloc (Nat.le_refl _) _
  have b2 : Below (w.alloc (.cells #[.slice none 0 0, .slice none 0 0] 123)).heap.size (w.alloc (.cells #[.slice none 0 0, .slice none 0 0] 123)) ((w.alloc (.cells #[.slice none 0 0, .slice none 0 0] 123)).alloc (.cells mc 3)) := (Below.refl _ _).alloc (Nat.le_refl _) _
  have b3 : Below ((w.alloc (.cells #[.slice none 0 0, .slice none 0 0] 123)).alloc (.cells mc 3)).heap.size ((w.alloc (.cells #[.slice none 0 0, .slice none 0 0] 123)).alloc (.cells mc 3)) (((w.alloc (.cells #[.slice none 0 0, .slice none 0 0] 123)).alloc (.cells mc 3)).alloc (.cells #[.slice none 0 0, .slice (some ⟨w.heap.size + 1, 0, none⟩) 512 512] 123)) := (Below.refl _ _).alloc (Nat.le_refl _) _
  have T3 := Wc.hid ((T1.keep b2).keep b3)
  have V1 := Wc.hid (hv.keep b1)
  have B1 := Wc.hid b1
  have B3 := Wc.hid (Wc.step b2 (Nat.le_refl _) b3)
  have V3 := Wc.hid ((hv.keep b1).keep (Wc.step b2 (Nat.le_refl _) b3))
  clear hv hl hd hd2 hE hdd hm hmi hxm hmc T1 b1 b2 b3
  have HT := Wc.hid (Wt.tre_none (root := root) HD.out (by unfold Wt.tre; rw [if_neg hr, if_neg (by rw [hb]; decide)]))
  rw [HXM.out] at hb
  have hrb : (root == 0) = false := by simpa using hr
  go_enter Tryz.func99, Tryz.ntmps99
  go_wp2_with fail
  refine (check_any _ _ _ _ hni).mono ?_
  rintro e w1 ⟨rfl, rfl⟩
  rw [h0, h2]
  go_wp2_with fail
  refine (behind_any root m _).mono ?_
  rintro e w2 ⟨rfl, rfl⟩
  rw [hb]
  go_wp2_with fail
  exact bodyPost_ret (ret_cell26 rfl rfl rfl rfl rfl T3.out) rfl (find_nil HT.out (B1.out.trans (B3.out.mono B1.out.size)))

set_option maxHeartbeats 1600000 in
theorem find_none (ai : Option Addr) (ni ci : Nat) (xs : List Int) (root : Int) (w : World) (hv : Wc.Bs w (.slice ai ni ci) xs) (hd : Wd.devB xs.length = true) (hr : ¬ root = 0) (hb : Wt.bsB root ((xs.length / 64 : Nat) : Int) = true) (ht : Wt.met xs 3 root 0 Wt.s0 = none) :
    Calls Tryz.prog 99 #[.slice ai ni ci, .int .i64 root] w (FindPost xs root w) := by
  have hni : ni ≤ 140737488355328 := by obtain ⟨_, _, _, h1, _, _, _, h5, _⟩ := hv; cases h1; exact h5
  have hl := Wc.bs_len hv
  have hd2 := hd
  rw [hl] at hd2
  have hE := Wd.chk_yes (Wd.devB_iff.1 hd2)
  have hdd := Wd.devB_iff.1 hd2
  obtain ⟨m, hm⟩ : ∃ m : Nat, ni / 64 = m := ⟨_, rfl⟩
  have hmi : (ni : Int) / 64 = (m : Int) := by omega
  have hml : m ≤ 4096 := by omega
  have h0 := hE.1.symm
  rw [hmi] at h0
  have h2 := hE.2.symm
  have hxm : xs.length / 64 = m := by rw [hl]; exact hm
  have HXM := Wc.hid hxm
  have HD := Wc.hid hd
  obtain ⟨mc, hmk, hmc⟩ := made512
  have F3 := Wc.hid (fo_start w (.cells #[.slice none 0 0, .slice none 0 0] 123) mc hmc)
  have T1 := Two.new w (.slice none 0 0) (.slice none 0 0) 123
  have b1 : Below w.heap.size w (w.alloc (.cells #[.slice none 0 0, .slice none 0 0] 123)) := (Below.refl _ _).alloc (Nat.le_refl _) _
  have b2 : Below (w.alloc (.cells #[.slice none 0 0, .slice none 0 0] 123)).heap.size (w.alloc (.cells #[.slice none 0 0, .slice none 0 0] 123)) ((w.alloc (.cells #[.slice none 0 0, .slice none 0 0] 123)).alloc (.cells mc 3)) := (Below.refl _ _).alloc (Nat.le_refl _) _
  have b3 : Below ((w.alloc (.cells #[.slice none 0 0, .slice none 0 0] 123)).alloc (.cells mc 3)).heap.size ((w.alloc (.cells #[.slice none 0 0, .slice none 0 0] 123)).alloc (.cells mc 3)) (((w.alloc (.cells #[.slice none 0 0, .slice none 0 0] 123)).alloc (.cells mc 3)).alloc (.cells #[.slice none 0 0, .slice (some ⟨w.heap.size + 1, 0, none⟩) 512 512] 123)) := (Below.refl _ _).alloc (Nat.le_refl _) _
  have T3 := Wc.hid ((T1.keep b2).keep b3)
  have V1 := Wc.hid (hv.keep b1)
  have B1 := Wc.hid b1
  have B3 := Wc.hid (Wc.step b2 (Nat.le_refl _) b3)
  have V3 := Wc.hid ((hv.keep b1).keep (Wc.step b2 (Nat.le_refl _) b3))
  clear hv hl hd hd2 hE hdd hm hmi hxm hmc T1 b1 b2 b3
  have HT := Wc.hid (Wt.tre_none (root := root) HD.out (by unfold Wt.tre; rw [if_neg hr, if_pos hb, ht]))
  rw [HXM.out] at hb
  have HTN := Wc.hid ht
  have hrb : (root == 0) = false := by simpa using hr
  clear ht
  go_enter Tryz.func99, Tryz.ntmps99
  go_wp2_with fail
  refine (check_any _ _ _ _ hni).mono ?_
  rintro e w1 ⟨rfl, rfl⟩
  rw [h0, h2]
  go_wp2_with fail
  refine (behind_any root m _).mono ?_
  rintro e w2 ⟨rfl, rfl⟩
  rw [hb]
  go_wp2_with fail
  refine (follow_any xs _ (w.alloc (.cells #[.slice none 0 0, .slice none 0 0] 123)) (w.heap.size + 2) (w.heap.size + 1) (w.heap.size + 3) V1.out (by simp) (by simp) root Wt.s0 _ rfl B3.out F3.out).mono ?_
  rintro e w5 ⟨rfl, hb5, -⟩
  rw [HTN.out]
  have T5 := (Two.new w (.slice none 0 0) (.slice none 0 0) 123).keep hb5
  obtain ⟨c0, c1, cf⟩ := T5.cells
  have HT5 := Wc.hid (T5.over (.slice none 0 0) (.slice none 0 0))
  have HB5 := Wc.hid (Wc.step B1.out (Nat.le_refl _) hb5)
  clear T5 hb5
  go_wp2_with fail
  exact bodyPost_ret (ret_cell26 rfl rfl rfl rfl rfl HT5.out) rfl (find_nil HT.out ((HB5.out.setCell (p := ⟨w.heap.size, 0, none⟩) (Nat.le_refl _) _).setCell (p := ⟨w.heap.size, 1, none⟩) (Nat.le_refl _) _))

theorem s0_pos : ∀ x ∈ Wt.s0.sec, (0 : Int) ≤ x := by
  intro x hx
  have : x = 0 := (List.mem_replicate.1 hx).2
  omega

set_option maxHeartbeats 1600000 in
theorem find_near (ai : Option Addr) (ni ci : Nat) (xs : List Int) (root : Int) (w : World) (hv : Wc.Bs w (.slice ai ni ci) xs) (hd : Wd.devB xs.length = true) (hr : ¬ root = 0) (hb : Wt.bsB root ((xs.length / 64 : Nat) : Int) = true) (t : Wt.St) (ht : Wt.met xs 3 root 0 Wt.s0 = some t) (ha : Wt.apB t.nodes t.sec (xs.length / 64) = false) :
    Calls Tryz.prog 99 #[.slice ai ni ci, .int .i64 root] w (FindPost xs root w) := by
  have hne : ¬ t.nodes = [] := by
    obtain ⟨a, h1⟩ := Wt.met_root ht
    rw [h1]; simp
  have hnd := Wt.met_nodes xs 3 root 0 Wt.s0 t ht (by intro x hx; cases hx)
  have hsc := Wt.met_pos xs 3 root 0 Wt.s0 t ht (by have := Wt.bsB_iff.1 hb; omega) s0_pos
  have hni : ni ≤ 140737488355328 := by obtain ⟨_, _, _, h1, _, _, _, h5, _⟩ := hv; cases h1; exact h5
  have hl := Wc.bs_len hv
  have hd2 := hd
  rw [hl] at hd2
  have hE := Wd.chk_yes (Wd.devB_iff.1 hd2)
  have hdd := Wd.devB_iff.1 hd2
  obtain ⟨m, hm⟩ : ∃ m : Nat, ni / 64 = m := ⟨_, rfl⟩
  have hmi : (ni : Int) / 64 = (m : Int) := by omega
  have hml : m ≤ 4096 := by omega
  have h0 := hE.1.symm
  rw [hmi] at h0
  have h2 := hE.2.symm
  have hxm : xs.length / 64 = m := by rw [hl]; exact hm
  have HXM := Wc.hid hxm
  have HD := Wc.hid hd
  obtain ⟨mc, hmk, hmc⟩ := made512
  have F3 := Wc.hid (fo_start w (.cells #[.slice none 0 0, .slice none 0 0] 123) mc hmc)
  have T1 := Two.new w (.slice none 0 0) (.slice none 0 0) 123
  have b1 : Below w.heap.size w (w.alloc (.cells #[.slice none 0 0, .slice none 0 0] 123)) := (Below.refl _ _).alloc (Nat.le_refl _) _
  have b2 : Below (w.alloc (.cells #[.slice none 0 0, .slice none 0 0] 123)).heap.size (w.alloc (.cells #[.slice none 0 0, .slice none 0 0] 123)) ((w.alloc (.cells #[.slice none 0 0, .slice none 0 0] 123)).alloc (.cells mc 3)) := (Below.refl _ _).alloc (Nat.le_refl _) _
  have b3 : Below ((w.alloc (.cells #[.slice none 0 0, .slice none 0 0] 123)).alloc (.cells mc 3)).heap.size ((w.alloc (.cells #[.slice none 0 0, .slice none 0 0] 123)).alloc (.cells mc 3)) (((w.alloc (.cells #[.slice none 0 0, .slice none 0 0] 123)).alloc (.cells mc 3)).alloc (.cells #[.slice none 0 0, .slice (some ⟨w.heap.size + 1, 0, none⟩) 512 512] 123)) := (Below.refl _ _).alloc (Nat.le_refl _) _
  have T3 := Wc.hid ((T1.keep b2).keep b3)
  have V1 := Wc.hid (hv.keep b1)
  have B1 := Wc.hid b1
  have B3 := Wc.hid (Wc.step b2 (Nat.le_refl _) b3)
  have V3 := Wc.hid ((hv.keep b1).keep (Wc.step b2 (Nat.le_refl _) b3))
  clear hv hl hd hd2 hE hdd hm hmi hxm hmc T1 b1 b2 b3
  have HT := Wc.hid (Wt.tre_none (root := root) HD.out (by unfold Wt.tre; rw [if_neg hr, if_pos hb, ht]; exact if_neg (by rw [ha]; decide)))
  rw [HXM.out] at hb ha hnd
  have HTN := Wc.hid ht
  have hrb : (root == 0) = false := by simpa using hr
  have HND := Wc.hid hnd
  have HSC := Wc.hid hsc
  have HNE := Wc.hid hne
  have HAP := Wc.hid ha
  clear ht hnd hsc hne ha
  go_enter Tryz.func99, Tryz.ntmps99
  go_wp2_with fail
  refine (check_any _ _ _ _ hni).mono ?_
  rintro e w1 ⟨rfl, rfl⟩
  rw [h0, h2]
  go_wp2_with fail
  refine (behind_any root m _).mono ?_
  rintro e w2 ⟨rfl, rfl⟩
  rw [hb]
  go_wp2_with fail
  refine (follow_any xs _ (w.alloc (.cells #[.slice none 0 0, .slice none 0 0] 123)) (w.heap.size + 2) (w.heap.size + 1) (w.heap.size + 3) V1.out (by simp) (by simp) root Wt.s0 _ rfl B3.out F3.out).mono ?_
  rintro e w5 ⟨rfl, hb5, hF5⟩
  rw [HTN.out]
  have F5 := Wc.hid (hF5 t HTN.out)
  have HB5 := Wc.hid hb5
  clear hb5 hF5
  go_wp2_with fail
  refine (apart_any (w.heap.size + 2) (w.heap.size + 1) (w.heap.size + 3) m t _ F5.out (by omega) HNE.out HND.out HSC.out).mono ?_
  rintro e w6 ⟨rfl, hb6⟩
  rw [HAP.out]
  have F6 := F5.out.keep hb6
  have T6 := ((Two.new w (.slice none 0 0) (.slice none 0 0) 123).keep HB5.out).keep hb6
  have HB6 := Wc.hid (Wc.step (Wc.step B1.out (Nat.le_refl _) HB5.out) (Nat.le_refl _) hb6)
  obtain ⟨c0, c1, cf⟩ := T6.cells
  have HT5 := Wc.hid (T6.over (.slice none 0 0) (.slice none 0 0))
  clear T6 hb6 F6
  go_wp2_with fail
  exact bodyPost_ret (ret_cell26 rfl rfl rfl rfl rfl HT5.out) rfl (find_nil HT.out ((HB6.out.setCell (p := ⟨w.heap.size, 0, none⟩) (Nat.le_refl _) _).setCell (p := ⟨w.heap.size, 1, none⟩) (Nat.le_refl _) _))

set_option maxHeartbeats 1600000 in
theorem find_good (ai : Option Addr) (ni ci : Nat) (xs : List Int) (root : Int) (w : World) (hv : Wc.Bs w (.slice ai ni ci) xs) (hd : Wd.devB xs.length = true) (hr : ¬ root = 0) (hb : Wt.bsB root ((xs.length / 64 : Nat) : Int) = true) (t : Wt.St) (ht : Wt.met xs 3 root 0 Wt.s0 = some t) (ha : Wt.apB t.nodes t.sec (xs.length / 64) = true) :
    Calls Tryz.prog 99 #[.slice ai ni ci, .int .i64 root] w (FindPost xs root w) := by
  have hne : ¬ t.nodes = [] := by
    obtain ⟨a, h1⟩ := Wt.met_root ht
    rw [h1]; simp
  have hnd := Wt.met_nodes xs 3 root 0 Wt.s0 t ht (by intro x hx; cases hx)
  have hsc := Wt.met_pos xs 3 root 0 Wt.s0 t ht (by have := Wt.bsB_iff.1 hb; omega) s0_pos
  have hni : ni ≤ 140737488355328 := by obtain ⟨_, _, _, h1, _, _, _, h5, _⟩ := hv; cases h1; exact h5
  have hl := Wc.bs_len hv
  have hd2 := hd
  rw [hl] at hd2
  have hE := Wd.chk_yes (Wd.devB_iff.1 hd2)
  have hdd := Wd.devB_iff.1 hd2
  obtain ⟨m, hm⟩ : ∃ m : Nat, ni / 64 = m := ⟨_, rfl⟩
  have hmi : (ni : Int) / 64 = (m : Int) := by omega
  have hml : m ≤ 4096 := by omega
  have h0 := hE.1.symm
  rw [hmi] at h0
  have h2 := hE.2.symm
  have hxm : xs.length / 64 = m := by rw [hl]; exact hm
  have HXM := Wc.hid hxm
  have HD := Wc.hid hd
  obtain ⟨mc, hmk, hmc⟩ := made512
  have F3 := Wc.hid (fo_start w (.cells #[.slice none 0 0, .slice none 0 0] 123) mc hmc)
  have T1 := Two.new w (.slice none 0 0) (.slice none 0 0) 123
  have b1 : Below w.heap.size w (w.alloc (.cells #[.slice none 0 0, .slice none 0 0] 123)) := (Below.refl _ _).alloc (Nat.le_refl _) _
  have b2 : Below (w.alloc (.cells #[.slice none 0 0, .slice none 0 0] 123)).heap.size (w.alloc (.cells #[.slice none 0 0, .slice none 0 0] 123)) ((w.alloc (.cells #[.slice none 0 0, .slice none 0 0] 123)).alloc (.cells mc 3)) := (Below.refl _ _).alloc (Nat.le_refl _) _
  have b3 : Below ((w.alloc (.cells #[.slice none 0 0, .slice none 0 0] 123)).alloc (.cells mc 3)).heap.size ((w.alloc (.cells #[.slice none 0 0, .slice none 0 0] 123)).alloc (.cells mc 3)) (((w.alloc (.cells #[.slice none 0 0, .slice none 0 0] 123)).alloc (.cells mc 3)).alloc (.cells #[.slice none 0 0, .slice (some ⟨w.heap.size + 1, 0, none⟩) 512 512] 123)) := (Below.refl _ _).alloc (Nat.le_refl _) _
  have T3 := Wc.hid ((T1.keep b2).keep b3)
  have V1 := Wc.hid (hv.keep b1)
  have B1 := Wc.hid b1
  have B3 := Wc.hid (Wc.step b2 (Nat.le_refl _) b3)
  have V3 := Wc.hid ((hv.keep b1).keep (Wc.step b2 (Nat.le_refl _) b3))
  clear hv hl hd hd2 hE hdd hm hmi hxm hmc T1 b1 b2 b3
  have HT := Wc.hid (Wt.tre_some (root := root) (t := t) HD.out (by unfold Wt.tre; rw [if_neg hr, if_pos hb, ht]; exact if_pos ha))
  rw [HXM.out] at hb ha hnd
  have HTN := Wc.hid ht
  have hrb : (root == 0) = false := by simpa using hr
  have HND := Wc.hid hnd
  have HSC := Wc.hid hsc
  have HNE := Wc.hid hne
  have HAP := Wc.hid ha
  clear ht hnd hsc hne ha
  go_enter Tryz.func99, Tryz.ntmps99
  go_wp2_with fail
  refine (check_any _ _ _ _ hni).mono ?_
  rintro e w1 ⟨rfl, rfl⟩
  rw [h0, h2]
  go_wp2_with fail
  refine (behind_any root m _).mono ?_
  rintro e w2 ⟨rfl, rfl⟩
  rw [hb]
  go_wp2_with fail
  refine (follow_any xs _ (w.alloc (.cells #[.slice none 0 0, .slice none 0 0] 123)) (w.heap.size + 2) (w.heap.size + 1) (w.heap.size + 3) V1.out (by simp) (by simp) root Wt.s0 _ rfl B3.out F3.out).mono ?_
  rintro e w5 ⟨rfl, hb5, hF5⟩
  rw [HTN.out]
  have F5 := Wc.hid (hF5 t HTN.out)
  have HB5 := Wc.hid hb5
  clear hb5 hF5
  go_wp2_with fail
  refine (apart_any (w.heap.size + 2) (w.heap.size + 1) (w.heap.size + 3) m t _ F5.out (by omega) HNE.out HND.out HSC.out).mono ?_
  rintro e w6 ⟨rfl, hb6⟩
  rw [HAP.out]
  have F6 := F5.out.keep hb6
  have T6 := ((Two.new w (.slice none 0 0) (.slice none 0 0) 123).keep HB5.out).keep hb6
  have HB6 := Wc.hid (Wc.step (Wc.step B1.out (Nat.le_refl _) HB5.out) (Nat.le_refl _) hb6)
  obtain ⟨c0, c1, cf⟩ := T6.cells
  obtain ⟨a, n, c, k0, hy, HK⟩ := F6.tell (R := w.heap.size) (by omega) (by omega)
  obtain ⟨-, -, -, -, k1, -⟩ := F6.cells
  have HKK := Wc.hid HK
  have HY := Wc.hid hy
  have HT5 := Wc.hid (T6.over (.slice a n c) (.slice (some ⟨w.heap.size + 1, 0, none⟩) 512 512))
  clear T6 hb6 F6 HK hy
  go_wp2_with fail
  exact bodyPost_ret (ret_cell26 rfl rfl rfl rfl rfl HT5.out) rfl ⟨a, n, c, _, _, _, by rw [HT.out.1]; rfl, by rw [HT.out.2.1]; exact (HKK.out _ _).1, by rw [HT.out.2.2]; exact (HKK.out _ _).2, ((HB6.out.setCell (p := ⟨w.heap.size, 0, none⟩) (Nat.le_refl _) _).setCell (p := ⟨w.heap.size, 1, none⟩) (Nat.le_refl _) _), fun x y z e => by have := HY.out x y z e; omega, Young.at (by omega)⟩

/-- What find tells, for every device and every root. -/
theorem find_any (v : Value) (xs : List Int) (root : Int) (w : World) (hv : Wc.Bs w v xs) : Calls Tryz.prog 99 #[v, .int .i64 root] w (FindPost xs root w) := by
  obtain ⟨ai, ni, ci, rfl, -⟩ := id hv
  cases hd : Wd.devB xs.length
  · exact find_dev ai ni ci xs root w hv hd
  · by_cases hr : root = 0
    · subst hr; exact find_rest_zero ai ni ci xs w hv hd
    · cases hb : Wt.bsB root ((xs.length / 64 : Nat) : Int)
      · exact find_slot ai ni ci xs root w hv hd hr hb
      · cases ht : Wt.met xs 3 root 0 Wt.s0 with
        | none => exact find_none ai ni ci xs root w hv hd hr hb ht
        | some t =>
          cases ha : Wt.apB t.nodes t.sec (xs.length / 64)
          · exact find_near ai ni ci xs root w hv hd hr hb t ht ha
          · exact find_good ai ni ci xs root w hv hd hr hb t ht ha

end Go.Proofs.YtfflhiajbioheaaGreat
namespace Wt
open Go Go.RowKit

theorem tre_len {xs : List Int} {root : Int} {t : St} (h : tre xs root = some t) : t.sec.length = 512 := by
  unfold tre at h
  by_cases hr : root = 0
  · rw [if_pos hr] at h
    cases h
    exact List.length_replicate
  · rw [if_neg hr] at h
    by_cases hb : bsB root ((xs.length / 64 : Nat) : Int) = true
    · rw [if_pos hb] at h
      cases ht : met xs 3 root 0 s0 with
      | none => rw [ht] at h; cases h
      | some u =>
        rw [ht] at h
        have hl := met_secLen xs 3 root 0 s0 u ht
        by_cases ha : apB u.nodes u.sec (xs.length / 64) = true
        · have h' : (if apB u.nodes u.sec (xs.length / 64) = true then some u else none) = some t := h
          rw [if_pos ha] at h'
          cases h'
          rw [hl]; exact List.length_replicate
        · have h' : (if apB u.nodes u.sec (xs.length / 64) = true then some u else none) = some t := h
          rw [if_neg ha] at h'
          cases h'
    · rw [if_neg hb] at h; cases h

theorem treS_len {xs : List Int} {root : Int} (h : treE xs root = 0) : (treS xs root).length = 512 := by
  cases hd : Wd.devB xs.length
  · rw [(tre_dev hd).1] at h; cases h
  · cases ht : tre xs root with
    | none => rw [(tre_none hd ht).1] at h; cases h
    | some t => rw [(tre_some hd ht).2.2]; exact tre_len ht

/-- What Sector tells. -/
def secE (xs : List Int) (root sector : Int) : Int := if treE xs root = 0 then (if 0 ≤ sector ∧ sector < 512 then 0 else 3) else treE xs root
def secR (xs : List Int) (root sector : Int) : Int := if treE xs root = 0 ∧ 0 ≤ sector ∧ sector < 512 then (treS xs root).getD sector.toNat 0 else 0

/-- May it be a place of a map? -/
def plB (n x : Int) : Bool := x == 0 || bsB x n
def mapE (m : List Int) (n : Int) : Int := if m.length = 512 then (if m.all (plB n) = true then 0 else 1) else 2

end Wt
namespace Go.Proofs.YtfflhiajbioheaaGreat
open Go.RowKit

set_option maxHeartbeats 1600000 in
theorem map_any (v : Value) (xs : List Int) (root : Int) (w : World) (hv : Wc.Bs w v xs) :
    Calls Tryz.prog 90 #[v, .int .i64 root] w fun e w' => ∃ a n c, e = .returned (.tuple #[.slice a n c, .int .i64 (Wt.treE xs root)]) ∧ Wd.In w' (.slice a n c) (Wt.treS xs root) ∧ Below w.heap.size w w' ∧ Young w.heap.size (.slice a n c) := by
  have HV := Wc.hid hv
  clear hv
  go_enter Tryz.func90, Tryz.ntmps90
  go_wp2_with fail
  refine (find_any v xs root _ HV.out).mono ?_
  rintro e w1 ⟨a, n, c, a', n', c', rfl, h1, h2, hb, hy1, hy2⟩
  have HB := Wc.hid (hb.alloc hb.size (.cells #[.slice a n c, .slice a' n' c'] 123))
  have H2 := Wc.hid (h2.keep ((Below.refl _ _).alloc (Nat.le_refl _) (.cells #[.slice a n c, .slice a' n' c'] 123)))
  have HY := Wc.hid hy2
  clear h1 h2 hb hy1 hy2
  go_wp2_with fail
  go_ret2
  exact ⟨_, _, _, rfl, H2.out, HB.out, HY.out⟩

set_option maxHeartbeats 1600000 in
theorem nodes_any (v : Value) (xs : List Int) (root : Int) (w : World) (hv : Wc.Bs w v xs) :
    Calls Tryz.prog 91 #[v, .int .i64 root] w fun e w' => ∃ a n c, e = .returned (.tuple #[.slice a n c, .int .i64 (Wt.treE xs root)]) ∧ Wd.In w' (.slice a n c) (Wt.treN xs root) ∧ Below w.heap.size w w' ∧ Young w.heap.size (.slice a n c) := by
  have HV := Wc.hid hv
  clear hv
  go_enter Tryz.func91, Tryz.ntmps91
  go_wp2_with fail
  refine (find_any v xs root _ HV.out).mono ?_
  rintro e w1 ⟨a, n, c, a', n', c', rfl, h1, h2, hb, hy1, hy2⟩
  have HB := Wc.hid (hb.alloc hb.size (.cells #[.slice a n c, .slice a' n' c'] 123))
  have H2 := Wc.hid (h1.keep ((Below.refl _ _).alloc (Nat.le_refl _) (.cells #[.slice a n c, .slice a' n' c'] 123)))
  have HY := Wc.hid hy1
  clear h1 h2 hb hy1 hy2
  go_wp2_with fail
  go_ret2
  exact ⟨_, _, _, rfl, H2.out, HB.out, HY.out⟩

theorem tuple_ii {i i' j j' : Int} (h : i = i') (k : j = j') : Ending.returned (.tuple #[.int .i64 i, .int .i64 j]) = .returned (.tuple #[.int .i64 i', .int .i64 j']) := by rw [h, k]

theorem all_upto {P : Int → Bool} {m : List Int} (h : ∀ j, j < m.length → P (m.getD j 0) = true) : m.all P = true := by
  rw [List.all_eq_true]
  intro x hx
  obtain ⟨j, hj, rfl⟩ := List.getElem_of_mem hx
  have := h j hj
  rwa [getD_at hj] at this

theorem all_not {P : Int → Bool} {m : List Int} {k : Nat} (hk : k < m.length) (h : P (m.getD k 0) = false) : m.all P = false := by
  rw [List.all_eq_false]
  exact ⟨_, mem_getD hk, by rw [h]; decide⟩

end Go.Proofs.YtfflhiajbioheaaGreat
namespace Wt
open Wn

/-- Is no block both a node's and a sector's? -/
def sepB (ns dt : List Int) (N : Nat) : Bool := (List.range N).all fun i => !decide ((i : Int) ∈ ns) || !decide ((i : Int) ∈ dt)

/-- What the page's Tree finds. -/
def rtre (xs : List Int) (root : Int) : Option St :=
  if root = 0 then some s0 else
  if 2 ≤ root then
    match rmet xs ((xs.length / 64 : Nat) : Int) 3 root 0 s0 with
    | none => none
    | some t => if sepB t.nodes t.dat (xs.length / 64) = true then some t else none
  else none

theorem met_two (xs : List Int) : ∀ (L : Nat) (p : Int) (pl : Nat) (s t : St), met xs L p pl s = some t → 2 ≤ p → (∀ x ∈ s.nodes, 2 ≤ x) → ∀ x ∈ t.nodes, 2 ≤ x
  | 0, p, pl, s, t, h, _, hs => by
    rw [met_zero] at h
    cases h
    exact hs
  | L + 1, p, pl, s, t, h, hp, hs => by
    cases ho : okN xs p L
    · rw [met_no ho] at h; cases h
    · rw [met_yes ho] at h
      refine go_keeps (R := fun s t => (∀ x ∈ s.nodes, 2 ≤ x) → ∀ x ∈ t.nodes, 2 ≤ x) (fun _ h => h) (fun _ _ _ a b h => b (a h)) (fun k hk s t hz h => met_two xs L _ _ s t h (by have := pat_link (okN_nod ho).1 hk; omega)) 8 (Nat.le_refl _) _ _ h ?_
      intro x hx
      rcases List.mem_append.1 hx with hx | hx
      · exact hs x hx
      · have : x = p := by simpa using hx
        omega

/-- The map, place by place. -/
theorem met_map {xs : List Int} {root : Int} {t : St} (h : met xs 3 root 0 s0 = some t) (hr : ¬ root = 0) (i : Nat) (hi : i < 512) : t.sec.getD i 0 = look xs 3 root i := by
  have h1 := met_sec xs 3 root 0 s0 t h hr (by show (0 + 1) * 8 ^ 3 ≤ (List.replicate 512 (0 : Int)).length; rw [List.length_replicate]; omega) i
  rw [h1]
  have e1 : i / 8 ^ 3 = 0 := by omega
  have e2 : i % 8 ^ 3 = i := by omega
  have hz : s0.sec.getD i 0 = 0 := by
    show (List.replicate 512 (0 : Int)).getD i 0 = 0
    generalize 512 = n
    rw [List.getD_eq_getElem?_getD, List.getElem?_replicate]
    split <;> rfl
  rw [e1, e2, hz]
  by_cases hl : look xs 3 root i = 0
  · rw [if_neg (fun h => h.2 hl), hl]
  · rw [if_pos ⟨rfl, hl⟩]

theorem met_len {xs : List Int} {root : Int} {t : St} (h : met xs 3 root 0 s0 = some t) : t.sec.length = 512 := by
  rw [met_secLen xs 3 root 0 s0 t h]; exact List.length_replicate

/-- A place of the map is 0 or a sector's block; each sector's block is a place of the map. -/
theorem sec_dat {xs : List Int} {root : Int} {t : St} (h : met xs 3 root 0 s0 = some t) (hr : ¬ root = 0) (d : Int) : (d ∈ t.dat → ¬ d = 0 ∧ d ∈ t.sec) ∧ (d ∈ t.sec → d = 0 ∨ d ∈ t.dat) := by
  have h1 := met_dat xs 3 root 0 s0 t h hr d
  have hl := met_len h
  have hn : ¬ d ∈ s0.dat := by intro h; cases h
  constructor
  · intro hd
    rcases h1.1 hd with hd | ⟨h0, r, hr8, e⟩
    · exact absurd hd hn
    · have hr5 : r < 512 := by omega
      refine ⟨h0, ?_⟩
      rw [← met_map h hr r hr5] at e
      rw [← e]
      have hrl : r < t.sec.length := by omega
      have : t.sec.getD r 0 = t.sec[r] := by simp [hrl]
      rw [this]; exact List.getElem_mem _
  · intro hd
    by_cases h0 : d = 0
    · exact .inl h0
    · obtain ⟨i, hi, e⟩ := List.getElem_of_mem hd
      refine .inr (h1.2 (.inr ⟨h0, i, by omega, ?_⟩))
      rw [← met_map h hr i (by omega), ← e]
      simp [hi]

theorem apB_iff {xs : List Int} {root : Int} {t : St} (h : met xs 3 root 0 s0 = some t) (hr : 2 ≤ root) : apB t.nodes t.sec (xs.length / 64) = true ↔ t.nodes.Nodup ∧ ∀ x ∈ t.dat, x < ((xs.length / 64 : Nat) : Int) ∧ ¬ x ∈ t.nodes := by
  have hz : ¬ root = 0 := by omega
  have h2 := met_two xs 3 root 0 s0 t h hr (by intro x hx; cases hx)
  obtain ⟨a, ha⟩ := met_root h
  have hrt : root ∈ t.nodes := by rw [ha]; simp
  have hrn := met_nodes xs 3 root 0 s0 t h (by intro x hx; cases hx) root hrt
  simp only [apB, Bool.and_eq_true, decide_eq_true_eq, Bool.not_eq_true', List.any_eq_false, outB, Bool.or_eq_true, not_or]
  refine and_congr_right fun _ => ⟨fun k x hx => ?_, fun k x hx => ?_⟩
  · have := k x ((sec_dat h hz x).1 hx).2
    exact ⟨by omega, this.2⟩
  · rcases (sec_dat h hz x).2 hx with rfl | hx
    · exact ⟨by omega, fun hm => by have := h2 _ hm; omega⟩
    · have := k x hx
      exact ⟨by omega, this.2⟩

theorem sepB_iff {ns dt : List Int} {N : Nat} (hn : ∀ x ∈ ns, 0 ≤ x ∧ x < (N : Int)) : sepB ns dt N = true ↔ ∀ x ∈ dt, ¬ x ∈ ns := by
  simp only [sepB, List.all_eq_true, List.mem_range, Bool.or_eq_true, Bool.not_eq_true', decide_eq_false_iff_not]
  constructor
  · intro h x hx hm
    have h1 := hn x hm
    have h2 := h x.toNat (by omega)
    rw [show ((x.toNat : Nat) : Int) = x by omega] at h2
    rcases h2 with h2 | h2
    · exact h2 hm
    · exact h2 hx
  · intro h i _
    by_cases hm : (i : Int) ∈ ns
    · exact .inr (fun hd => h _ hd hm)
    · exact .inl hm

theorem tre_rtre (xs : List Int) (root : Int) : tre xs root = rtre xs root := by
  unfold tre rtre
  by_cases hr : root = 0
  · rw [if_pos hr, if_pos hr]
  rw [if_neg hr, if_neg hr]
  by_cases h2 : 2 ≤ root
  · rw [if_pos h2]
    cases hm : met xs 3 root 0 s0 with
    | none =>
      have h1 : rmet xs ((xs.length / 64 : Nat) : Int) 3 root 0 s0 = none := by
        cases h1 : rmet xs ((xs.length / 64 : Nat) : Int) 3 root 0 s0 with
        | none => rfl
        | some t =>
          rw [rmet_met _ _ _ _ _ _ _ h1] at hm
          cases hm
      rw [h1]
      by_cases hb : bsB root ((xs.length / 64 : Nat) : Int) = true
      · rw [if_pos hb]
      · rw [if_neg hb]
    | some t =>
      have hnod := met_nodes xs 3 root 0 s0 t hm (by intro x hx; cases hx)
      obtain ⟨a, ha⟩ := met_root hm
      have hrn := hnod root (by rw [ha]; simp)
      have hb : bsB root ((xs.length / 64 : Nat) : Int) = true := bsB_iff.2 ⟨h2, hrn.2⟩
      rw [if_pos hb]
      have hap := apB_iff hm h2
      have hse := sepB_iff (dt := t.dat) hnod
      show (if apB t.nodes t.sec (xs.length / 64) = true then some t else none) = _
      by_cases hg : Good ((xs.length / 64 : Nat) : Int) t
      · rw [met_rmet xs _ rfl 3 root 0 s0 t hm hg]
        show _ = (if sepB t.nodes t.dat (xs.length / 64) = true then some t else none)
        by_cases hs : sepB t.nodes t.dat (xs.length / 64) = true
        · rw [if_pos hs, if_pos (hap.2 ⟨hg.1, fun x hx => ⟨hg.2 x hx, hse.1 hs x hx⟩⟩)]
        · rw [if_neg hs, if_neg (fun h => hs (hse.2 fun x hx => ((hap.1 h).2 x hx).2))]
      · have h1 : rmet xs ((xs.length / 64 : Nat) : Int) 3 root 0 s0 = none := by
          cases h1 : rmet xs ((xs.length / 64 : Nat) : Int) 3 root 0 s0 with
          | none => rfl
          | some u =>
            have h3 := rmet_met _ _ _ _ _ _ _ h1
            rw [hm] at h3
            cases h3
            exact absurd (rmet_good _ _ _ _ _ _ _ h1 ⟨List.nodup_nil, by intro x hx; cases hx⟩) hg
        rw [h1, if_neg (fun h => hg ⟨(hap.1 h).1, fun x hx => ((hap.1 h).2 x hx).1⟩)]
  · have hb : ¬ bsB root ((xs.length / 64 : Nat) : Int) = true := fun h => h2 (bsB_iff.1 h).1
    rw [if_neg hb, if_neg h2]

/-- Where there is a tree, it is met on the way from its root. -/
theorem tre_met {xs : List Int} {root : Int} {t : St} (hr : ¬ root = 0) (h : tre xs root = some t) : 2 ≤ root ∧ root < ((xs.length / 64 : Nat) : Int) ∧ met xs 3 root 0 s0 = some t ∧ t.nodes.Nodup ∧ ∀ x ∈ t.dat, x < ((xs.length / 64 : Nat) : Int) ∧ ¬ x ∈ t.nodes := by
  unfold tre at h
  rw [if_neg hr] at h
  by_cases hb : bsB root ((xs.length / 64 : Nat) : Int) = true
  · rw [if_pos hb] at h
    have hb2 := bsB_iff.1 hb
    cases hm : met xs 3 root 0 s0 with
    | none => rw [hm] at h; cases h
    | some u =>
      rw [hm] at h
      have h' : (if apB u.nodes u.sec (xs.length / 64) = true then some u else none) = some t := h
      by_cases ha : apB u.nodes u.sec (xs.length / 64) = true
      · rw [if_pos ha] at h'
        cases h'
        exact ⟨hb2.1, hb2.2, rfl, (apB_iff hm hb2.1).1 ha⟩
      · rw [if_neg ha] at h'; cases h'
  · rw [if_neg hb] at h; cases h

end Wt
