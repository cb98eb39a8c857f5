/-
  The plain mathematics of trees: what is met on the way from a root, pointer by pointer. It speaks of no program.
-/
import Derived.Test.YtifjbmknghjohaaNnod
import Derived.Test.YtifjbmknghjohaaDapp
namespace Wt
open Wn

/-- What a block says, where it says a node. -/
def nd (xs : List Int) (p : Int) : Nod := par (Wd.rdR xs p)
/-- Is there a node of that level? -/
def okN (xs : List Int) (p : Int) (L : Nat) : Bool := parE (Wd.rdR xs p) == 0 && (nd xs p).level == (L : Int)

/-- What has been met: the nodes' blocks, of each sector its block, the sectors' blocks in order. -/
structure St where
  nodes : List Int
  sec : List Int
  dat : List Int

/-- The first k pointers of a node, one behind the other. -/
def go (f : Int → Nat → St → Option St) (n : Nod) (pl : Nat) : Nat → St → Option St
  | 0, s => some s
  | k + 1, s =>
    match go f n pl k s with
    | none => none
    | some t => if pat n k = 0 then some t else f (pat n k) (pl * 8 + k) t

/-- What a pointer of a node of level L leads to. -/
def met (xs : List Int) : Nat → Int → Nat → St → Option St
  | 0, p, pl, s => some ⟨s.nodes, s.sec.set pl p, s.dat ++ [p]⟩
  | L + 1, p, pl, s => if okN xs p L = true then go (met xs L) (nd xs p) pl 8 ⟨s.nodes ++ [p], s.sec, s.dat⟩ else none

theorem met_zero (xs : List Int) (p : Int) (pl : Nat) (s : St) : met xs 0 p pl s = some ⟨s.nodes, s.sec.set pl p, s.dat ++ [p]⟩ := rfl
theorem met_yes {xs : List Int} {L : Nat} {p : Int} (h : okN xs p L = true) (pl : Nat) (s : St) : met xs (L + 1) p pl s = go (met xs L) (nd xs p) pl 8 ⟨s.nodes ++ [p], s.sec, s.dat⟩ := by
  simp [met, h]
theorem met_no {xs : List Int} {L : Nat} {p : Int} (h : okN xs p L = false) (pl : Nat) (s : St) : met xs (L + 1) p pl s = none := by
  simp [met, h]

section
variable {f g : Int → Nat → St → Option St} {n : Nod} {pl : Nat}

theorem go_skip {k : Nat} {s t : St} (h : go f n pl k s = some t) (hp : pat n k = 0) : go f n pl (k + 1) s = some t := by
  simp [go, h, hp]
theorem go_step {k : Nat} {s t : St} (h : go f n pl k s = some t) (hp : ¬ pat n k = 0) : go f n pl (k + 1) s = f (pat n k) (pl * 8 + k) t := by
  simp [go, h, hp]
theorem go_none {k : Nat} {s : St} (h : go f n pl k s = none) : ∀ j, go f n pl (k + j) s = none
  | 0 => h
  | j + 1 => by
    have := go_none h j
    show go f n pl (k + j + 1) s = none
    simp [go, this]

/-- A law that every pointer's way keeps is kept by all. -/
theorem go_keeps {R : St → St → Prop} (hr : ∀ s, R s s) (ht : ∀ a b c, R a b → R b c → R a c) (hf : ∀ k, k < 8 → ∀ s t, ¬ pat n k = 0 → f (pat n k) (pl * 8 + k) s = some t → R s t) :
    ∀ k, k ≤ 8 → ∀ s t, go f n pl k s = some t → R s t
  | 0, _, s, t, h => by
    simp only [go, Option.some.injEq] at h
    subst h
    exact hr s
  | k + 1, hk, s, t, h => by
    cases h1 : go f n pl k s with
    | none => simp [go, h1] at h
    | some u =>
      have h2 := go_keeps hr ht hf k (by omega) s u h1
      by_cases hp : pat n k = 0
      · rw [go_skip h1 hp] at h
        cases h
        exact h2
      · rw [go_step h1 hp] at h
        exact ht s u t h2 (hf k (by omega) u t hp h)

end

/-- More nodes, more sectors' blocks behind the old ones. -/
def Ext (s t : St) : Prop := ∃ a b, t.nodes = s.nodes ++ a ∧ t.dat = s.dat ++ b

theorem Ext.refl (s : St) : Ext s s := ⟨[], [], by simp, by simp⟩
theorem Ext.trans {a b c : St} (h : Ext a b) (k : Ext b c) : Ext a c := by
  obtain ⟨x, y, h1, h2⟩ := h
  obtain ⟨x', y', k1, k2⟩ := k
  exact ⟨x ++ x', y ++ y', by rw [k1, h1, List.append_assoc], by rw [k2, h2, List.append_assoc]⟩

theorem met_ext (xs : List Int) : ∀ (L : Nat) (p : Int) (pl : Nat) (s t : St), met xs L p pl s = some t → Ext s t
  | 0, p, pl, s, t, h => by
    rw [met_zero] at h
    cases h
    exact ⟨[], [p], by simp, rfl⟩
  | L + 1, p, pl, s, t, h => by
    cases ho : okN xs p L
    · rw [met_no ho] at h; cases h
    · rw [met_yes ho] at h
      have h1 := go_keeps (R := Ext) Ext.refl (fun _ _ _ => Ext.trans) (fun _ _ s t _ h => met_ext xs L _ _ s t h) 8 (Nat.le_refl _) _ _ h
      exact Ext.trans ⟨[p], [], rfl, by simp⟩ h1

/-- How many nodes there may be. -/
def room : Nat → Nat
  | 0 => 0
  | L + 1 => 1 + 8 * room L

theorem go_room {f : Int → Nat → St → Option St} {n : Nod} {pl c : Nat} (hf : ∀ p q s t, f p q s = some t → t.nodes.length ≤ s.nodes.length + c) :
    ∀ k s t, go f n pl k s = some t → t.nodes.length ≤ s.nodes.length + k * c
  | 0, s, t, h => by
    simp only [go, Option.some.injEq] at h
    subst h; omega
  | k + 1, s, t, h => by
    cases h1 : go f n pl k s with
    | none => simp [go, h1] at h
    | some u =>
      have h2 := go_room hf k s u h1
      have h3 : (k + 1) * c = k * c + c := Nat.succ_mul k c
      by_cases hp : pat n k = 0
      · rw [go_skip h1 hp] at h
        cases h
        omega
      · rw [go_step h1 hp] at h
        have := hf _ _ _ _ h
        omega

theorem met_room (xs : List Int) : ∀ (L : Nat) (p : Int) (pl : Nat) (s t : St), met xs L p pl s = some t → t.nodes.length ≤ s.nodes.length + room L
  | 0, p, pl, s, t, h => by
    rw [met_zero] at h
    cases h
    simp [room]
  | L + 1, p, pl, s, t, h => by
    cases ho : okN xs p L
    · rw [met_no ho] at h; cases h
    · rw [met_yes ho] at h
      have h1 := go_room (fun p q s t => met_room xs L p q s t) 8 _ _ h
      simp only [List.length_append, List.length_cons, List.length_nil] at h1
      simp only [room]
      omega

theorem go_secLen {f : Int → Nat → St → Option St} {n : Nod} {pl : Nat} (hf : ∀ p q s t, f p q s = some t → t.sec.length = s.sec.length) (k : Nat) (hk : k ≤ 8) (s t : St) (h : go f n pl k s = some t) : t.sec.length = s.sec.length :=
  go_keeps (R := fun s t => t.sec.length = s.sec.length) (fun _ => rfl) (fun _ _ _ a b => b.trans a) (fun _ _ s t _ h => hf _ _ s t h) k hk s t h

theorem met_secLen (xs : List Int) : ∀ (L : Nat) (p : Int) (pl : Nat) (s t : St), met xs L p pl s = some t → t.sec.length = s.sec.length
  | 0, p, pl, s, t, h => by
    rw [met_zero] at h
    cases h
    simp
  | L + 1, p, pl, s, t, h => by
    cases ho : okN xs p L
    · rw [met_no ho] at h; cases h
    · rw [met_yes ho] at h
      exact go_secLen (met_secLen xs L) 8 (Nat.le_refl _) ⟨s.nodes ++ [p], s.sec, s.dat⟩ t h

end Wt
