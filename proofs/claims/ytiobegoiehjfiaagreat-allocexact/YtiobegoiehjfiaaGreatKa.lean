/-
  The plain mathematics of walking: which pointers are met on the way from the roots, where a node that is met again is not gone through again. It speaks of no program.
-/
import Derived.Test.YtiobegoiehjfiaaGreatQs
namespace Wj
open Wt Wn

/-- The blocks that a node's first k pointers lead to. -/
def ptrK (n : Nod) : Nat → List Int
  | 0 => []
  | k + 1 => ptrK n k ++ (if pat n k = 0 then [] else [pat n k])
/-- All pointers of some nodes. -/
def nps (xs : List Int) (D : List Int) : List Int := D.flatMap fun q => ptrK (nd xs q) 8
/-- A pointer that is met. -/
def led (T : List Int) (p : Int) : List Int := if p = 0 then T else T ++ [p]
/-- The first k pointers of a node, one behind the other. -/
def wgo (f : Int → List Int → List Int) (n : Nod) : Nat → List Int → List Int
  | 0, T => T
  | k + 1, T => f (pat n k) (wgo f n k T)
/-- A pointer to a node. -/
def wlk (xs : List Int) : Nat → Int → List Int → List Int
  | 0, p, T => led T p
  | L + 1, p, T => if p = 0 then T else if p ∈ T then T ++ [p] else wgo (wlk xs L) (nd xs p) 8 (T ++ [p])

/-- Below this pointer all is right: A tells which blocks are nodes. -/
def Wf (xs : List Int) (N : Int) (A : Int → Prop) : Nat → Int → Prop
  | 0, p => 0 ≤ p ∧ p < N ∧ ¬ A p
  | L + 1, p => p = 0 ∨ (okN xs p L = true ∧ A p ∧ 2 ≤ p ∧ p < N ∧ ∀ k, k < 8 → Wf xs N A L (pat (nd xs p) k))

theorem led_zero (T : List Int) : led T 0 = T := by unfold led; rw [if_pos rfl]
theorem led_yes {T : List Int} {p : Int} (h : ¬ p = 0) : led T p = T ++ [p] := by unfold led; rw [if_neg h]
theorem led_count (T : List Int) (p b : Int) : (led T p).count b = T.count b + (led [] p).count b := by
  unfold led
  by_cases h : p = 0
  · rw [if_pos h, if_pos h]; simp
  · rw [if_neg h, if_neg h, List.count_append]; simp
theorem led_mem {T : List Int} {p q : Int} : q ∈ led T p ↔ q ∈ T ∨ (q = p ∧ ¬ p = 0) := by
  unfold led
  by_cases h : p = 0
  · rw [if_pos h]; simp [h]
  · rw [if_neg h]; simp [h]
theorem ptrK_count (n : Nod) (k : Nat) (b : Int) : (ptrK n (k + 1)).count b = (ptrK n k).count b + (led [] (pat n k)).count b := by
  show (ptrK n k ++ (if pat n k = 0 then [] else [pat n k])).count b = _
  rw [List.count_append]
  unfold led
  by_cases h : pat n k = 0 <;> simp [h]
theorem ptrK_mem {n : Nod} {p : Int} : ∀ k, p ∈ ptrK n k ↔ ∃ j, j < k ∧ p = pat n j ∧ ¬ p = 0
  | 0 => by simp [ptrK]
  | k + 1 => by
    show p ∈ ptrK n k ++ (if pat n k = 0 then [] else [pat n k]) ↔ _
    rw [List.mem_append, ptrK_mem k]
    constructor
    · rintro (⟨j, h1, h2, h3⟩ | h)
      · exact ⟨j, by omega, h2, h3⟩
      · by_cases hz : pat n k = 0
        · rw [if_pos hz] at h; cases h
        · rw [if_neg hz] at h
          have : p = pat n k := by simpa using h
          exact ⟨k, by omega, this, by rw [this]; exact hz⟩
    · rintro ⟨j, h1, h2, h3⟩
      by_cases e : j = k
      · subst e
        right
        rw [if_neg (by rw [← h2]; exact h3)]
        simp [h2]
      · exact .inl ⟨j, by omega, h2, h3⟩
theorem nps_append (xs : List Int) (D E : List Int) : nps xs (D ++ E) = nps xs D ++ nps xs E := by simp [nps]
theorem nps_cons (xs : List Int) (p : Int) (D : List Int) : nps xs (p :: D) = ptrK (nd xs p) 8 ++ nps xs D := by simp [nps]

/-- What a walk has added: the nodes D that were gone through, each once. -/
def Told (xs : List Int) (A : Int → Prop) (T B T' : List Int) (D : List Int) : Prop :=
  (∀ b, T'.count b = T.count b + B.count b + (nps xs D).count b) ∧ D.Nodup ∧ (∀ q ∈ D, A q ∧ ¬ q ∈ T ∧ q ∈ T') ∧ ∀ q, A q → q ∈ T' → q ∈ T ∨ q ∈ D

theorem Told.mem {xs : List Int} {A : Int → Prop} {T B T' D : List Int} (h : Told xs A T B T' D) (q : Int) : q ∈ T' ↔ q ∈ T ∨ q ∈ B ∨ q ∈ nps xs D := by
  have := h.1 q
  rw [← List.count_pos_iff, ← List.count_pos_iff (l := T), ← List.count_pos_iff (l := B), ← List.count_pos_iff (l := nps xs D)]
  omega
theorem Told.refl (xs : List Int) (A : Int → Prop) (T : List Int) : Told xs A T [] T [] := ⟨fun b => by simp [nps], by simp, by simp, fun q _ h => .inl h⟩
theorem Told.trans {xs : List Int} {A : Int → Prop} {T B T' D B' T2 D' : List Int} (h : Told xs A T B T' D) (k : Told xs A T' B' T2 D') : Told xs A T (B ++ B') T2 (D ++ D') := by
  refine ⟨fun b => ?_, ?_, fun q hq => ?_, fun q hA hq => ?_⟩
  · rw [k.1 b, h.1 b, nps_append, List.count_append, List.count_append]; omega
  · rw [List.nodup_append]
    refine ⟨h.2.1, k.2.1, fun a ha b hb e => ?_⟩
    subst e
    exact (k.2.2.1 a hb).2.1 (h.2.2.1 a ha).2.2
  · rcases List.mem_append.1 hq with hq | hq
    · obtain ⟨a1, a2, a3⟩ := h.2.2.1 q hq
      exact ⟨a1, a2, (k.mem q).2 (.inl a3)⟩
    · obtain ⟨a1, a2, a3⟩ := k.2.2.1 q hq
      exact ⟨a1, fun hT => a2 ((h.mem q).2 (.inl hT)), a3⟩
  · rcases k.2.2.2 q hA hq with hq | hq
    · rcases h.2.2.2 q hA hq with hq | hq
      · exact .inl hq
      · exact .inr (List.mem_append.2 (.inl hq))
    · exact .inr (List.mem_append.2 (.inr hq))

/-- A pointer that leads to no node. -/
theorem told_led {xs : List Int} {A : Int → Prop} (T : List Int) {p : Int} (h : ¬ A p ∨ p = 0) : Told xs A T (led [] p) (led T p) [] := by
  refine ⟨fun b => by rw [led_count]; simp [nps], by simp, by simp, fun q hA hq => ?_⟩
  rcases led_mem.1 hq with hq | ⟨rfl, h0⟩
  · exact .inl hq
  · rcases h with h | h
    · exact absurd hA h
    · exact absurd h h0

/-- What the walk from a pointer adds. -/
theorem wlk_told (xs : List Int) (N : Int) (A : Int → Prop) : ∀ (L : Nat) (p : Int) (T : List Int), Wf xs N A L p → ∃ D, Told xs A T (led [] p) (wlk xs L p T) D
  | 0, p, T, h => ⟨[], told_led T (.inl h.2.2)⟩
  | L + 1, p, T, h => by
    show ∃ D, Told xs A T (led [] p) (if p = 0 then T else if p ∈ T then T ++ [p] else wgo (wlk xs L) (nd xs p) 8 (T ++ [p])) D
    rcases h with rfl | ⟨ho, hA, h2, hN, hk⟩
    · rw [if_pos rfl, led_zero]; exact ⟨[], Told.refl xs A T⟩
    · have h0 : ¬ p = 0 := by omega
      rw [if_neg h0]
      by_cases hT : p ∈ T
      · rw [if_pos hT]
        refine ⟨[], fun b => by rw [led_yes h0, List.count_append]; simp [nps], by simp, by simp, fun q _ hq => ?_⟩
        rcases List.mem_append.1 hq with hq | hq
        · exact .inl hq
        · have : q = p := by simpa using hq
          subst this; exact .inl hT
      · rw [if_neg hT]
        have gen : ∀ k, k ≤ 8 → ∃ D, Told xs A (T ++ [p]) (ptrK (nd xs p) k) (wgo (wlk xs L) (nd xs p) k (T ++ [p])) D := by
          intro k
          induction k with
          | zero => exact fun _ => ⟨[], Told.refl xs A _⟩
          | succ k ih =>
            intro hk8
            obtain ⟨D, hD⟩ := ih (by omega)
            obtain ⟨D', hD'⟩ := wlk_told xs N A L (pat (nd xs p) k) (wgo (wlk xs L) (nd xs p) k (T ++ [p])) (hk k (by omega))
            refine ⟨D ++ D', ?_⟩
            have := hD.trans hD'
            refine ⟨fun b => ?_, this.2⟩
            have e := this.1 b
            rw [List.count_append (l₁ := ptrK (nd xs p) k)] at e
            rw [ptrK_count]
            exact e
        obtain ⟨D, hD⟩ := gen 8 (Nat.le_refl _)
        refine ⟨p :: D, fun b => ?_, ?_, fun q hq => ?_, fun q hAq hq => ?_⟩
        · rw [hD.1 b, nps_cons, led_yes h0]
          simp only [List.count_append, List.count_nil]
          omega
        · rw [List.nodup_cons]
          exact ⟨fun hp => (hD.2.2.1 p hp).2.1 (by simp), hD.2.1⟩
        · rcases List.mem_cons.1 hq with rfl | hq
          · exact ⟨hA, hT, (hD.mem q).2 (.inl (by simp))⟩
          · obtain ⟨a1, a2, a3⟩ := hD.2.2.1 q hq
            exact ⟨a1, fun h => a2 (by simp [h]), a3⟩
        · rcases hD.2.2.2 q hAq hq with hq | hq
          · rcases List.mem_append.1 hq with hq | hq
            · exact .inl hq
            · have : q = p := by simpa using hq
              subst this; exact .inr (by simp)
          · exact .inr (by simp [hq])

/-- A walk does not grow beyond. -/
def big : Nat → Nat
  | 0 => 1
  | L + 1 => 1 + 8 * big L
theorem wgo_len_of {f : Int → List Int → List Int} {c : Nat} (hf : ∀ p T, (f p T).length ≤ T.length + c) (n : Nod) : ∀ (k : Nat) (T : List Int), (wgo f n k T).length ≤ T.length + k * c
  | 0, T => by simp [wgo]
  | k + 1, T => by
    have := wgo_len_of hf n k T
    have h2 := hf (pat n k) (wgo f n k T)
    show (f (pat n k) (wgo f n k T)).length ≤ _
    rw [Nat.succ_mul]
    omega
theorem wlk_len (xs : List Int) : ∀ (L : Nat) (p : Int) (T : List Int), (wlk xs L p T).length ≤ T.length + big L
  | 0, p, T => by
    show (led T p).length ≤ _
    unfold led; split <;> simp [big]
  | L + 1, p, T => by
    show (if p = 0 then T else if p ∈ T then T ++ [p] else wgo (wlk xs L) (nd xs p) 8 (T ++ [p])).length ≤ _
    split
    · omega
    · split
      · simp [big]
      · have := wgo_len_of (wlk_len xs L) (nd xs p) 8 (T ++ [p])
        rw [List.length_append] at this
        simp [big] at this ⊢
        omega

theorem wgo_len (xs : List Int) (L : Nat) (n : Nod) (k : Nat) (T : List Int) : (wgo (wlk xs L) n k T).length ≤ T.length + k * big L := wgo_len_of (wlk_len xs L) n k T

/-- A tree that stands is right below its root. -/
theorem met_wf {xs : List Int} {N : Int} {A : Int → Prop} (hA2 : ∀ p, A p → 2 ≤ p ∧ p < N) : ∀ (L : Nat) (p : Int) (pl : Nat) (s t : St), met xs L p pl s = some t → (∀ q ∈ t.nodes, A q) → (∀ q ∈ t.dat, 0 ≤ q ∧ q < N ∧ ¬ A q) → Wf xs N A L p
  | 0, p, pl, s, t, h, _, hd => by
    rw [met_zero] at h
    cases h
    exact hd p (by simp)
  | L + 1, p, pl, s, t, h, hn, hd => by
    cases ho : okN xs p L
    · rw [met_no ho] at h; cases h
    · obtain ⟨a, ha⟩ := met_root h
      have hAp := hn p (by rw [ha]; simp)
      rw [met_yes ho] at h
      refine .inr ⟨ho, hAp, (hA2 p hAp).1, (hA2 p hAp).2, fun k hk => ?_⟩
      have gen : ∀ j, j ≤ 8 → ∀ u, go (met xs L) (nd xs p) pl j ⟨s.nodes ++ [p], s.sec, s.dat⟩ = some u → (∀ q ∈ u.nodes, A q) → (∀ q ∈ u.dat, 0 ≤ q ∧ q < N ∧ ¬ A q) → ∀ i, i < j → Wf xs N A L (pat (nd xs p) i) := by
        intro j
        induction j with
        | zero => intro _ _ _ _ _ i hi; omega
        | succ j ih =>
          intro hj u hu hun hud i hi
          cases h1 : go (met xs L) (nd xs p) pl j ⟨s.nodes ++ [p], s.sec, s.dat⟩ with
          | none => simp [go, h1] at hu
          | some v =>
            by_cases hz : pat (nd xs p) j = 0
            · rw [go_skip h1 hz] at hu
              cases hu
              by_cases e : i = j
              · subst e
                rw [hz]
                cases L with
                | zero =>
                  refine ⟨by omega, ?_, fun h => ?_⟩
                  · have := hA2 p hAp; omega
                  · have := hA2 0 h; omega
                | succ L => exact .inl rfl
              · exact ih (by omega) _ h1 hun hud i (by omega)
            · rw [go_step h1 hz] at hu
              have hx := met_ext xs L _ _ _ _ hu
              obtain ⟨x, y, e1, e2⟩ := hx
              by_cases e : i = j
              · subst e
                exact met_wf hA2 L _ _ _ _ hu hun hud
              · exact ih (by omega) _ h1 (fun q hq => hun q (by rw [e1]; simp [hq])) (fun q hq => hud q (by rw [e2]; simp [hq])) i (by omega)
      exact gen 8 (Nat.le_refl _) t h hn hd k hk

/-- Whatever holds the root, and with a node its pointers, holds the whole tree. -/
theorem met_all {xs : List Int} {S : Int → Prop} : ∀ (L : Nat) (p : Int) (pl : Nat) (s t : St), met xs L p pl s = some t → S p → (∀ q ∈ t.nodes, S q → ∀ k, k < 8 → ¬ pat (nd xs q) k = 0 → S (pat (nd xs q) k)) → (∀ q ∈ s.nodes, S q) → (∀ q ∈ s.dat, S q) → (∀ q ∈ t.nodes, S q) ∧ ∀ q ∈ t.dat, S q
  | 0, p, pl, s, t, h, hp, _, hn, hd => by
    rw [met_zero] at h
    cases h
    refine ⟨hn, fun q hq => ?_⟩
    rcases List.mem_append.1 hq with hq | hq
    · exact hd q hq
    · have : q = p := by simpa using hq
      subst this; exact hp
  | L + 1, p, pl, s, t, h, hp, hc, hn, hd => by
    cases ho : okN xs p L
    · rw [met_no ho] at h; cases h
    · obtain ⟨a, ha⟩ := met_root h
      have hpt := hc p (by rw [ha]; simp) hp
      rw [met_yes ho] at h
      have gen : ∀ j, j ≤ 8 → ∀ u, go (met xs L) (nd xs p) pl j ⟨s.nodes ++ [p], s.sec, s.dat⟩ = some u → (∀ q ∈ u.nodes, S q → ∀ k, k < 8 → ¬ pat (nd xs q) k = 0 → S (pat (nd xs q) k)) → (∀ q ∈ u.nodes, S q) ∧ ∀ q ∈ u.dat, S q := by
        intro j
        induction j with
        | zero =>
          intro _ u hu _
          simp only [go, Option.some.injEq] at hu
          subst hu
          refine ⟨fun q hq => ?_, hd⟩
          rcases List.mem_append.1 hq with hq | hq
          · exact hn q hq
          · have : q = p := by simpa using hq
            subst this; exact hp
        | succ j ih =>
          intro hj u hu hcu
          cases h1 : go (met xs L) (nd xs p) pl j ⟨s.nodes ++ [p], s.sec, s.dat⟩ with
          | none => simp [go, h1] at hu
          | some v =>
            by_cases hz : pat (nd xs p) j = 0
            · rw [go_skip h1 hz] at hu
              cases hu
              exact ih (by omega) _ h1 hcu
            · rw [go_step h1 hz] at hu
              obtain ⟨x, y, e1, e2⟩ := met_ext xs L _ _ _ _ hu
              have hv := ih (by omega) v h1 (fun q hq => hcu q (by rw [e1]; simp [hq]))
              exact met_all L _ _ v u hu (hpt j (by omega) hz) hcu hv.1 hv.2
      exact gen 8 (Nat.le_refl _) t h hc
end Wj
