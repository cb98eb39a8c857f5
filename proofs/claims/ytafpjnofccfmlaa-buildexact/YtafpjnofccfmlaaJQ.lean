/-
  The plain mathematics of building: the nodes of a new tree for a map beside an old one, as the page says them, level by level. It speaks of no program.
  The plain mathematics of building: what a pointer leads to, as a function of the sectors; which nodes a tree has, place by place. It speaks of no program.
  The plain mathematics of building: written, the new tree's root leads to the map. It speaks of no program.
  The plain mathematics of building: the whole of a new tree, level by level: what it leads to, which pointers its nodes have. It speaks of no program.
  The plain mathematics of building: the new tree's nodes, each once: those that were kept, and all new ones. It speaks of no program.
  The plain mathematics of building: each node of the new tree is there once; it is an old one, or a new one; all new ones are. It speaks of no program.
  The plain mathematics of building: written, the new tree is a tree, its map is the map; the old one stays as it was. It speaks of no program.
  The plain mathematics of building: how many nodes are new: none for the same map, at most three for each sector changed; it hangs on no free block; the last one is the root. It speaks of no program.
  The plain mathematics of building: where anything is new the root is the last new node; where nothing is the map is the old one, or none. It speaks of no program.
  The plain mathematics of building: the writes as a device's steps: they are right ones, and done they leave the device with the new nodes written. It speaks of no program.
-/
import Derived.Test.YtafpjnofccfmlaaJI
namespace Wb
open Wt Wn

/-- The node of eight pointers side by side. -/
def mk (lv : Nat) (a : List Int) (i : Nat) : Nod := ⟨lv, a.getD (8 * i) 0, a.getD (8 * i + 1) 0, a.getD (8 * i + 2) 0, a.getD (8 * i + 3) 0, a.getD (8 * i + 4) 0, a.getD (8 * i + 5) 0, a.getD (8 * i + 6) 0, a.getD (8 * i + 7) 0⟩
theorem pat_mk (lv : Nat) (a : List Int) (i : Nat) {k : Nat} (hk : k < 8) : pat (mk lv a i) k = a.getD (8 * i + k) 0 := by
  rcases below8 hk with rfl | rfl | rfl | rfl | rfl | rfl | rfl | rfl <;> rfl
/-- Is none of the eight there? -/
def nul (a : List Int) (i : Nat) : Bool := (List.range 8).all fun k => a.getD (8 * i + k) 0 == 0
theorem nul_iff {a : List Int} {i : Nat} : nul a i = true ↔ ∀ k, k < 8 → a.getD (8 * i + k) 0 = 0 := by
  simp [nul, List.all_eq_true]
theorem nul_no {a : List Int} {i : Nat} (h : ¬ nul a i = true) : ∃ k, k < 8 ∧ ¬ a.getD (8 * i + k) 0 = 0 := by
  apply Classical.byContradiction
  intro hn
  exact h (nul_iff.2 fun k hk => Classical.byContradiction fun h0 => hn ⟨k, hk, h0⟩)

/-- What stands so far: all new nodes in their order, the pointers of this level. -/
structure B where
  new : List Nod
  up : List Int

section
variable (F : List Int) (lv : Nat) (a : List Int) (kp : Nat → Bool) (od : List Int)
/-- One place of a level: no node, the old one, or a new one on the next free block (2 where there is none). -/
def stp (i : Nat) (b : B) : B :=
  if nul a i = true then ⟨b.new, b.up ++ [0]⟩
  else if kp i = true then ⟨b.new, b.up ++ [od.getD i 0]⟩
  else ⟨b.new ++ [mk lv a i], b.up ++ [F.getD b.new.length 2]⟩
/-- The first c places of a level. -/
def lvl : Nat → List Nod → B
  | 0, N => ⟨N, []⟩
  | i + 1, N => stp F lv a kp od i (lvl i N)
variable {F lv a kp od}

theorem lvl_len (N : List Nod) : ∀ c, (lvl F lv a kp od c N).up.length = c
  | 0 => rfl
  | c + 1 => by
    have := lvl_len N c
    unfold lvl stp
    split
    · simp [this]
    · split <;> simp [this]
theorem lvl_pre (N : List Nod) (c : Nat) : ∀ d, ∃ E, (lvl F lv a kp od (c + d) N).new = (lvl F lv a kp od c N).new ++ E
  | 0 => ⟨[], by simp⟩
  | d + 1 => by
    obtain ⟨E, hE⟩ := lvl_pre N c d
    show ∃ E, (stp F lv a kp od (c + d) (lvl F lv a kp od (c + d) N)).new = _
    unfold stp
    split
    · exact ⟨E, hE⟩
    · split
      · exact ⟨E, hE⟩
      · exact ⟨E ++ [mk lv a (c + d)], by rw [← List.append_assoc, ← hE]⟩
theorem lvl_up (N : List Nod) (c : Nat) : ∀ d, ∃ E, (lvl F lv a kp od (c + d) N).up = (lvl F lv a kp od c N).up ++ E
  | 0 => ⟨[], by simp⟩
  | d + 1 => by
    obtain ⟨E, hE⟩ := lvl_up N c d
    show ∃ E, (stp F lv a kp od (c + d) (lvl F lv a kp od (c + d) N)).up = _
    unfold stp
    split
    · exact ⟨E ++ [0], by rw [← List.append_assoc, ← hE]⟩
    · split
      · exact ⟨E ++ [od.getD (c + d) 0], by rw [← List.append_assoc, ← hE]⟩
      · exact ⟨E ++ [F.getD (lvl F lv a kp od (c + d) N).new.length 2], by rw [← List.append_assoc, ← hE]⟩
theorem lvl_le (N : List Nod) (c d : Nat) : (lvl F lv a kp od c N).new.length ≤ (lvl F lv a kp od (c + d) N).new.length := by
  obtain ⟨E, hE⟩ := lvl_pre (F := F) (lv := lv) (a := a) (kp := kp) (od := od) N c d
  rw [hE, List.length_append]; omega
/-- How many are new at most. -/
theorem lvl_most (N : List Nod) : ∀ c, (lvl F lv a kp od c N).new.length ≤ N.length + c
  | 0 => Nat.le_refl _
  | c + 1 => by
    have := lvl_most N c
    show (stp F lv a kp od c (lvl F lv a kp od c N)).new.length ≤ _
    unfold stp
    split
    · show (lvl F lv a kp od c N).new.length ≤ _; omega
    · split
      · show (lvl F lv a kp od c N).new.length ≤ _; omega
      · simp only [List.length_append, List.length_singleton]; omega

/-- Which number a new node has. -/
def ord (F : List Int) (lv : Nat) (a : List Int) (kp : Nat → Bool) (od : List Int) (N : List Nod) (i : Nat) : Nat := (lvl F lv a kp od i N).new.length

/-- What a place of a level is. -/
theorem lvl_at (N : List Nod) {c i : Nat} (h : i < c) : (lvl F lv a kp od c N).up.getD i 0 = if nul a i = true then 0 else if kp i = true then od.getD i 0 else F.getD (ord F lv a kp od N i) 2 := by
  obtain ⟨E, hE⟩ := lvl_up (F := F) (lv := lv) (a := a) (kp := kp) (od := od) N (i + 1) (c - (i + 1))
  rw [show i + 1 + (c - (i + 1)) = c by omega] at hE
  have hl := lvl_len (F := F) (lv := lv) (a := a) (kp := kp) (od := od) N i
  rw [hE, List.getD_eq_getElem?_getD, List.getElem?_append_left (by rw [lvl_len]; omega)]
  show ((stp F lv a kp od i (lvl F lv a kp od i N)).up)[i]?.getD 0 = _
  unfold stp
  split
  · simp [hl]
  · split
    · simp [hl]
    · simp [hl, ord]
/-- A new node is where it was put. -/
theorem lvl_new (N : List Nod) {c i : Nat} (h : i < c) (h0 : ¬ nul a i = true) (hk : ¬ kp i = true) : N.length ≤ ord F lv a kp od N i ∧ ord F lv a kp od N i < (lvl F lv a kp od c N).new.length ∧ (lvl F lv a kp od c N).new[ord F lv a kp od N i]? = some (mk lv a i) := by
  obtain ⟨E, hE⟩ := lvl_pre (F := F) (lv := lv) (a := a) (kp := kp) (od := od) N (i + 1) (c - (i + 1))
  rw [show i + 1 + (c - (i + 1)) = c by omega] at hE
  have h2 : (lvl F lv a kp od (i + 1) N).new = (lvl F lv a kp od i N).new ++ [mk lv a i] := by
    show (stp F lv a kp od i (lvl F lv a kp od i N)).new = _
    unfold stp
    rw [if_neg h0, if_neg hk]
  have h3 := lvl_le (F := F) (lv := lv) (a := a) (kp := kp) (od := od) N 0 i
  rw [Nat.zero_add] at h3
  refine ⟨h3, ?_, ?_⟩
  · rw [hE, h2]; simp [ord]
  · rw [hE, h2]; simp [ord]
/-- Unlike places have unlike numbers. -/
theorem ord_lt (N : List Nod) {i j : Nat} (h : i < j) (h0 : ¬ nul a i = true) (hk : ¬ kp i = true) : ord F lv a kp od N i < ord F lv a kp od N j := (lvl_new N h h0 hk).2.1
/-- Each new node is one of a place. -/
theorem new_of (N : List Nod) : ∀ c j, N.length ≤ j → j < (lvl F lv a kp od c N).new.length → ∃ i, i < c ∧ ¬ nul a i = true ∧ ¬ kp i = true ∧ ord F lv a kp od N i = j
  | 0, j, h1, h2 => by exact absurd h2 (by show ¬ j < N.length; omega)
  | c + 1, j, h1, h2 => by
    by_cases h : j < (lvl F lv a kp od c N).new.length
    · obtain ⟨i, hi, h3⟩ := new_of N c j h1 h
      exact ⟨i, by omega, h3⟩
    · have h2' : j < (stp F lv a kp od c (lvl F lv a kp od c N)).new.length := h2
      unfold stp at h2'
      split at h2'
      · exact absurd h2' h
      · split at h2'
        · exact absurd h2' h
        · rename_i ha hb
          rw [List.length_append, List.length_singleton] at h2'
          exact ⟨c, by omega, ha, hb, by show (lvl F lv a kp od c N).new.length = j; omega⟩
end

/-- Do all sectors under a place have the blocks that they have in the old tree? -/
def kp (m was : List Int) : Nat → Nat → Bool
  | 0, i => (List.range 8).all fun k => m.getD (8 * i + k) 0 == was.getD (8 * i + k) 0
  | L + 1, i => (List.range 8).all fun k => kp m was L (8 * i + k)
theorem kp_zero {m was : List Int} {i : Nat} : kp m was 0 i = true ↔ ∀ k, k < 8 → m.getD (8 * i + k) 0 = was.getD (8 * i + k) 0 := by
  simp [kp, List.all_eq_true]
theorem kp_succ {m was : List Int} {L i : Nat} : kp m was (L + 1) i = true ↔ ∀ k, k < 8 → kp m was L (8 * i + k) = true := by
  simp [kp, List.all_eq_true]
/-- All sectors under a place, one by one. -/
theorem kp_all {m was : List Int} : ∀ (L i : Nat), kp m was L i = true ↔ ∀ r, r < 8 ^ (L + 1) → m.getD (8 ^ (L + 1) * i + r) 0 = was.getD (8 ^ (L + 1) * i + r) 0
  | 0, i => by rw [kp_zero]
  | L + 1, i => by
    rw [kp_succ]
    constructor
    · intro h r hr
      have hp : 0 < 8 ^ (L + 1) := Nat.pow_pos (by omega)
      have hp2 : 8 ^ (L + 1 + 1) = 8 ^ (L + 1) * 8 := Nat.pow_succ 8 (L + 1)
      have hk : r / 8 ^ (L + 1) < 8 := (Nat.div_lt_iff_lt_mul hp).2 (by rw [Nat.mul_comm, ← hp2]; exact hr)
      have := (kp_all L _).1 (h _ hk) (r % 8 ^ (L + 1)) (Nat.mod_lt _ hp)
      have e : 8 ^ (L + 1) * (8 * i + r / 8 ^ (L + 1)) + r % 8 ^ (L + 1) = 8 ^ (L + 1 + 1) * i + r := by
        rw [Nat.mul_add, ← Nat.mul_assoc, ← hp2, Nat.add_assoc, Nat.div_add_mod]
      rwa [e] at this
    · intro h k hk
      refine (kp_all L _).2 fun r hr => ?_
      have hp2 : 8 ^ (L + 1 + 1) = 8 ^ (L + 1) * 8 := Nat.pow_succ 8 (L + 1)
      have e : 8 ^ (L + 1) * (8 * i + k) + r = 8 ^ (L + 1 + 1) * i + (8 ^ (L + 1) * k + r) := by
        rw [Nat.mul_add, ← Nat.mul_assoc, ← hp2, Nat.add_assoc]
      rw [e]
      refine h _ ?_
      have h1 : 8 ^ (L + 1) * (k + 1) ≤ 8 ^ (L + 1) * 8 := Nat.mul_le_mul_left _ (by omega)
      rw [Nat.mul_add, Nat.mul_one] at h1
      omega

/-- The old tree's pointers under a pointer, under a list of them. -/
def kids (xs : List Int) (p : Int) : List Int := if p = 0 then List.replicate 8 0 else ptr (nd xs p)
theorem kids_length (xs : List Int) (p : Int) : (kids xs p).length = 8 := by unfold kids; split <;> simp [ptr_length]
def od2 (r : Int) : List Int := [r]
def od1 (xs : List Int) (r : Int) : List Int := kids xs r
def od0 (xs : List Int) (r : Int) : List Int := (kids xs r).flatMap (kids xs)

section
variable (xs : List Int) (r : Int) (m was F : List Int)
/-- The three levels. -/
def b0 : B := lvl F 0 m (kp m was 0) (od0 xs r) 64 []
def b1 : B := lvl F 1 (b0 xs r m was F).up (kp m was 1) (od1 xs r) 8 (b0 xs r m was F).new
def b2 : B := lvl F 2 (b1 xs r m was F).up (kp m was 2) (od2 r) 1 (b1 xs r m was F).new
/-- The new tree's root, its new nodes in their order, how many there are. -/
def root : Int := (b2 xs r m was F).up.getD 0 0
def new : List Nod := (b2 xs r m was F).new
def need : Nat := (new xs r m was F).length
theorem need_most : need xs r m was F ≤ 73 := by
  have h0 := lvl_most (F := F) (lv := 0) (a := m) (kp := kp m was 0) (od := od0 xs r) [] 64
  have h1 := lvl_most (F := F) (lv := 1) (a := (b0 xs r m was F).up) (kp := kp m was 1) (od := od1 xs r) (b0 xs r m was F).new 8
  have h2 := lvl_most (F := F) (lv := 2) (a := (b1 xs r m was F).up) (kp := kp m was 2) (od := od2 r) (b1 xs r m was F).new 1
  have e0 : (b0 xs r m was F).new.length ≤ 64 := by unfold b0; simpa using h0
  have e1 : (b1 xs r m was F).new.length ≤ 72 := by unfold b1; omega
  unfold need new b2
  omega
end
end Wb
namespace Wb
open Wt Wn

/-- A pointer leads to these sectors' blocks. -/
def Ld (xs : List Int) : Nat → Int → (Nat → Int) → Prop
  | 0, p, f => f 0 = p
  | L + 1, p, f => (p = 0 ∧ ∀ i, i < 8 ^ (L + 1) → f i = 0) ∨ (¬ p = 0 ∧ okN xs p L = true ∧ ∀ k, k < 8 → Ld xs L (pat (nd xs p) k) (fun i => f (8 ^ L * k + i)))

theorem Ld.congr {xs : List Int} : ∀ {L : Nat} {p : Int} {f g : Nat → Int}, Ld xs L p f → (∀ i, i < 8 ^ L → f i = g i) → Ld xs L p g
  | 0, p, f, g, h, e => by
    show g 0 = p
    rw [← e 0 (by simp)]; exact h
  | L + 1, p, f, g, h, e => by
    rcases h with ⟨h0, h1⟩ | ⟨h0, h1, h2⟩
    · exact .inl ⟨h0, fun i hi => by rw [← e i hi]; exact h1 i hi⟩
    · refine .inr ⟨h0, h1, fun k hk => (h2 k hk).congr fun i hi => e _ ?_⟩
      have h3 : 8 ^ L * (k + 1) ≤ 8 ^ L * 8 := Nat.mul_le_mul_left _ (by omega)
      rw [Nat.mul_add, Nat.mul_one] at h3
      have h4 : 8 ^ (L + 1) = 8 ^ L * 8 := Nat.pow_succ 8 L
      omega

/-- No block, no sector. -/
theorem Ld.zero (xs : List Int) : ∀ (L : Nat), Ld xs L 0 (fun _ => 0)
  | 0 => rfl
  | _ + 1 => .inl ⟨rfl, fun _ _ => rfl⟩
theorem Ld.nought {xs : List Int} : ∀ {L : Nat} {f : Nat → Int}, Ld xs L 0 f → ∀ i, i < 8 ^ L → f i = 0
  | 0, f, h, i, hi => by
    obtain rfl : i = 0 := by simpa using hi
    exact h
  | _ + 1, f, h, i, hi => by
    rcases h with ⟨-, h1⟩ | ⟨h0, -⟩
    · exact h1 i hi
    · exact absurd rfl h0

/-- What a pointer leads to is what one finds looking. -/
theorem Ld.look {xs : List Int} : ∀ {L : Nat} {p : Int} {f : Nat → Int}, Ld xs L p f → ¬ p = 0 → ∀ i, i < 8 ^ L → look xs L p i = f i
  | 0, p, f, h, _, i, hi => by
    obtain rfl : i = 0 := by simpa using hi
    exact h.symm
  | L + 1, p, f, h, hp, i, hi => by
    rcases h with ⟨h0, -⟩ | ⟨-, -, h2⟩
    · exact absurd h0 hp
    · have hpos : 0 < 8 ^ L := Nat.pow_pos (by omega)
      have hpw : 8 ^ (L + 1) = 8 ^ L * 8 := Nat.pow_succ 8 L
      have hk : i / 8 ^ L < 8 := (Nat.div_lt_iff_lt_mul hpos).2 (by rw [Nat.mul_comm, ← hpw]; exact hi)
      have hm : i % 8 ^ L < 8 ^ L := Nat.mod_lt _ hpos
      have hd := h2 _ hk
      have e : f (8 ^ L * (i / 8 ^ L) + i % 8 ^ L) = f i := by rw [Nat.div_add_mod]
      show (if pat (nd xs p) (i / 8 ^ L) = 0 then 0 else Wt.look xs L (pat (nd xs p) (i / 8 ^ L)) (i % 8 ^ L)) = f i
      by_cases hz : pat (nd xs p) (i / 8 ^ L) = 0
      · rw [if_pos hz]
        rw [hz] at hd
        have := hd.nought _ hm
        exact (this.symm.trans e)
      · rw [if_neg hz, hd.look hz _ hm]; exact e

/-- A pointer that is right leads to what one finds looking. -/
theorem met_Ld {xs : List Int} : ∀ (L : Nat) (p : Int) (pl : Nat) (s t : St), met xs L p pl s = some t → ¬ p = 0 → Ld xs L p (Wt.look xs L p)
  | 0, p, pl, s, t, _, _ => rfl
  | L + 1, p, pl, s, t, h, hp => by
    cases ho : okN xs p L
    · rw [met_no ho] at h; cases h
    · rw [met_yes ho] at h
      refine .inr ⟨hp, ho, fun k hk => ?_⟩
      have hpos : 0 < 8 ^ L := Nat.pow_pos (by omega)
      have el : ∀ i, i < 8 ^ L → Wt.look xs (L + 1) p (8 ^ L * k + i) = if pat (nd xs p) k = 0 then 0 else Wt.look xs L (pat (nd xs p) k) i := by
        intro i hi
        have e1 : (8 ^ L * k + i) / 8 ^ L = k := by rw [Nat.mul_add_div hpos, Nat.div_eq_of_lt hi]; rfl
        have e2 : (8 ^ L * k + i) % 8 ^ L = i := by rw [Nat.mul_add_mod, Nat.mod_eq_of_lt hi]
        show (if pat (nd xs p) ((8 ^ L * k + i) / 8 ^ L) = 0 then 0 else Wt.look xs L (pat (nd xs p) ((8 ^ L * k + i) / 8 ^ L)) ((8 ^ L * k + i) % 8 ^ L)) = _
        rw [e1, e2]
      by_cases hz : pat (nd xs p) k = 0
      · rw [hz]
        exact (Ld.zero xs L).congr fun i hi => by rw [el i hi, if_pos hz]
      · -- the k-th step of the way was gone
        have hstep : ∃ u v, met xs L (pat (nd xs p) k) (pl * 8 + k) u = some v := by
          have hsome : ∀ j, j ≤ 8 → ∃ v, go (met xs L) (nd xs p) pl j ⟨s.nodes ++ [p], s.sec, s.dat⟩ = some v := by
            intro j hj
            cases hg : go (met xs L) (nd xs p) pl j ⟨s.nodes ++ [p], s.sec, s.dat⟩ with
            | some v => exact ⟨v, rfl⟩
            | none =>
              have := go_none hg (8 - j)
              rw [show j + (8 - j) = 8 by omega, h] at this
              cases this
          obtain ⟨u, hu⟩ := hsome k (by omega)
          obtain ⟨v, hv⟩ := hsome (k + 1) (by omega)
          rw [go_step hu hz] at hv
          exact ⟨u, v, hv⟩
        obtain ⟨u, v, huv⟩ := hstep
        exact (met_Ld L _ _ u v huv hz).congr fun i hi => by rw [el i hi, if_neg hz]

/-- The way is gone wherever a pointer leads to something. -/
theorem Ld.met {xs : List Int} : ∀ {L : Nat} {p : Int} {f : Nat → Int}, Ld xs L p f → ¬ p = 0 → ∀ pl s, ∃ t, met xs L p pl s = some t
  | 0, p, f, _, _, pl, s => ⟨_, rfl⟩
  | L + 1, p, f, h, hp, pl, s => by
    rcases h with ⟨h0, -⟩ | ⟨-, h1, h2⟩
    · exact absurd h0 hp
    · rw [met_yes h1]
      have : ∀ j, j ≤ 8 → ∃ v, go (Wt.met xs L) (nd xs p) pl j ⟨s.nodes ++ [p], s.sec, s.dat⟩ = some v := by
        intro j
        induction j with
        | zero => intro _; exact ⟨_, rfl⟩
        | succ j ih =>
          intro hj
          obtain ⟨v, hv⟩ := ih (by omega)
          by_cases hz : pat (nd xs p) j = 0
          · exact ⟨v, go_skip hv hz⟩
          · obtain ⟨t, ht⟩ := (h2 j (by omega)).met hz (pl * 8 + j) v
            exact ⟨t, by rw [go_step hv hz]; exact ht⟩
      exact this 8 (Nat.le_refl _)

theorem flat_congr {α β : Type} {f g : α → List β} : ∀ {l : List α}, (∀ x ∈ l, f x = g x) → l.flatMap f = l.flatMap g
  | [], _ => rfl
  | x :: l, h => by rw [List.flatMap_cons, List.flatMap_cons, h x (by simp), flat_congr fun y hy => h y (List.mem_cons_of_mem _ hy)]

/-- The nodes that a pointer leads to, from the top down. -/
def nds (xs : List Int) : Nat → Int → List Int
  | 0, _ => []
  | L + 1, p => if p = 0 then [] else p :: (List.range 8).flatMap fun k => nds xs L (pat (nd xs p) k)
theorem nds_zero (xs : List Int) : ∀ L, nds xs L 0 = []
  | 0 => rfl
  | _ + 1 => if_pos rfl
theorem nds_yes {xs : List Int} {L : Nat} {p : Int} (h : ¬ p = 0) : nds xs (L + 1) p = p :: (List.range 8).flatMap fun k => nds xs L (pat (nd xs p) k) := if_neg h
theorem nds_kid {xs : List Int} {L : Nat} {p q : Int} (h : ¬ p = 0) {k : Nat} (hk : k < 8) (hq : q ∈ nds xs L (pat (nd xs p) k)) : q ∈ nds xs (L + 1) p := by
  rw [nds_yes h]
  exact List.mem_cons_of_mem _ (List.mem_flatMap.2 ⟨k, List.mem_range.2 hk, hq⟩)

/-- They are those that are met. -/
theorem met_nds {xs : List Int} : ∀ (L : Nat) (p : Int) (pl : Nat) (s t : St), met xs L p pl s = some t → ¬ p = 0 → t.nodes = s.nodes ++ nds xs L p
  | 0, p, pl, s, t, h, _ => by
    rw [met_zero] at h
    cases h
    simp [nds]
  | L + 1, p, pl, s, t, h, hp => by
    cases ho : okN xs p L
    · rw [met_no ho] at h; cases h
    · rw [met_yes ho] at h
      have gen : ∀ j, ∀ v, go (met xs L) (nd xs p) pl j ⟨s.nodes ++ [p], s.sec, s.dat⟩ = some v → v.nodes = (s.nodes ++ [p]) ++ (List.range j).flatMap fun k => nds xs L (pat (nd xs p) k) := by
        intro j
        induction j with
        | zero =>
          intro v hv
          simp only [go, Option.some.injEq] at hv
          subst hv
          simp
        | succ j ih =>
          intro v hv
          cases hg : go (met xs L) (nd xs p) pl j ⟨s.nodes ++ [p], s.sec, s.dat⟩ with
          | none => simp [go, hg] at hv
          | some u =>
            have hu := ih u hg
            rw [List.range_succ, List.flatMap_append, ← List.append_assoc, ← hu]
            by_cases hz : pat (nd xs p) j = 0
            · rw [go_skip hg hz] at hv
              cases hv
              simp [hz, nds_zero]
            · rw [go_step hg hz] at hv
              rw [met_nds L _ _ u v hv hz]
              simp
      rw [gen 8 t h, nds_yes hp, List.append_assoc]
      rfl

/-- It leads to the same on any other device whose nodes on the way are the same. -/
theorem Ld.other {xs ys : List Int} : ∀ {L : Nat} {p : Int} {f : Nat → Int}, Ld xs L p f → (∀ q ∈ nds xs L p, ∀ l, okN xs q l = true → okN ys q l = true ∧ nd ys q = nd xs q) → Ld ys L p f ∧ nds ys L p = nds xs L p
  | 0, _, _, k, _ => ⟨k, rfl⟩
  | L + 1, p, f, k, h => by
    rcases k with ⟨h0, h1⟩ | ⟨h0, h1, h2⟩
    · subst h0
      exact ⟨.inl ⟨rfl, h1⟩, by rw [nds_zero, nds_zero]⟩
    · obtain ⟨e1, e2⟩ := h p (by rw [nds_yes h0]; simp) L h1
      have hk := fun j (hj : j < 8) => (h2 j hj).other (ys := ys) fun q hq l hl => h q (nds_kid h0 hj hq) l hl
      refine ⟨.inr ⟨h0, e1, fun j hj => by rw [e2]; exact (hk j hj).1⟩, ?_⟩
      rw [nds_yes h0, nds_yes h0, e2]
      congr 1
      exact flat_congr fun j hj => (hk j (List.mem_range.1 hj)).2
end Wb
namespace Wb
open Wt Wn

/-- A device upon which new nodes were written, each on its free block; all other blocks are as they were. -/
structure Wr (xs ys F : List Int) (new : List Nod) : Prop where
  len : ys.length = xs.length
  rng : ∀ j, j < new.length → 2 ≤ F.getD j 2 ∧ F.getD j 2 < 4096
  put : ∀ (j : Nat) (n : Nod), new[j]? = some n → Wd.rdR ys (F.getD j 2) = Wn.blk n
  oth : ∀ q : Int, (∀ j, j < new.length → ¬ F.getD j 2 = q) → Wd.rdR ys q = Wd.rdR xs q

theorem Wr.new_ok {xs ys F : List Int} {new : List Nod} (h : Wr xs ys F new) {j : Nat} {n : Nod} (hj : new[j]? = some n) (hn : nodB n = true) {lv : Nat} (hl : n.level = (lv : Int)) : okN ys (F.getD j 2) lv = true ∧ nd ys (F.getD j 2) = n := by
  obtain ⟨h1, h2⟩ := par_blk hn
  have e : nd ys (F.getD j 2) = n := by unfold nd; rw [h.put j n hj, h2]
  refine ⟨?_, e⟩
  unfold okN
  rw [e, hl, h.put j n hj, h1]
  simp
theorem Wr.old_ok {xs ys F : List Int} {new : List Nod} (h : Wr xs ys F new) {q : Int} (hq : ∀ j, j < new.length → ¬ F.getD j 2 = q) (l : Nat) (ho : okN xs q l = true) : okN ys q l = true ∧ nd ys q = nd xs q := by
  have e : nd ys q = nd xs q := by unfold nd; rw [h.oth q hq]
  refine ⟨?_, e⟩
  unfold okN at ho ⊢
  rw [e, h.oth q hq]; exact ho

/-- One level. -/
theorem lvl_Ld {xs ys F a od : List Int} {new N : List Nod} {lv c : Nat} {kpf : Nat → Bool} {f : Nat → Int} (h : Wr xs ys F new)
   (hb : ∀ i, i < 8 * c → Ld ys lv (a.getD i 0) (fun j => f (8 ^ lv * i + j)))
   (ho : ∀ i, i < c → kpf i = true → Ld ys (lv + 1) (od.getD i 0) (fun j => f (8 ^ (lv + 1) * i + j)))
   (ha : ∀ i, i < 8 * c → a.getD i 0 = 0 ∨ 2 ≤ a.getD i 0 ∧ a.getD i 0 < 4096) (hlv : lv ≤ 2)
   (hn : ∀ (j : Nat) (n : Nod), (lvl F lv a kpf od c N).new[j]? = some n → new[j]? = some n) :
    ∀ i, i < c → Ld ys (lv + 1) ((lvl F lv a kpf od c N).up.getD i 0) (fun j => f (8 ^ (lv + 1) * i + j)) := by
  intro i hi
  have hpw : 8 ^ (lv + 1) = 8 ^ lv * 8 := Nat.pow_succ 8 lv
  have hpos : 0 < 8 ^ lv := Nat.pow_pos (by omega)
  rw [lvl_at N hi]
  by_cases h0 : nul a i = true
  · rw [if_pos h0]
    refine .inl ⟨rfl, fun j hj => ?_⟩
    have hk : j / 8 ^ lv < 8 := (Nat.div_lt_iff_lt_mul hpos).2 (by rw [Nat.mul_comm, ← hpw]; exact hj)
    have hz := hb (8 * i + j / 8 ^ lv) (by omega)
    rw [nul_iff.1 h0 _ hk] at hz
    have := hz.nought _ (Nat.mod_lt j hpos)
    have e : 8 ^ lv * (8 * i + j / 8 ^ lv) + j % 8 ^ lv = 8 ^ (lv + 1) * i + j := by
      rw [Nat.mul_add, ← Nat.mul_assoc, ← hpw, Nat.add_assoc, Nat.div_add_mod]
    simpa only [e] using this
  rw [if_neg h0]
  by_cases hk : kpf i = true
  · rw [if_pos hk]; exact ho i hi hk
  rw [if_neg hk]
  obtain ⟨-, o2, o3⟩ := lvl_new (F := F) (lv := lv) (a := a) (kp := kpf) (od := od) N hi h0 hk
  have hnew := hn _ _ o3
  have hlt : ord F lv a kpf od N i < new.length := (List.getElem?_eq_some_iff.1 hnew).1
  have hr := h.rng _ hlt
  have hnod : nodB (mk lv a i) = true := by
    refine nodB_yes ⟨by show (0 : Int) ≤ (lv : Int); omega, by show (lv : Int) ≤ 2; omega⟩ (fun k hk => ?_) ?_
    · rw [pat_mk lv a i hk, linkB_iff]; exact ha _ (by omega)
    · obtain ⟨k, hk8, hk0⟩ := nul_no h0
      exact ⟨k, hk8, by rw [pat_mk lv a i hk8]; exact hk0⟩
  obtain ⟨k1, k2⟩ := h.new_ok hnew hnod (lv := lv) rfl
  refine .inr ⟨by omega, k1, fun k hk8 => ?_⟩
  rw [k2, pat_mk lv a i hk8]
  refine (hb (8 * i + k) (by omega)).congr fun j _ => ?_
  show f _ = f _
  congr 1
  rw [hpw, Nat.mul_add, ← Nat.mul_assoc, Nat.add_assoc]

/-- What the pointers of a level may be. -/
theorem lvl_rng {F a od : List Int} {N : List Nod} {lv c : Nat} {kpf : Nat → Bool} (hF : ∀ j, j < (lvl F lv a kpf od c N).new.length → 2 ≤ F.getD j 2 ∧ F.getD j 2 < 4096) (ho : ∀ i, od.getD i 0 = 0 ∨ 2 ≤ od.getD i 0 ∧ od.getD i 0 < 4096) (i : Nat) :
    (lvl F lv a kpf od c N).up.getD i 0 = 0 ∨ 2 ≤ (lvl F lv a kpf od c N).up.getD i 0 ∧ (lvl F lv a kpf od c N).up.getD i 0 < 4096 := by
  by_cases hi : i < c
  · rw [lvl_at N hi]
    split
    · exact .inl rfl
    · split
      · exact ho i
      · rename_i h0 hk
        exact .inr (hF _ (lvl_new N hi h0 hk).2.1)
  · left
    rw [List.getD_eq_getElem?_getD, List.getElem?_eq_none (by rw [lvl_len]; omega)]
    rfl

/-- A pointer's eight pointers lead to the eighths. -/
theorem kids_Ld {xs : List Int} {L : Nat} {p : Int} {f : Nat → Int} (h : Ld xs (L + 1) p f) {k : Nat} (hk : k < 8) : Ld xs L ((kids xs p).getD k 0) (fun i => f (8 ^ L * k + i)) := by
  rcases h with ⟨h0, h1⟩ | ⟨h0, -, h2⟩
  · unfold kids
    rw [if_pos h0]
    have e : (List.replicate 8 (0 : Int)).getD k 0 = 0 := by rw [List.getD_eq_getElem?_getD, List.getElem?_replicate]; simp [hk]
    rw [e]
    refine (Ld.zero xs L).congr fun i hi => (h1 _ ?_).symm
    have h3 : 8 ^ L * (k + 1) ≤ 8 ^ L * 8 := Nat.mul_le_mul_left _ (by omega)
    rw [Nat.mul_add, Nat.mul_one] at h3
    have h4 : 8 ^ (L + 1) = 8 ^ L * 8 := Nat.pow_succ 8 L
    omega
  · unfold kids
    rw [if_neg h0]
    exact h2 k hk
theorem kids_nds {xs : List Int} {L : Nat} {p q : Int} {k : Nat} (hk : k < 8) (h : q ∈ nds xs L ((kids xs p).getD k 0)) : q ∈ nds xs (L + 1) p := by
  unfold kids at h
  by_cases h0 : p = 0
  · rw [if_pos h0] at h
    have e : (List.replicate 8 (0 : Int)).getD k 0 = 0 := by rw [List.getD_eq_getElem?_getD, List.getElem?_replicate]; simp [hk]
    rw [e, nds_zero] at h
    cases h
  · rw [if_neg h0] at h
    exact nds_kid h0 hk h
theorem kids_rng {xs : List Int} {L : Nat} {p : Int} {f : Nat → Int} (h : Ld xs (L + 1) p f) (k : Nat) : (kids xs p).getD k 0 = 0 ∨ 2 ≤ (kids xs p).getD k 0 ∧ (kids xs p).getD k 0 < 4096 := by
  by_cases hk : k < 8
  · rcases h with ⟨h0, -⟩ | ⟨h0, h1, -⟩
    · left; unfold kids; rw [if_pos h0, List.getD_eq_getElem?_getD, List.getElem?_replicate]; simp [hk]
    · unfold kids
      rw [if_neg h0]
      exact (nodB_iff.1 (okN_nod h1).1).2.1 _ (pat_mem (nd xs p) hk)
  · left
    rw [List.getD_eq_getElem?_getD, List.getElem?_eq_none (by rw [kids_length]; omega)]
    rfl
theorem flat8 {g : Int → List Int} (hg : ∀ p, (g p).length = 8) : ∀ (l : List Int) (i k : Nat), k < 8 → (l.flatMap g).getD (8 * i + k) 0 = if i < l.length then (g (l.getD i 0)).getD k 0 else 0
  | [], i, k, _ => by simp
  | x :: l, 0, k, hk => by
    rw [List.flatMap_cons, List.getD_eq_getElem?_getD, List.getElem?_append_left (by rw [hg]; omega)]
    simp [List.getD_eq_getElem?_getD]
  | x :: l, i + 1, k, hk => by
    have ih := flat8 hg l i k hk
    rw [List.flatMap_cons, List.getD_eq_getElem?_getD, List.getElem?_append_right (by rw [hg]; omega), hg, show 8 * (i + 1) + k - 8 = 8 * i + k by omega, ← List.getD_eq_getElem?_getD, ih]
    simp
end Wb
namespace Wb
open Wt Wn

/-- A node leads to something. -/
theorem Ld.some {xs : List Int} : ∀ {L : Nat} {p : Int} {f : Nat → Int}, Ld xs L p f → ¬ p = 0 → ∃ i, i < 8 ^ L ∧ ¬ f i = 0
  | 0, p, f, h, hp => ⟨0, by simp, by rw [show f 0 = p from h]; exact hp⟩
  | L + 1, p, f, h, hp => by
    rcases h with ⟨h0, -⟩ | ⟨-, h1, h2⟩
    · exact absurd h0 hp
    · obtain ⟨x, hx, hx0⟩ := (nodB_iff.1 (okN_nod h1).1).2.2
      obtain ⟨k, hk, rfl⟩ := mem_pat hx
      obtain ⟨i, hi, hne⟩ := (h2 k hk).some hx0
      refine ⟨8 ^ L * k + i, ?_, hne⟩
      have h3 : 8 ^ L * (k + 1) ≤ 8 ^ L * 8 := Nat.mul_le_mul_left _ (by omega)
      rw [Nat.mul_add, Nat.mul_one] at h3
      have h4 : 8 ^ (L + 1) = 8 ^ L * 8 := Nat.pow_succ 8 L
      omega

theorem kids_zero (xs : List Int) (k : Nat) : (kids xs 0).getD k 0 = 0 := by
  unfold kids
  rw [if_pos rfl, List.getD_eq_getElem?_getD, List.getElem?_replicate]
  split <;> rfl
theorem kids_yes {xs : List Int} {p : Int} (h : ¬ p = 0) (k : Nat) : (kids xs p).getD k 0 = pat (nd xs p) k := by
  unfold kids
  rw [if_neg h]; rfl

/-- What must hold for a tree to be built beside an old one, and written. -/
structure Bld (xs ys : List Int) (r : Int) (m was F : List Int) : Prop where
  wr : Wr xs ys F (new xs r m was F)
  old : Ld xs 3 r (fun i => was.getD i 0)
  root : r = 0 ∨ 2 ≤ r ∧ r < 4096
  far : ∀ q ∈ nds xs 3 r, ∀ j, j < need xs r m was F → ¬ F.getD j 2 = q
  map : ∀ i, m.getD i 0 = 0 ∨ 2 ≤ m.getD i 0 ∧ m.getD i 0 < 4096

section
variable {xs ys m was F : List Int} {r : Int}

theorem od1_Ld (h : Bld xs ys r m was F) {i : Nat} (hi : i < 8) : Ld xs 2 ((od1 xs r).getD i 0) (fun j => was.getD (8 ^ 2 * i + j) 0) := kids_Ld h.old hi
theorem od1_nds {i : Nat} (hi : i < 8) {q : Int} (hq : q ∈ nds xs 2 ((od1 xs r).getD i 0)) : q ∈ nds xs 3 r := kids_nds hi hq
theorem od0_at (i k : Nat) (hi : i < 8) (hk : k < 8) : (od0 xs r).getD (8 * i + k) 0 = (kids xs ((od1 xs r).getD i 0)).getD k 0 := by
  unfold od0
  rw [flat8 (kids_length xs) _ _ _ hk, if_pos (by rw [kids_length]; exact hi)]; rfl
theorem od0_Ld (h : Bld xs ys r m was F) {i : Nat} (hi : i < 64) : Ld xs 1 ((od0 xs r).getD i 0) (fun j => was.getD (8 ^ 1 * i + j) 0) := by
  have h1 := kids_Ld (od1_Ld h (i := i / 8) (by omega)) (k := i % 8) (by omega)
  rw [← od0_at _ _ (by omega) (by omega), show 8 * (i / 8) + i % 8 = i by omega] at h1
  refine h1.congr fun j _ => ?_
  show was.getD _ 0 = was.getD _ 0
  congr 1
  omega
theorem od0_nds {i : Nat} (hi : i < 64) {q : Int} (hq : q ∈ nds xs 1 ((od0 xs r).getD i 0)) : q ∈ nds xs 3 r := by
  have e : (od0 xs r).getD i 0 = (kids xs ((od1 xs r).getD (i / 8) 0)).getD (i % 8) 0 := by
    rw [← od0_at _ _ (by omega) (by omega), show 8 * (i / 8) + i % 8 = i by omega]
  rw [e] at hq
  exact od1_nds (by omega) (kids_nds (by omega) hq)
theorem od1_rng (h : Bld xs ys r m was F) (i : Nat) : (od1 xs r).getD i 0 = 0 ∨ 2 ≤ (od1 xs r).getD i 0 ∧ (od1 xs r).getD i 0 < 4096 := kids_rng h.old i
theorem od0_rng (h : Bld xs ys r m was F) (i : Nat) : (od0 xs r).getD i 0 = 0 ∨ 2 ≤ (od0 xs r).getD i 0 ∧ (od0 xs r).getD i 0 < 4096 := by
  have e : (od0 xs r).getD i 0 = if i / 8 < (kids xs r).length then (kids xs ((kids xs r).getD (i / 8) 0)).getD (i % 8) 0 else 0 := by
    have := flat8 (kids_length xs) (kids xs r) (i / 8) (i % 8) (by omega)
    rwa [show 8 * (i / 8) + i % 8 = i by omega] at this
  rw [e]
  split
  · rename_i hl
    rw [kids_length] at hl
    exact kids_rng (od1_Ld h hl) _
  · exact .inl rfl
theorem od2_rng (h : Bld xs ys r m was F) (i : Nat) : (od2 r).getD i 0 = 0 ∨ 2 ≤ (od2 r).getD i 0 ∧ (od2 r).getD i 0 < 4096 := by
  unfold od2
  cases i with
  | zero => exact h.root
  | succ i => left; simp

/-- The new nodes of a level are among all new ones. -/
theorem new0 (j : Nat) (n : Nod) (h : (b0 xs r m was F).new[j]? = some n) : (new xs r m was F)[j]? = some n := by
  obtain ⟨E, hE⟩ := lvl_pre (F := F) (lv := 1) (a := (b0 xs r m was F).up) (kp := kp m was 1) (od := od1 xs r) (b0 xs r m was F).new 0 8
  obtain ⟨E', hE'⟩ := lvl_pre (F := F) (lv := 2) (a := (b1 xs r m was F).up) (kp := kp m was 2) (od := od2 r) (b1 xs r m was F).new 0 1
  have hj := (List.getElem?_eq_some_iff.1 h).1
  have e1 : (b1 xs r m was F).new = (b0 xs r m was F).new ++ E := by unfold b1; exact hE
  have e2 : new xs r m was F = (b1 xs r m was F).new ++ E' := by unfold new b2; exact hE'
  rw [e2, e1, List.append_assoc, List.getElem?_append_left hj]; exact h
theorem new1 (j : Nat) (n : Nod) (h : (b1 xs r m was F).new[j]? = some n) : (new xs r m was F)[j]? = some n := by
  obtain ⟨E', hE'⟩ := lvl_pre (F := F) (lv := 2) (a := (b1 xs r m was F).up) (kp := kp m was 2) (od := od2 r) (b1 xs r m was F).new 0 1
  have hj := (List.getElem?_eq_some_iff.1 h).1
  have e2 : new xs r m was F = (b1 xs r m was F).new ++ E' := by unfold new b2; exact hE'
  rw [e2, List.getElem?_append_left hj]; exact h
theorem len0 : (b0 xs r m was F).new.length ≤ (b1 xs r m was F).new.length := by
  have := lvl_le (F := F) (lv := 1) (a := (b0 xs r m was F).up) (kp := kp m was 1) (od := od1 xs r) (b0 xs r m was F).new 0 8
  unfold b1; exact this
theorem len1 : (b1 xs r m was F).new.length ≤ need xs r m was F := by
  have := lvl_le (F := F) (lv := 2) (a := (b1 xs r m was F).up) (kp := kp m was 2) (od := od2 r) (b1 xs r m was F).new 0 1
  unfold need new b2; exact this

theorem u0_rng (h : Bld xs ys r m was F) (i : Nat) : (b0 xs r m was F).up.getD i 0 = 0 ∨ 2 ≤ (b0 xs r m was F).up.getD i 0 ∧ (b0 xs r m was F).up.getD i 0 < 4096 := by
  unfold b0
  refine lvl_rng (fun j hj => h.wr.rng j (Nat.lt_of_lt_of_le hj ?_)) (od0_rng h) i
  exact Nat.le_trans len0 len1
theorem u1_rng (h : Bld xs ys r m was F) (i : Nat) : (b1 xs r m was F).up.getD i 0 = 0 ∨ 2 ≤ (b1 xs r m was F).up.getD i 0 ∧ (b1 xs r m was F).up.getD i 0 < 4096 := by
  unfold b1
  exact lvl_rng (fun j hj => h.wr.rng j (Nat.lt_of_lt_of_le hj len1)) (od1_rng h) i

/-- An old pointer that is kept leads to the same, written or not. -/
theorem kept {L : Nat} {p : Int} {f : Nat → Int} (h : Bld xs ys r m was F) (hl : Ld xs L p f) (hs : ∀ q ∈ nds xs L p, q ∈ nds xs 3 r) : Ld ys L p f ∧ nds ys L p = nds xs L p :=
  hl.other fun q hq l ho => h.wr.old_ok (h.far q (hs q hq)) l ho

theorem u0_Ld (h : Bld xs ys r m was F) : ∀ i, i < 64 → Ld ys 1 ((b0 xs r m was F).up.getD i 0) (fun j => m.getD (8 ^ 1 * i + j) 0) := by
  unfold b0
  refine lvl_Ld (f := fun j => m.getD j 0) h.wr (fun i _ => ?_) (fun i hi hk => ?_) (fun i _ => h.map i) (by omega) new0
  · show m.getD (8 ^ 0 * i + 0) 0 = m.getD i 0
    congr 1; omega
  · refine (kept h (od0_Ld h hi) fun q hq => od0_nds hi hq).1.congr fun j hj => ?_
    exact ((kp_all 0 i).1 hk j hj).symm
theorem u1_Ld (h : Bld xs ys r m was F) : ∀ i, i < 8 → Ld ys 2 ((b1 xs r m was F).up.getD i 0) (fun j => m.getD (8 ^ 2 * i + j) 0) := by
  unfold b1
  refine lvl_Ld (f := fun j => m.getD j 0) h.wr (u0_Ld h) (fun i hi hk => ?_) (fun i _ => u0_rng h i) (by omega) new1
  refine (kept h (od1_Ld h hi) fun q hq => od1_nds hi hq).1.congr fun j hj => ?_
  exact ((kp_all 1 i).1 hk j hj).symm
/-- The new tree's root leads to the map. -/
theorem root_Ld (h : Bld xs ys r m was F) : Ld ys 3 (Wb.root xs r m was F) (fun j => m.getD j 0) := by
  have hh : ∀ i, i < 1 → Ld ys 3 ((b2 xs r m was F).up.getD i 0) (fun j => m.getD (8 ^ 3 * i + j) 0) := by
    unfold b2
    refine lvl_Ld (f := fun j => m.getD j 0) h.wr (u1_Ld h) (fun i hi hk => ?_) (fun i _ => u1_rng h i) (by omega) (fun j n hj => hj)
    obtain rfl : i = 0 := by omega
    refine (kept h h.old fun q hq => hq).1.congr fun j hj => ?_
    have := (kp_all 2 0).1 hk j hj
    rw [Nat.mul_zero, Nat.zero_add] at this ⊢
    exact this.symm
  refine (hh 0 (by omega)).congr fun j _ => ?_
  show m.getD (8 ^ 3 * 0 + j) 0 = m.getD j 0
  congr 1; omega
end
end Wb
namespace Wb
open Wt Wn

theorem one_no {x b : Int} (h : ¬ x = b) : [x].count b = 0 := by
  rw [List.count_eq_zero]; simpa using fun e => h e.symm
theorem one_yes (x : Int) : [x].count x = 1 := by simp
theorem ptr_range (n : Nod) : (List.range 8).map (pat n) = ptr n := rfl
theorem flat_ptr (n : Nod) (g : Int → List Int) : ((List.range 8).flatMap fun k => g (pat n k)) = (ptr n).flatMap g := by
  rw [← ptr_range, List.flatMap_map]

theorem nds1 {xs : List Int} {p : Int} : nds xs 1 p = if p = 0 then [] else [p] := by
  show (if p = 0 then [] else p :: (List.range 8).flatMap fun k => nds xs 0 (pat (nd xs p) k)) = _
  congr 1
theorem count_one {b p : Int} (hb : ¬ b = 0) : (if p = 0 then [] else [p]).count b = [p].count b := by
  by_cases h : p = 0
  · subst h; simp [Ne.symm hb]
  · rw [if_neg h]
theorem nds1_count {xs : List Int} {b p : Int} (hb : ¬ b = 0) : (nds xs 1 p).count b = [p].count b := by rw [nds1, count_one hb]
theorem flat_count {g : Int → List Int} {h : Int → Nat} {b : Int} (hg : ∀ p, (g p).count b = h p) : ∀ l : List Int, (l.flatMap g).count b = (l.map h).sum
  | [] => rfl
  | x :: l => by rw [List.flatMap_cons, List.count_append, hg, flat_count hg l, List.map_cons, List.sum_cons]
theorem sum_count {b : Int} : ∀ l : List Int, (l.map fun p => [p].count b).sum = l.count b
  | [] => rfl
  | x :: l => by
    rw [List.map_cons, List.sum_cons, sum_count l, ← List.count_append]; rfl
theorem zeros_count {b : Int} (hb : ¬ b = 0) (n : Nat) : (List.replicate n (0 : Int)).count b = 0 := by
  rw [List.count_replicate]
  simp [Ne.symm hb]
theorem nds2_count {xs : List Int} {b p : Int} (hb : ¬ b = 0) : (nds xs 2 p).count b = [p].count b + (kids xs p).count b := by
  by_cases h : p = 0
  · subst h
    rw [nds_zero]
    unfold kids
    rw [if_pos rfl, zeros_count hb]
    simp [Ne.symm hb]
  · rw [nds_yes h, flat_ptr (nd xs p) (nds xs 1)]
    unfold kids
    rw [if_neg h, ← List.singleton_append, List.count_append, flat_count (fun p => nds1_count hb), sum_count]
theorem nds3_count {xs : List Int} {b p : Int} (hb : ¬ b = 0) : (nds xs 3 p).count b = [p].count b + (kids xs p).count b + ((kids xs p).flatMap (kids xs)).count b := by
  by_cases h : p = 0
  · subst h
    rw [nds_zero]
    have e : kids xs 0 = List.replicate 8 0 := by unfold kids; rw [if_pos rfl]
    have e2 : ((List.replicate 8 (0 : Int)).flatMap (kids xs)).count b = 0 := by
      rw [flat_count (h := fun p => (kids xs p).count b) (fun _ => rfl)]
      rw [List.map_replicate, e, zeros_count hb]; rfl
    rw [e, zeros_count hb, e2]
    simp [Ne.symm hb]
  · have gen : ∀ l : List Int, (l.flatMap (nds xs 2)).count b = l.count b + (l.flatMap (kids xs)).count b := by
      intro l
      induction l with
      | nil => rfl
      | cons x l ih =>
        rw [List.flatMap_cons, List.flatMap_cons, List.count_append, List.count_append, ih, nds2_count hb, ← List.singleton_append (l := l), List.count_append]
        omega
    rw [nds_yes h, flat_ptr (nd xs p) (nds xs 2)]
    have e : kids xs p = ptr (nd xs p) := by unfold kids; rw [if_neg h]
    rw [e, ← List.singleton_append, List.count_append, gen]
    omega

theorem list_ext0 {a b : List Int} (hl : a.length = b.length) (h : ∀ i, i < a.length → a.getD i 0 = b.getD i 0) : a = b := by
  refine List.ext_getElem hl fun i h1 h2 => ?_
  have := h i h1
  rwa [List.getD_eq_getElem?_getD, List.getD_eq_getElem?_getD, List.getElem?_eq_getElem h1, List.getElem?_eq_getElem h2] at this

/-- What of a level is new, and what is old: how often a block stands there. -/
theorem lvl_count_old {F a od : List Int} {N : List Nod} {lv : Nat} {kpf : Nat → Bool} {b : Int} (hb : ¬ b = 0) : ∀ c, c ≤ od.length → (∀ j, j < (lvl F lv a kpf od c N).new.length → ¬ F.getD j 2 = b) →
    (lvl F lv a kpf od c N).up.count b ≤ (od.take c).count b
  | 0, _, _ => by simp [lvl]
  | c + 1, hc, hF => by
    have ih := lvl_count_old (F := F) (a := a) (od := od) (N := N) (lv := lv) (kpf := kpf) hb c (by omega) (fun j hj => hF j (Nat.lt_of_lt_of_le hj (lvl_le N c 1)))
    have e : od.take (c + 1) = od.take c ++ [od.getD c 0] := by
      rw [List.take_add_one, List.getD_eq_getElem?_getD, List.getElem?_eq_getElem (show c < od.length by omega)]; rfl
    rw [e, List.count_append]
    have hF' := hF (lvl F lv a kpf od c N).new.length
    show (stp F lv a kpf od c (lvl F lv a kpf od c N)).up.count b ≤ _
    have hlen : (lvl F lv a kpf od (c + 1) N).new.length = (stp F lv a kpf od c (lvl F lv a kpf od c N)).new.length := rfl
    unfold stp at hlen ⊢
    split at hlen
    · rename_i h0
      rw [if_pos h0, List.count_append]
      have : [(0 : Int)].count b = 0 := one_no (Ne.symm hb)
      omega
    · rename_i h0
      rw [if_neg h0]
      split at hlen
      · rename_i hk
        rw [if_pos hk, List.count_append]; omega
      · rename_i hk
        rw [if_neg hk, List.count_append]
        rw [List.length_append, List.length_singleton] at hlen
        have hne := hF' (by omega)
        have : [F.getD (lvl F lv a kpf od c N).new.length 2].count b = 0 := one_no hne
        omega
theorem lvl_count_new {F a od : List Int} {N : List Nod} {lv : Nat} {kpf : Nat → Bool} {j : Nat} (h0b : ¬ F.getD j 2 = 0) : ∀ c, (∀ i, i < c → ¬ od.getD i 0 = F.getD j 2) → (∀ i, i < (lvl F lv a kpf od c N).new.length → F.getD i 2 = F.getD j 2 → i = j) →
    (lvl F lv a kpf od c N).up.count (F.getD j 2) = if N.length ≤ j ∧ j < (lvl F lv a kpf od c N).new.length then 1 else 0
  | 0, _, _ => by
    show ([] : List Int).count _ = if N.length ≤ j ∧ j < N.length then 1 else 0
    rw [if_neg (by omega)]; rfl
  | c + 1, ho, hF => by
    have ih := lvl_count_new (F := F) (a := a) (od := od) (N := N) (lv := lv) (kpf := kpf) h0b c (fun i hi => ho i (by omega)) (fun i hi => hF i (Nat.lt_of_lt_of_le hi (lvl_le N c 1)))
    have hF' := hF (lvl F lv a kpf od c N).new.length
    have hoc := ho c (by omega)
    have hN := lvl_le (F := F) (lv := lv) (a := a) (kp := kpf) (od := od) N 0 c
    rw [Nat.zero_add] at hN
    have hN' : N.length ≤ (lvl F lv a kpf od c N).new.length := hN
    show (stp F lv a kpf od c (lvl F lv a kpf od c N)).up.count (F.getD j 2) = if N.length ≤ j ∧ j < (stp F lv a kpf od c (lvl F lv a kpf od c N)).new.length then 1 else 0
    have hlen : (lvl F lv a kpf od (c + 1) N).new.length = (stp F lv a kpf od c (lvl F lv a kpf od c N)).new.length := rfl
    unfold stp at hlen ⊢
    by_cases h0 : nul a c = true
    · rw [if_pos h0] at hlen ⊢
      rw [List.count_append, ih]
      have : [(0 : Int)].count (F.getD j 2) = 0 := one_no (Ne.symm h0b)
      rw [this]; rfl
    · rw [if_neg h0] at hlen ⊢
      by_cases hk : kpf c = true
      · rw [if_pos hk] at hlen ⊢
        rw [List.count_append, ih]
        have : [od.getD c 0].count (F.getD j 2) = 0 := one_no hoc
        rw [this]; rfl
      · rw [if_neg hk] at hlen ⊢
        rw [List.length_append, List.length_singleton] at hlen
        rw [List.count_append, ih, List.length_append, List.length_singleton]
        by_cases he : F.getD (lvl F lv a kpf od c N).new.length 2 = F.getD j 2
        · have := hF' (by omega) he
          rw [he, one_yes, if_neg (by omega), if_pos (by omega)]
        · have hne : ¬ j = (lvl F lv a kpf od c N).new.length := fun e => he (by rw [e])
          rw [one_no he]
          by_cases hj : N.length ≤ j ∧ j < (lvl F lv a kpf od c N).new.length
          · rw [if_pos hj, if_pos (by omega)]
          · rw [if_neg hj, if_neg (by omega)]
end Wb
namespace Wb
open Wt Wn

theorem nodup_count {l : List Int} : (∀ b, l.count b ≤ 1) → l.Nodup := by
  induction l with
  | nil => intro _; exact List.Pairwise.nil
  | cons x l ih =>
    intro h
    have h1 := h x
    rw [List.count_cons_self] at h1
    refine List.nodup_cons.2 ⟨fun hx => ?_, ih fun b => ?_⟩
    · have := List.count_pos_iff.2 hx; omega
    · have h2 := h b
      rw [List.count_cons] at h2
      omega
theorem count_nodup {l : List Int} (h : l.Nodup) (b : Int) : l.count b ≤ 1 := by
  induction l with
  | nil => simp
  | cons x l ih =>
    have hh := List.nodup_cons.1 h
    have := ih hh.2
    rw [List.count_cons]
    by_cases hx : x = b
    · subst hx
      have : l.count x = 0 := List.count_eq_zero.2 hh.1
      rw [this]; simp
    · have : (x == b) = false := by simpa using hx
      rw [this]; simpa using ih hh.2
theorem nds_ne {xs : List Int} : ∀ {L : Nat} {p q : Int}, q ∈ nds xs L p → ¬ q = 0
  | 0, _, _, h => by cases h
  | L + 1, p, q, h => by
    by_cases h0 : p = 0
    · subst h0; rw [nds_zero] at h; cases h
    · rw [nds_yes h0] at h
      rcases List.mem_cons.1 h with rfl | h
      · exact h0
      · obtain ⟨k, -, hk⟩ := List.mem_flatMap.1 h
        exact nds_ne hk
theorem nds_self {xs : List Int} {L : Nat} {p : Int} (h : ¬ p = 0) : p ∈ nds xs (L + 1) p := by rw [nds_yes h]; simp
theorem flat_len {g : Int → List Int} (hg : ∀ p, (g p).length = 8) : ∀ l : List Int, (l.flatMap g).length = 8 * l.length
  | [] => rfl
  | x :: l => by rw [List.flatMap_cons, List.length_append, hg, flat_len hg l, List.length_cons]; omega

section
variable {xs ys m was F : List Int} {r : Int}

theorem kids_same (h : Bld xs ys r m was F) {p : Int} (hp : ¬ p = 0 → ∀ j, j < need xs r m was F → ¬ F.getD j 2 = p) : kids ys p = kids xs p := by
  unfold kids
  by_cases h0 : p = 0
  · rw [if_pos h0, if_pos h0]
  · rw [if_neg h0, if_neg h0]
    unfold nd
    rw [h.wr.oth p (hp h0)]

/-- The eight pointers of a place are those that stand there. -/
theorem lvl_kids {a od : List Int} {N : List Nod} {lv c : Nat} {kpf : Nat → Bool} (h : Bld xs ys r m was F)
   (ha : ∀ i, a.getD i 0 = 0 ∨ 2 ≤ a.getD i 0 ∧ a.getD i 0 < 4096) (hlv : lv ≤ 2)
   (hn : ∀ (j : Nat) (n : Nod), (lvl F lv a kpf od c N).new[j]? = some n → (new xs r m was F)[j]? = some n)
   (hk : ∀ i, i < c → kpf i = true → ¬ nul a i = true → ∀ k, k < 8 → (kids ys (od.getD i 0)).getD k 0 = a.getD (8 * i + k) 0) {i k : Nat} (hi : i < c) (hk8 : k < 8) :
    (kids ys ((lvl F lv a kpf od c N).up.getD i 0)).getD k 0 = a.getD (8 * i + k) 0 := by
  rw [lvl_at N hi]
  by_cases h0 : nul a i = true
  · rw [if_pos h0, kids_zero, nul_iff.1 h0 k hk8]
  rw [if_neg h0]
  by_cases hkp : kpf i = true
  · rw [if_pos hkp]; exact hk i hi hkp h0 k hk8
  rw [if_neg hkp]
  obtain ⟨-, -, o3⟩ := lvl_new (F := F) (lv := lv) (a := a) (kp := kpf) (od := od) N hi h0 hkp
  have hnew := hn _ _ o3
  have hr := h.wr.rng _ (List.getElem?_eq_some_iff.1 hnew).1
  have hnod : nodB (mk lv a i) = true := by
    refine nodB_yes ⟨by show (0 : Int) ≤ (lv : Int); omega, by show (lv : Int) ≤ 2; omega⟩ (fun k hk => ?_) ?_
    · rw [pat_mk lv a i hk, linkB_iff]; exact ha _
    · obtain ⟨k, hk8, hk0⟩ := nul_no h0
      exact ⟨k, hk8, by rw [pat_mk lv a i hk8]; exact hk0⟩
  obtain ⟨-, k2⟩ := h.wr.new_ok hnew hnod (lv := lv) rfl
  rw [kids_yes (by omega), k2, pat_mk lv a i hk8]

theorem od_far (h : Bld xs ys r m was F) {p : Int} {L : Nat} (hs : ∀ q ∈ nds xs (L + 1) p, q ∈ nds xs 3 r) : ¬ p = 0 → ∀ j, j < need xs r m was F → ¬ F.getD j 2 = p :=
  fun h0 => h.far p (hs p (nds_self h0))
/-- An old pointer over sectors that have no block is none. -/
theorem od_nought {L : Nat} {p : Int} {f : Nat → Int} (h : Ld xs L p f) (hz : ∀ j, j < 8 ^ L → f j = 0) : p = 0 := by
  apply Classical.byContradiction
  intro h0
  obtain ⟨i, hi, hne⟩ := h.some h0
  exact hne (hz i hi)

theorem kids_u1 (h : Bld xs ys r m was F) {i k : Nat} (hi : i < 8) (hk8 : k < 8) : (kids ys ((b1 xs r m was F).up.getD i 0)).getD k 0 = (b0 xs r m was F).up.getD (8 * i + k) 0 := by
  unfold b1
  refine lvl_kids h (u0_rng h) (by omega) new1 (fun i hi hkp _ k hk8 => ?_) hi hk8
  rw [kids_same h (od_far h fun q hq => od1_nds hi hq), ← od0_at i k hi hk8]
  have hkk := kp_succ.1 hkp k hk8
  unfold b0
  rw [lvl_at [] (by omega : 8 * i + k < 64)]
  by_cases h0 : nul m (8 * i + k) = true
  · rw [if_pos h0]
    refine od_nought (od0_Ld h (i := 8 * i + k) (by omega)) fun j hj => ?_
    have e := kp_zero.1 hkk j (by simpa using hj)
    rw [Nat.pow_one, ← e]
    exact nul_iff.1 h0 j (by simpa using hj)
  · rw [if_neg h0, if_pos hkk]
theorem kids_root (h : Bld xs ys r m was F) {k : Nat} (hk8 : k < 8) : (kids ys (Wb.root xs r m was F)).getD k 0 = (b1 xs r m was F).up.getD k 0 := by
  have := @lvl_kids xs ys m was F r (b1 xs r m was F).up (od2 r) (b1 xs r m was F).new 2 1 (kp m was 2) h (u1_rng h) (by omega) (fun j n hj => hj) (fun i hi hkp _ k hk8 => ?_) 0 k (by omega) hk8
  · unfold Wb.root b2
    rw [this, Nat.mul_zero, Nat.zero_add]
  · obtain rfl : i = 0 := by omega
    show (kids ys r).getD k 0 = _
    rw [kids_same h (od_far h (L := 2) fun q hq => hq), Nat.mul_zero, Nat.zero_add]
    have hkk := kp_succ.1 hkp k hk8
    rw [Nat.mul_zero, Nat.zero_add] at hkk
    have hu := u1_Ld h k hk8
    unfold b1 at hu ⊢
    rw [lvl_at _ hk8] at hu ⊢
    by_cases h0 : nul (b0 xs r m was F).up k = true
    · rw [if_pos h0] at hu ⊢
      refine od_nought (od1_Ld h hk8) fun j hj => ?_
      rw [← (kp_all 1 k).1 hkk j hj]
      exact hu.nought j hj
    · rw [if_neg h0, if_pos hkk]; rfl

theorem u0_len : (b0 xs r m was F).up.length = 64 := by unfold b0; exact lvl_len _ 64
theorem u1_len : (b1 xs r m was F).up.length = 8 := by unfold b1; exact lvl_len _ 8
theorem u2_len : (b2 xs r m was F).up.length = 1 := by unfold b2; exact lvl_len _ 1
theorem od0_len : (od0 xs r).length = 64 := by unfold od0; rw [flat_len (kids_length xs), kids_length]
theorem kids_root_all (h : Bld xs ys r m was F) : kids ys (Wb.root xs r m was F) = (b1 xs r m was F).up :=
  list_ext0 (by rw [kids_length, u1_len]) fun i hi => by rw [kids_length] at hi; exact kids_root h hi
theorem kids_all (h : Bld xs ys r m was F) : (kids ys (Wb.root xs r m was F)).flatMap (kids ys) = (b0 xs r m was F).up := by
  rw [kids_root_all h]
  refine list_ext0 (by rw [flat_len (kids_length ys), u1_len, u0_len]) fun i hi => ?_
  rw [flat_len (kids_length ys), u1_len] at hi
  have := flat8 (kids_length ys) (b1 xs r m was F).up (i / 8) (i % 8) (by omega)
  rw [show 8 * (i / 8) + i % 8 = i by omega, u1_len, if_pos (by omega)] at this
  rw [this, kids_u1 h (by omega) (by omega), show 8 * (i / 8) + i % 8 = i by omega]

/-- How often a block is a node of the new tree: place by place. -/
theorem root_count (h : Bld xs ys r m was F) {b : Int} (hb : ¬ b = 0) : (nds ys 3 (Wb.root xs r m was F)).count b = (b2 xs r m was F).up.count b + (b1 xs r m was F).up.count b + (b0 xs r m was F).up.count b := by
  rw [nds3_count hb, kids_all h, kids_root_all h]
  congr 2
  have : (b2 xs r m was F).up = [Wb.root xs r m was F] := list_ext0 (by rw [u2_len]; rfl) fun i hi => by
    rw [u2_len] at hi
    obtain rfl : i = 0 := by omega
    rfl
  rw [this]
theorem old_count {b : Int} (hb : ¬ b = 0) : (nds xs 3 r).count b = (od2 r).count b + (od1 xs r).count b + (od0 xs r).count b := nds3_count hb

/-- A block that is none of the new ones is no oftener a node than it was. -/
theorem count_kept (h : Bld xs ys r m was F) {b : Int} (hb : ¬ b = 0) (hF : ∀ j, j < need xs r m was F → ¬ F.getD j 2 = b) : (nds ys 3 (Wb.root xs r m was F)).count b ≤ (nds xs 3 r).count b := by
  rw [root_count h hb, old_count hb]
  have c0 := lvl_count_old (F := F) (lv := 0) (a := m) (kpf := kp m was 0) (od := od0 xs r) (N := []) hb 64 (by rw [od0_len]; exact Nat.le_refl _) (fun j hj => hF j (Nat.lt_of_lt_of_le hj (Nat.le_trans len0 len1)))
  have c1 := lvl_count_old (F := F) (lv := 1) (a := (b0 xs r m was F).up) (kpf := kp m was 1) (od := od1 xs r) (N := (b0 xs r m was F).new) hb 8 (by unfold od1; rw [kids_length]; exact Nat.le_refl _) (fun j hj => hF j (Nat.lt_of_lt_of_le hj len1))
  have c2 := lvl_count_old (F := F) (lv := 2) (a := (b1 xs r m was F).up) (kpf := kp m was 2) (od := od2 r) (N := (b1 xs r m was F).new) hb 1 (Nat.le_refl _) hF
  rw [List.take_of_length_le (by rw [od0_len]; exact Nat.le_refl _)] at c0
  rw [List.take_of_length_le (by unfold od1; rw [kids_length]; exact Nat.le_refl _)] at c1
  have e0 : (b0 xs r m was F).up.count b ≤ (od0 xs r).count b := c0
  have e1 : (b1 xs r m was F).up.count b ≤ (od1 xs r).count b := c1
  have e2 : (b2 xs r m was F).up.count b ≤ (od2 r).count b := c2
  omega
/-- A new block is a node once. -/
theorem count_new (h : Bld xs ys r m was F) (hu : ∀ i j, i < need xs r m was F → j < need xs r m was F → F.getD i 2 = F.getD j 2 → i = j) {j : Nat} (hj : j < need xs r m was F) : (nds ys 3 (Wb.root xs r m was F)).count (F.getD j 2) = 1 := by
  have hr := h.wr.rng j hj
  have hb : ¬ F.getD j 2 = 0 := by omega
  have hod : ∀ {p : Int} {L : Nat}, (∀ q ∈ nds xs (L + 1) p, q ∈ nds xs 3 r) → ¬ p = F.getD j 2 := fun {p L} hs e => by
    have hp : ¬ p = 0 := by rw [e]; exact hb
    exact od_far h hs hp j hj e.symm
  rw [root_count h hb]
  have c0 := lvl_count_new (F := F) (lv := 0) (a := m) (kpf := kp m was 0) (od := od0 xs r) (N := []) hb 64 (fun i hi => hod (L := 0) fun q hq => od0_nds hi hq) (fun i hi => hu i j (Nat.lt_of_lt_of_le hi (Nat.le_trans len0 len1)) hj)
  have c1 := lvl_count_new (F := F) (lv := 1) (a := (b0 xs r m was F).up) (kpf := kp m was 1) (od := od1 xs r) (N := (b0 xs r m was F).new) hb 8 (fun i hi => hod (L := 1) fun q hq => od1_nds hi hq) (fun i hi => hu i j (Nat.lt_of_lt_of_le hi len1) hj)
  have c2 := lvl_count_new (F := F) (lv := 2) (a := (b1 xs r m was F).up) (kpf := kp m was 2) (od := od2 r) (N := (b1 xs r m was F).new) hb 1 (fun i hi => by
    obtain rfl : i = 0 := by omega
    exact hod (L := 2) fun q hq => hq) (fun i hi => hu i j hi hj)
  have e0 : (b0 xs r m was F).up.count (F.getD j 2) = if ([] : List Nod).length ≤ j ∧ j < (b0 xs r m was F).new.length then 1 else 0 := c0
  have e1 : (b1 xs r m was F).up.count (F.getD j 2) = if (b0 xs r m was F).new.length ≤ j ∧ j < (b1 xs r m was F).new.length then 1 else 0 := c1
  have e2 : (b2 xs r m was F).up.count (F.getD j 2) = if (b1 xs r m was F).new.length ≤ j ∧ j < need xs r m was F then 1 else 0 := c2
  have l0 := len0 (xs := xs) (r := r) (m := m) (was := was) (F := F)
  have l1 := len1 (xs := xs) (r := r) (m := m) (was := was) (F := F)
  rw [e0, e1, e2]
  simp only [List.length_nil, Nat.zero_le, true_and]
  by_cases h1 : j < (b0 xs r m was F).new.length
  · rw [if_neg (by omega), if_neg (by omega), if_pos h1]
  · rw [if_neg h1]
    by_cases h2 : j < (b1 xs r m was F).new.length
    · rw [if_neg (by omega), if_pos (by omega)]
    · rw [if_pos (by omega), if_neg (by omega)]

/-- Each node of the new tree once; old ones or new ones. -/
theorem root_nodes (h : Bld xs ys r m was F) (hu : ∀ i j, i < need xs r m was F → j < need xs r m was F → F.getD i 2 = F.getD j 2 → i = j) (ho : (nds xs 3 r).Nodup) :
    (nds ys 3 (Wb.root xs r m was F)).Nodup ∧ (∀ q ∈ nds ys 3 (Wb.root xs r m was F), q ∈ nds xs 3 r ∨ ∃ j, j < need xs r m was F ∧ F.getD j 2 = q) ∧ ∀ j, j < need xs r m was F → F.getD j 2 ∈ nds ys 3 (Wb.root xs r m was F) := by
  refine ⟨nodup_count fun b => ?_, fun q hq => ?_, fun j hj => ?_⟩
  · by_cases hb : b = 0
    · subst hb
      rw [List.count_eq_zero.2 fun h0 => nds_ne h0 rfl]; omega
    · by_cases hF : ∃ j, j < need xs r m was F ∧ F.getD j 2 = b
      · obtain ⟨j, hj, rfl⟩ := hF
        rw [count_new h hu hj]; exact Nat.le_refl _
      · exact Nat.le_trans (count_kept h hb fun j hj e => hF ⟨j, hj, e⟩) (count_nodup ho b)
  · by_cases hF : ∃ j, j < need xs r m was F ∧ F.getD j 2 = q
    · exact .inr hF
    · left
      have h1 := List.count_pos_iff.2 hq
      have h2 := count_kept h (nds_ne hq) fun j hj e => hF ⟨j, hj, e⟩
      exact List.count_pos_iff.1 (by omega)
  · have := count_new h hu hj
    exact List.count_pos_iff.1 (by omega)
end
end Wb
namespace Wb
open Wt Wn

theorem s0_len : s0.sec.length = 512 := List.length_replicate
theorem s0_at (i : Nat) : s0.sec.getD i 0 = 0 := by
  show (List.replicate 512 (0 : Int)).getD i 0 = 0
  rw [List.getD_eq_getElem?_getD, List.getElem?_replicate]
  split <;> rfl

/-- A tree, by what its root leads to. -/
theorem tre_of_Ld {ys : List Int} {p : Int} {f : Nat → Int} (hl : Ld ys 3 p f) (hp : p = 0 ∨ 2 ≤ p ∧ p < ((ys.length / 64 : Nat) : Int)) (hn : (nds ys 3 p).Nodup)
   (hf : ∀ i, i < 512 → f i < ((ys.length / 64 : Nat) : Int) ∧ ¬ f i ∈ nds ys 3 p) : ∃ t, tre ys p = some t ∧ t.sec.length = 512 ∧ (∀ i, i < 512 → t.sec.getD i 0 = f i) ∧ t.nodes = nds ys 3 p := by
  by_cases h0 : p = 0
  · subst h0
    refine ⟨s0, by unfold tre; rw [if_pos rfl], s0_len, fun i hi => ?_, by rw [nds_zero]; rfl⟩
    rw [hl.nought i (by omega), s0_at]
  · have hp2 : 2 ≤ p ∧ p < ((ys.length / 64 : Nat) : Int) := hp.resolve_left h0
    obtain ⟨t, ht⟩ := hl.met h0 0 s0
    have hnod : t.nodes = nds ys 3 p := by
      rw [met_nds 3 p 0 s0 t ht h0]; rfl
    have hsec : ∀ i, i < 512 → t.sec.getD i 0 = f i := fun i hi => by rw [met_map ht h0 i hi, hl.look h0 i (by omega)]
    have hlen := met_len ht
    refine ⟨t, ?_, hlen, hsec, hnod⟩
    have hap : apB t.nodes t.sec (ys.length / 64) = true := by
      refine (apB_iff ht hp2.1).2 ⟨by rw [hnod]; exact hn, fun x hx => ?_⟩
      have hm := ((sec_dat ht h0 x).1 hx).2
      obtain ⟨i, hi, rfl⟩ := List.mem_iff_getElem.1 hm
      have h1 := hsec i (by omega)
      rw [List.getD_eq_getElem?_getD, List.getElem?_eq_getElem hi] at h1
      have h2 : t.sec[i] = f i := h1
      rw [h2, hnod]
      exact hf i (by omega)
    unfold tre
    rw [if_neg h0, if_pos (bsB_iff.2 hp2), ht]
    simp only
    rw [if_pos hap]

/-- What a tree's root leads to. -/
theorem Ld_of_tre {xs : List Int} {r : Int} {t : St} (h : tre xs r = some t) : Ld xs 3 r (fun i => t.sec.getD i 0) ∧ nds xs 3 r = t.nodes ∧ t.nodes.Nodup ∧ (r = 0 ∨ 2 ≤ r ∧ r < ((xs.length / 64 : Nat) : Int)) ∧ t.sec.length = 512 ∧
    ∀ i, i < 512 → t.sec.getD i 0 = 0 ∨ t.sec.getD i 0 < ((xs.length / 64 : Nat) : Int) ∧ ¬ t.sec.getD i 0 ∈ t.nodes := by
  by_cases h0 : r = 0
  · subst h0
    have : t = s0 := by unfold tre at h; rw [if_pos rfl] at h; cases h; rfl
    subst this
    exact ⟨(Ld.zero xs 3).congr fun i _ => (s0_at i).symm, by rw [nds_zero]; rfl, List.Pairwise.nil, .inl rfl, s0_len, fun i _ => .inl (s0_at i)⟩
  · obtain ⟨h2, h3, hm, hn, hd⟩ := tre_met h0 h
    have hl := met_Ld 3 r 0 s0 t hm h0
    have hnod : nds xs 3 r = t.nodes := by rw [met_nds 3 r 0 s0 t hm h0]; rfl
    refine ⟨hl.congr fun i hi => (met_map hm h0 i (by omega)).symm, hnod, hn, .inr ⟨h2, h3⟩, met_len hm, fun i hi => ?_⟩
    have hmem : t.sec.getD i 0 ∈ t.sec := by
      rw [List.getD_eq_getElem?_getD, List.getElem?_eq_getElem (by rw [met_len hm]; exact hi)]
      exact List.getElem_mem _
    rcases (sec_dat hm h0 _).2 hmem with h | h
    · exact .inl h
    · exact .inr (hd _ h)

/-- The device with the first j new nodes written. -/
def wri (xs F : List Int) (new : List Nod) : Nat → List Int
  | 0 => xs
  | j + 1 => put (wri xs F new j) (F.getD j 2).toNat (new.getD j n0)
theorem wri_length {xs F : List Int} {new : List Nod} (hF : ∀ j, j < new.length → 2 ≤ F.getD j 2 ∧ F.getD j 2 < ((xs.length / 64 : Nat) : Int)) : ∀ j, j ≤ new.length → (wri xs F new j).length = xs.length
  | 0, _ => rfl
  | j + 1, hj => by
    have ih := wri_length hF j (by omega)
    have := hF j (by omega)
    unfold wri
    rw [put_length (by rw [ih]; omega), ih]
theorem rdR_out {xs ys : List Int} (hl : ys.length = xs.length) {q : Int} (h : ¬ (0 ≤ q ∧ q < ((xs.length / 64 : Nat) : Int))) (hd : Wd.devB xs.length = true) : Wd.rdR ys q = Wd.rdR xs q := by
  unfold Wd.rdR Wd.rdE
  rw [hl, hd, if_neg (fun e => by
    by_cases hq : 0 ≤ q ∧ q < (xs.length : Int) / 64
    · exact h ⟨hq.1, by omega⟩
    · rw [if_pos rfl, if_neg hq] at e; cases e), if_neg (fun e => by
    by_cases hq : 0 ≤ q ∧ q < (xs.length : Int) / 64
    · exact h ⟨hq.1, by omega⟩
    · rw [if_pos rfl, if_neg hq] at e; cases e)]
theorem wri_rd {xs F : List Int} {new : List Nod} (hd : Wd.devB xs.length = true) (hF : ∀ j, j < new.length → 2 ≤ F.getD j 2 ∧ F.getD j 2 < ((xs.length / 64 : Nat) : Int)) (hu : ∀ i j, i < new.length → j < new.length → F.getD i 2 = F.getD j 2 → i = j) :
    ∀ c, c ≤ new.length → (∀ j, j < c → Wd.rdR (wri xs F new c) (F.getD j 2) = blk (new.getD j n0)) ∧ ∀ q : Int, (∀ j, j < c → ¬ F.getD j 2 = q) → Wd.rdR (wri xs F new c) q = Wd.rdR xs q
  | 0, _ => ⟨fun j hj => by omega, fun q _ => rfl⟩
  | c + 1, hc => by
    obtain ⟨ih1, ih2⟩ := wri_rd hd hF hu c (by omega)
    have hl := wri_length hF c (by omega)
    have hFc := hF c (by omega)
    obtain ⟨k, hk⟩ : ∃ k : Nat, F.getD c 2 = k := ⟨(F.getD c 2).toNat, by omega⟩
    have hdc : Wd.devB (wri xs F new c).length = true := by rw [hl]; exact hd
    have hkl : k < (wri xs F new c).length / 64 := by rw [hl]; omega
    have e : wri xs F new (c + 1) = put (wri xs F new c) k (new.getD c n0) := by
      show put _ (F.getD c 2).toNat _ = _
      rw [hk, Int.toNat_natCast]
    have hne : ∀ q : Int, ¬ F.getD c 2 = q → Wd.rdR (wri xs F new (c + 1)) q = Wd.rdR (wri xs F new c) q := by
      intro q hq
      by_cases hin : 0 ≤ q ∧ q < ((xs.length / 64 : Nat) : Int)
      · obtain ⟨z, rfl⟩ : ∃ z : Nat, q = z := ⟨q.toNat, by omega⟩
        rw [e]
        exact rd_put_ne hdc hkl (by rw [hl]; omega) (fun ee => hq (by rw [hk, ee]))
      · rw [rdR_out (xs := xs) (ys := wri xs F new (c + 1)) (wri_length hF (c + 1) hc) hin hd, rdR_out (xs := xs) (ys := wri xs F new c) hl hin hd]
    refine ⟨fun j hj => ?_, fun q hq => ?_⟩
    · by_cases hjc : j = c
      · subst hjc
        rw [hk, e]
        exact rd_put hdc hkl
      · rw [hne _ (fun ee => hjc (hu c j (by omega) (by omega) ee).symm)]
        exact ih1 j (by omega)
    · rw [hne q (hq c (by omega))]
      exact ih2 q fun j hj => hq j (by omega)
/-- Written one by one, all new nodes stand there. -/
theorem wri_Wr {xs F : List Int} {new : List Nod} (hd : Wd.devB xs.length = true) (hF : ∀ j, j < new.length → 2 ≤ F.getD j 2 ∧ F.getD j 2 < ((xs.length / 64 : Nat) : Int)) (hu : ∀ i j, i < new.length → j < new.length → F.getD i 2 = F.getD j 2 → i = j) :
    Wr xs (wri xs F new new.length) F new := by
  obtain ⟨h1, h2⟩ := wri_rd hd hF hu new.length (Nat.le_refl _)
  have hb := Wd.devB_iff.1 hd
  refine ⟨wri_length hF _ (Nat.le_refl _), fun j hj => ⟨(hF j hj).1, by have := (hF j hj).2; omega⟩, fun j n hj => ?_, h2⟩
  have hlt := (List.getElem?_eq_some_iff.1 hj).1
  rw [h1 j hlt, List.getD_eq_getElem?_getD, hj]; rfl

/-- The new tree: its map is the map; the old one has the map that it had. -/
theorem built {xs m F : List Int} {r : Int} {t : St} (hd : Wd.devB xs.length = true) (ht : tre xs r = some t)
   (hm : m.length = 512) (hmr : ∀ i, i < 512 → m.getD i 0 = 0 ∨ 2 ≤ m.getD i 0 ∧ m.getD i 0 < ((xs.length / 64 : Nat) : Int)) (hmo : ∀ i, i < 512 → ¬ m.getD i 0 ∈ t.nodes)
   (hF : ∀ j, j < need xs r m t.sec F → 2 ≤ F.getD j 2 ∧ F.getD j 2 < ((xs.length / 64 : Nat) : Int) ∧ ¬ F.getD j 2 ∈ t.nodes ∧ (∀ i, i < 512 → ¬ m.getD i 0 = F.getD j 2) ∧ ∀ i, i < 512 → ¬ t.sec.getD i 0 = F.getD j 2)
   (hu : ∀ i j, i < need xs r m t.sec F → j < need xs r m t.sec F → F.getD i 2 = F.getD j 2 → i = j) :
    (∃ u, tre (wri xs F (new xs r m t.sec F) (need xs r m t.sec F)) (Wb.root xs r m t.sec F) = some u ∧ u.sec = m ∧ (∀ q ∈ u.nodes, q ∈ t.nodes ∨ ∃ j, j < need xs r m t.sec F ∧ F.getD j 2 = q) ∧ ∀ j, j < need xs r m t.sec F → F.getD j 2 ∈ u.nodes) ∧
    ∃ u, tre (wri xs F (new xs r m t.sec F) (need xs r m t.sec F)) r = some u ∧ u.sec = t.sec ∧ u.nodes = t.nodes := by
  obtain ⟨o1, o2, o3, o4, o5, o6⟩ := Ld_of_tre ht
  have hb := Wd.devB_iff.1 hd
  have hlen : (wri xs F (new xs r m t.sec F) (need xs r m t.sec F)).length = xs.length := wri_length (fun j hj => ⟨(hF j hj).1, (hF j hj).2.1⟩) _ (Nat.le_refl _)
  have hB : Bld xs (wri xs F (new xs r m t.sec F) (need xs r m t.sec F)) r m t.sec F := by
    refine ⟨wri_Wr hd (fun j hj => ⟨(hF j hj).1, (hF j hj).2.1⟩) hu, o1, ?_, fun q hq j hj e => ?_, fun i => ?_⟩
    · rcases o4 with h | h
      · exact .inl h
      · exact .inr ⟨h.1, by omega⟩
    · rw [o2] at hq
      exact (hF j hj).2.2.1 (by rw [e]; exact hq)
    · by_cases hi : i < 512
      · rcases hmr i hi with h | h
        · exact .inl h
        · exact .inr ⟨h.1, by omega⟩
      · left
        rw [List.getD_eq_getElem?_getD, List.getElem?_eq_none (by omega)]; rfl
  obtain ⟨n1, n2, n3⟩ := root_nodes hB hu (by rw [o2]; exact o3)
  have hroot : Wb.root xs r m t.sec F = 0 ∨ 2 ≤ Wb.root xs r m t.sec F ∧ Wb.root xs r m t.sec F < ((xs.length / 64 : Nat) : Int) := by
    unfold Wb.root b2
    rw [lvl_at _ (by omega : 0 < 1)]
    split
    · exact .inl rfl
    · rename_i h0
      split
      · exact o4
      · rename_i hk
        have hlt := (lvl_new (F := F) (lv := 2) (a := (b1 xs r m t.sec F).up) (kp := kp m t.sec 2) (od := od2 r) (b1 xs r m t.sec F).new (by omega : 0 < 1) h0 hk).2.1
        exact .inr ⟨(hF _ hlt).1, (hF _ hlt).2.1⟩
  constructor
  · obtain ⟨u, u1, u2, u3, u4⟩ := tre_of_Ld (root_Ld hB) (by rw [hlen]; exact hroot) n1 (fun i hi => by
      rw [hlen]
      refine ⟨by rcases hmr i hi with h | h <;> omega, fun hmem => ?_⟩
      rcases n2 _ hmem with h | ⟨j, hj, h⟩
      · rw [o2] at h; exact hmo i hi h
      · exact (hF j hj).2.2.2.1 i hi h.symm)
    refine ⟨u, u1, list_ext0 (by rw [u2, hm]) (fun i hi => u3 i (by omega)), fun q hq => ?_, fun j hj => by rw [u4]; exact n3 j hj⟩
    rw [u4] at hq
    have := n2 q hq
    rwa [o2] at this
  · obtain ⟨k1, k2⟩ := kept hB o1 (fun q hq => hq)
    obtain ⟨u, u1, u2, u3, u4⟩ := tre_of_Ld k1 (by rw [hlen]; exact o4) (by rw [k2, o2]; exact o3) (fun i hi => by
      rw [hlen, k2, o2]
      rcases o6 i hi with h | h
      · rw [h]
        exact ⟨by omega, fun h0 => nds_ne (xs := xs) (L := 3) (p := r) (by rw [o2]; exact h0) rfl⟩
      · exact h)
    exact ⟨u, u1, list_ext0 (by rw [u2, o5]) (fun i hi => u3 i (by omega)), by rw [u4, k2, o2]⟩
end Wb
namespace Wb
open Wt Wn

/-- Two lists have their noughts at the same places. -/
def Alike (a b : List Int) : Prop := ∀ i, a.getD i 0 = 0 ↔ b.getD i 0 = 0
theorem Alike.nul {a b : List Int} (h : Alike a b) (i : Nat) : nul a i = nul b i := by
  rw [Bool.eq_iff_iff, nul_iff, nul_iff]
  exact ⟨fun k j hj => (h _).1 (k j hj), fun k j hj => (h _).2 (k j hj)⟩
/-- How many are new hangs on no free block, if none is 0. -/
theorem lvl_alike {F G a b od : List Int} {N M : List Nod} {lv : Nat} {kpf : Nat → Bool} (hF : ∀ j, ¬ F.getD j 2 = 0) (hG : ∀ j, ¬ G.getD j 2 = 0) (hab : Alike a b) (hNM : N.length = M.length) :
    ∀ c, (lvl F lv a kpf od c N).new.length = (lvl G lv b kpf od c M).new.length ∧ ∀ i, i < c → ((lvl F lv a kpf od c N).up.getD i 0 = 0 ↔ (lvl G lv b kpf od c M).up.getD i 0 = 0) := by
  have hlen : ∀ c, (lvl F lv a kpf od c N).new.length = (lvl G lv b kpf od c M).new.length := by
    intro c
    induction c with
    | zero => exact hNM
    | succ c ih =>
      show (stp F lv a kpf od c (lvl F lv a kpf od c N)).new.length = (stp G lv b kpf od c (lvl G lv b kpf od c M)).new.length
      unfold stp
      rw [hab.nul c]
      split
      · exact ih
      · split
        · exact ih
        · rw [List.length_append, List.length_append, ih]; rfl
  refine fun c => ⟨hlen c, fun i hi => ?_⟩
  rw [lvl_at N hi, lvl_at M hi, hab.nul i]
  split
  · exact Iff.rfl
  · split
    · exact Iff.rfl
    · exact ⟨fun h => absurd h (hF _), fun h => absurd h (hG _)⟩
theorem lvl_alike_up {F G a b od : List Int} {N M : List Nod} {lv : Nat} {kpf : Nat → Bool} (hF : ∀ j, ¬ F.getD j 2 = 0) (hG : ∀ j, ¬ G.getD j 2 = 0) (hab : Alike a b) (hNM : N.length = M.length) (c : Nat) :
    Alike (lvl F lv a kpf od c N).up (lvl G lv b kpf od c M).up := fun i => by
  by_cases hi : i < c
  · exact (lvl_alike hF hG hab hNM c).2 i hi
  · rw [List.getD_eq_getElem?_getD, List.getElem?_eq_none (by rw [lvl_len]; omega), List.getD_eq_getElem?_getD, List.getElem?_eq_none (by rw [lvl_len]; omega)]

section
variable {xs m was F G : List Int} {r : Int}
theorem need_alike (hF : ∀ j, ¬ F.getD j 2 = 0) (hG : ∀ j, ¬ G.getD j 2 = 0) : need xs r m was F = need xs r m was G := by
  have e0 : Alike m m := fun _ => Iff.rfl
  have h0 := (lvl_alike (lv := 0) (kpf := kp m was 0) (od := od0 xs r) (N := []) (M := []) hF hG e0 rfl 64).1
  have a0 := lvl_alike_up (lv := 0) (kpf := kp m was 0) (od := od0 xs r) (N := []) (M := []) hF hG e0 rfl 64
  have h1 := (lvl_alike (lv := 1) (kpf := kp m was 1) (od := od1 xs r) hF hG a0 h0 8).1
  have a1 := lvl_alike_up (lv := 1) (kpf := kp m was 1) (od := od1 xs r) hF hG a0 h0 8
  exact (lvl_alike (lv := 2) (kpf := kp m was 2) (od := od2 r) hF hG a1 h1 1).1

/-- A place over which all stays is no new one; a level without a new place has no new node. -/
theorem lvl_none {a od : List Int} {N : List Nod} {lv : Nat} {kpf : Nat → Bool} : ∀ c, (∀ i, i < c → nul a i = true ∨ kpf i = true) → (lvl F lv a kpf od c N).new = N
  | 0, _ => rfl
  | c + 1, h => by
    have ih := lvl_none (a := a) (od := od) (N := N) (lv := lv) (kpf := kpf) c (fun i hi => h i (by omega))
    show (stp F lv a kpf od c (lvl F lv a kpf od c N)).new = N
    unfold stp
    by_cases h0 : nul a c = true
    · rw [if_pos h0]; exact ih
    · rw [if_neg h0, if_pos ((h c (by omega)).resolve_left h0)]; exact ih

/-- The same map: nothing is new. -/
theorem need_same (h : ∀ i, i < 512 → m.getD i 0 = was.getD i 0) : need xs r m was F = 0 := by
  have hk : ∀ L i, 8 ^ (L + 1) * i + 8 ^ (L + 1) ≤ 512 → kp m was L i = true := fun L i hi => (kp_all L i).2 fun j hj => h _ (by omega)
  have e0 : (b0 xs r m was F).new = [] := by unfold b0; exact lvl_none 64 fun i hi => .inr (hk 0 i (by omega))
  have e1 : (b1 xs r m was F).new = [] := by unfold b1; rw [lvl_none 8 fun i hi => .inr (hk 1 i (by omega))]; exact e0
  unfold need new b2
  rw [lvl_none 1 fun i hi => .inr (hk 2 i (by omega)), e1]; rfl
theorem lvl_zero {a od : List Int} {N : List Nod} {lv c : Nat} {kpf : Nat → Bool} (h : ∀ i, a.getD i 0 = 0) (i : Nat) : (lvl F lv a kpf od c N).up.getD i 0 = 0 := by
  by_cases hi : i < c
  · rw [lvl_at N hi, if_pos (nul_iff.2 fun k _ => h _)]
  · rw [List.getD_eq_getElem?_getD, List.getElem?_eq_none (by rw [lvl_len]; omega)]; rfl
/-- No block in the map: nothing is new, no root. -/
theorem need_zero (h : ∀ i, m.getD i 0 = 0) : need xs r m was F = 0 ∧ root xs r m was F = 0 := by
  have z0 : ∀ i, (b0 xs r m was F).up.getD i 0 = 0 := fun i => by unfold b0; exact lvl_zero h i
  have z1 : ∀ i, (b1 xs r m was F).up.getD i 0 = 0 := fun i => by unfold b1; exact lvl_zero z0 i
  have e0 : (b0 xs r m was F).new = [] := by unfold b0; exact lvl_none 64 fun i _ => .inl (nul_iff.2 fun k _ => h _)
  have e1 : (b1 xs r m was F).new = [] := by unfold b1; rw [lvl_none 8 fun i _ => .inl (nul_iff.2 fun k _ => z0 _)]; exact e0
  refine ⟨?_, ?_⟩
  · unfold need new b2
    rw [lvl_none 1 fun i _ => .inl (nul_iff.2 fun k _ => z1 _), e1]; rfl
  · unfold root b2; exact lvl_zero z1 0

/-- How many of the first c sectors have another block. -/
def chg (m was : List Int) (c : Nat) : Nat := ((List.range c).filter fun j => m.getD j 0 != was.getD j 0).length
theorem chg_succ (c : Nat) : chg m was (c + 1) = chg m was c + (if m.getD c 0 = was.getD c 0 then 0 else 1) := by
  unfold chg
  rw [List.range_succ, List.filter_append, List.length_append]
  by_cases h : m.getD c 0 = was.getD c 0
  · rw [if_pos h, List.filter_cons_of_neg (by simpa using h)]; rfl
  · rw [if_neg h, List.filter_cons_of_pos (by simpa using h)]; rfl
theorem chg_le (c : Nat) : ∀ d, chg m was c ≤ chg m was (c + d)
  | 0 => Nat.le_refl _
  | d + 1 => by
    have := chg_le c d
    have e := chg_succ (m := m) (was := was) (c + d)
    show _ ≤ chg m was (c + d + 1)
    omega
theorem chg_one {c d j : Nat} (h1 : c ≤ j) (h2 : j < c + d) (hj : ¬ m.getD j 0 = was.getD j 0) : chg m was c + 1 ≤ chg m was (c + d) := by
  have a := chg_le (m := m) (was := was) c (j - c)
  rw [show c + (j - c) = j by omega] at a
  have b := chg_succ (m := m) (was := was) j
  rw [if_neg hj] at b
  have e := chg_le (m := m) (was := was) (j + 1) (c + d - (j + 1))
  rw [show j + 1 + (c + d - (j + 1)) = c + d by omega] at e
  omega
/-- A level has no more new nodes than sectors were changed. -/
theorem lvl_chg {a od : List Int} {N : List Nod} {lv : Nat} (L : Nat) : ∀ c, (lvl F lv a (kp m was L) od c N).new.length ≤ N.length + chg m was (8 ^ (L + 1) * c)
  | 0 => Nat.le_add_right _ _
  | c + 1 => by
    have ih := lvl_chg (a := a) (od := od) (N := N) (lv := lv) L c
    have hle := chg_le (m := m) (was := was) (8 ^ (L + 1) * c) (8 ^ (L + 1))
    have e : 8 ^ (L + 1) * (c + 1) = 8 ^ (L + 1) * c + 8 ^ (L + 1) := Nat.mul_succ _ _
    rw [e]
    show (stp F lv a (kp m was L) od c (lvl F lv a (kp m was L) od c N)).new.length ≤ _
    unfold stp
    by_cases h0 : nul a c = true
    · rw [if_pos h0]; exact Nat.le_trans ih (by omega)
    · rw [if_neg h0]
      by_cases hk : kp m was L c = true
      · rw [if_pos hk]; exact Nat.le_trans ih (by omega)
      · rw [if_neg hk, List.length_append, List.length_singleton]
        have hex : ∃ j, j < 8 ^ (L + 1) ∧ ¬ m.getD (8 ^ (L + 1) * c + j) 0 = was.getD (8 ^ (L + 1) * c + j) 0 := by
          apply Classical.byContradiction
          intro hn
          exact hk ((kp_all L c).2 fun j hj => Classical.byContradiction fun h => hn ⟨j, hj, h⟩)
        obtain ⟨j, hj, hne⟩ := hex
        have := chg_one (m := m) (was := was) (c := 8 ^ (L + 1) * c) (d := 8 ^ (L + 1)) (j := 8 ^ (L + 1) * c + j) (by omega) (by omega) hne
        omega
/-- At most three new nodes for each sector changed. -/
theorem need_chg : need xs r m was F ≤ 3 * chg m was 512 := by
  have h0 := lvl_chg (F := F) (m := m) (was := was) (a := m) (od := od0 xs r) (N := []) (lv := 0) 0 64
  have h1 := lvl_chg (F := F) (m := m) (was := was) (a := (b0 xs r m was F).up) (od := od1 xs r) (N := (b0 xs r m was F).new) (lv := 1) 1 8
  have h2 := lvl_chg (F := F) (m := m) (was := was) (a := (b1 xs r m was F).up) (od := od2 r) (N := (b1 xs r m was F).new) (lv := 2) 2 1
  have e0 : (b0 xs r m was F).new.length ≤ 0 + chg m was 512 := h0
  have e1 : (b1 xs r m was F).new.length ≤ (b0 xs r m was F).new.length + chg m was 512 := h1
  have e2 : need xs r m was F ≤ (b1 xs r m was F).new.length + chg m was 512 := h2
  omega
theorem chg_none (h : chg m was 512 = 0) : ∀ i, i < 512 → m.getD i 0 = was.getD i 0 := fun i hi => by
  apply Classical.byContradiction
  intro hne
  have := chg_one (m := m) (was := was) (c := 0) (d := 512) (j := i) (by omega) (by omega) hne
  rw [Nat.zero_add] at this
  omega
end
end Wb
namespace Wb
open Wt Wn

section
variable {xs m was F : List Int} {r : Int}

/-- Over a new place stands a new place. -/
theorem over_new {a od a2 : List Int} {N : List Nod} {lv L c i : Nat} (hF : ∀ j, ¬ F.getD j 2 = 0) (hi : i < c) (h0 : ¬ nul a i = true) (hk : ¬ kp m was L i = true) (ha : a2 = (lvl F lv a (kp m was L) od c N).up) :
    ¬ nul a2 (i / 8) = true ∧ ¬ kp m was (L + 1) (i / 8) = true := by
  subst ha
  refine ⟨fun h => ?_, fun h => ?_⟩
  · have := nul_iff.1 h (i % 8) (by omega)
    rw [show 8 * (i / 8) + i % 8 = i by omega, lvl_at N hi, if_neg h0, if_neg hk] at this
    exact hF _ this
  · have := kp_succ.1 h (i % 8) (by omega)
    rw [show 8 * (i / 8) + i % 8 = i by omega] at this
    exact hk this

/-- Where anything is new, the root is. -/
theorem root_new (hF : ∀ j, ¬ F.getD j 2 = 0) (h : 0 < need xs r m was F) : ¬ nul (b1 xs r m was F).up 0 = true ∧ ¬ kp m was 2 0 = true := by
  have up1 : ∀ i, i < 8 → ¬ nul (b0 xs r m was F).up i = true → ¬ kp m was 1 i = true → ¬ nul (b1 xs r m was F).up 0 = true ∧ ¬ kp m was 2 0 = true := by
    intro i hi h0 hk
    have := over_new (a2 := (b1 xs r m was F).up) (od := od1 xs r) (N := (b0 xs r m was F).new) (lv := 1) hF hi h0 hk rfl
    rwa [show i / 8 = 0 by omega] at this
  by_cases c0 : 0 < (b0 xs r m was F).new.length
  · obtain ⟨i, hi, h0, hk, -⟩ := new_of (F := F) (lv := 0) (a := m) (kp := kp m was 0) (od := od0 xs r) [] 64 0 (Nat.le_refl _) c0
    have := over_new (a2 := (b0 xs r m was F).up) (od := od0 xs r) (N := []) (lv := 0) hF hi h0 hk rfl
    exact up1 _ (by omega) this.1 this.2
  by_cases c1 : 0 < (b1 xs r m was F).new.length
  · obtain ⟨i, hi, h0, hk, -⟩ := new_of (F := F) (lv := 1) (a := (b0 xs r m was F).up) (kp := kp m was 1) (od := od1 xs r) (b0 xs r m was F).new 8 0 (by omega) c1
    exact up1 i hi h0 hk
  · obtain ⟨i, hi, h0, hk, -⟩ := new_of (F := F) (lv := 2) (a := (b1 xs r m was F).up) (kp := kp m was 2) (od := od2 r) (b1 xs r m was F).new 1 0 (by omega) h
    obtain rfl : i = 0 := by omega
    exact ⟨h0, hk⟩
/-- The last new node is the root. -/
theorem root_last (hF : ∀ j, ¬ F.getD j 2 = 0) (h : 0 < need xs r m was F) : root xs r m was F = F.getD (need xs r m was F - 1) 2 := by
  obtain ⟨h0, hk⟩ := root_new hF h
  have e : need xs r m was F = (b1 xs r m was F).new.length + 1 := by
    unfold need new b2
    show (stp F 2 (b1 xs r m was F).up (kp m was 2) (od2 r) 0 (lvl F 2 (b1 xs r m was F).up (kp m was 2) (od2 r) 0 (b1 xs r m was F).new)).new.length = _
    unfold stp
    rw [if_neg h0, if_neg hk, List.length_append]; rfl
  rw [e]
  unfold root b2
  rw [lvl_at _ (by omega : 0 < 1), if_neg h0, if_neg hk]
  rfl
/-- Where nothing is new: the old root, or none. -/
theorem root_kept (h : need xs r m was F = 0) : root xs r m was F = 0 ∨ root xs r m was F = r ∧ kp m was 2 0 = true := by
  unfold root b2
  rw [lvl_at _ (by omega : 0 < 1)]
  by_cases h0 : nul (b1 xs r m was F).up 0 = true
  · rw [if_pos h0]; exact .inl rfl
  · rw [if_neg h0]
    by_cases hk : kp m was 2 0 = true
    · rw [if_pos hk]; exact .inr ⟨rfl, hk⟩
    · have := (lvl_new (F := F) (lv := 2) (a := (b1 xs r m was F).up) (kp := kp m was 2) (od := od2 r) (b1 xs r m was F).new (by omega : 0 < 1) h0 hk).2.1
      have hz : (lvl F 2 (b1 xs r m was F).up (kp m was 2) (od2 r) 1 (b1 xs r m was F).new).new.length = 0 := h
      omega
theorem bld_none (h : need xs r m was F = 0) (hold : Ld xs 3 r (fun i => was.getD i 0)) (hr : r = 0 ∨ 2 ≤ r ∧ r < 4096) (hm : ∀ i, m.getD i 0 = 0 ∨ 2 ≤ m.getD i 0 ∧ m.getD i 0 < 4096) : Bld xs xs r m was F := by
  have e : (new xs r m was F).length = 0 := h
  refine ⟨⟨rfl, fun j hj => by omega, fun j n hj => ?_, fun q _ => rfl⟩, hold, hr, fun q _ j hj => by omega, hm⟩
  have := (List.getElem?_eq_some_iff.1 hj).1
  omega
/-- Where nothing is new the map is the old one, or none. -/
theorem map_kept (h : need xs r m was F = 0) (hold : Ld xs 3 r (fun i => was.getD i 0)) (hr : r = 0 ∨ 2 ≤ r ∧ r < 4096) (hm : ∀ i, m.getD i 0 = 0 ∨ 2 ≤ m.getD i 0 ∧ m.getD i 0 < 4096) :
    (∀ i, i < 512 → m.getD i 0 = 0) ∨ ∀ i, i < 512 → m.getD i 0 = was.getD i 0 := by
  rcases root_kept h with h0 | ⟨-, hk⟩
  · left
    have := root_Ld (bld_none h hold hr hm)
    rw [h0] at this
    exact fun i hi => this.nought i (by omega)
  · right
    intro i hi
    have := (kp_all 2 0).1 hk i (by omega)
    rwa [Nat.mul_zero, Nat.zero_add] at this
/-- Of the same map the root is the old one. -/
theorem root_same (h : ∀ i, i < 512 → m.getD i 0 = was.getD i 0) (hold : Ld xs 3 r (fun i => was.getD i 0)) (hr : r = 0 ∨ 2 ≤ r ∧ r < 4096) (hm : ∀ i, m.getD i 0 = 0 ∨ 2 ≤ m.getD i 0 ∧ m.getD i 0 < 4096) : root xs r m was F = r := by
  have hn := need_same (xs := xs) (r := r) (F := F) h
  rcases root_kept hn with h0 | ⟨h1, -⟩
  · have := root_Ld (bld_none hn hold hr hm)
    rw [h0] at this
    rw [h0]
    exact (od_nought hold fun j hj => by rw [← h j (by omega)]; exact this.nought j hj).symm
  · exact h1
end
end Wb
namespace Wb
open Wt Wn

/-- The write of the j-th new node. -/
def wio (F : List Int) (new : List Nod) (j : Nat) : Wd.Io := ⟨1, F.getD j 2, blk (new.getD j n0)⟩
/-- The writes of the first c new nodes. -/
def ios (F : List Int) (new : List Nod) (c : Nat) : List Wd.Io := (List.range c).map (wio F new)
theorem ios_length (F : List Int) (new : List Nod) (c : Nat) : (ios F new c).length = c := by simp [ios]
theorem ios_succ (F : List Int) (new : List Nod) (c : Nat) : ios F new (c + 1) = ios F new c ++ [wio F new c] := by
  unfold ios; rw [List.range_succ, List.map_append]; rfl
theorem ios_at {F : List Int} {new : List Nod} {c j : Nat} (h : j < c) : (ios F new c).getD j Wd.d0 = wio F new j := by
  unfold ios
  rw [List.getD_eq_getElem?_getD, List.getElem?_map, List.getElem?_range h]; rfl
/-- A new node more changes nothing of the writes ahead of it. -/
theorem ios_more {F : List Int} {N E : List Nod} {c : Nat} (h : c ≤ N.length) : ios F (N ++ E) c = ios F N c := by
  unfold ios
  refine List.map_congr_left fun j hj => ?_
  have hj := List.mem_range.1 hj
  have e : (N ++ E).getD j n0 = N.getD j n0 := by
    rw [List.getD_eq_getElem?_getD, List.getElem?_append_left (by omega), ← List.getD_eq_getElem?_getD]
  unfold wio
  rw [e]
/-- Done one by one they leave the device with the nodes written. -/
theorem app_ios (xs F : List Int) (new : List Nod) : ∀ c, Wd.app xs (ios F new c) = wri xs F new c
  | 0 => rfl
  | c + 1 => by
    rw [ios_succ, Wd.app_snoc, app_ios xs F new c]; rfl
/-- They are right steps. -/
theorem ios_ok {xs F : List Int} {new : List Nod} {c : Nat} (hd : Wd.devB xs.length = true) (hc : c ≤ 1048576) (hF : ∀ j, j < c → 2 ≤ F.getD j 2 ∧ F.getD j 2 < ((xs.length / 64 : Nat) : Int)) : Wd.stepsE xs.length (ios F new c) = 0 := by
  refine Wd.stepsE_ok hd (by rw [ios_length]; exact hc) (List.all_eq_true.2 fun x hx => ?_)
  obtain ⟨j, hj, rfl⟩ := List.mem_map.1 hx
  have := hF j (List.mem_range.1 hj)
  have hl : (wio F new j).data.length = 64 := blk_length _
  unfold Wd.okIo Wd.rightB
  rw [hl]
  have h2 : F.getD j 2 < (xs.length : Int) / 64 := by omega
  have h1 : (0 : Int) ≤ F.getD j 2 := by omega
  show ((1 : Int) == 1 && (decide (0 ≤ F.getD j 2) && decide (F.getD j 2 < (xs.length : Int) / 64)) && (64 == 64) || _) = true
  rw [decide_eq_true h1, decide_eq_true h2]
  rfl
/-- A list of free blocks that rises names no block twice. -/
theorem rises {F : List Int} (h : F.Pairwise (· < ·)) {i j : Nat} (hi : i < F.length) (hj : j < F.length) (e : F.getD i 2 = F.getD j 2) : i = j := by
  rw [List.getD_eq_getElem?_getD, List.getD_eq_getElem?_getD, List.getElem?_eq_getElem hi, List.getElem?_eq_getElem hj] at e
  have e : F[i] = F[j] := e
  rcases Nat.lt_trichotomy i j with h1 | h1 | h1
  · have := List.pairwise_iff_getElem.1 h i j hi hj h1; omega
  · exact h1
  · have := List.pairwise_iff_getElem.1 h j i hj hi h1; omega

/-- With the root too: what is built and done. -/
theorem built_app {xs m F : List Int} {r : Int} {t : St} (hd : Wd.devB xs.length = true) (ht : tre xs r = some t)
   (hm : m.length = 512) (hmr : ∀ i, i < 512 → m.getD i 0 = 0 ∨ 2 ≤ m.getD i 0 ∧ m.getD i 0 < ((xs.length / 64 : Nat) : Int)) (hmo : ∀ i, i < 512 → ¬ m.getD i 0 ∈ t.nodes)
   (hroom : need xs r m t.sec F ≤ F.length) (hF : F.Pairwise (· < ·)) (hFr : ∀ f ∈ F, 2 ≤ f ∧ f < ((xs.length / 64 : Nat) : Int) ∧ ¬ f ∈ t.nodes ∧ (∀ i, i < 512 → ¬ m.getD i 0 = f) ∧ ∀ i, i < 512 → ¬ t.sec.getD i 0 = f) :
    Wd.stepsE xs.length (ios F (new xs r m t.sec F) (need xs r m t.sec F)) = 0 ∧
    (∃ u, tre (Wd.app xs (ios F (new xs r m t.sec F) (need xs r m t.sec F))) (root xs r m t.sec F) = some u ∧ u.sec = m ∧ (∀ q ∈ u.nodes, q ∈ t.nodes ∨ ∃ j, j < need xs r m t.sec F ∧ F.getD j 2 = q) ∧ ∀ j, j < need xs r m t.sec F → F.getD j 2 ∈ u.nodes) ∧
    ∃ u, tre (Wd.app xs (ios F (new xs r m t.sec F) (need xs r m t.sec F))) r = some u ∧ u.sec = t.sec ∧ u.nodes = t.nodes := by
  have hmem : ∀ j, j < need xs r m t.sec F → F.getD j 2 ∈ F := fun j hj => by
    rw [List.getD_eq_getElem?_getD, List.getElem?_eq_getElem (show j < F.length by omega)]
    exact List.getElem_mem _
  have hall := fun j hj => hFr _ (hmem j hj)
  have hn := need_most xs r m t.sec F
  refine ⟨ios_ok hd (by omega) fun j hj => ⟨(hall j hj).1, (hall j hj).2.1⟩, ?_⟩
  rw [app_ios]
  exact built hd ht hm hmr hmo hall fun i j hi hj e => rises hF (by omega) (by omega) e
end Wb
