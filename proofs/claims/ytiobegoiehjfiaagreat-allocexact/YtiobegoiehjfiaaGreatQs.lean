/-
  The plain mathematics of a sound image: what each block is used as, and when no block is used as two things. It speaks of no program.
-/
import Derived.Test.YtiobegoiehjfiaaGreatQm
import Derived.Test.YtiobegoiehjfiaaGreatJG
namespace Wi
open Wt

/-- May all these blocks be taken for that use? -/
def okT (U : Nat → Int) (k : Int) (ps : List Int) : Bool := ps.all fun p => p == 0 || (U p.toNat == 0 || U p.toNat == k)
/-- The uses then. -/
def upT (U : Nat → Int) (k : Int) (ps : List Int) : Nat → Int := fun j => if (j : Int) ∈ ps ∧ ¬ j = 0 then k else U j

theorem okT_snoc (U : Nat → Int) (k : Int) (ps : List Int) (p : Int) : okT U k (ps ++ [p]) = (okT U k ps && (p == 0 || (U p.toNat == 0 || U p.toNat == k))) := by simp [okT]
theorem upT_nil (U : Nat → Int) (k : Int) : upT U k [] = U := by funext j; simp [upT]
theorem upT_zero (U : Nat → Int) (k : Int) (ps : List Int) : upT U k (ps ++ [0]) = upT U k ps := by
  funext j
  unfold upT
  by_cases h : j = 0
  · simp [h]
  · have : ((j : Int) ∈ ps ++ [0]) ↔ (j : Int) ∈ ps := by simp; omega
    simp [this]
theorem upT_snoc (U : Nat → Int) (k : Int) (ps : List Int) (q : Nat) (hq : ¬ q = 0) (j : Nat) : upT U k (ps ++ [(q : Int)]) j = if j = q then k else upT U k ps j := by
  unfold upT
  by_cases h : j = q
  · subst h; simp [hq]
  · have : ((j : Int) ∈ ps ++ [(q : Int)]) ↔ (j : Int) ∈ ps := by simp; omega
    simp [this, h]

/-- Is it a tree of so many sectors? -/
def szB (xs : List Int) (t : Int × Int) : Bool := (tre xs t.1).isSome && ((treS xs t.1).drop t.2.toNat).all (· == 0)
/-- May a tree's blocks be taken? -/
def trB (xs : List Int) (U : Nat → Int) (t : Int × Int) : Bool :=
  szB xs t && (okT U 2 (treN xs t.1) && okT (upT U 2 (treN xs t.1)) 3 ((treS xs t.1).take t.2.toNat))
def trU (xs : List Int) (U : Nat → Int) (t : Int × Int) : Nat → Int := upT (upT U 2 (treN xs t.1)) 3 ((treS xs t.1).take t.2.toNat)
def sndU (xs : List Int) : (Nat → Int) → List (Int × Int) → Bool
  | _, [] => true
  | U, t :: L => trB xs U t && sndU xs (trU xs U t) L

/-- No block is two things: a record, a node, a sector's. -/
def Dis (R N D : List Int) : Prop := (∀ p ∈ R, ¬ p ∈ N ∧ ¬ p ∈ D) ∧ ∀ p ∈ N, ¬ p ∈ D
theorem Dis.sub {R N D N' D' : List Int} (h : Dis R N' D') (hN : ∀ p ∈ N, p ∈ N') (hD : ∀ p ∈ D, p ∈ D') : Dis R N D :=
  ⟨fun p hp => ⟨fun h1 => (h.1 p hp).1 (hN p h1), fun h1 => (h.1 p hp).2 (hD p h1)⟩, fun p hp h1 => h.2 p (hN p hp) (hD p h1)⟩

/-- The uses tell which block is which. -/
def Rep (U : Nat → Int) (R N D : List Int) : Prop := ∀ j : Nat, U j = if (j : Int) ∈ R then 1 else if (j : Int) ∈ N then 2 else if (j : Int) ∈ D then 3 else 0

def secs (xs : List Int) (t : Int × Int) : List Int := ((treS xs t.1).take t.2.toNat).filter fun p => !(p == 0)
def allN (xs : List Int) (L : List (Int × Int)) : List Int := L.flatMap fun t => treN xs t.1
def allD (xs : List Int) (L : List (Int × Int)) : List Int := L.flatMap (secs xs)

theorem s0_nodes : Wt.s0.nodes = [] := rfl
theorem s0_sec : Wt.s0.sec = List.replicate 512 0 := rfl
theorem tre_bounds {xs : List Int} {root : Int} {t : St} (h : tre xs root = some t) :
    t.sec.length = 512 ∧ (∀ x ∈ t.nodes, 2 ≤ x ∧ x < ((xs.length / 64 : Nat) : Int)) ∧ ∀ x ∈ t.sec, x = 0 ∨ 0 < x ∧ x < ((xs.length / 64 : Nat) : Int) := by
  refine ⟨tre_len h, ?_⟩
  by_cases hr : root = 0
  · subst hr
    unfold tre at h
    rw [if_pos rfl] at h
    cases h
    refine ⟨by simp [s0_nodes], fun x hx => ?_⟩
    rw [s0_sec] at hx
    exact .inl (List.eq_of_mem_replicate hx)
  · obtain ⟨h2, hlt, hm, hn, hd⟩ := tre_met hr h
    refine ⟨fun x hx => ⟨met_two xs 3 root 0 s0 t hm h2 (by simp [s0_nodes]) x hx, (met_nodes xs 3 root 0 s0 t hm (by simp [s0_nodes]) x hx).2⟩, fun x hx => ?_⟩
    have h0 := met_pos xs 3 root 0 s0 t hm (by omega) (fun y hy => by rw [s0_sec] at hy; rw [List.eq_of_mem_replicate hy]; decide) x hx
    rcases (sec_dat hm hr x).2 hx with h | h
    · exact .inl h
    · have := (hd x h).1
      by_cases e : x = 0
      · exact .inl e
      · exact .inr ⟨by omega, this⟩

theorem treN_bounds (xs : List Int) (root : Int) : ∀ x ∈ treN xs root, 2 ≤ x ∧ x < ((xs.length / 64 : Nat) : Int) := by
  unfold treN
  split
  · split
    · simp
    · exact (tre_bounds (by assumption)).2.1
  · simp
theorem treS_bounds (xs : List Int) (root : Int) : ∀ x ∈ treS xs root, x = 0 ∨ 0 < x ∧ x < ((xs.length / 64 : Nat) : Int) := by
  unfold treS
  split
  · split
    · simp
    · exact (tre_bounds (by assumption)).2.2
  · simp

theorem okT_iff {U : Nat → Int} {k : Int} {ps : List Int} : okT U k ps = true ↔ ∀ p ∈ ps, ¬ p = 0 → U p.toNat = 0 ∨ U p.toNat = k := by
  simp only [okT, List.all_eq_true, Bool.or_eq_true, beq_iff_eq]
  constructor
  · intro h p hp h0
    rcases h p hp with h | h
    · exact absurd h h0
    · exact h
  · intro h p hp
    by_cases h0 : p = 0
    · exact .inl h0
    · exact .inr (h p hp h0)

theorem rep_nodes {U : Nat → Int} {R N D : List Int} (hR : Rep U R N D) (_hd : Dis R N D) {ns : List Int} (hn : ∀ p ∈ ns, 2 ≤ p) : okT U 2 ns = true ↔ ∀ p ∈ ns, ¬ p ∈ R ∧ (p ∈ N ∨ ¬ p ∈ D) := by
  rw [okT_iff]
  refine forall_congr' fun p => forall_congr' fun hp => ?_
  have h2 := hn p hp
  have e := hR p.toNat
  rw [show ((p.toNat : Nat) : Int) = p by omega] at e
  rw [e]
  by_cases h1 : p ∈ R
  · rw [if_pos h1]; simp [h1]; omega
  · rw [if_neg h1]
    by_cases h3 : p ∈ N
    · rw [if_pos h3]; simp [h1, h3]
    · rw [if_neg h3]
      by_cases h4 : p ∈ D
      · rw [if_pos h4]; simp [h1, h3, h4]; omega
      · rw [if_neg h4]; simp [h1, h4]

theorem rep_secs {U : Nat → Int} {R N D : List Int} (hR : Rep U R N D) {ds : List Int} (hn : ∀ p ∈ ds, 0 ≤ p) : okT U 3 ds = true ↔ ∀ p ∈ ds, ¬ p = 0 → ¬ p ∈ R ∧ ¬ p ∈ N := by
  rw [okT_iff]
  refine forall_congr' fun p => forall_congr' fun hp => forall_congr' fun h0 => ?_
  have h2 := hn p hp
  have e := hR p.toNat
  rw [show ((p.toNat : Nat) : Int) = p by omega] at e
  rw [e]
  by_cases h1 : p ∈ R
  · rw [if_pos h1]; simp [h1]
  · rw [if_neg h1]
    by_cases h3 : p ∈ N
    · rw [if_pos h3]; simp [h3]
    · rw [if_neg h3]
      by_cases h4 : p ∈ D
      · rw [if_pos h4]; simp [h1, h3]
      · rw [if_neg h4]; simp [h1, h3]

theorem rep_upN {U : Nat → Int} {R N D : List Int} (hR : Rep U R N D) {ns : List Int} (hn : ∀ p ∈ ns, 2 ≤ p) (h : ∀ p ∈ ns, ¬ p ∈ R) : Rep (upT U 2 ns) R (N ++ ns) D := by
  intro j
  unfold upT
  by_cases hj : (j : Int) ∈ ns
  · have := hn _ hj
    rw [if_pos ⟨hj, by omega⟩, if_neg (h _ hj), if_pos (List.mem_append.2 (.inr hj))]
  · rw [if_neg (fun h => hj h.1), hR j]
    have : ((j : Int) ∈ N ++ ns) ↔ (j : Int) ∈ N := by simp [hj]
    simp only [this]

theorem rep_upD {U : Nat → Int} {R N D : List Int} (hR : Rep U R N D) {ds : List Int} (h : ∀ p ∈ ds, ¬ p = 0 → ¬ p ∈ R ∧ ¬ p ∈ N) : Rep (upT U 3 ds) R N (D ++ ds.filter fun p => !(p == 0)) := by
  intro j
  unfold upT
  by_cases hj : (j : Int) ∈ ds ∧ ¬ j = 0
  · have h1 := h _ hj.1 (by omega)
    rw [if_pos hj, if_neg h1.1, if_neg h1.2, if_pos (List.mem_append.2 (.inr (List.mem_filter.2 ⟨hj.1, by simp; omega⟩)))]
  · rw [if_neg hj, hR j]
    have : ((j : Int) ∈ D ++ ds.filter fun p => !(p == 0)) ↔ (j : Int) ∈ D := by
      rw [List.mem_append, List.mem_filter]
      constructor
      · rintro (h | ⟨h1, h2⟩)
        · exact h
        · exact absurd ⟨h1, by simp at h2; omega⟩ hj
      · exact .inl
    simp only [this]

theorem secs_mem {xs : List Int} {t : Int × Int} {p : Int} : p ∈ secs xs t ↔ p ∈ (treS xs t.1).take t.2.toNat ∧ ¬ p = 0 := by simp [secs, List.mem_filter]

/-- Sound, step by step, is sound in all. -/
theorem sndU_iff (xs : List Int) : ∀ (L : List (Int × Int)) (U : Nat → Int) (R N D : List Int), Rep U R N D → Dis R N D → (sndU xs U L = true ↔ L.all (szB xs) = true ∧ Dis R (N ++ allN xs L) (D ++ allD xs L))
  | [], U, R, N, D, _, hd => by simp [sndU, allN, allD, hd]
  | t :: L, U, R, N, D, hR, hd => by
    have hn := treN_bounds xs t.1
    have hs : ∀ p ∈ (treS xs t.1).take t.2.toNat, 0 ≤ p := fun p hp => by
      rcases treS_bounds xs t.1 p (List.mem_of_mem_take hp) with h | h <;> omega
    have eN : N ++ allN xs (t :: L) = (N ++ treN xs t.1) ++ allN xs L := by simp [allN]
    have eD : D ++ allD xs (t :: L) = (D ++ secs xs t) ++ allD xs L := by simp [allD]
    rw [eN, eD, List.all_cons, Bool.and_eq_true]
    show (trB xs U t && sndU xs (trU xs U t) L) = true ↔ _
    rw [Bool.and_eq_true]
    unfold trB
    rw [Bool.and_eq_true, Bool.and_eq_true, rep_nodes hR hd (fun p hp => (hn p hp).1)]
    constructor
    · rintro ⟨⟨h1, h2, h3⟩, h4⟩
      have r1 := rep_upN hR (fun p hp => (hn p hp).1) (fun p hp => (h2 p hp).1)
      have k3 := (rep_secs r1 hs).1 h3
      have r2 := rep_upD r1 k3
      have d2 : Dis R (N ++ treN xs t.1) (D ++ secs xs t) := by
        refine ⟨fun p hp => ⟨fun h => ?_, fun h => ?_⟩, fun p hp h => ?_⟩
        · rcases List.mem_append.1 h with h | h
          · exact (hd.1 p hp).1 h
          · exact (h2 p h).1 hp
        · rcases List.mem_append.1 h with h | h
          · exact (hd.1 p hp).2 h
          · obtain ⟨h5, h6⟩ := secs_mem.1 h
            exact (k3 p h5 h6).1 hp
        · rcases List.mem_append.1 h with h | h
          · rcases List.mem_append.1 hp with hp | hp
            · exact hd.2 p hp h
            · rcases (h2 p hp).2 with h7 | h7
              · exact hd.2 p h7 h
              · exact h7 h
          · obtain ⟨h5, h6⟩ := secs_mem.1 h
            exact (k3 p h5 h6).2 hp
      obtain ⟨k5, k6⟩ := (sndU_iff xs L _ R _ _ r2 d2).1 h4
      exact ⟨⟨h1, k5⟩, k6⟩
    · rintro ⟨⟨h1, h5⟩, h6⟩
      have d2 : Dis R (N ++ treN xs t.1) (D ++ secs xs t) := h6.sub (fun p hp => List.mem_append.2 (.inl hp)) (fun p hp => List.mem_append.2 (.inl hp))
      have h2 : ∀ p ∈ treN xs t.1, ¬ p ∈ R ∧ (p ∈ N ∨ ¬ p ∈ D) := fun p hp =>
        ⟨fun h => (d2.1 p h).1 (List.mem_append.2 (.inr hp)), .inr fun h => d2.2 p (List.mem_append.2 (.inr hp)) (List.mem_append.2 (.inl h))⟩
      have r1 := rep_upN hR (fun p hp => (hn p hp).1) (fun p hp => (h2 p hp).1)
      have k3 : ∀ p ∈ (treS xs t.1).take t.2.toNat, ¬ p = 0 → ¬ p ∈ R ∧ ¬ p ∈ N ++ treN xs t.1 := fun p hp h0 => by
        have hm : p ∈ D ++ secs xs t := List.mem_append.2 (.inr (secs_mem.2 ⟨hp, h0⟩))
        exact ⟨fun h => (d2.1 p h).2 hm, fun h => d2.2 p h hm⟩
      have r2 := rep_upD r1 k3
      exact ⟨⟨h1, h2, (rep_secs r1 hs).2 k3⟩, (sndU_iff xs L _ R _ _ r2 d2).2 ⟨h5, h6⟩⟩

/-- No block is used yet. -/
def u0 : Nat → Int := fun _ => 0
def trees (s : Ws.Sup) (l : List Wr.Rec) : List (Int × Int) := (s.root, s.size) :: l.map fun r => (r.root, r.size)
/-- Is an image sound, whose superblock and whose records' blocks are these? -/
def sndB (xs : List Int) (s : Ws.Sup) (b : List Int) : Bool := sndU xs (upT u0 1 b) (trees s (b.map (recAt xs)))

theorem rep_first {b : List Int} (h : ∀ p ∈ b, ¬ p = 0) : Rep (upT u0 1 b) b [] [] := by
  intro j
  unfold upT u0
  by_cases hj : (j : Int) ∈ b
  · have := h _ hj
    rw [if_pos ⟨hj, by omega⟩, if_pos hj]
  · rw [if_neg (fun h => hj h.1), if_neg hj]; simp
theorem dis_first (b : List Int) : Dis b [] [] := ⟨fun p _ => ⟨by simp, by simp⟩, by simp⟩
theorem sndB_iff {xs : List Int} {s : Ws.Sup} {b : List Int} (h : ∀ p ∈ b, ¬ p = 0) : sndB xs s b = true ↔ (trees s (b.map (recAt xs))).all (szB xs) = true ∧ Dis b (allN xs (trees s (b.map (recAt xs)))) (allD xs (trees s (b.map (recAt xs)))) := by
  unfold sndB
  rw [sndU_iff xs _ _ b [] [] (rep_first h) (dis_first b)]
  simp

end Wi
