/-
  The plain mathematics of walking an image that opens: each node of its trees is gone through once, and what is met is just what the records and the trees hold. It speaks of no program but for what Open tells.
-/
import Derived.Test.YtiobegoiehjfiaaGreatKa
import Derived.Test.YtiobegoiehjfiaaGreatQh
namespace Wj
open Wt Wn

/-- The pointers of a node that was met lead to what was met. -/
theorem met_kids {xs : List Int} : ∀ (L : Nat) (p : Int) (pl : Nat) (s t : St), met xs L p pl s = some t → ((p ∈ t.nodes ∨ p ∈ t.dat) ∧ ∀ q ∈ t.nodes, q ∈ s.nodes ∨ ∀ k, k < 8 → ¬ pat (nd xs q) k = 0 → pat (nd xs q) k ∈ t.nodes ∨ pat (nd xs q) k ∈ t.dat)
  | 0, p, pl, s, t, h => by
    rw [met_zero] at h
    cases h
    exact ⟨.inr (by simp), fun q hq => .inl hq⟩
  | L + 1, p, pl, s, t, h => by
    cases ho : okN xs p L
    · rw [met_no ho] at h; cases h
    · obtain ⟨a, ha⟩ := met_root h
      rw [met_yes ho] at h
      have gen : ∀ j, j ≤ 8 → ∀ u, go (met xs L) (nd xs p) pl j ⟨s.nodes ++ [p], s.sec, s.dat⟩ = some u → (∀ k, k < j → ¬ pat (nd xs p) k = 0 → pat (nd xs p) k ∈ u.nodes ∨ pat (nd xs p) k ∈ u.dat) ∧ ∀ q ∈ u.nodes, q ∈ s.nodes ++ [p] ∨ ∀ k, k < 8 → ¬ pat (nd xs q) k = 0 → pat (nd xs q) k ∈ u.nodes ∨ pat (nd xs q) k ∈ u.dat := by
        intro j
        induction j with
        | zero =>
          intro _ u hu
          simp only [go, Option.some.injEq] at hu
          subst hu
          exact ⟨fun k hk => by omega, fun q hq => .inl hq⟩
        | succ j ih =>
          intro hj u hu
          cases h1 : go (met xs L) (nd xs p) pl j ⟨s.nodes ++ [p], s.sec, s.dat⟩ with
          | none => simp [go, h1] at hu
          | some v =>
            obtain ⟨i1, i2⟩ := ih (by omega) v h1
            by_cases hz : pat (nd xs p) j = 0
            · rw [go_skip h1 hz] at hu
              cases hu
              refine ⟨fun k hk h0 => ?_, i2⟩
              by_cases e : k = j
              · subst e; exact absurd hz h0
              · exact i1 k (by omega) h0
            · rw [go_step h1 hz] at hu
              obtain ⟨x, y, e1, e2⟩ := met_ext xs L _ _ _ _ hu
              obtain ⟨m1, m2⟩ := met_kids L _ _ _ _ hu
              have up : ∀ z, z ∈ v.nodes ∨ z ∈ v.dat → z ∈ u.nodes ∨ z ∈ u.dat := fun z hz => by
                rcases hz with hz | hz
                · exact .inl (by rw [e1]; simp [hz])
                · exact .inr (by rw [e2]; simp [hz])
              refine ⟨fun k hk h0 => ?_, fun q hq => ?_⟩
              · by_cases e : k = j
                · subst e; exact m1
                · exact up _ (i1 k (by omega) h0)
              · rcases m2 q hq with h3 | h3
                · rcases i2 q h3 with h4 | h4
                  · exact .inl h4
                  · exact .inr fun k hk h0 => up _ (h4 k hk h0)
                · exact .inr h3
      obtain ⟨g1, g2⟩ := gen 8 (Nat.le_refl _) t h
      refine ⟨.inl (by rw [ha]; simp), fun q hq => ?_⟩
      rcases g2 q hq with h3 | h3
      · rcases List.mem_append.1 h3 with h3 | h3
        · exact .inl h3
        · have : q = p := by simpa using h3
          subst this
          exact .inr g1
      · exact .inr h3

/-- What the program's walk meets, in order. -/
def cAll (xs : List Int) (s : Ws.Sup) (l : List Wr.Rec) : List Int := l.foldl (fun T r => wlk xs 3 r.root (led T r.next)) (wlk xs 3 s.root (led [0, 1] s.first))
/-- The pointers of the superblock and the records. -/
def base (s : Ws.Sup) (l : List Wr.Rec) : List Int := led [] s.first ++ led [] s.root ++ l.flatMap fun r => led [] r.next ++ led [] r.root

theorem fold_told {xs : List Int} {N : Int} {A : Int → Prop} : ∀ (l : List Wr.Rec) (T : List Int), (∀ r ∈ l, ¬ A r.next ∧ Wf xs N A 3 r.root) →
    ∃ D, Told xs A T (l.flatMap fun r => led [] r.next ++ led [] r.root) (l.foldl (fun T r => wlk xs 3 r.root (led T r.next)) T) D
  | [], T, _ => ⟨[], Told.refl xs A T⟩
  | r :: l, T, h => by
    obtain ⟨h1, h2⟩ := h r (by simp)
    obtain ⟨D1, t1⟩ := wlk_told xs N A 3 r.root (led T r.next) h2
    obtain ⟨D2, t2⟩ := fold_told l (wlk xs 3 r.root (led T r.next)) (fun x hx => h x (by simp [hx]))
    exact ⟨_, ((told_led T (.inl h1)).trans t1).trans t2⟩
theorem cAll_told {xs : List Int} {N : Int} {A : Int → Prop} {s : Ws.Sup} {l : List Wr.Rec} (h1 : ¬ A s.first) (h2 : Wf xs N A 3 s.root) (h : ∀ r ∈ l, ¬ A r.next ∧ Wf xs N A 3 r.root) :
    ∃ D, Told xs A [0, 1] (base s l) (cAll xs s l) D := by
  obtain ⟨D1, t1⟩ := wlk_told xs N A 3 s.root (led [0, 1] s.first) h2
  obtain ⟨D2, t2⟩ := fold_told (N := N) l (wlk xs 3 s.root (led [0, 1] s.first)) h
  exact ⟨_, ((told_led [0, 1] (.inl h1)).trans t1).trans t2⟩
theorem fold_len (xs : List Int) : ∀ (l : List Wr.Rec) (T : List Int), (l.foldl (fun T r => wlk xs 3 r.root (led T r.next)) T).length ≤ T.length + l.length * (big 3 + 1)
  | [], T => by simp
  | r :: l, T => by
    have h1 := fold_len xs l (wlk xs 3 r.root (led T r.next))
    have h2 := wlk_len xs 3 r.root (led T r.next)
    have h3 : (led T r.next).length ≤ T.length + 1 := by unfold led; split <;> simp
    rw [List.foldl_cons, List.length_cons, Nat.succ_mul]
    omega

/-- A link's records are those that its pointers lead to. -/
theorem lnk_ptrs {xs : List Int} : ∀ (c : List Int) (p : Int), Wi.Lnk xs p c → led [] p ++ (c.map (Wi.recAt xs)).flatMap (fun r => led [] r.next) = c
  | [], p, h => by
    have : p = 0 := h
    subst this; rfl
  | q :: c, p, h => by
    obtain ⟨rfl, h0, -, h1⟩ := h
    have := lnk_ptrs c _ h1
    rw [List.map_cons, List.flatMap_cons, led_yes h0, this]
    rfl
end Wj
namespace Go.Proofs.YtiobegoiehjfiaaGreat
open Go.RowKit Wj Wt Wn

theorem s0_n (q : Int) : ¬ q ∈ s0.nodes := by rw [Wi.s0_nodes]; simp
theorem s0_d (q : Int) : ¬ q ∈ s0.dat := by rw [show s0.dat = [] from rfl]; simp

/-- Is it a node of one of an image's trees? -/
def isN (xs : List Int) : Int → Prop := fun p => p ∈ Wi.allN xs (Wi.trees (opnS xs) (opnL xs))
/-- What is met of an image. -/
def cnt (xs : List Int) : List Int := cAll xs (opnS xs) (opnL xs)

/-- All that is known of an image that opens. -/
structure Img (xs : List Int) : Prop where
  dev : Wd.devB xs.length = true
  blocks : (opnS xs).blocks = ((xs.length / 64 : Nat) : Int)
  lnk : Wi.Lnk xs (opnS xs).first (opnB xs)
  len : (opnB xs).length ≤ 61
  inb : ∀ p ∈ opnB xs, 2 ≤ p ∧ p < ((xs.length / 64 : Nat) : Int)
  sz : ∀ t ∈ Wi.trees (opnS xs) (opnL xs), Wi.szB xs t = true
  dis : Wi.Dis (opnB xs) (Wi.allN xs (Wi.trees (opnS xs) (opnL xs))) (Wi.allD xs (Wi.trees (opnS xs) (opnL xs)))

theorem img_of {xs : List Int} (h : opnE xs = 0) : Img xs := by
  obtain ⟨hp, hs, -, hr, hsnd⟩ := opn_good h
  have hpk := pick_told hp
  rw [← hs] at hr hsnd
  have ht := Wi.recs_told hr
  have hin : ∀ p ∈ opnB xs, 2 ≤ p ∧ p < ((xs.length / 64 : Nat) : Int) := fun p hp => by
    have := Wi.recOk_in (ht.2.1.2.2 p hp)
    exact ⟨this.1, this.2.1⟩
  have h2 := (Wi.sndB_iff (s := opnS xs) (xs := xs) (b := opnB xs) (fun p hp => by have := (hin p hp).1; omega)).1 hsnd
  exact ⟨hpk.1, by rw [hs]; exact hpk.2.2.1, ht.1, ht.2.1.len, hin, fun t hm => List.all_eq_true.1 h2.1 t hm, h2.2⟩

theorem isN_bounds {xs : List Int} {p : Int} (h : isN xs p) : 2 ≤ p ∧ p < ((xs.length / 64 : Nat) : Int) := by
  obtain ⟨t, _, h2⟩ := List.mem_flatMap.1 h
  exact Wi.treN_bounds xs t.1 p h2

/-- A tree of the image. -/
theorem Img.tree {xs : List Int} (H : Img xs) {t : Int × Int} (ht : t ∈ Wi.trees (opnS xs) (opnL xs)) :
    (∀ d, d ∈ Wi.secs xs t ↔ d ∈ treS xs t.1 ∧ ¬ d = 0) ∧ (t.1 = 0 ∧ treN xs t.1 = [] ∧ (∀ d ∈ treS xs t.1, d = 0) ∨ ∃ u, met xs 3 t.1 0 s0 = some u ∧ ¬ t.1 = 0 ∧ u.nodes = treN xs t.1 ∧ ∀ d, d ∈ u.dat ↔ d ∈ Wi.secs xs t) := by
  have hz := H.sz t ht
  unfold Wi.szB at hz
  rw [Bool.and_eq_true] at hz
  obtain ⟨u, hu⟩ := Option.isSome_iff_exists.1 hz.1
  obtain ⟨-, e2, e3⟩ := tre_some H.dev hu
  have hsec : ∀ d, d ∈ Wi.secs xs t ↔ d ∈ treS xs t.1 ∧ ¬ d = 0 := fun d => by
    rw [Wi.secs_mem]
    constructor
    · exact fun h => ⟨List.mem_of_mem_take h.1, h.2⟩
    · rintro ⟨h1, h2⟩
      refine ⟨?_, h2⟩
      rw [← List.take_append_drop t.2.toNat (treS xs t.1)] at h1
      rcases List.mem_append.1 h1 with h1 | h1
      · exact h1
      · have := List.all_eq_true.1 hz.2 d h1
        exact absurd (by simpa using this) h2
  refine ⟨hsec, ?_⟩
  by_cases hr : t.1 = 0
  · left
    refine ⟨hr, ?_, ?_⟩
    · rw [e2]
      rw [hr] at hu
      unfold tre at hu
      rw [if_pos rfl] at hu
      cases hu; rfl
    · rw [e3]
      rw [hr] at hu
      unfold tre at hu
      rw [if_pos rfl] at hu
      cases hu
      intro d hd
      exact List.eq_of_mem_replicate hd
  · right
    obtain ⟨-, -, hm, -, -⟩ := tre_met hr hu
    refine ⟨u, hm, hr, e2.symm, fun d => ?_⟩
    rw [hsec d, e3]
    have := sec_dat hm hr d
    constructor
    · exact fun h => ⟨(this.1 h).2, (this.1 h).1⟩
    · rintro ⟨h1, h2⟩
      rcases this.2 h1 with h | h
      · exact absurd h h2
      · exact h

theorem Img.wf {xs : List Int} (H : Img xs) {t : Int × Int} (ht : t ∈ Wi.trees (opnS xs) (opnL xs)) : Wj.Wf xs ((xs.length / 64 : Nat) : Int) (isN xs) 3 t.1 := by
  obtain ⟨-, h | ⟨u, hm, hr, hn, hd⟩⟩ := H.tree ht
  · exact .inl h.1
  · refine met_wf (fun p hp => isN_bounds hp) 3 t.1 0 s0 u hm (fun q hq => ?_) (fun q hq => ?_)
    · rw [hn] at hq
      exact List.mem_flatMap.2 ⟨t, ht, hq⟩
    · have h1 := (hd q).1 hq
      have h2 := Wi.secs_mem.1 h1
      have h3 := Wi.treS_bounds xs t.1 q (List.mem_of_mem_take h2.1)
      have h4 := h2.2
      refine ⟨by omega, by omega, fun hN => H.dis.2 q hN (List.mem_flatMap.2 ⟨t, ht, h1⟩)⟩
theorem Img.next {xs : List Int} (H : Img xs) : (∀ p ∈ led [] (opnS xs).first, p ∈ opnB xs) ∧ ∀ r ∈ opnL xs, ∀ p ∈ led [] r.next, p ∈ opnB xs := by
  have h := lnk_ptrs _ _ H.lnk
  refine ⟨fun p hp => ?_, fun r hr p hp => ?_⟩
  · rw [← h]; exact List.mem_append.2 (.inl hp)
  · rw [← h]; exact List.mem_append.2 (.inr (List.mem_flatMap.2 ⟨r, hr, hp⟩))
theorem Img.notN {xs : List Int} (H : Img xs) {p : Int} (h : ∀ q ∈ led [] p, q ∈ opnB xs) : ¬ isN xs p := by
  intro hN
  have h2 := (isN_bounds hN).1
  exact (H.dis.1 p (h p (led_mem.2 (.inr ⟨rfl, by omega⟩)))).1 hN
theorem Img.rootIn {xs : List Int} : ((opnS xs).root, (opnS xs).size) ∈ Wi.trees (opnS xs) (opnL xs) ∧ ∀ r ∈ opnL xs, (r.root, r.size) ∈ Wi.trees (opnS xs) (opnL xs) := by
  unfold Wi.trees
  exact ⟨by simp, fun r hr => List.mem_cons_of_mem _ (List.mem_map.2 ⟨r, hr, rfl⟩)⟩
theorem Img.walk {xs : List Int} (H : Img xs) : Wj.Wf xs ((xs.length / 64 : Nat) : Int) (isN xs) 3 (opnS xs).root ∧ (∀ r ∈ opnL xs, Wj.Wf xs ((xs.length / 64 : Nat) : Int) (isN xs) 3 r.root) ∧ ¬ isN xs (opnS xs).first ∧ ∀ r ∈ opnL xs, ¬ isN xs r.next :=
  ⟨H.wf Img.rootIn.1, fun r hr => H.wf (Img.rootIn.2 r hr), H.notN H.next.1, fun r hr => H.notN (H.next.2 r hr)⟩

theorem base_root {xs : List Int} {t : Int × Int} (ht : t ∈ Wi.trees (opnS xs) (opnL xs)) (h0 : ¬ t.1 = 0) : t.1 ∈ base (opnS xs) (opnL xs) := by
  unfold Wi.trees at ht
  unfold base
  rcases List.mem_cons.1 ht with rfl | ht
  · exact List.mem_append.2 (.inl (List.mem_append.2 (.inr (led_mem.2 (.inr ⟨rfl, h0⟩)))))
  · obtain ⟨r, hr, rfl⟩ := List.mem_map.1 ht
    exact List.mem_append.2 (.inr (List.mem_flatMap.2 ⟨r, hr, List.mem_append.2 (.inr (led_mem.2 (.inr ⟨rfl, h0⟩)))⟩))

/-- What is met: the slots, the pointers of the superblock and the records, those of all nodes, each node once. -/
theorem cnt_told {xs : List Int} (H : Img xs) : ∃ D, D.Nodup ∧ (∀ q, q ∈ D ↔ isN xs q) ∧ ∀ b, (cnt xs).count b = ([0, 1] : List Int).count b + (base (opnS xs) (opnL xs)).count b + (nps xs D).count b := by
  obtain ⟨w1, w2, w3, w4⟩ := H.walk
  obtain ⟨D, hD⟩ := cAll_told (s := opnS xs) (l := opnL xs) w3 w1 (fun r hr => ⟨w4 r hr, w2 r hr⟩)
  refine ⟨D, hD.2.1, fun q => ⟨fun hq => (hD.2.2.1 q hq).1, fun hq => ?_⟩, hD.1⟩
  have hin : ∀ q, isN xs q → q ∈ cnt xs → q ∈ D := fun q hN hq => by
    rcases hD.2.2.2 q hN hq with h | h
    · have := (isN_bounds hN).1
      simp at h; omega
    · exact h
  obtain ⟨t, ht, hqt⟩ := List.mem_flatMap.1 hq
  refine hin q hq ?_
  rcases (H.tree ht).2 with h | ⟨u, hm, hr, hn, -⟩
  · rw [h.2.1] at hqt; cases hqt
  · have hroot : t.1 ∈ cnt xs := (hD.mem _).2 (.inr (.inl (base_root ht hr)))
    refine (met_all (S := fun q => q ∈ cnt xs) 3 t.1 0 s0 u hm hroot (fun q hq hS k hk h0 => ?_) (fun _ h => absurd h (s0_n _)) (fun _ h => absurd h (s0_d _))).1 q (by rw [hn]; exact hqt)
    have hqN : isN xs q := List.mem_flatMap.2 ⟨t, ht, by rw [← hn]; exact hq⟩
    exact (hD.mem _).2 (.inr (.inr (List.mem_flatMap.2 ⟨q, hin q hqN hS, (ptrK_mem 8).2 ⟨k, hk, rfl, h0⟩⟩)))

/-- Which blocks are met. -/
theorem cnt_mem {xs : List Int} (H : Img xs) (q : Int) : q ∈ cnt xs ↔ q = 0 ∨ q = 1 ∨ q ∈ opnB xs ∨ isN xs q ∨ q ∈ Wi.allD xs (Wi.trees (opnS xs) (opnL xs)) := by
  obtain ⟨D, -, hDN, hc⟩ := cnt_told H
  have hmem : q ∈ cnt xs ↔ q ∈ ([0, 1] : List Int) ∨ q ∈ base (opnS xs) (opnL xs) ∨ q ∈ nps xs D := by
    have := hc q
    rw [← List.count_pos_iff, ← List.count_pos_iff (l := [0, 1]), ← List.count_pos_iff (l := base _ _), ← List.count_pos_iff (l := nps xs D)]
    omega
  have hrt : ∀ t ∈ Wi.trees (opnS xs) (opnL xs), ∀ p ∈ led [] t.1, isN xs p := fun t ht p hp => by
    rcases led_mem.1 hp with h | ⟨rfl, h0⟩
    · cases h
    · rcases (H.tree ht).2 with h | ⟨u, hm, hr, hn, -⟩
      · exact absurd h.1 h0
      · obtain ⟨a, ha⟩ := met_root hm
        exact List.mem_flatMap.2 ⟨t, ht, by rw [← hn, ha]; simp⟩
  have hnp : ∀ p, isN xs p → ∀ k, k < 8 → ¬ pat (nd xs p) k = 0 → isN xs (pat (nd xs p) k) ∨ pat (nd xs p) k ∈ Wi.allD xs (Wi.trees (opnS xs) (opnL xs)) := fun p hp k hk h0 => by
    obtain ⟨t, ht, hpt⟩ := List.mem_flatMap.1 hp
    rcases (H.tree ht).2 with h | ⟨u, hm, hr, hn, hd⟩
    · rw [h.2.1] at hpt; cases hpt
    · rcases (met_kids 3 t.1 0 s0 u hm).2 p (by rw [hn]; exact hpt) with h | h
      · exact absurd h (s0_n _)
      · rcases h k hk h0 with h | h
        · exact .inl (List.mem_flatMap.2 ⟨t, ht, by rw [← hn]; exact h⟩)
        · exact .inr (List.mem_flatMap.2 ⟨t, ht, (hd _).1 h⟩)
  rw [hmem]
  constructor
  · rintro (h | h | h)
    · have : q = 0 ∨ q = 1 := by simpa using h
      rcases this with h | h
      · exact .inl h
      · exact .inr (.inl h)
    · unfold base at h
      rcases List.mem_append.1 h with h | h
      · rcases List.mem_append.1 h with h | h
        · exact .inr (.inr (.inl (H.next.1 q h)))
        · exact .inr (.inr (.inr (.inl (hrt _ Img.rootIn.1 q h))))
      · obtain ⟨r, hr, h⟩ := List.mem_flatMap.1 h
        rcases List.mem_append.1 h with h | h
        · exact .inr (.inr (.inl (H.next.2 r hr q h)))
        · exact .inr (.inr (.inr (.inl (hrt _ (Img.rootIn.2 r hr) q h))))
    · obtain ⟨p, hp, h⟩ := List.mem_flatMap.1 h
      obtain ⟨k, hk, rfl, h0⟩ := (ptrK_mem 8).1 h
      exact .inr (.inr (.inr (hnp p ((hDN p).1 hp) k hk h0)))
  · rintro (h | h | h | h | h)
    · exact .inl (by simp [h])
    · exact .inl (by simp [h])
    · refine .inr (.inl ?_)
      rw [← lnk_ptrs _ _ H.lnk] at h
      unfold base
      rcases List.mem_append.1 h with h | h
      · exact List.mem_append.2 (.inl (List.mem_append.2 (.inl h)))
      · obtain ⟨r, hr, h⟩ := List.mem_flatMap.1 h
        exact List.mem_append.2 (.inr (List.mem_flatMap.2 ⟨r, hr, List.mem_append.2 (.inl h)⟩))
    · exact hmem.1 ((fun h => by
        obtain ⟨t, ht, hqt⟩ := List.mem_flatMap.1 h
        rcases (H.tree ht).2 with h | ⟨u, hm, hr, hn, -⟩
        · rw [h.2.1] at hqt; cases hqt
        · have hS : ∀ p, p ∈ ([0, 1] : List Int) ∨ p ∈ base (opnS xs) (opnL xs) ∨ p ∈ nps xs D → p ∈ cnt xs := fun p h => by
            have := hc p
            rw [← List.count_pos_iff]
            rw [← List.count_pos_iff (l := [0, 1]), ← List.count_pos_iff (l := base _ _), ← List.count_pos_iff (l := nps xs D)] at h
            omega
          refine (met_all (S := fun q => q ∈ cnt xs) 3 t.1 0 s0 u hm (hS _ (.inr (.inl (base_root ht hr)))) (fun p hp _ k hk h0 => ?_) (fun _ h => absurd h (s0_n _)) (fun _ h => absurd h (s0_d _))).1 q (by rw [hn]; exact hqt)
          exact hS _ (.inr (.inr (List.mem_flatMap.2 ⟨p, (hDN p).2 (List.mem_flatMap.2 ⟨t, ht, by rw [← hn]; exact hp⟩), (ptrK_mem 8).2 ⟨k, hk, rfl, h0⟩⟩)))) h : q ∈ cnt xs)
    · exact hmem.1 ((fun h => by
        obtain ⟨t, ht, hqt⟩ := List.mem_flatMap.1 h
        rcases (H.tree ht).2 with h | ⟨u, hm, hr, hn, hd⟩
        · have := ((H.tree ht).1 q).1 hqt
          exact absurd (h.2.2 q this.1) this.2
        · have hS : ∀ p, p ∈ ([0, 1] : List Int) ∨ p ∈ base (opnS xs) (opnL xs) ∨ p ∈ nps xs D → p ∈ cnt xs := fun p h => by
            have := hc p
            rw [← List.count_pos_iff]
            rw [← List.count_pos_iff (l := [0, 1]), ← List.count_pos_iff (l := base _ _), ← List.count_pos_iff (l := nps xs D)] at h
            omega
          refine (met_all (S := fun q => q ∈ cnt xs) 3 t.1 0 s0 u hm (hS _ (.inr (.inl (base_root ht hr)))) (fun p hp _ k hk h0 => ?_) (fun _ h => absurd h (s0_n _)) (fun _ h => absurd h (s0_d _))).2 q ((hd q).2 hqt)
          exact hS _ (.inr (.inr (List.mem_flatMap.2 ⟨p, (hDN p).2 (List.mem_flatMap.2 ⟨t, ht, by rw [← hn]; exact hp⟩), (ptrK_mem 8).2 ⟨k, hk, rfl, h0⟩⟩)))) h : q ∈ cnt xs)

end Go.Proofs.YtiobegoiehjfiaaGreat
