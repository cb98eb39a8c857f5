/-
  The plain mathematics of an image whose blocks that nothing reaches are changed: all that Open and the walk tell stays. It speaks of no program but for what Open tells.
-/
import Derived.Test.YtfdgeobopegeeaaKd
namespace Wj
open Wt Wn

/-- A tree is what its nodes say. -/
theorem met_same {xs ys : List Int} : ∀ (L : Nat) (p : Int) (pl : Nat) (s t : St), met xs L p pl s = some t → (∀ q ∈ t.nodes, Wd.rdR xs q = Wd.rdR ys q) → met ys L p pl s = some t
  | 0, p, pl, s, t, h, _ => by rw [met_zero] at h ⊢; exact h
  | L + 1, p, pl, s, t, h, hs => by
    cases ho : okN xs p L
    · rw [met_no ho] at h; cases h
    · obtain ⟨a, ha⟩ := met_root h
      have hp := hs p (by rw [ha]; simp)
      have ho' : okN ys p L = true := by unfold okN nd at ho ⊢; rw [← hp]; exact ho
      have hn : nd ys p = nd xs p := by unfold nd; rw [hp]
      rw [met_yes ho] at h
      rw [met_yes ho', hn]
      have gen : ∀ j u, go (met xs L) (nd xs p) pl j ⟨s.nodes ++ [p], s.sec, s.dat⟩ = some u → (∀ q ∈ u.nodes, Wd.rdR xs q = Wd.rdR ys q) → go (met ys L) (nd xs p) pl j ⟨s.nodes ++ [p], s.sec, s.dat⟩ = some u := by
        intro j
        induction j with
        | zero => intro u hu _; exact hu
        | succ j ih =>
          intro u hu hus
          cases h1 : go (met xs L) (nd xs p) pl j ⟨s.nodes ++ [p], s.sec, s.dat⟩ with
          | none => simp [go, h1] at hu
          | some v =>
            by_cases hz : pat (nd xs p) j = 0
            · rw [go_skip h1 hz] at hu
              cases hu
              exact go_skip (ih _ h1 hus) hz
            · rw [go_step h1 hz] at hu
              obtain ⟨x, y, e1, -⟩ := met_ext xs L _ _ _ _ hu
              rw [go_step (ih v h1 (fun q hq => hus q (by rw [e1]; simp [hq]))) hz]
              exact met_same L _ _ _ _ hu hus
      exact gen 8 t h hs
theorem tre_same {xs ys : List Int} {root : Int} {t : St} (hl : ys.length = xs.length) (h : tre xs root = some t) (hs : ∀ q ∈ t.nodes, Wd.rdR xs q = Wd.rdR ys q) : tre ys root = some t := by
  by_cases hr : root = 0
  · subst hr
    unfold tre at h ⊢
    rw [if_pos rfl] at h ⊢
    exact h
  · obtain ⟨-, -, hm, -, -⟩ := tre_met hr h
    have hm' := met_same 3 root 0 s0 t hm hs
    unfold tre at h ⊢
    rw [if_neg hr] at h ⊢
    rw [hl]
    rw [hm] at h
    rw [hm']
    exact h
/-- A chain of records is what its blocks say. -/
theorem chn_same {xs ys : List Int} : ∀ (f : Nat) (p : Int) (b t : List Int), Wi.chn xs f p b = some t → (∀ q ∈ t, Wd.rdR xs q = Wd.rdR ys q) → Wi.chn ys f p b = some t
  | 0, p, b, t, h, _ => h
  | f + 1, p, b, t, h, hs => by
    by_cases h0 : p = 0
    · subst h0
      rw [Wi.chn_zero] at h ⊢; exact h
    · by_cases h1 : Wi.recOk xs p = true
      · by_cases h2 : Wi.fitsB (Wi.recAt xs p) (b.map (Wi.recAt xs)) = true
        · rw [Wi.chn_yes h0 h1 h2] at h
          obtain ⟨c, e, -⟩ := Wi.chn_told f _ _ _ h
          have hp := hs p (by rw [e]; simp)
          have ep : Wi.recAt ys p = Wi.recAt xs p := by unfold Wi.recAt; rw [hp]
          have eb : b.map (Wi.recAt ys) = b.map (Wi.recAt xs) := List.map_congr_left fun q hq => by
            unfold Wi.recAt; rw [hs q (by rw [e]; simp [hq])]
          have h1' : Wi.recOk ys p = true := by unfold Wi.recOk at h1 ⊢; rw [← hp]; exact h1
          rw [Wi.chn_yes h0 h1' (by rw [ep, eb]; exact h2), ep]
          exact chn_same f _ _ _ h hs
        · rw [Wi.chn_no h0 (.inr (by simpa using h2))] at h; cases h
      · rw [Wi.chn_no h0 (.inl (by simpa using h1))] at h; cases h
/-- The walk is what the nodes say. -/
theorem wlk_same {xs ys : List Int} {N : Int} {A : Int → Prop} (hA : ∀ q, A q → nd ys q = nd xs q) : ∀ (L : Nat) (p : Int) (T : List Int), Wf xs N A L p → wlk ys L p T = wlk xs L p T
  | 0, _, _, _ => rfl
  | L + 1, p, T, h => by
    show (if p = 0 then T else if p ∈ T then T ++ [p] else wgo (wlk ys L) (nd ys p) 8 (T ++ [p])) = (if p = 0 then T else if p ∈ T then T ++ [p] else wgo (wlk xs L) (nd xs p) 8 (T ++ [p]))
    rcases h with rfl | ⟨ho, hp, -, -, hk⟩
    · rw [if_pos rfl, if_pos rfl]
    · rw [hA p hp]
      have gen : ∀ j, j ≤ 8 → ∀ T, wgo (wlk ys L) (nd xs p) j T = wgo (wlk xs L) (nd xs p) j T := by
        intro j
        induction j with
        | zero => intro _ _; rfl
        | succ j ih =>
          intro hj T
          show wlk ys L (pat (nd xs p) j) (wgo (wlk ys L) (nd xs p) j T) = wlk xs L (pat (nd xs p) j) (wgo (wlk xs L) (nd xs p) j T)
          rw [ih (by omega), wlk_same hA L _ _ (hk j (by omega))]
      rw [gen 8 (Nat.le_refl _)]
end Wj
namespace Go.Proofs.Ytfdgeobopegeeaa
open Go.RowKit Wj Wt Wn

/-- With blocks changed that nothing reaches an image is the same. -/
theorem same_img {xs ys : List Int} (h : opnE xs = 0) (hl : ys.length = xs.length) (hs : ∀ q : Nat, q < xs.length / 64 → (q : Int) ∈ cnt xs → (ys.drop (q * 64)).take 64 = (xs.drop (q * 64)).take 64) :
    opnE ys = 0 ∧ opnS ys = opnS xs ∧ opnT ys = opnT xs ∧ opnL ys = opnL xs ∧ cnt ys = cnt xs := by
  have H := img_of h
  obtain ⟨hp, hS, hT, hr, hsnd⟩ := opn_good h
  have hd := Wd.devB_iff.1 H.dev
  have hdy : Wd.devB ys.length = true := by rw [hl]; exact H.dev
  have hrd : ∀ q, 0 ≤ q ∧ q < ((xs.length / 64 : Nat) : Int) → q ∈ cnt xs → Wd.rdR xs q = Wd.rdR ys q := fun q hq hm => by
    obtain ⟨n, rfl⟩ : ∃ n : Nat, q = (n : Int) := ⟨q.toNat, by omega⟩
    rw [rd_at H.dev n (by omega), rd_at hdy n (by omega), hs n (by omega) hm]
  have h0 := hs 0 (by omega) ((cnt_mem H 0).2 (.inl rfl))
  have h1 := hs 1 (by omega) ((cnt_mem H 1).2 (.inr (.inl rfl)))
  rw [Nat.zero_mul, List.drop_zero, List.drop_zero] at h0
  rw [Nat.one_mul] at h1
  have hpk : pickA ys = pickA xs := by
    unfold pickA Ws.pickR
    rw [hl, h0, h1]
  have hbs : ∀ q ∈ opnB xs, Wd.rdR xs q = Wd.rdR ys q := fun q hq => by
    have := H.inb q hq
    exact hrd q (by omega) ((cnt_mem H q).2 (.inr (.inr (.inl hq))))
  have hbm : (opnB xs).map (Wi.recAt ys) = (opnB xs).map (Wi.recAt xs) := List.map_congr_left fun q hq => by
    unfold Wi.recAt; rw [hbs q hq]
  have hr' : Wi.recs ys (pickA xs).1.first = some (opnB xs) := chn_same 62 _ _ _ hr hbs
  have hnd : ∀ q, isN xs q → Wd.rdR xs q = Wd.rdR ys q := fun q hq => by
    have := isN_bounds hq
    exact hrd q (by omega) ((cnt_mem H q).2 (.inr (.inr (.inr (.inl hq)))))
  have hin : ∀ p ∈ opnB xs, ¬ p = 0 := fun p hp => by have := H.inb p hp; omega
  have htr : ∀ t ∈ Wi.trees (opnS xs) (opnL xs), ∃ u, tre xs t.1 = some u ∧ tre ys t.1 = some u := fun t ht => by
    have hz := H.sz t ht
    unfold Wi.szB at hz
    rw [Bool.and_eq_true] at hz
    obtain ⟨u, hu⟩ := Option.isSome_iff_exists.1 hz.1
    obtain ⟨-, e2, -⟩ := tre_some H.dev hu
    exact ⟨u, hu, tre_same hl hu fun q hq => hnd q (List.mem_flatMap.2 ⟨t, ht, by rw [e2]; exact hq⟩)⟩
  have heq : ∀ t ∈ Wi.trees (opnS xs) (opnL xs), Wi.szB ys t = Wi.szB xs t ∧ treN ys t.1 = treN xs t.1 ∧ Wi.secs ys t = Wi.secs xs t := fun t ht => by
    obtain ⟨u, hu, hu'⟩ := htr t ht
    obtain ⟨-, e2, e3⟩ := tre_some H.dev hu
    obtain ⟨-, f2, f3⟩ := tre_some hdy hu'
    unfold Wi.szB Wi.secs
    rw [hu, hu', e3, f3, e2, f2]
    exact ⟨rfl, rfl, rfl⟩
  have hsn : Wi.sndB ys (pickA xs).1 (opnB xs) = true := by
    rw [← hS]
    rw [Wi.sndB_iff hin, hbm]
    have eN : Wi.allN ys (Wi.trees (opnS xs) (opnL xs)) = Wi.allN xs (Wi.trees (opnS xs) (opnL xs)) := by
      unfold Wi.allN
      rw [List.flatMap_def, List.flatMap_def, List.map_congr_left fun t ht => (heq t ht).2.1]
    have eD : Wi.allD ys (Wi.trees (opnS xs) (opnL xs)) = Wi.allD xs (Wi.trees (opnS xs) (opnL xs)) := by
      unfold Wi.allD
      rw [List.flatMap_def, List.flatMap_def, List.map_congr_left fun t ht => (heq t ht).2.2]
    refine ⟨List.all_eq_true.2 fun t ht => by rw [(heq t ht).1]; exact H.sz t ht, ?_⟩
    show Wi.Dis _ (Wi.allN ys (Wi.trees (opnS xs) (opnL xs))) (Wi.allD ys (Wi.trees (opnS xs) (opnL xs)))
    rw [eN, eD]
    exact H.dis
  have ho := opn_recs (xs := ys) (s := (pickA xs).1) (t := (pickA xs).2.1) (b := opnB xs) (by rw [hpk]; exact Prod.ext rfl (Prod.ext rfl hp)) hr' hsn
  have hL : opnL ys = opnL xs := by
    unfold opnL
    rw [ho.2.2.2]; exact hbm
  have hSS : opnS ys = opnS xs := by rw [ho.2.1, hS]
  refine ⟨ho.1, hSS, by rw [ho.2.2.1, hT], hL, ?_⟩
  obtain ⟨w1, w2, -, -⟩ := H.walk
  have hnd' : ∀ q, isN xs q → nd ys q = nd xs q := fun q hq => by unfold nd; rw [hnd q hq]
  unfold cnt cAll
  rw [hL, hSS, wlk_same hnd' 3 _ _ w1]
  have gen : ∀ (l : List Wr.Rec) (T : List Int), (∀ r ∈ l, Wj.Wf xs ((xs.length / 64 : Nat) : Int) (isN xs) 3 r.root) → l.foldl (fun T r => wlk ys 3 r.root (led T r.next)) T = l.foldl (fun T r => wlk xs 3 r.root (led T r.next)) T := by
    intro l
    induction l with
    | nil => intro _ _; rfl
    | cons r l ih =>
      intro T hw
      rw [List.foldl_cons, List.foldl_cons, wlk_same hnd' 3 _ _ (hw r (by simp))]
      exact ih _ (fun x hx => hw x (by simp [hx]))
  exact gen _ _ w2
end Go.Proofs.Ytfdgeobopegeeaa
