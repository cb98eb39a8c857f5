/-
  A device with records one behind the other: which of them are told, whether it opens. It speaks of no program but for what Open tells.
-/
import Derived.Test.YtfdgeobopegeeaaQp
namespace Wi
open Wr

/-- The way over records from one block to another. -/
def Way (xs : List Int) : Int → List Int → Int → Prop
  | p, [], q => p = q
  | p, r :: c, q => p = r ∧ ¬ p = 0 ∧ recOk xs p = true ∧ Way xs (recAt xs p).next c q
theorem Way.snoc {xs : List Int} {q : Int} (h0 : ¬ q = 0) (hq : recOk xs q = true) : ∀ (c : List Int) (p : Int), Way xs p c q → Way xs p (c ++ [q]) (recAt xs q).next
  | [], p, h => by
    obtain rfl : p = q := h
    exact ⟨rfl, h0, hq, rfl⟩
  | r :: c, p, h => ⟨h.1, h.2.1, h.2.2.1, Way.snoc h0 hq c _ h.2.2.2⟩
theorem chn_stop {xs : List Int} {q : Int} (h0 : ¬ q = 0) : ∀ (c : List Int) (f : Nat) (p : Int) (b : List Int), Way xs p c q → (recOk xs q = false ∨ fitsB (recAt xs q) ((b ++ c).map (recAt xs)) = false) → chn xs f p b = none
  | [], f, p, b, hw, h => by
    obtain rfl : p = q := hw
    exact chn_no h0 (by simpa using h)
  | r :: c, f, p, b, hw, h => by
    obtain ⟨rfl, hp, hk, hw⟩ := hw
    cases hf : fitsB (recAt xs p) (b.map (recAt xs)) with
    | false => exact chn_no hp (.inr hf)
    | true =>
      cases f with
      | zero => show (if p = 0 then _ else _) = _; rw [if_neg hp]
      | succ f =>
        rw [chn_yes hp hk hf]
        exact chn_stop h0 c f _ (b ++ [p]) hw (by simpa using h)
theorem chn_all {xs : List Int} : ∀ (c : List Int) (f : Nat) (p : Int) (b : List Int), c.length ≤ f → Way xs p c 0 → (∀ i, i < c.length → fitsB (recAt xs (c.getD i 0)) ((b ++ c.take i).map (recAt xs)) = true) → chn xs f p b = some (b ++ c)
  | [], f, p, b, _, hw, _ => by
    obtain rfl : p = 0 := hw
    rw [chn_zero, List.append_nil]
  | r :: c, f, p, b, hl, hw, h => by
    obtain ⟨rfl, hp, hk, hw⟩ := hw
    cases f with
    | zero => simp at hl
    | succ f =>
      rw [chn_yes hp hk (by simpa using h 0 (by simp)), chn_all c f _ (b ++ [p]) (by simpa using hl) hw (fun i hi => by
        have := h (i + 1) (by simpa using hi)
        simpa using this)]
      simp

/-- Blocks side by side. -/
def sq : Nat → Nat → List Int
  | _, 0 => []
  | a, n + 1 => (a : Int) :: sq (a + 1) n
theorem sq_length : ∀ a n, (sq a n).length = n
  | _, 0 => rfl
  | a, n + 1 => by simp [sq, sq_length (a + 1) n]
theorem sq_get : ∀ a n i, i < n → (sq a n)[i]? = some ((a + i : Nat) : Int)
  | _, 0, _, h => by omega
  | a, n + 1, 0, _ => by simp [sq]
  | a, n + 1, i + 1, h => by
    rw [sq, List.getElem?_cons_succ, sq_get (a + 1) n i (by omega)]
    congr 2; omega
theorem sq_getD {a n i : Nat} (h : i < n) : (sq a n).getD i 0 = ((a + i : Nat) : Int) := by rw [List.getD_eq_getElem?_getD, sq_get a n i h]; rfl
theorem sq_take {a n i : Nat} (h : i ≤ n) : (sq a n).take i = sq a i := by
  apply List.ext_getElem?
  intro j
  rw [List.getElem?_take]
  by_cases hj : j < i
  · rw [if_pos hj, sq_get a n j (by omega), sq_get a i j hj]
  · rw [if_neg hj, List.getElem?_eq_none (by rw [sq_length]; omega)]
theorem sq_snoc (a n : Nat) : sq a (n + 1) = sq a n ++ [((a + n : Nat) : Int)] := by
  have h1 := sq_take (a := a) (show n ≤ n + 1 by omega)
  have h2 : (sq a (n + 1)).take (n + 1) = (sq a (n + 1)).take n ++ [((a + n : Nat) : Int)] := by
    rw [List.take_add_one, sq_get a (n + 1) n (by omega)]; rfl
  rw [sq_take (by omega)] at h2
  rw [h2, h1]
theorem sq_mem {a n : Nat} {p : Int} (h : p ∈ sq a n) : ∃ i, i < n ∧ p = ((a + i : Nat) : Int) := by
  obtain ⟨i, hi, rfl⟩ := List.mem_iff_getElem.1 h
  rw [sq_length] at hi
  refine ⟨i, hi, ?_⟩
  have := sq_get a n i hi
  rw [List.getElem?_eq_getElem (by rw [sq_length]; exact hi)] at this
  exact Option.some.inj this

/-- The superblock, the blocks. -/
def rcS (b a n : Nat) : Ws.Sup := ⟨1, b, 0, 0, if n = 0 then 0 else a⟩
def rcB (b a n : Nat) (f : Nat → Rec) : Nat → List Int := fun q => if a ≤ q ∧ q < a + n then Wr.blk (f (q - a)) else if q = 0 then Ws.blk (rcS b a n) else List.replicate 64 0
theorem rcS_ok {b a n : Nat} (h4 : 4 ≤ b) (hb : b ≤ 4096) (ha : 2 ≤ a) (h : a + n ≤ b) : Ws.supB (rcS b a n) = true := by
  rw [Ws.supB_iff]
  refine ⟨⟨show (1 : Int) ≤ 1 by decide, show (1 : Int) ≤ 1099511627776 by decide⟩, ⟨?_, ?_⟩, ⟨show (0 : Int) ≤ 0 by decide, show (0 : Int) ≤ 512 by decide⟩, .inl rfl, ?_⟩
  · show (4 : Int) ≤ (b : Int); omega
  · show (b : Int) ≤ 4096; omega
  · show (if n = 0 then (0 : Int) else (a : Int)) = 0 ∨ 2 ≤ (if n = 0 then (0 : Int) else (a : Int)) ∧ (if n = 0 then (0 : Int) else (a : Int)) < (b : Int)
    by_cases e : n = 0
    · rw [if_pos e]; exact .inl rfl
    · rw [if_neg e]; exact .inr (by omega)

/-- A device with a superblock and records. -/
structure Rdv (xs : List Int) (b a n : Nat) (f : Nat → Rec) : Prop where
  bdv : Bdv xs b (rcB b a n f)
  h4 : 4 ≤ b
  hb : b ≤ 4096
  ha : 2 ≤ a
  h : a + n ≤ b
  ok : ∀ i, i < n → recB (f i) = true

theorem Rdv.dev {xs : List Int} {b a n : Nat} {f : Nat → Rec} (H : Rdv xs b a n f) : Wd.devB xs.length = true ∧ xs.length / 64 = b := H.bdv.dev H.h4 H.hb
theorem Rdv.at {xs : List Int} {b a n : Nat} {f : Nat → Rec} (H : Rdv xs b a n f) {i : Nat} (hi : i < n) : recOk xs ((a + i : Nat) : Int) = true ∧ recAt xs ((a + i : Nat) : Int) = f i := by
  have h1 := H.ha
  have h2 := H.h
  refine H.bdv.recOk H.h4 H.hb (by omega) (by omega) (H.ok i hi) ?_
  unfold rcB
  rw [if_pos ⟨by omega, by omega⟩]
  congr 2; omega
theorem Rdv.map {xs : List Int} {b a n : Nat} {f : Nat → Rec} (H : Rdv xs b a n f) {k : Nat} (hk : k ≤ n) : (sq a k).map (recAt xs) = (List.range k).map f := by
  apply List.ext_getElem (by simp [sq_length])
  intro i h1 h2
  have hi : i < k := by simpa [sq_length] using h1
  have := sq_get a k i hi
  rw [List.getElem?_eq_getElem (by rw [sq_length]; exact hi)] at this
  simp only [List.getElem_map, List.getElem_range]
  rw [Option.some.inj this, (H.at (show i < n by omega)).2]
/-- From the first record on to the k-th one. -/
theorem Rdv.way {xs : List Int} {b a n : Nat} {f : Nat → Rec} (H : Rdv xs b a n f) : ∀ k, k < n → (∀ i, i < k → (f i).next = ((a + i + 1 : Nat) : Int)) → Way xs ((a : Nat) : Int) (sq a k) ((a + k : Nat) : Int)
  | 0, _, _ => rfl
  | k + 1, hk, hn => by
    have h1 := H.ha
    have := (H.way k (by omega) (fun i hi => hn i (by omega))).snoc (by omega) (H.at (show k < n by omega)).1
    rw [(H.at (show k < n by omega)).2, hn k (by omega), ← sq_snoc] at this
    exact this
/-- And beyond the last one. -/
theorem Rdv.wayAll {xs : List Int} {b a n : Nat} {f : Nat → Rec} (H : Rdv xs b a n f) (h0 : 0 < n) (hn : ∀ i, i + 1 < n → (f i).next = ((a + i + 1 : Nat) : Int)) : Way xs ((a : Nat) : Int) (sq a n) (f (n - 1)).next := by
  have h1 := H.ha
  have := (H.way (n - 1) (by omega) (fun i hi => hn i (by omega))).snoc (by omega) (H.at (show n - 1 < n by omega)).1
  rw [(H.at (show n - 1 < n by omega)).2, ← sq_snoc, show n - 1 + 1 = n by omega] at this
  exact this
theorem fits_of {f : Nat → Rec} {i : Nat} (hid : ∀ j, j < i → ¬ (f j).id = (f i).id) (hk : (f i).kind = 0 ∧ i < 60 ∨ i = 0) : fitsB (f i) ((List.range i).map f) = true := by
  unfold fitsB
  rw [Bool.and_eq_true]
  constructor
  · unfold hasB
    rw [Bool.not_eq_true', List.any_eq_false]
    intro x hx
    obtain ⟨j, hj, rfl⟩ := List.mem_map.1 hx
    simpa using hid j (List.mem_range.1 hj)
  · have hl : whN ((List.range i).map f) ≤ i := by have := whN_le ((List.range i).map f); simpa using this
    rcases hk with ⟨h1, h2⟩ | h
    · rw [if_neg (by omega)]
      exact decide_eq_true (by omega)
    · subst h
      split <;> rfl
theorem fits_id {r : Rec} {l : List Rec} {x : Rec} (hx : x ∈ l) (h : x.id = r.id) : fitsB r l = false := by
  unfold fitsB hasB
  rw [Bool.and_eq_false_iff]
  left
  rw [Bool.not_eq_false', List.any_eq_true]
  exact ⟨x, hx, by simpa using h⟩
theorem fits_pend {r : Rec} {l : List Rec} (hk : r.kind = 1) (h : 0 < l.length) : fitsB r l = false := by
  unfold fitsB
  rw [Bool.and_eq_false_iff, if_pos hk]
  right
  exact decide_eq_false (by omega)
/-- All records are told. -/
theorem Rdv.recs {xs : List Int} {b a n : Nat} {f : Nat → Rec} (H : Rdv xs b a n f) (h0 : 0 < n) (h60 : n ≤ 60) (hn : ∀ i, i + 1 < n → (f i).next = ((a + i + 1 : Nat) : Int)) (hz : (f (n - 1)).next = 0) (hid : ∀ i j, j < i → i < n → ¬ (f j).id = (f i).id) (hk : ∀ i, 0 < i → i < n → (f i).kind = 0) :
    recs xs ((a : Nat) : Int) = some (sq a n) := by
  have hw := H.wayAll h0 hn
  rw [hz] at hw
  have := chn_all (sq a n) 62 ((a : Nat) : Int) [] (by rw [sq_length]; omega) hw (fun i hi => ?_)
  · rw [List.nil_append] at this
    exact this
  · rw [sq_length] at hi
    rw [sq_getD hi, (H.at hi).2, List.nil_append, sq_take (by omega), H.map (by omega)]
    refine fits_of (fun j hj => hid i j hj hi) ?_
    by_cases e : i = 0
    · exact .inr e
    · exact .inl ⟨hk i (by omega) hi, by omega⟩
/-- The device with one record exchanged. -/
theorem Rdv.set {xs : List Int} {b a n : Nat} {f : Nat → Rec} (H : Rdv xs b a n f) {k : Nat} (hk : k < n) {r : Rec} (hr : recB r = true) : Rdv (Wd.lay xs ((a + k) * 64) (Wr.blk r)) b a n (fun i => if i = k then r else f i) := by
  have h1 := H.ha
  have h2 := H.h
  have := H.bdv.lay (p := a + k) (X := Wr.blk r) (by omega) (Wr.blk_length _)
  refine ⟨⟨this.1, fun q hq => (this.2 q hq).trans ?_⟩, H.h4, H.hb, h1, h2, fun i hi => ?_⟩
  · simp only [rcB]
    by_cases e : a + k = q
    · subst e
      rw [if_pos rfl, if_pos ⟨by omega, by omega⟩, if_pos (by omega)]
    · rw [if_neg e]
      by_cases h3 : a ≤ q ∧ q < a + n
      · rw [if_pos h3, if_pos h3, if_neg (by omega)]
      · rw [if_neg h3, if_neg h3]
  · show recB (if i = k then r else f i) = true
    split
    · exact hr
    · exact H.ok i hi
end Wi
namespace Go.Proofs.Ytfdgeobopegeeaa
open Go.RowKit
theorem rdv_pick {xs : List Int} {b a n : Nat} {f : Nat → Wr.Rec} (H : Wi.Rdv xs b a n f) : pickA xs = (Wi.rcS b a n, 0, 0) := by
  have h1 := H.ha
  refine pick_zero H.bdv H.h4 H.hb (Wi.rcS_ok H.h4 H.hb h1 H.h) rfl ?_ ?_
  · unfold Wi.rcB
    rw [if_neg (by omega), if_pos rfl]
  · unfold Wi.rcB
    rw [if_neg (by omega), if_neg (by omega)]
theorem snd_zeros {xs : List Int} (hd : Wd.devB xs.length = true) : ∀ (L : List (Int × Int)) (U : Nat → Int), (∀ t ∈ L, t.1 = 0) → Wi.sndU xs U L = true
  | [], _, _ => rfl
  | t :: L, U, h => by
    obtain ⟨r, z⟩ := t
    obtain rfl : r = 0 := h (r, z) (by simp)
    rw [sndU_cons, sz_zero hd U z, Bool.true_and]
    exact snd_zeros hd L _ (fun t ht => h t (by simp [ht]))
/-- It opens. -/
theorem rdv_yes {xs : List Int} {b a n : Nat} {f : Nat → Wr.Rec} (H : Wi.Rdv xs b a n f) (h0 : 0 < n) (h60 : n ≤ 60) (hn : ∀ i, i + 1 < n → (f i).next = ((a + i + 1 : Nat) : Int)) (hz : (f (n - 1)).next = 0) (hid : ∀ i j, j < i → i < n → ¬ (f j).id = (f i).id) (hk : ∀ i, 0 < i → i < n → (f i).kind = 0) (hr : ∀ i, i < n → (f i).root = 0) :
    opnE xs = 0 ∧ opnS xs = Wi.rcS b a n ∧ opnT xs = 0 ∧ opnB xs = Wi.sq a n ∧ opnL xs = (List.range n).map f ∧ Wi.recE xs ((a : Nat) : Int) = 0 ∧ Wi.recP xs ((a : Nat) : Int) = Wi.sq a n ∧ Wi.recL xs ((a : Nat) : Int) = (List.range n).map f := by
  have hs := H.recs h0 h60 hn hz hid hk
  have hm := H.map (Nat.le_refl n)
  have hf : (Wi.rcS b a n).first = ((a : Nat) : Int) := by unfold Wi.rcS; rw [if_neg (by omega)]
  have ho := opn_recs (rdv_pick H) (by rw [hf]; exact hs) (by
    unfold Wi.sndB
    refine snd_zeros H.dev.1 _ _ (fun t ht => ?_)
    unfold Wi.trees at ht
    rw [hm] at ht
    rcases List.mem_cons.1 ht with rfl | ht
    · rfl
    · obtain ⟨r, hr2, rfl⟩ := List.mem_map.1 ht
      obtain ⟨i, hi, rfl⟩ := List.mem_map.1 hr2
      exact hr i (List.mem_range.1 hi))
  have h3 := Wi.rec_some H.dev.1 hs
  refine ⟨ho.1, ho.2.1, ho.2.2.1, ho.2.2.2, ?_, h3.1, h3.2.1, ?_⟩
  · unfold opnL; rw [ho.2.2.2, hm]
  · rw [h3.2.2, hm]
/-- It does not. -/
theorem rdv_no {xs : List Int} {b a n : Nat} {f : Nat → Wr.Rec} (H : Wi.Rdv xs b a n f) (h0 : 0 < n) (hs : Wi.recs xs ((a : Nat) : Int) = none) : opnE xs = 7 ∧ Wi.recE xs ((a : Nat) : Int) = 7 := by
  have hf : (Wi.rcS b a n).first = ((a : Nat) : Int) := by unfold Wi.rcS; rw [if_neg (by omega)]
  exact ⟨opn_norecs (rdv_pick H) (by rw [hf]; exact hs), (Wi.rec_none H.dev.1 hs).1⟩
end Go.Proofs.Ytfdgeobopegeeaa
