/-
  Blocks of a device behind steps. It speaks of no program.
  Devices block by block: which superblock is picked, which records stand, which image is sound. It speaks of no program but for what Open tells.
  A device with records one behind the other: which of them are told, whether it opens. It speaks of no program but for what Open tells.
  Memory of the call's own that holds steps, and append to it; what woodcutlaw11.Records returns.
  What woodcutlaw11.Records returns: a device with records one behind the other.
-/
import Derived.Test.YtfflhiajbioheaaJB
import Derived.Test.YtfflhiajbioheaaJL
import Derived.Test.YtfflhiajbioheaaJI
namespace Wd
open Go Go.RowKit

/-- Block q of a device. -/
def blk (xs : List Int) (q : Nat) : List Int := (xs.drop (q * 64)).take 64

theorem blk_get (xs : List Int) (q i : Nat) : (blk xs q)[i]? = if i < 64 then xs[q * 64 + i]? else none := by
  unfold blk
  by_cases h : i < 64
  · simp [h]
  · rw [if_neg h, List.getElem?_eq_none]
    simp; omega

theorem lay_get (xs : List Int) (k : Nat) (ys : List Int) (h : k + ys.length ≤ xs.length) (i : Nat) : (lay xs k ys)[i]? = if i < k then xs[i]? else if i < k + ys.length then ys[i - k]? else xs[i]? := by
  have e : (xs.take k).length = k := by simp; omega
  unfold lay
  by_cases h1 : i < k
  · rw [if_pos h1, List.getElem?_append_left (by omega)]; simp [h1]
  · rw [if_neg h1, List.getElem?_append_right (by omega), e]
    by_cases h2 : i < k + ys.length
    · rw [if_pos h2, List.getElem?_append_left (by omega)]
    · rw [if_neg h2, List.getElem?_append_right (by omega), List.getElem?_drop]
      congr 1; omega

theorem blk_lay (xs ys : List Int) (p q : Nat) (hy : ys.length = 64) (h : p * 64 + 64 ≤ xs.length) : blk (lay xs (p * 64) ys) q = if p = q then ys else blk xs q := by
  apply List.ext_getElem?
  intro i
  rw [blk_get]
  by_cases hi : i < 64
  · rw [if_pos hi, lay_get _ _ _ (by omega)]
    by_cases hpq : p = q
    · subst hpq
      rw [if_neg (by omega), if_pos (by omega), if_pos rfl]
      congr 1; omega
    · rw [if_neg hpq, blk_get, if_pos hi]
      by_cases h1 : q * 64 + i < p * 64
      · rw [if_pos h1]
      · rw [if_neg h1, if_neg (by omega)]
  · rw [if_neg hi]
    by_cases hpq : p = q
    · rw [if_pos hpq, List.getElem?_eq_none (by omega)]
    · rw [if_neg hpq, blk_get, if_neg hi]

theorem rdR_blk {xs : List Int} {q : Nat} (hd : devB xs.length = true) (hq : q < xs.length / 64) : rdE xs.length q = 0 ∧ rdR xs q = blk xs q := by
  have e : rdE xs.length q = 0 := by unfold rdE; rw [if_pos hd, if_pos (by omega)]
  refine ⟨e, ?_⟩
  unfold rdR
  rw [if_pos e]; rfl

end Wd
namespace Wi
open Wt

/-- A device of so many blocks, block by block. -/
def Bdv (xs : List Int) (B : Nat) (bl : Nat → List Int) : Prop := xs.length = B * 64 ∧ ∀ q, q < B → Wd.blk xs q = bl q
theorem Bdv.zeros (B : Nat) : Bdv (List.replicate (B * 64) 0) B fun _ => List.replicate 64 0 := by
  refine ⟨List.length_replicate, fun q hq => ?_⟩
  unfold Wd.blk
  rw [List.drop_replicate, List.take_replicate, Nat.min_eq_left (by omega)]
theorem Bdv.lay {xs : List Int} {B : Nat} {bl : Nat → List Int} (h : Bdv xs B bl) {p : Nat} {X : List Int} (hp : p < B) (hX : X.length = 64) : Bdv (Wd.lay xs (p * 64) X) B fun q => if p = q then X else bl q := by
  refine ⟨by rw [Wd.lay_length _ _ _ (by rw [hX, h.1]; omega), h.1], fun q hq => ?_⟩
  rw [Wd.blk_lay _ _ _ _ hX (by rw [h.1]; omega)]
  by_cases e : p = q
  · simp only [if_pos e]
  · simp only [if_neg e]
    exact h.2 q hq
theorem Bdv.dev {xs : List Int} {B : Nat} {bl : Nat → List Int} (h : Bdv xs B bl) (h4 : 4 ≤ B) (hB : B ≤ 4096) : Wd.devB xs.length = true ∧ xs.length / 64 = B := by
  rw [h.1]
  exact ⟨devB_b h4 hB, by omega⟩
theorem Bdv.rd {xs : List Int} {B : Nat} {bl : Nat → List Int} (h : Bdv xs B bl) (h4 : 4 ≤ B) (hB : B ≤ 4096) {q : Nat} (hq : q < B) : Wd.rdR xs (q : Int) = bl q := by
  obtain ⟨h1, h2⟩ := h.dev h4 hB
  rw [(Wd.rdR_blk h1 (by rw [h2]; exact hq)).2, h.2 q hq]
theorem Bdv.recOk {xs : List Int} {B : Nat} {bl : Nat → List Int} (h : Bdv xs B bl) (h4 : 4 ≤ B) (hB : B ≤ 4096) {q : Nat} (h2 : 2 ≤ q) (hq : q < B) {r : Wr.Rec} (hr : Wr.recB r = true) (hb : bl q = Wr.blk r) : recOk xs (q : Int) = true ∧ recAt xs (q : Int) = r := by
  have := Wr.par_blk hr
  refine ⟨recOk_iff.2 ⟨by omega, ?_⟩, ?_⟩
  · rw [h.rd h4 hB hq, hb]; exact this.1
  · unfold recAt; rw [h.rd h4 hB hq, hb]; exact this.2
theorem zeros_rec : Wr.parE (List.replicate 64 0) ≠ 0 := by decide
theorem Bdv.no {xs : List Int} {B : Nat} {bl : Nat → List Int} (h : Bdv xs B bl) (h4 : 4 ≤ B) (hB : B ≤ 4096) {q : Nat} (hq : q < B) (hb : bl q = List.replicate 64 0) : Wi.recOk xs (q : Int) = false := by
  cases e : Wi.recOk xs (q : Int) with
  | false => rfl
  | true =>
    have := (recOk_iff.1 e).2
    rw [h.rd h4 hB hq, hb] at this
    exact absurd this zeros_rec
theorem recOk_far {xs : List Int} {p : Int} (h : ¬ p < ((xs.length / 64 : Nat) : Int)) : recOk xs p = false := by
  cases e : recOk xs p with
  | false => rfl
  | true => exact absurd (recOk_in e).2.1 h
end Wi
namespace Go.Proofs.Ytfflhiajbioheaa
open Go.RowKit

theorem pick_zero {xs : List Int} {B : Nat} {bl : Nat → List Int} {s : Ws.Sup} (h : Wi.Bdv xs B bl) (h4 : 4 ≤ B) (hB : B ≤ 4096) (hs : Ws.supB s = true) (hb : s.blocks = (B : Int)) (h0 : bl 0 = Ws.blk s) (h1 : bl 1 = List.replicate 64 0) : pickA xs = (s, 0, 0) := by
  have hd := h.dev h4 hB
  have hp := Ws.par_blk hs
  have e0 := h.2 0 (by omega)
  have e1 := h.2 1 (by omega)
  unfold Wd.blk at e0 e1
  rw [Nat.zero_mul, List.drop_zero, h0] at e0
  rw [Nat.one_mul, h1] at e1
  have hg := (Ws.supB_iff.1 hs).1
  unfold pickA
  rw [if_pos hd.1]
  unfold Ws.pickR Ws.picks
  rw [e0, e1, zeros_slot2, hd.2, (Ws.slot_yes (b := Ws.blk s) ⟨hp.1, by rw [hp.2]; exact hb⟩).1, hp.2]
  have c2 : 0 < s.gen := by omega
  have c1 : ¬ s.gen < Ws.s0.gen := by show ¬ s.gen < 0; omega
  simp only [if_pos c2, if_neg c1]
theorem pick_one {xs : List Int} {B : Nat} {bl : Nat → List Int} {s : Ws.Sup} (h : Wi.Bdv xs B bl) (h4 : 4 ≤ B) (hB : B ≤ 4096) (hs : Ws.supB s = true) (hb : s.blocks = (B : Int)) (h0 : bl 0 = List.replicate 64 0) (h1 : bl 1 = Ws.blk s) : pickA xs = (s, 1, 0) := by
  have hd := h.dev h4 hB
  have hp := Ws.par_blk hs
  have e0 := h.2 0 (by omega)
  have e1 := h.2 1 (by omega)
  unfold Wd.blk at e0 e1
  rw [Nat.zero_mul, List.drop_zero, h0] at e0
  rw [Nat.one_mul, h1] at e1
  have hg := (Ws.supB_iff.1 hs).1
  unfold pickA
  rw [if_pos hd.1]
  unfold Ws.pickR Ws.picks
  rw [e0, e1, zeros_slot2, hd.2, (Ws.slot_yes (b := Ws.blk s) ⟨hp.1, by rw [hp.2]; exact hb⟩).1, hp.2]
  have c2 : ¬ 0 < Ws.s0.gen := by decide
  have c1 : Ws.s0.gen < s.gen := by show 0 < s.gen; omega
  simp only [if_neg c2, if_pos c1]
theorem opn_norecs {xs : List Int} {s : Ws.Sup} {t : Int} (hp : pickA xs = (s, t, 0)) (hr : Wi.recs xs s.first = none) : opnE xs = 7 := by
  unfold opnE
  simp only [hp, hr]
  rfl
theorem opn_unsound {xs : List Int} {s : Ws.Sup} {t : Int} {b : List Int} (hp : pickA xs = (s, t, 0)) (hr : Wi.recs xs s.first = some b) (hs : Wi.sndB xs s b = false) : opnE xs = 6 := by
  unfold opnE
  simp only [hp, hr, hs]
  rfl
end Go.Proofs.Ytfflhiajbioheaa
namespace Wi
open Wr

/-- The way over records from one block to another. -/
def Way (xs : List Int) : Int → List Int → Int → Prop
  | p, [], q => p = q
  | p, r :: c, q => p = r ∧ ¬ p = 0 ∧ recOk xs p = true ∧ Way xs (recAt xs p).next c q
theorem Way.snoc {xs : List Int} {q : Int} (h0 : ¬ q = 0) (hq : recOk xs q = true) : ∀ (c : List Int) (p : Int), Way xs p c q → Way xs p (c ++ [q]) (recAt xs q).next
  | [], p, h => by
    obtain rfl : p = q := h
    exact ⟨rfl, h0, hq, rfl⟩
  | r :: c, p, h => ⟨h.1, h.2.1, h.2.2.1, Way.snoc h0 hq c _ h.2.2.2⟩
theorem chn_stop {xs : List Int} {q : Int} (h0 : ¬ q = 0) : ∀ (c : List Int) (f : Nat) (p : Int) (b : List Int), Way xs p c q → (recOk xs q = false ∨ fitsB (recAt xs q) ((b ++ c).map (recAt xs)) = false) → chn xs f p b = none
  | [], f, p, b, hw, h => by
    obtain rfl : p = q := hw
    exact chn_no h0 (by simpa using h)
  | r :: c, f, p, b, hw, h => by
    obtain ⟨rfl, hp, hk, hw⟩ := hw
    cases hf : fitsB (recAt xs p) (b.map (recAt xs)) with
    | false => exact chn_no hp (.inr hf)
    | true =>
      cases f with
      | zero => show (if p = 0 then _ else _) = _; rw [if_neg hp]
      | succ f =>
        rw [chn_yes hp hk hf]
        exact chn_stop h0 c f _ (b ++ [p]) hw (by simpa using h)
theorem chn_all {xs : List Int} : ∀ (c : List Int) (f : Nat) (p : Int) (b : List Int), c.length ≤ f → Way xs p c 0 → (∀ i, i < c.length → fitsB (recAt xs (c.getD i 0)) ((b ++ c.take i).map (recAt xs)) = true) → chn xs f p b = some (b ++ c)
  | [], f, p, b, _, hw, _ => by
    obtain rfl : p = 0 := hw
    rw [chn_zero, List.append_nil]
  | r :: c, f, p, b, hl, hw, h => by
    obtain ⟨rfl, hp, hk, hw⟩ := hw
    cases f with
    | zero => simp at hl
    | succ f =>
      rw [chn_yes hp hk (by simpa using h 0 (by simp)), chn_all c f _ (b ++ [p]) (by simpa using hl) hw (fun i hi => by
        have := h (i + 1) (by simpa using hi)
        simpa using this)]
      simp

/-- Blocks side by side. -/
def sq : Nat → Nat → List Int
  | _, 0 => []
  | a, n + 1 => (a : Int) :: sq (a + 1) n
theorem sq_length : ∀ a n, (sq a n).length = n
  | _, 0 => rfl
  | a, n + 1 => by simp [sq, sq_length (a + 1) n]
theorem sq_get : ∀ a n i, i < n → (sq a n)[i]? = some ((a + i : Nat) : Int)
  | _, 0, _, h => by omega
  | a, n + 1, 0, _ => by simp [sq]
  | a, n + 1, i + 1, h => by
    rw [sq, List.getElem?_cons_succ, sq_get (a + 1) n i (by omega)]
    congr 2; omega
theorem sq_getD {a n i : Nat} (h : i < n) : (sq a n).getD i 0 = ((a + i : Nat) : Int) := by rw [List.getD_eq_getElem?_getD, sq_get a n i h]; rfl
theorem sq_take {a n i : Nat} (h : i ≤ n) : (sq a n).take i = sq a i := by
  apply List.ext_getElem?
  intro j
  rw [List.getElem?_take]
  by_cases hj : j < i
  · rw [if_pos hj, sq_get a n j (by omega), sq_get a i j hj]
  · rw [if_neg hj, List.getElem?_eq_none (by rw [sq_length]; omega)]
theorem sq_snoc (a n : Nat) : sq a (n + 1) = sq a n ++ [((a + n : Nat) : Int)] := by
  have h1 := sq_take (a := a) (show n ≤ n + 1 by omega)
  have h2 : (sq a (n + 1)).take (n + 1) = (sq a (n + 1)).take n ++ [((a + n : Nat) : Int)] := by
    rw [List.take_add_one, sq_get a (n + 1) n (by omega)]; rfl
  rw [sq_take (by omega)] at h2
  rw [h2, h1]
theorem sq_mem {a n : Nat} {p : Int} (h : p ∈ sq a n) : ∃ i, i < n ∧ p = ((a + i : Nat) : Int) := by
  obtain ⟨i, hi, rfl⟩ := List.mem_iff_getElem.1 h
  rw [sq_length] at hi
  refine ⟨i, hi, ?_⟩
  have := sq_get a n i hi
  rw [List.getElem?_eq_getElem (by rw [sq_length]; exact hi)] at this
  exact Option.some.inj this

/-- The superblock, the blocks. -/
def rcS (b a n : Nat) : Ws.Sup := ⟨1, b, 0, 0, if n = 0 then 0 else a⟩
def rcB (b a n : Nat) (f : Nat → Rec) : Nat → List Int := fun q => if a ≤ q ∧ q < a + n then Wr.blk (f (q - a)) else if q = 0 then Ws.blk (rcS b a n) else List.replicate 64 0
theorem rcS_ok {b a n : Nat} (h4 : 4 ≤ b) (hb : b ≤ 4096) (ha : 2 ≤ a) (h : a + n ≤ b) : Ws.supB (rcS b a n) = true := by
  rw [Ws.supB_iff]
  refine ⟨⟨show (1 : Int) ≤ 1 by decide, show (1 : Int) ≤ 1099511627776 by decide⟩, ⟨?_, ?_⟩, ⟨show (0 : Int) ≤ 0 by decide, show (0 : Int) ≤ 512 by decide⟩, .inl rfl, ?_⟩
  · show (4 : Int) ≤ (b : Int); omega
  · show (b : Int) ≤ 4096; omega
  · show (if n = 0 then (0 : Int) else (a : Int)) = 0 ∨ 2 ≤ (if n = 0 then (0 : Int) else (a : Int)) ∧ (if n = 0 then (0 : Int) else (a : Int)) < (b : Int)
    by_cases e : n = 0
    · rw [if_pos e]; exact .inl rfl
    · rw [if_neg e]; exact .inr (by omega)

/-- A device with a superblock and records. -/
structure Rdv (xs : List Int) (b a n : Nat) (f : Nat → Rec) : Prop where
  bdv : Bdv xs b (rcB b a n f)
  h4 : 4 ≤ b
  hb : b ≤ 4096
  ha : 2 ≤ a
  h : a + n ≤ b
  ok : ∀ i, i < n → recB (f i) = true

theorem Rdv.dev {xs : List Int} {b a n : Nat} {f : Nat → Rec} (H : Rdv xs b a n f) : Wd.devB xs.length = true ∧ xs.length / 64 = b := H.bdv.dev H.h4 H.hb
theorem Rdv.at {xs : List Int} {b a n : Nat} {f : Nat → Rec} (H : Rdv xs b a n f) {i : Nat} (hi : i < n) : recOk xs ((a + i : Nat) : Int) = true ∧ recAt xs ((a + i : Nat) : Int) = f i := by
  have h1 := H.ha
  have h2 := H.h
  refine H.bdv.recOk H.h4 H.hb (by omega) (by omega) (H.ok i hi) ?_
  unfold rcB
  rw [if_pos ⟨by omega, by omega⟩]
  congr 2; omega
theorem Rdv.map {xs : List Int} {b a n : Nat} {f : Nat → Rec} (H : Rdv xs b a n f) {k : Nat} (hk : k ≤ n) : (sq a k).map (recAt xs) = (List.range k).map f := by
  apply List.ext_getElem (by simp [sq_length])
  intro i h1 h2
  have hi : i < k := by simpa [sq_length] using h1
  have := sq_get a k i hi
  rw [List.getElem?_eq_getElem (by rw [sq_length]; exact hi)] at this
  simp only [List.getElem_map, List.getElem_range]
  rw [Option.some.inj this, (H.at (show i < n by omega)).2]
/-- From the first record on to the k-th one. -/
theorem Rdv.way {xs : List Int} {b a n : Nat} {f : Nat → Rec} (H : Rdv xs b a n f) : ∀ k, k < n → (∀ i, i < k → (f i).next = ((a + i + 1 : Nat) : Int)) → Way xs ((a : Nat) : Int) (sq a k) ((a + k : Nat) : Int)
  | 0, _, _ => rfl
  | k + 1, hk, hn => by
    have h1 := H.ha
    have := (H.way k (by omega) (fun i hi => hn i (by omega))).snoc (by omega) (H.at (show k < n by omega)).1
    rw [(H.at (show k < n by omega)).2, hn k (by omega), ← sq_snoc] at this
    exact this
/-- And beyond the last one. -/
theorem Rdv.wayAll {xs : List Int} {b a n : Nat} {f : Nat → Rec} (H : Rdv xs b a n f) (h0 : 0 < n) (hn : ∀ i, i + 1 < n → (f i).next = ((a + i + 1 : Nat) : Int)) : Way xs ((a : Nat) : Int) (sq a n) (f (n - 1)).next := by
  have h1 := H.ha
  have := (H.way (n - 1) (by omega) (fun i hi => hn i (by omega))).snoc (by omega) (H.at (show n - 1 < n by omega)).1
  rw [(H.at (show n - 1 < n by omega)).2, ← sq_snoc, show n - 1 + 1 = n by omega] at this
  exact this
theorem fits_of {f : Nat → Rec} {i : Nat} (hid : ∀ j, j < i → ¬ (f j).id = (f i).id) (hk : (f i).kind = 0 ∧ i < 60 ∨ i = 0) : fitsB (f i) ((List.range i).map f) = true := by
  unfold fitsB
  rw [Bool.and_eq_true]
  constructor
  · unfold hasB
    rw [Bool.not_eq_true', List.any_eq_false]
    intro x hx
    obtain ⟨j, hj, rfl⟩ := List.mem_map.1 hx
    simpa using hid j (List.mem_range.1 hj)
  · have hl : whN ((List.range i).map f) ≤ i := by have := whN_le ((List.range i).map f); simpa using this
    rcases hk with ⟨h1, h2⟩ | h
    · rw [if_neg (by omega)]
      exact decide_eq_true (by omega)
    · subst h
      split <;> rfl
theorem fits_id {r : Rec} {l : List Rec} {x : Rec} (hx : x ∈ l) (h : x.id = r.id) : fitsB r l = false := by
  unfold fitsB hasB
  rw [Bool.and_eq_false_iff]
  left
  rw [Bool.not_eq_false', List.any_eq_true]
  exact ⟨x, hx, by simpa using h⟩
theorem fits_pend {r : Rec} {l : List Rec} (hk : r.kind = 1) (h : 0 < l.length) : fitsB r l = false := by
  unfold fitsB
  rw [Bool.and_eq_false_iff, if_pos hk]
  right
  exact decide_eq_false (by omega)
/-- All records are told. -/
theorem Rdv.recs {xs : List Int} {b a n : Nat} {f : Nat → Rec} (H : Rdv xs b a n f) (h0 : 0 < n) (h60 : n ≤ 60) (hn : ∀ i, i + 1 < n → (f i).next = ((a + i + 1 : Nat) : Int)) (hz : (f (n - 1)).next = 0) (hid : ∀ i j, j < i → i < n → ¬ (f j).id = (f i).id) (hk : ∀ i, 0 < i → i < n → (f i).kind = 0) :
    recs xs ((a : Nat) : Int) = some (sq a n) := by
  have hw := H.wayAll h0 hn
  rw [hz] at hw
  have := chn_all (sq a n) 62 ((a : Nat) : Int) [] (by rw [sq_length]; omega) hw (fun i hi => ?_)
  · rw [List.nil_append] at this
    exact this
  · rw [sq_length] at hi
    rw [sq_getD hi, (H.at hi).2, List.nil_append, sq_take (by omega), H.map (by omega)]
    refine fits_of (fun j hj => hid i j hj hi) ?_
    by_cases e : i = 0
    · exact .inr e
    · exact .inl ⟨hk i (by omega) hi, by omega⟩
/-- The device with one record exchanged. -/
theorem Rdv.set {xs : List Int} {b a n : Nat} {f : Nat → Rec} (H : Rdv xs b a n f) {k : Nat} (hk : k < n) {r : Rec} (hr : recB r = true) : Rdv (Wd.lay xs ((a + k) * 64) (Wr.blk r)) b a n (fun i => if i = k then r else f i) := by
  have h1 := H.ha
  have h2 := H.h
  have := H.bdv.lay (p := a + k) (X := Wr.blk r) (by omega) (Wr.blk_length _)
  refine ⟨⟨this.1, fun q hq => (this.2 q hq).trans ?_⟩, H.h4, H.hb, h1, h2, fun i hi => ?_⟩
  · simp only [rcB]
    by_cases e : a + k = q
    · subst e
      rw [if_pos rfl, if_pos ⟨by omega, by omega⟩, if_pos (by omega)]
    · rw [if_neg e]
      by_cases h3 : a ≤ q ∧ q < a + n
      · rw [if_pos h3, if_pos h3, if_neg (by omega)]
      · rw [if_neg h3, if_neg h3]
  · show recB (if i = k then r else f i) = true
    split
    · exact hr
    · exact H.ok i hi
end Wi
namespace Go.Proofs.Ytfflhiajbioheaa
open Go.RowKit
theorem rdv_pick {xs : List Int} {b a n : Nat} {f : Nat → Wr.Rec} (H : Wi.Rdv xs b a n f) : pickA xs = (Wi.rcS b a n, 0, 0) := by
  have h1 := H.ha
  refine pick_zero H.bdv H.h4 H.hb (Wi.rcS_ok H.h4 H.hb h1 H.h) rfl ?_ ?_
  · unfold Wi.rcB
    rw [if_neg (by omega), if_pos rfl]
  · unfold Wi.rcB
    rw [if_neg (by omega), if_neg (by omega)]
theorem snd_zeros {xs : List Int} (hd : Wd.devB xs.length = true) : ∀ (L : List (Int × Int)) (U : Nat → Int), (∀ t ∈ L, t.1 = 0) → Wi.sndU xs U L = true
  | [], _, _ => rfl
  | t :: L, U, h => by
    obtain ⟨r, z⟩ := t
    obtain rfl : r = 0 := h (r, z) (by simp)
    rw [sndU_cons, sz_zero hd U z, Bool.true_and]
    exact snd_zeros hd L _ (fun t ht => h t (by simp [ht]))
/-- It opens. -/
theorem rdv_yes {xs : List Int} {b a n : Nat} {f : Nat → Wr.Rec} (H : Wi.Rdv xs b a n f) (h0 : 0 < n) (h60 : n ≤ 60) (hn : ∀ i, i + 1 < n → (f i).next = ((a + i + 1 : Nat) : Int)) (hz : (f (n - 1)).next = 0) (hid : ∀ i j, j < i → i < n → ¬ (f j).id = (f i).id) (hk : ∀ i, 0 < i → i < n → (f i).kind = 0) (hr : ∀ i, i < n → (f i).root = 0) :
    opnE xs = 0 ∧ opnS xs = Wi.rcS b a n ∧ opnT xs = 0 ∧ opnB xs = Wi.sq a n ∧ opnL xs = (List.range n).map f ∧ Wi.recE xs ((a : Nat) : Int) = 0 ∧ Wi.recP xs ((a : Nat) : Int) = Wi.sq a n ∧ Wi.recL xs ((a : Nat) : Int) = (List.range n).map f := by
  have hs := H.recs h0 h60 hn hz hid hk
  have hm := H.map (Nat.le_refl n)
  have hf : (Wi.rcS b a n).first = ((a : Nat) : Int) := by unfold Wi.rcS; rw [if_neg (by omega)]
  have ho := opn_recs (rdv_pick H) (by rw [hf]; exact hs) (by
    unfold Wi.sndB
    refine snd_zeros H.dev.1 _ _ (fun t ht => ?_)
    unfold Wi.trees at ht
    rw [hm] at ht
    rcases List.mem_cons.1 ht with rfl | ht
    · rfl
    · obtain ⟨r, hr2, rfl⟩ := List.mem_map.1 ht
      obtain ⟨i, hi, rfl⟩ := List.mem_map.1 hr2
      exact hr i (List.mem_range.1 hi))
  have h3 := Wi.rec_some H.dev.1 hs
  refine ⟨ho.1, ho.2.1, ho.2.2.1, ho.2.2.2, ?_, h3.1, h3.2.1, ?_⟩
  · unfold opnL; rw [ho.2.2.2, hm]
  · rw [h3.2.2, hm]
/-- It does not. -/
theorem rdv_no {xs : List Int} {b a n : Nat} {f : Nat → Wr.Rec} (H : Wi.Rdv xs b a n f) (h0 : 0 < n) (hs : Wi.recs xs ((a : Nat) : Int) = none) : opnE xs = 7 ∧ Wi.recE xs ((a : Nat) : Int) = 7 := by
  have hf : (Wi.rcS b a n).first = ((a : Nat) : Int) := by unfold Wi.rcS; rw [if_neg (by omega)]
  exact ⟨opn_norecs (rdv_pick H) (by rw [hf]; exact hs), (Wi.rec_none H.dev.1 hs).1⟩
end Go.Proofs.Ytfflhiajbioheaa
namespace Wd
open Go Go.RowKit

/-- A step and where its bytes lie. -/
abbrev Pl : Type := Io × (Option Addr × Nat)
def cells3 (q : Pl) : List Value := [.int .i64 q.1.kind, .int .i64 q.1.pos, .slice q.2.1 q.1.data.length q.2.2]
def Held (w : World) (q : Pl) : Prop := Wc.Bs w (.slice q.2.1 q.1.data.length q.2.2) q.1.data ∧ Wc.Shaped (.slice q.2.1 q.1.data.length q.2.2)

theorem Held.keep {w w' : World} {q : Pl} (h : Held w q) (hb : Below w.heap.size w w') : Held w' q := ⟨h.1.keep hb, h.2⟩

theorem flat_length : ∀ P : List Pl, (P.flatMap cells3).length = P.length * 3
  | [] => rfl
  | q :: P => by simp [List.flatMap_cons, flat_length P, cells3]; omega

theorem flat_get : ∀ (P : List Pl) (i j : Nat) (hi : i < P.length), j < 3 → (P.flatMap cells3)[i * 3 + j]? = (cells3 P[i])[j]?
  | [], i, _, hi, _ => by simp at hi
  | q :: P, 0, j, _, hj => by
    rw [List.flatMap_cons, List.getElem?_append_left (by simp [cells3]; omega)]
    simp
  | q :: P, i + 1, j, hi, hj => by
    rw [List.flatMap_cons, List.getElem?_append_right (by simp [cells3]; omega)]
    have := flat_get P i j (by simpa using hi) hj
    have e : (i + 1) * 3 + j - (cells3 q).length = i * 3 + j := by simp [cells3]; omega
    rw [e, this]
    simp

theorem getD_map (P : List Pl) (i : Nat) (hi : i < P.length) : (P.map Prod.fst).getD i d0 = P[i].1 := by simp [hi]

/-- Cells that lie one behind the other are steps. -/
theorem at_of_cells {w : World} {b o : Nat} {q : Pl} (h : ∀ j u, (cells3 q)[j]? = some u → w.cell? ⟨b, o + j, none⟩ = some u) (hq : Held w q) : At w b o q.1 q.2.1 q.2.2 := by
  have h0 := h 0 _ rfl
  have h1 := h 1 _ rfl
  have h2 := h 2 _ rfl
  exact ⟨by simpa using h0, h1, h2, hq.1, hq.2⟩

/-- Memory of the call's own, from the block base on, that holds steps, their bytes in blocks of their own: e, u are the numbers of the types. -/
def Oi (e u base : Nat) (w : World) (v : Value) (l : List Io) : Prop :=
  ∃ P : List Pl, P.map Prod.fst = l ∧ w.ownsRow base e 3 v P.length (P.flatMap cells3) ∧ P.length ≤ 1048576 ∧ ∀ q ∈ P, Wc.Ob u base w (.slice q.2.1 q.1.data.length q.2.2) q.1.data

theorem Oi.nil (e u base : Nat) (w : World) : Oi e u base w (.slice none 0 0) [] := ⟨[], rfl, World.ownsRow_nil _ _ _ _, by simp, by simp⟩

theorem Oi.keep {e u base : Nat} {w w' : World} {v : Value} {l : List Io} (h : Oi e u base w v l) (hb : Below w.heap.size w w') : Oi e u base w' v l := by
  obtain ⟨P, h1, h2, h3, h4⟩ := h
  refine ⟨P, h1, ⟨h2.1, ?_⟩, h3, fun q hq => (h4 q hq).keep hb⟩
  rcases h2.2 with hn | ⟨g, cap, cur, hv, hbg, hg, rest⟩
  · exact .inl hn
  · refine .inr ⟨g, cap, cur, hv, hbg, ?_, rest⟩
    rw [hb.block g (Array.getElem?_eq_some_iff.1 hg).1]
    exact hg

theorem Oi.is {e u base : Nat} {w : World} {v : Value} {l : List Io} (h : Oi e u base w v l) : Is w v l := by
  obtain ⟨P, rfl, h2, h3, h4⟩ := h
  rcases h2.2 with ⟨rfl, h0⟩ | ⟨g, cap, cur, rfl, hg, hh, k1, k2, k3, k4⟩
  · obtain rfl := List.eq_nil_of_length_eq_zero h0
    exact Is.nil w
  · refine ⟨_, P.length, cap, rfl, by simp, k1, by unfold maxLen at k2; omega, by omega, fun h0 => ⟨g, 0, rfl, (Array.getElem?_eq_some_iff.1 hh).1, fun i hi => ?_⟩⟩
    rw [getD_map P i hi]
    refine ⟨P[i].2.1, P[i].2.2, at_of_cells (fun j u hu => ?_) ⟨(h4 _ (List.getElem_mem hi)).bs, (h4 _ (List.getElem_mem hi)).shaped⟩⟩
    have hj : j < 3 := by have := (List.getElem?_eq_some_iff.1 hu).1; simpa [cells3] using this
    have := h2.cells (g := g) rfl (i * 3 + j) u (by rw [flat_get P i j hi hj]; exact hu)
    rw [Wc.add_none] at this
    rw [Nat.zero_add] at this ⊢
    exact this

theorem Oi.slice {e u base : Nat} {w : World} {v : Value} {l : List Io} (h : Oi e u base w v l) : ∃ a c, v = .slice a l.length c := by
  obtain ⟨P, rfl, h2, h3, h4⟩ := h
  rcases h2.2 with ⟨rfl, h0⟩ | ⟨g, cap, cur, rfl, hg, hh, k1, k2, k3, k4⟩
  · exact ⟨none, 0, by simp [h0]⟩
  · refine ⟨some ⟨g, 0, none⟩, cap, by simp⟩

theorem ob_grown {e u base : Nat} {w w' : World} {v s : Value} {n : Nat} {cs : List Value} {xs : List Int} (hne : e ≠ u) (hv : w.ownsRow base e 3 v n cs) (hg : w.grownBy w' v.ownBlock) (h : Wc.Ob u base w s xs) : Wc.Ob u base w' s xs := by
  refine ⟨⟨h.1.1, ?_⟩, h.2⟩
  rcases h.1.2 with hn | ⟨g, cap, cur, hs, hbg, hgh, rest⟩
  · exact .inl hn
  · refine .inr ⟨g, cap, cur, hs, hbg, ?_, rest⟩
    refine (hg.block g (Array.getElem?_eq_some_iff.1 hgh).1 (fun ee => ?_)).trans hgh
    rcases hv.2 with ⟨rfl, _⟩ | ⟨g2, c2, cur2, rfl, _, hg2, _⟩
    · cases ee
    · have : g = g2 := by simpa [Value.ownBlock] using ee
      subst this
      rw [hgh] at hg2
      cases hg2
      exact hne rfl

/-- A step is put behind memory of the call's own. -/
theorem append_io {P : Program} {e u t ty base bytes : Nat} {i : TypeInfo} {z : Value} {w : World} {v : Value} {ad : Addr} {c : Nat} {l : List Io} {q : Pl} (ht : P.underlying t = some (.slice e)) (hi : P.info? e = some i) (hz : i.zero = some z) (hsz : i.size = 3) (hby : i.bytes = bytes)
    (hzs : z.cells.size = 3) (h8 : bytes ≤ 64) (hne : e ≠ u) (hv : Oi e u base w v l) (hu : ∀ j x, (cells3 q)[j]? = some x → w.cell? (ad.add j) = some x) (hq : Wc.Ob u base w (.slice q.2.1 q.1.data.length q.2.2) q.1.data) (hl : l.length + 1 ≤ 1048576) (hbase : base ≤ w.heap.size) :
    ∃ v' w', Sem.run P (Builtin.append_ #[t, t] ty #[v, .slice (some ad) 1 c]) w = .ok v' w' ∧ Oi e u base w' v' (l ++ [q.1]) ∧ Below base w w' := by
  obtain ⟨Q, rfl, h2, h3, h4⟩ := hv
  have hlq : Q.length + 1 ≤ 1048576 := by simpa using hl
  obtain ⟨v', w', k1, k2, k3, -⟩ := run_append_own (P := P) w base t ty e i z 3 bytes ht hi hz hsz hby hzs (by decide) v _ _ h2 ad 1 c (cells3 q) rfl hu (by
      intro x hx; simp only [cells3, List.mem_cons, List.not_mem_nil, or_false] at hx; rcases hx with rfl | rfl | rfl <;> rfl) (by unfold maxLen; omega) (by
        have := Nat.mul_le_mul_left (Q.length + 1) h8
        omega) hbase
  refine ⟨v', w', k1, ⟨Q ++ [q], by simp, ?_, by simpa using hlq, fun x hx => ?_⟩, (Below.refl _ _).grown k3 hbase (fun g hg => (h2.lt g hg).1)⟩
  · have : (Q ++ [q]).flatMap cells3 = Q.flatMap cells3 ++ cells3 q := by simp
    rw [this]; simpa using k2
  · rcases List.mem_append.1 hx with hx | hx
    · exact ob_grown hne h2 k3 (h4 x hx)
    · simp at hx; subst hx; exact ob_grown hne h2 k3 hq


/-- An empty row. -/
theorem Oi.empty (e u base : Nat) (w : World) (g : Nat) (hg : g = w.heap.size) (hb : base ≤ g) : Oi e u base (w.alloc (.cells #[] e)) (.slice (some ⟨g, 0, none⟩) 0 0) [] := by
  subst hg
  refine ⟨[], rfl, ⟨rfl, .inr ⟨w.heap.size, 0, #[], rfl, hb, (by show (w.heap.push _)[_]? = _; simp), Nat.le_refl _, by decide, rfl, rfl⟩⟩, by simp, by simp⟩
/-- A row of bytes is memory of the call's own. -/
theorem row_ob {e base g n : Nat} {w : World} {xs : List Int} (h : w.rowIs g e n (fun j => .int .u8 (xs.getD j 0))) (hl : xs.length = n) (hn : n ≤ 140737488355328) (hx : ∀ x ∈ xs, 0 ≤ x ∧ x < 256) (hb : base ≤ g) : Wc.Ob e base w (.slice (some ⟨g, 0, none⟩) n n) xs := by
  obtain ⟨c, h1, h2, h3⟩ := h
  subst hl
  refine ⟨⟨by simp, .inr ⟨g, xs.length, c, rfl, hb, h1, Nat.le_refl _, by unfold maxLen; omega, by omega, ?_⟩⟩, hn, hx⟩
  apply List.ext_getElem (by simp; omega)
  intro i hi hj
  have hi' : i < xs.length := by simpa using hj
  have := h3 i hi'
  rw [Array.getElem?_eq_getElem (by omega)] at this
  simp only [List.getElem_take, Array.getElem_toList, List.getElem_map]
  rw [Option.some.inj this]
  simp [hi']
end Wd
namespace Wi
open Wr
/-- The steps that lay the records. -/
def stp (a : Nat) (f : Nat → Rec) (k : Nat) : List Wd.Io := (List.range k).map fun i => ⟨1, ((a + i : Nat) : Int), Wr.blk (f i)⟩
theorem stp_succ (a : Nat) (f : Nat → Rec) (k : Nat) : stp a f (k + 1) = stp a f k ++ [⟨1, ((a + k : Nat) : Int), Wr.blk (f k)⟩] := by unfold stp; rw [List.range_succ, List.map_append]; rfl
theorem stp_length (a : Nat) (f : Nat → Rec) (k : Nat) : (stp a f k).length = k := by simp [stp]
/-- The device. -/
def rcX (b a n : Nat) (f : Nat → Rec) : List Int := Wd.app (List.replicate (b * 64) 0) (stp a f n ++ [⟨1, 0, Ws.blk (rcS b a n)⟩])
theorem stp_bdv {b a : Nat} (f : Nat → Rec) (_ha : 2 ≤ a) : ∀ k, a + k ≤ b → Bdv (Wd.app (List.replicate (b * 64) 0) (stp a f k)) b (fun q => if a ≤ q ∧ q < a + k then Wr.blk (f (q - a)) else List.replicate 64 0)
  | 0, _ => by
    have := Bdv.zeros b
    refine ⟨this.1, fun q hq => (this.2 q hq).trans ?_⟩
    simp only [if_neg (show ¬ (a ≤ q ∧ q < a + 0) by omega)]
  | k + 1, h => by
    have h1 := (stp_bdv (b := b) f _ha k (by omega)).lay (p := a + k) (X := Wr.blk (f k)) (by omega) (Wr.blk_length _)
    rw [stp_succ, Wd.app_snoc, Wd.one_pos (p := a + k) rfl]
    refine ⟨h1.1, fun q hq => (h1.2 q hq).trans ?_⟩
    show (if a + k = q then Wr.blk (f k) else if a ≤ q ∧ q < a + k then Wr.blk (f (q - a)) else List.replicate 64 0) = if a ≤ q ∧ q < a + (k + 1) then Wr.blk (f (q - a)) else List.replicate 64 0
    by_cases e : a + k = q
    · subst e
      rw [if_pos rfl, if_pos (show a ≤ a + k ∧ a + k < a + (k + 1) by omega), show a + k - a = k by omega]
    · rw [if_neg e]
      by_cases h3 : a ≤ q ∧ q < a + k
      · rw [if_pos h3, if_pos ⟨h3.1, by omega⟩]
      · rw [if_neg h3, if_neg (by omega)]
theorem rcX_rdv {b a n : Nat} {f : Nat → Rec} (h4 : 4 ≤ b) (hb : b ≤ 4096) (ha : 2 ≤ a) (h : a + n ≤ b) (hf : ∀ i, i < n → recB (f i) = true) : Rdv (rcX b a n f) b a n f := by
  refine ⟨?_, h4, hb, ha, h, hf⟩
  have h1 := (stp_bdv f ha n h).lay (p := 0) (X := Ws.blk (rcS b a n)) (by omega) (Ws.blk_length _)
  unfold rcX
  rw [Wd.app_snoc, Wd.one_pos (p := 0) rfl]
  refine ⟨h1.1, fun q hq => (h1.2 q hq).trans ?_⟩
  unfold rcB
  by_cases e : 0 = q
  · subst e
    simp only [if_true]
    rw [if_neg (by omega)]
  · simp only [if_neg e, if_neg (show ¬ q = 0 by omega)]
theorem stp_ok {b a n : Nat} {f : Nat → Rec} (h4 : 4 ≤ b) (hb : b ≤ 4096) (h : a + n ≤ b) (hn : n ≤ 1000) : Wd.stepsE (b * 64) (stp a f n ++ [⟨1, 0, Ws.blk (rcS b a n)⟩]) = 0 := by
  refine Wd.stepsE_ok (Wt.devB_b h4 hb) (by simp [stp_length]; omega) ?_
  rw [List.all_append, Bool.and_eq_true, List.all_eq_true, List.all_cons, List.all_nil, Bool.and_true]
  refine ⟨fun x hx => ?_, Wd.rightB_iff.2 (.inl ⟨rfl, Int.le_refl 0, ?_, Ws.blk_length _⟩)⟩
  · unfold stp at hx
    obtain ⟨i, hi, rfl⟩ := List.mem_map.1 hx
    have := List.mem_range.1 hi
    exact Wd.rightB_iff.2 (.inl ⟨rfl, (show (0 : Int) ≤ ((a + i : Nat) : Int) by omega), (show ((a + i : Nat) : Int) < ((b * 64 : Nat) : Int) / 64 by omega), Wr.blk_length _⟩)
  · show (0 : Int) < ((b * 64 : Nat) : Int) / 64
    omega
/-- Plain records, each leading to the next one. -/
def fr (n a : Nat) (id : Int) (i : Nat) : Rec := ⟨if i + 1 < n then ((a + i + 1 : Nat) : Int) else 0, id + i, 0, 0, 0, 0, 0, 0⟩
theorem fr_ok {n a : Nat} {id : Int} (ha : 2 ≤ a) (h : a + n ≤ 4096) (h1 : 1 ≤ id) (h2 : id ≤ 1000000) {i : Nat} (hi : i < n) : recB (fr n a id i) = true := by
  rw [recB_iff]
  refine ⟨?_, .inl rfl, ⟨?_, ?_⟩, .inl rfl, ⟨?_, ?_⟩, .inl ⟨rfl, rfl, rfl⟩⟩
  · show (if i + 1 < n then ((a + i + 1 : Nat) : Int) else 0) = 0 ∨ 2 ≤ (if i + 1 < n then ((a + i + 1 : Nat) : Int) else 0) ∧ (if i + 1 < n then ((a + i + 1 : Nat) : Int) else 0) < 4096
    by_cases e : i + 1 < n
    · rw [if_pos e]; right; omega
    · rw [if_neg e]; exact .inl rfl
  · show 1 ≤ id + i; omega
  · show id + (i : Int) ≤ 4611686018427387903; omega
  · show (0 : Int) ≤ 0; decide
  · show (0 : Int) ≤ 512; decide
end Wi
namespace Go.Proofs.Ytfflhiajbioheaa
open Go.RowKit

theorem lit_cells (w : World) (q : Wd.Pl) (e : Nat) : ∀ j u, (Wd.cells3 q)[j]? = some u → (w.alloc (.cells (Wd.cells3 q).toArray e)).cell? ((⟨w.heap.size, 0, none⟩ : Addr).add j) = some u := by
  intro j u hu
  have hr := World.rowIs_alloc w (Wd.cells3 q).toArray e (fun i => (Wd.cells3 q).getD i .nilFunc) (fun i hi => by
    have : i < (Wd.cells3 q).length := by simpa using hi
    simp [this])
  have hj : j < 3 := by have := (List.getElem?_eq_some_iff.1 hu).1; simpa [Wd.cells3] using this
  rw [Wc.add_none, Nat.zero_add, hr.cell (by simpa [Wd.cells3] using hj), List.getD_eq_getElem?_getD, hu]; rfl

theorem Try.info64 : (Try.prog.info? 38).map (fun i => (i.zero, i.size, i.bytes)) = some (some (.agg #[.int .i64 0, .int .i64 0, .slice none 0 0]), 3, 40) := by kernel_rfl

/-- A step is put behind memory of the call's own. -/
theorem pushio_run (w : World) (gb base : Nat) (hgb : gb = w.heap.size) (v : Value) (l : List Wd.Io) (kd p : Int) (g N : Nat) (X : List Int) (hX : X.length = N) (hO : Wd.Oi 38 5 base w v l) (hD : Wc.Ob 5 base w (.slice (some ⟨g, 0, none⟩) N N) X) (hl : l.length ≤ 1000) (hb : base ≤ w.heap.size) :
    ∃ a n c w', Sem.run Try.prog (Builtin.append_ #[36, 36] 36 #[v, .slice (some ⟨gb, 0, none⟩) 1 1]) (w.alloc (.cells #[.int .i64 kd, .int .i64 p, .slice (some ⟨g, 0, none⟩) N N] 38)) = .ok (.slice a n c) w' ∧
      Wd.Oi 38 5 base w' (.slice a n c) (l ++ [⟨kd, p, X⟩]) ∧ Below base (w.alloc (.cells #[.int .i64 kd, .int .i64 p, .slice (some ⟨g, 0, none⟩) N N] 38)) w' := by
  subst hX hgb
  obtain ⟨i, hi, hzz⟩ := Option.map_eq_some_iff.1 Try.info64
  simp only [Prod.mk.injEq] at hzz
  obtain ⟨hz, hs, hby⟩ := hzz
  have b1 := (Below.refl w.heap.size w).alloc (Nat.le_refl _) (.cells #[.int .i64 kd, .int .i64 p, .slice (some ⟨g, 0, none⟩) X.length X.length] 38)
  obtain ⟨v', w', k1, k2, k3⟩ := Wd.append_io (P := Try.prog) (ty := 36) (c := 1) (q := (⟨kd, p, X⟩, (some ⟨g, 0, none⟩, X.length))) Try.underlying36 hi hz hs hby rfl (by omega) (by decide) (hO.keep b1) (lit_cells w (⟨kd, p, X⟩, (some ⟨g, 0, none⟩, X.length)) 38) (hD.keep b1) (by omega) (by simp; omega)
  obtain ⟨a, c, rfl⟩ := k2.slice
  exact ⟨a, _, c, w', k1, k2, k3⟩

end Go.Proofs.Ytfflhiajbioheaa
namespace Go.Proofs.Ytfflhiajbioheaa
open Go.RowKit

set_option maxRecDepth 100000 in
set_option maxHeartbeats 3200000 in
theorem lrecs_any (b a n N : Nat) (id : Int) (w : World) (h4 : 4 ≤ b) (hb : b ≤ 4096) (ha : 2 ≤ a) (h : a + n ≤ b) (hn : n ≤ 100) (h1 : 1 ≤ id) (h2 : id ≤ 1000000) (hN : b * 64 = N) :
    Calls Try.prog 14 #[.int .i64 (b : Int), .int .i64 (a : Int), .int .i64 (n : Int), .int .i64 id] w fun e w' => ∃ g, e = .returned (.slice (some ⟨g, 0, none⟩) N N) ∧ Wc.Ob 5 w.heap.size w' (.slice (some ⟨g, 0, none⟩) N N) (Wi.rcX b a n (Wi.fr n a id)) ∧ Below w.heap.size w w' := by
  have eN : (b : Int) * 64 = (N : Int) := by omega
  have mk := makeN N (by omega)
  have bA := (Below.refl w.heap.size w).alloc (Nat.le_refl _) (.cells (madeCells #[Value.int .u8 0] N) 5)
  have bB := (Below.refl (w.alloc (.cells (madeCells #[Value.int .u8 0] N) 5)).heap.size (w.alloc (.cells (madeCells #[Value.int .u8 0] N) 5))).alloc (Nat.le_refl _) (.cells #[] 38)
  have HO := Wc.hid ((made_ob N (by omega) w).keep bB)
  have HB := Wc.hid (Wc.step bA (Nat.le_refl _) bB)
  have HI := Wc.hid (Wd.Oi.empty 38 5 w.heap.size (w.alloc (.cells (madeCells #[Value.int .u8 0] N) 5)) (w.heap.size + 1) (by simp) (by omega))
  have HN := Wc.hid hN
  obtain ⟨f, hf⟩ : ∃ f, Wi.fr n a id = f := ⟨_, rfl⟩
  rw [hf]
  have HF := Wc.hid hf
  have HRC : Hid (∀ i, i < n → Wr.recB (f i) = true) := Wc.hid (fun i hi => by rw [← hf]; exact Wi.fr_ok ha (by omega) h1 h2 hi)
  clear bA bB hN hf HI HO HB
  go_enter Try.func14, Try.ntmps14
  go_wp2_with fail
  obtain ⟨W1, hW1⟩ : ∃ W1, w.alloc (.cells (madeCells #[Value.int .u8 0] N) 5) = W1 := ⟨_, rfl⟩
  have hO1 := made_ob N (by omega) w
  have b1 := (Below.refl w.heap.size w).alloc (Nat.le_refl _) (.cells (madeCells #[Value.int .u8 0] N) 5)
  have hs1 : W1.heap.size = w.heap.size + 1 := by rw [← hW1]; simp
  rw [hW1] at hO1 b1 ⊢
  have HS1 := Wc.hid hs1
  have HO1 := Wc.hid hO1
  have HB1 := Wc.hid b1
  have bB := (Below.refl W1.heap.size W1).alloc (Nat.le_refl _) (.cells #[] 38)
  have HI := Wc.hid (Wd.Oi.empty 38 5 W1.heap.size W1 (w.heap.size + 1) hs1.symm (by omega))
  have HBB := Wc.hid bB
  clear mk eN hW1 hs1 hO1 b1 bB
  go_loopw [10, 11] (fun l i wr => ∃ (k : Nat) (xa : Option Addr) (xn xc : Nat), i = .int .i64 k ∧ k ≤ n ∧ l = .slice xa xn xc ∧ Hid (Wd.Oi 38 5 W1.heap.size wr (.slice xa xn xc) (Wi.stp a f k)) ∧ Hid (Below W1.heap.size W1 wr)) (fun _ i _ => n - (intOf i).toNat)
  case atStart => exact ⟨0, _, _, _, rfl, by omega, rfl, HI, HBB⟩
  case round =>
    obtain ⟨k, xa, xn, xc, rfl, hk, rfl, RI, RB⟩ := hrel
    by_cases hlt : k < n
    · by_cases hl : k + 1 < n
      · have hfk : f k = ⟨(a : Int) + k + 1, id + k, 0, 0, 0, 0, 0, 0⟩ := by rw [← HF.out]; unfold Wi.fr; rw [if_pos hl]; congr 1
        have hrec := HRC.out k hlt
        rw [hfk] at hrec
        have HFK := Wc.hid hfk
        have HREC := Wc.hid hrec
        have bR := (Below.refl wr.heap.size wr).alloc (Nat.le_refl _) (.cells #[.int .i64 ((a : Int) + k + 1), .int .i64 (id + k), .int .i64 0, .int .i64 0, .int .i64 0, .int .i64 0, .int .i64 0, .int .i64 0] 52)
        have HI1 := Wc.hid (RI.out.keep bR)
        have HB1' := Wc.hid (Wc.step RB.out (Nat.le_refl _) bR)
        have ⟨c0, c1, c2, c3, c4, c5, c6, c7⟩ := (Rh.new wr ⟨(a : Int) + k + 1, id + k, 0, 0, 0, 0, 0, 0⟩).rc
        simp only at c0 c1 c2 c3 c4 c5 c6 c7
        clear hfk hrec bR
        go_wp2_with fail
        refine (bytes8_ok ⟨(a : Int) + k + 1, id + k, 0, 0, 0, 0, 0, 0⟩ _ HREC.out).mono ?_
        rintro e w2 ⟨g2, rfl, hg2, hr2, hb2⟩
        have hD2 := Wd.row_ob (base := W1.heap.size) hr2 (Wr.blk_length _) (by decide) (Wr.blk_bd _) (by have := HB1'.out.size; omega)
        have hI2 := HI1.out.keep hb2
        have hB2 := Wc.step HB1'.out (Nat.le_refl _) hb2
        obtain ⟨ya, yn, yc, w3, hrun, hI3, hb3⟩ := pushio_run w2 w2.heap.size W1.heap.size rfl (.slice xa xn xc) (Wi.stp a f k) 1 ((a : Int) + k) g2 64 _ (Wr.blk_length _) hI2 hD2 (by rw [Wi.stp_length]; omega) hB2.size
        have hb3' := (hB2.alloc hB2.size (.cells #[.int .i64 1, .int .i64 ((a : Int) + k), .slice (some ⟨g2, 0, none⟩) 64 64] 38)).trans hb3
        rw [← HFK.out, ← show ((a + k : Nat) : Int) = (a : Int) + k from Int.natCast_add a k, ← Wi.stp_succ] at hI3
        have HI3 := Wc.hid hI3
        have HB3 := Wc.hid hb3'
        clear hg2 hr2 hb2 hD2 hI2 hB2 hI3 hb3 hb3' c0 c1 c2 c3 c4 c5 c6 c7
        go_wp2_with (at_builtin; refine Wv.wp_append hrun rfl rfl rfl rfl ?_)
        go_roundw
        case rel => exact ⟨k + 1, ya, yn, yc, by go_num, by omega, rfl, HI3, HB3⟩
        case measure => simp [intOf]; omega
      · have hfk : f k = ⟨0, id + k, 0, 0, 0, 0, 0, 0⟩ := by rw [← HF.out]; unfold Wi.fr; rw [if_neg hl]
        have hrec := HRC.out k hlt
        rw [hfk] at hrec
        have HFK := Wc.hid hfk
        have HREC := Wc.hid hrec
        have bR := (Below.refl wr.heap.size wr).alloc (Nat.le_refl _) (.cells #[.int .i64 (0), .int .i64 (id + k), .int .i64 0, .int .i64 0, .int .i64 0, .int .i64 0, .int .i64 0, .int .i64 0] 52)
        have HI1 := Wc.hid (RI.out.keep bR)
        have HB1' := Wc.hid (Wc.step RB.out (Nat.le_refl _) bR)
        have ⟨c0, c1, c2, c3, c4, c5, c6, c7⟩ := (Rh.new wr ⟨0, id + k, 0, 0, 0, 0, 0, 0⟩).rc
        simp only at c0 c1 c2 c3 c4 c5 c6 c7
        clear hfk hrec bR
        go_wp2_with fail
        refine (bytes8_ok ⟨0, id + k, 0, 0, 0, 0, 0, 0⟩ _ HREC.out).mono ?_
        rintro e w2 ⟨g2, rfl, hg2, hr2, hb2⟩
        have hD2 := Wd.row_ob (base := W1.heap.size) hr2 (Wr.blk_length _) (by decide) (Wr.blk_bd _) (by have := HB1'.out.size; omega)
        have hI2 := HI1.out.keep hb2
        have hB2 := Wc.step HB1'.out (Nat.le_refl _) hb2
        obtain ⟨ya, yn, yc, w3, hrun, hI3, hb3⟩ := pushio_run w2 w2.heap.size W1.heap.size rfl (.slice xa xn xc) (Wi.stp a f k) 1 ((a : Int) + k) g2 64 _ (Wr.blk_length _) hI2 hD2 (by rw [Wi.stp_length]; omega) hB2.size
        have hb3' := (hB2.alloc hB2.size (.cells #[.int .i64 1, .int .i64 ((a : Int) + k), .slice (some ⟨g2, 0, none⟩) 64 64] 38)).trans hb3
        rw [← HFK.out, ← show ((a + k : Nat) : Int) = (a : Int) + k from Int.natCast_add a k, ← Wi.stp_succ] at hI3
        have HI3 := Wc.hid hI3
        have HB3 := Wc.hid hb3'
        clear hg2 hr2 hb2 hD2 hI2 hB2 hI3 hb3 hb3' c0 c1 c2 c3 c4 c5 c6 c7
        go_wp2_with (at_builtin; refine Wv.wp_append hrun rfl rfl rfl rfl ?_)
        go_roundw
        case rel => exact ⟨k + 1, ya, yn, yc, by go_num, by omega, rfl, HI3, HB3⟩
        case measure => simp [intOf]; omega
    · have hkn : k = n := by omega
      subst hkn
      by_cases h0 : k = 0
      · have hS : Wi.rcS b a k = ⟨1, b, 0, 0, 0⟩ := by unfold Wi.rcS; rw [if_pos h0]
        have hok := Wi.rcS_ok (n := k) h4 hb ha h
        rw [hS] at hok
        have HS := Wc.hid hS
        have HOK := Wc.hid hok
        have bR := (Below.refl wr.heap.size wr).alloc (Nat.le_refl _) (.cells #[.int .i64 1, .int .i64 (b : Int), .int .i64 0, .int .i64 0, .int .i64 (0)] 30)
        have HI1 := Wc.hid (RI.out.keep bR)
        have HB1' := Wc.hid (Wc.step RB.out (Nat.le_refl _) bR)
        have ⟨c0, c1, c2, c3, c4⟩ := (Sh.new wr ⟨1, b, 0, 0, 0⟩).sc
        simp only at c0 c1 c2 c3 c4
        clear hS hok bR
        go_wp2_with fail
        refine (bytes6_ok ⟨1, b, 0, 0, 0⟩ _ HOK.out).mono ?_
        rintro e w2 ⟨g2, rfl, hg2, hr2, hb2⟩
        have hD2 := Wd.row_ob (base := W1.heap.size) hr2 (Ws.blk_length _) (by decide) (Ws.blk_bd _) (by have := HB1'.out.size; omega)
        have hI2 := HI1.out.keep hb2
        have hB2 := Wc.step HB1'.out (Nat.le_refl _) hb2
        obtain ⟨ya, yn, yc, w3, hrun, hI3, hb3⟩ := pushio_run w2 w2.heap.size W1.heap.size rfl (.slice xa xn xc) (Wi.stp a f k) 1 0 g2 64 _ (Ws.blk_length _) hI2 hD2 (by rw [Wi.stp_length]; omega) hB2.size
        have hb3' := (hB2.alloc hB2.size (.cells #[.int .i64 1, .int .i64 0, .slice (some ⟨g2, 0, none⟩) 64 64] 38)).trans hb3
        rw [← HS.out] at hI3
        have HI3 := Wc.hid hI3
        have HB3 := Wc.hid hb3'
        clear hg2 hr2 hb2 hD2 hI2 hB2 hI3 hb3 hb3' c0 c1 c2 c3 c4
        go_wp2_with (at_builtin; refine Wv.wp_append hrun rfl rfl rfl rfl ?_)
        refine (apply_ob _ _ _ _ _ _ (List.replicate N 0) (Wi.stp a f k ++ [⟨1, 0, Ws.blk (Wi.rcS b a k)⟩]) _ (HO1.out.keep HB3.out).bs HI3.out.is (by rw [← HN.out]; exact Wi.stp_ok h4 hb h (by omega))).mono ?_
        rintro e w4 ⟨g4, rfl, hg4, hO4, hb4⟩
        have HB4 := Wc.hid (Wc.step HB3.out (Nat.le_refl _) hb4)
        have HO4 := Wc.hid (hO4.base (base' := w.heap.size) (by have := HB3.out.size; have := HS1.out; omega))
        clear hg4 hO4 hb4
        go_wp2_with fail
        go_ret
        refine ⟨g4, rfl, ?_, HB1.out.trans (HB4.out.mono (by have := HS1.out; omega))⟩
        have := HO4.out
        rw [← HN.out] at this ⊢
        exact this
      · have hS : Wi.rcS b a k = ⟨1, b, 0, 0, (a : Int)⟩ := by unfold Wi.rcS; rw [if_neg h0]
        have hok := Wi.rcS_ok (n := k) h4 hb ha h
        rw [hS] at hok
        have HS := Wc.hid hS
        have HOK := Wc.hid hok
        have bR := (Below.refl wr.heap.size wr).alloc (Nat.le_refl _) (.cells #[.int .i64 1, .int .i64 (b : Int), .int .i64 0, .int .i64 0, .int .i64 ((a : Int))] 30)
        have HI1 := Wc.hid (RI.out.keep bR)
        have HB1' := Wc.hid (Wc.step RB.out (Nat.le_refl _) bR)
        have ⟨c0, c1, c2, c3, c4⟩ := (Sh.new wr ⟨1, b, 0, 0, (a : Int)⟩).sc
        simp only at c0 c1 c2 c3 c4
        clear hS hok bR
        go_wp2_with fail
        refine (bytes6_ok ⟨1, b, 0, 0, (a : Int)⟩ _ HOK.out).mono ?_
        rintro e w2 ⟨g2, rfl, hg2, hr2, hb2⟩
        have hD2 := Wd.row_ob (base := W1.heap.size) hr2 (Ws.blk_length _) (by decide) (Ws.blk_bd _) (by have := HB1'.out.size; omega)
        have hI2 := HI1.out.keep hb2
        have hB2 := Wc.step HB1'.out (Nat.le_refl _) hb2
        obtain ⟨ya, yn, yc, w3, hrun, hI3, hb3⟩ := pushio_run w2 w2.heap.size W1.heap.size rfl (.slice xa xn xc) (Wi.stp a f k) 1 0 g2 64 _ (Ws.blk_length _) hI2 hD2 (by rw [Wi.stp_length]; omega) hB2.size
        have hb3' := (hB2.alloc hB2.size (.cells #[.int .i64 1, .int .i64 0, .slice (some ⟨g2, 0, none⟩) 64 64] 38)).trans hb3
        rw [← HS.out] at hI3
        have HI3 := Wc.hid hI3
        have HB3 := Wc.hid hb3'
        clear hg2 hr2 hb2 hD2 hI2 hB2 hI3 hb3 hb3' c0 c1 c2 c3 c4
        go_wp2_with (at_builtin; refine Wv.wp_append hrun rfl rfl rfl rfl ?_)
        refine (apply_ob _ _ _ _ _ _ (List.replicate N 0) (Wi.stp a f k ++ [⟨1, 0, Ws.blk (Wi.rcS b a k)⟩]) _ (HO1.out.keep HB3.out).bs HI3.out.is (by rw [← HN.out]; exact Wi.stp_ok h4 hb h (by omega))).mono ?_
        rintro e w4 ⟨g4, rfl, hg4, hO4, hb4⟩
        have HB4 := Wc.hid (Wc.step HB3.out (Nat.le_refl _) hb4)
        have HO4 := Wc.hid (hO4.base (base' := w.heap.size) (by have := HB3.out.size; have := HS1.out; omega))
        clear hg4 hO4 hb4
        go_wp2_with fail
        go_ret
        refine ⟨g4, rfl, ?_, HB1.out.trans (HB4.out.mono (by have := HS1.out; omega))⟩
        have := HO4.out
        rw [← HN.out] at this ⊢
        exact this

end Go.Proofs.Ytfflhiajbioheaa
