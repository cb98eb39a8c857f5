/-
  The plain mathematics of an image's records: which blocks they lie on, one behind the other. It speaks of no program.
-/
import Derived.Test.YtiobegoiehjfiaaGreatJF
import Derived.Test.YtiobegoiehjfiaaGreatJB
namespace Wi
open Wr

/-- What a block says, where it says a record. -/
def recAt (xs : List Int) (p : Int) : Rec := par (Wd.rdR xs p)
/-- Is there a record? -/
def recOk (xs : List Int) (p : Int) : Bool := decide (2 ≤ p) && (parE (Wd.rdR xs p) == 0)
/-- How many are whole. -/
def whN (l : List Rec) : Nat := (l.filter fun r => r.kind == 0).length
/-- Is there one of that id? -/
def hasB (l : List Rec) (id : Int) : Bool := l.any fun a => a.id == id
/-- May it be the record behind those? -/
def fitsB (r : Rec) (l : List Rec) : Bool := !hasB l r.id && (if r.kind = 1 then decide (l.length = 0) else decide (whN l < 60))
/-- The records' blocks from one on, behind those that were met. -/
def chn (xs : List Int) : Nat → Int → List Int → Option (List Int)
  | 0, p, b => if p = 0 then some b else none
  | f + 1, p, b => if p = 0 then some b else if (recOk xs p && fitsB (recAt xs p) (b.map (recAt xs))) = true then chn xs f (recAt xs p).next (b ++ [p]) else none
def recs (xs : List Int) (first : Int) : Option (List Int) := chn xs 62 first []

theorem chn_zero (xs : List Int) (f : Nat) (b : List Int) : chn xs f 0 b = some b := by cases f <;> rfl
theorem chn_yes {xs : List Int} {f : Nat} {p : Int} {b : List Int} (h0 : ¬ p = 0) (h1 : recOk xs p = true) (h2 : fitsB (recAt xs p) (b.map (recAt xs)) = true) : chn xs (f + 1) p b = chn xs f (recAt xs p).next (b ++ [p]) := by
  show (if p = 0 then _ else _) = _
  rw [if_neg h0, if_pos (by rw [h1, h2]; rfl)]
theorem chn_no {xs : List Int} {f : Nat} {p : Int} {b : List Int} (h0 : ¬ p = 0) (h : recOk xs p = false ∨ fitsB (recAt xs p) (b.map (recAt xs)) = false) : chn xs f p b = none := by
  cases f with
  | zero => show (if p = 0 then _ else _) = _; rw [if_neg h0]
  | succ f =>
    show (if p = 0 then _ else _) = _
    rw [if_neg h0, if_neg]
    rcases h with h | h <;> rw [h] <;> simp

theorem recOk_iff {xs : List Int} {p : Int} : recOk xs p = true ↔ 2 ≤ p ∧ parE (Wd.rdR xs p) = 0 := by simp [recOk]
theorem parE_nil : parE [] = 2 := by decide
theorem recOk_in {xs : List Int} {p : Int} (h : recOk xs p = true) : 2 ≤ p ∧ p < ((xs.length / 64 : Nat) : Int) ∧ Wd.devB xs.length = true ∧ recB (recAt xs p) = true := by
  obtain ⟨h2, h0⟩ := recOk_iff.1 h
  have hr : Wd.rdE xs.length p = 0 := by
    by_cases e : Wd.rdE xs.length p = 0
    · exact e
    · rw [Wd.rdR, if_neg e, parE_nil] at h0; cases h0
  unfold Wd.rdE at hr
  split at hr
  · split at hr
    · exact ⟨h2, by omega, by assumption, (parE_zero h0).2.2⟩
    · cases hr
  · cases hr
theorem rec_kind {r : Rec} (h : recB r = true) : r.kind = 0 ∨ r.kind = 1 := by
  have := (recB_iff.1 h).2.2.2.2.2
  omega
theorem rec_size {r : Rec} (h : recB r = true) : 0 ≤ r.size ∧ r.size ≤ 512 := (recB_iff.1 h).2.2.2.2.1

theorem whN_snoc (l : List Rec) (r : Rec) : whN (l ++ [r]) = whN l + (if r.kind = 0 then 1 else 0) := by
  unfold whN
  rw [List.filter_append, List.length_append]
  by_cases h : r.kind = 0
  · rw [if_pos h, List.filter_cons_of_pos (by simpa using h)]; rfl
  · rw [if_neg h, List.filter_cons_of_neg (by simpa using h)]; rfl
theorem whN_le (l : List Rec) : whN l ≤ l.length := List.length_filter_le _ _

/-- What is true of the records met so far. -/
def Iv (xs : List Int) (b : List Int) : Prop := b.length ≤ whN (b.map (recAt xs)) + 1 ∧ whN (b.map (recAt xs)) ≤ 60 ∧ ∀ p ∈ b, recOk xs p = true
theorem Iv.nil (xs : List Int) : Iv xs [] := ⟨by simp [whN], by simp [whN], by simp⟩
theorem Iv.len {xs b : List Int} (h : Iv xs b) : b.length ≤ 61 := by have := h.1; have := h.2.1; omega
theorem Iv.snoc {xs b : List Int} {p : Int} (h : Iv xs b) (h1 : recOk xs p = true) (h2 : fitsB (recAt xs p) (b.map (recAt xs)) = true) : Iv xs (b ++ [p]) := by
  obtain ⟨i1, i2, i3⟩ := h
  have hk := rec_kind (recOk_in h1).2.2.2
  have e : (b ++ [p]).map (recAt xs) = b.map (recAt xs) ++ [recAt xs p] := by simp
  unfold fitsB at h2
  rw [Bool.and_eq_true] at h2
  have h3 := h2.2
  refine ⟨?_, ?_, fun q hq => ?_⟩
  · rw [e, whN_snoc]
    rcases hk with hk | hk
    · rw [if_pos hk, List.length_append]; simp; omega
    · rw [if_pos hk] at h3
      have : b.length = 0 := by simpa using h3
      rw [List.length_append, this]; simp
  · rw [e, whN_snoc]
    rcases hk with hk | hk
    · rw [if_neg (by omega)] at h3
      have : whN (b.map (recAt xs)) < 60 := by simpa using h3
      rw [if_pos hk]; omega
    · rw [if_neg (by omega)]; omega
  · rcases List.mem_append.1 hq with hq | hq
    · exact i3 q hq
    · obtain rfl : q = p := by simpa using hq
      exact h1

/-- The law of a chain of records. -/
def Lnk (xs : List Int) : Int → List Int → Prop
  | p, [] => p = 0
  | p, q :: b => p = q ∧ ¬ p = 0 ∧ recOk xs p = true ∧ Lnk xs (recAt xs p).next b

/-- All that is told of a chain. -/
theorem chn_told {xs : List Int} : ∀ (f : Nat) (p : Int) (b t : List Int), chn xs f p b = some t →
    ∃ c, t = b ++ c ∧ Lnk xs p c ∧ (Iv xs b → Iv xs t) ∧ ((b.map (recAt xs)).Pairwise (fun x y => ¬ x.id = y.id) → (t.map (recAt xs)).Pairwise (fun x y => ¬ x.id = y.id)) ∧
      ((∀ i, 0 < i → i < b.length → ¬ (recAt xs (b.getD i 0)).kind = 1) → ∀ i, 0 < i → i < t.length → ¬ (recAt xs (t.getD i 0)).kind = 1)
  | 0, p, b, t, h => by
    unfold chn at h
    by_cases h0 : p = 0
    · rw [if_pos h0] at h; cases h
      exact ⟨[], by simp, h0, id, id, id⟩
    · rw [if_neg h0] at h; cases h
  | f + 1, p, b, t, h => by
    by_cases h0 : p = 0
    · subst h0
      rw [chn_zero] at h; cases h
      exact ⟨[], by simp, rfl, id, id, id⟩
    · by_cases h1 : recOk xs p = true
      · by_cases h2 : fitsB (recAt xs p) (b.map (recAt xs)) = true
        · rw [chn_yes h0 h1 h2] at h
          obtain ⟨c, e, k1, k2, k3, k4⟩ := chn_told f _ _ _ h
          have hh := h2
          unfold fitsB at hh
          rw [Bool.and_eq_true] at hh
          refine ⟨p :: c, by rw [e]; simp, ⟨rfl, h0, h1, k1⟩, fun hi => k2 (hi.snoc h1 h2), fun hp => k3 ?_, fun hk => k4 ?_⟩
          · rw [List.map_append, List.pairwise_append]
            refine ⟨hp, by simp, fun x hx y hy => ?_⟩
            obtain rfl : y = recAt xs p := by simpa using hy
            have h5 := hh.1
            simp only [hasB, Bool.not_eq_true', List.any_eq_false] at h5
            simpa using h5 x hx
          · intro i hi0 hil
            by_cases e : i < b.length
            · have : (b ++ [p]).getD i 0 = b.getD i 0 := by simp [List.getD_eq_getElem?_getD, List.getElem?_append_left e]
              rw [this]; exact hk i hi0 e
            · have : i = b.length := by simp at hil; omega
              subst this
              rw [show (b ++ [p]).getD b.length 0 = p by simp [List.getD_eq_getElem?_getD]]
              intro h6
              have h7 := hh.2
              rw [if_pos h6] at h7
              have : b.length = 0 := by simpa using h7
              omega
        · rw [chn_no h0 (.inr (by simpa using h2))] at h; cases h
      · rw [chn_no h0 (.inl (by simpa using h1))] at h; cases h

/-- What Records tells. -/
def recE (xs : List Int) (first : Int) : Int := if Wd.devB xs.length = true then (if (recs xs first).isSome = true then 0 else 7) else 2
def recP (xs : List Int) (first : Int) : List Int := if Wd.devB xs.length = true then (recs xs first).getD [] else []
def recL (xs : List Int) (first : Int) : List Rec := (recP xs first).map (recAt xs)
theorem rec_some {xs : List Int} {first : Int} {b : List Int} (hd : Wd.devB xs.length = true) (h : recs xs first = some b) : recE xs first = 0 ∧ recP xs first = b ∧ recL xs first = b.map (recAt xs) := by
  unfold recL recE recP
  rw [if_pos hd, if_pos hd, h]
  exact ⟨rfl, rfl, rfl⟩
theorem rec_none {xs : List Int} {first : Int} (hd : Wd.devB xs.length = true) (h : recs xs first = none) : recE xs first = 7 ∧ recP xs first = [] ∧ recL xs first = [] := by
  unfold recL recE recP
  rw [if_pos hd, if_pos hd, h]
  exact ⟨rfl, rfl, rfl⟩
theorem rec_dev {xs : List Int} {first : Int} (hd : Wd.devB xs.length = false) : recE xs first = 2 ∧ recP xs first = [] ∧ recL xs first = [] := by
  unfold recL recE recP
  rw [if_neg (by rw [hd]; decide), if_neg (by rw [hd]; decide)]
  exact ⟨rfl, rfl, rfl⟩
theorem recs_told {xs : List Int} {first : Int} {b : List Int} (h : recs xs first = some b) :
    Lnk xs first b ∧ Iv xs b ∧ (b.map (recAt xs)).Pairwise (fun x y => ¬ x.id = y.id) ∧ ∀ i, 0 < i → i < b.length → ¬ (recAt xs (b.getD i 0)).kind = 1 := by
  obtain ⟨c, e, k1, k2, k3, k4⟩ := chn_told 62 first [] b h
  simp only [List.nil_append] at e
  subst e
  exact ⟨k1, k2 (Iv.nil xs), k3 (by simp), k4 (by simp)⟩

/-- Which record is of that id, and whole. -/
def fnd (l : List Rec) (id : Int) : Option Nat := l.findIdx? fun r => r.id == id && r.kind == 0
def fndN (l : List Rec) (id : Int) : Int := match fnd l id with | some i => (i : Int) | none => 0

end Wi
