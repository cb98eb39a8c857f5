/-
  The plain mathematics of an image's records: which blocks they lie on, one behind the other. It speaks of no program.
  What it says that a slice holds a list of records, that it goes on holding it where nothing old has turned, and append to memory of the call's own. It speaks of no program.
  What open.read, open.snapshots and open.fits return, for every input.
  What open.Records returns, for every device and every first block.
  The plain mathematics of a sound image: what each block is used as, and when no block is used as two things. It speaks of no program.
-/
import Derived.Test.YtfflhiajbioheaaGreatJF
import Derived.Test.YtfflhiajbioheaaGreatJB
import Derived.Test.YtfflhiajbioheaaGreatJG
namespace Wi
open Wr

/-- What a block says, where it says a record. -/
def recAt (xs : List Int) (p : Int) : Rec := par (Wd.rdR xs p)
/-- Is there a record? -/
def recOk (xs : List Int) (p : Int) : Bool := decide (2 ≤ p) && (parE (Wd.rdR xs p) == 0)
/-- How many are whole. -/
def whN (l : List Rec) : Nat := (l.filter fun r => r.kind == 0).length
/-- Is there one of that id? -/
def hasB (l : List Rec) (id : Int) : Bool := l.any fun a => a.id == id
/-- May it be the record behind those? -/
def fitsB (r : Rec) (l : List Rec) : Bool := !hasB l r.id && (if r.kind = 1 then decide (l.length = 0) else decide (whN l < 60))
/-- The records' blocks from one on, behind those that were met. -/
def chn (xs : List Int) : Nat → Int → List Int → Option (List Int)
  | 0, p, b => if p = 0 then some b else none
  | f + 1, p, b => if p = 0 then some b else if (recOk xs p && fitsB (recAt xs p) (b.map (recAt xs))) = true then chn xs f (recAt xs p).next (b ++ [p]) else none
def recs (xs : List Int) (first : Int) : Option (List Int) := chn xs 62 first []

theorem chn_zero (xs : List Int) (f : Nat) (b : List Int) : chn xs f 0 b = some b := by cases f <;> rfl
theorem chn_yes {xs : List Int} {f : Nat} {p : Int} {b : List Int} (h0 : ¬ p = 0) (h1 : recOk xs p = true) (h2 : fitsB (recAt xs p) (b.map (recAt xs)) = true) : chn xs (f + 1) p b = chn xs f (recAt xs p).next (b ++ [p]) := by
  show (if p = 0 then _ else _) = _
  rw [if_neg h0, if_pos (by rw [h1, h2]; rfl)]
theorem chn_no {xs : List Int} {f : Nat} {p : Int} {b : List Int} (h0 : ¬ p = 0) (h : recOk xs p = false ∨ fitsB (recAt xs p) (b.map (recAt xs)) = false) : chn xs f p b = none := by
  cases f with
  | zero => show (if p = 0 then _ else _) = _; rw [if_neg h0]
  | succ f =>
    show (if p = 0 then _ else _) = _
    rw [if_neg h0, if_neg]
    rcases h with h | h <;> rw [h] <;> simp

theorem recOk_iff {xs : List Int} {p : Int} : recOk xs p = true ↔ 2 ≤ p ∧ parE (Wd.rdR xs p) = 0 := by simp [recOk]
theorem parE_nil : parE [] = 2 := by decide
theorem recOk_in {xs : List Int} {p : Int} (h : recOk xs p = true) : 2 ≤ p ∧ p < ((xs.length / 64 : Nat) : Int) ∧ Wd.devB xs.length = true ∧ recB (recAt xs p) = true := by
  obtain ⟨h2, h0⟩ := recOk_iff.1 h
  have hr : Wd.rdE xs.length p = 0 := by
    by_cases e : Wd.rdE xs.length p = 0
    · exact e
    · rw [Wd.rdR, if_neg e, parE_nil] at h0; cases h0
  unfold Wd.rdE at hr
  split at hr
  · split at hr
    · exact ⟨h2, by omega, by assumption, (parE_zero h0).2.2⟩
    · cases hr
  · cases hr
theorem rec_kind {r : Rec} (h : recB r = true) : r.kind = 0 ∨ r.kind = 1 := by
  have := (recB_iff.1 h).2.2.2.2.2
  omega
theorem rec_size {r : Rec} (h : recB r = true) : 0 ≤ r.size ∧ r.size ≤ 512 := (recB_iff.1 h).2.2.2.2.1

theorem whN_snoc (l : List Rec) (r : Rec) : whN (l ++ [r]) = whN l + (if r.kind = 0 then 1 else 0) := by
  unfold whN
  rw [List.filter_append, List.length_append]
  by_cases h : r.kind = 0
  · rw [if_pos h, List.filter_cons_of_pos (by simpa using h)]; rfl
  · rw [if_neg h, List.filter_cons_of_neg (by simpa using h)]; rfl
theorem whN_le (l : List Rec) : whN l ≤ l.length := List.length_filter_le _ _

/-- What is true of the records met so far. -/
def Iv (xs : List Int) (b : List Int) : Prop := b.length ≤ whN (b.map (recAt xs)) + 1 ∧ whN (b.map (recAt xs)) ≤ 60 ∧ ∀ p ∈ b, recOk xs p = true
theorem Iv.nil (xs : List Int) : Iv xs [] := ⟨by simp [whN], by simp [whN], by simp⟩
theorem Iv.len {xs b : List Int} (h : Iv xs b) : b.length ≤ 61 := by have := h.1; have := h.2.1; omega
theorem Iv.snoc {xs b : List Int} {p : Int} (h : Iv xs b) (h1 : recOk xs p = true) (h2 : fitsB (recAt xs p) (b.map (recAt xs)) = true) : Iv xs (b ++ [p]) := by
  obtain ⟨i1, i2, i3⟩ := h
  have hk := rec_kind (recOk_in h1).2.2.2
  have e : (b ++ [p]).map (recAt xs) = b.map (recAt xs) ++ [recAt xs p] := by simp
  unfold fitsB at h2
  rw [Bool.and_eq_true] at h2
  have h3 := h2.2
  refine ⟨?_, ?_, fun q hq => ?_⟩
  · rw [e, whN_snoc]
    rcases hk with hk | hk
    · rw [if_pos hk, List.length_append]; simp; omega
    · rw [if_pos hk] at h3
      have : b.length = 0 := by simpa using h3
      rw [List.length_append, this]; simp
  · rw [e, whN_snoc]
    rcases hk with hk | hk
    · rw [if_neg (by omega)] at h3
      have : whN (b.map (recAt xs)) < 60 := by simpa using h3
      rw [if_pos hk]; omega
    · rw [if_neg (by omega)]; omega
  · rcases List.mem_append.1 hq with hq | hq
    · exact i3 q hq
    · obtain rfl : q = p := by simpa using hq
      exact h1

/-- The law of a chain of records. -/
def Lnk (xs : List Int) : Int → List Int → Prop
  | p, [] => p = 0
  | p, q :: b => p = q ∧ ¬ p = 0 ∧ recOk xs p = true ∧ Lnk xs (recAt xs p).next b

/-- All that is told of a chain. -/
theorem chn_told {xs : List Int} : ∀ (f : Nat) (p : Int) (b t : List Int), chn xs f p b = some t →
    ∃ c, t = b ++ c ∧ Lnk xs p c ∧ (Iv xs b → Iv xs t) ∧ ((b.map (recAt xs)).Pairwise (fun x y => ¬ x.id = y.id) → (t.map (recAt xs)).Pairwise (fun x y => ¬ x.id = y.id)) ∧
      ((∀ i, 0 < i → i < b.length → ¬ (recAt xs (b.getD i 0)).kind = 1) → ∀ i, 0 < i → i < t.length → ¬ (recAt xs (t.getD i 0)).kind = 1)
  | 0, p, b, t, h => by
    unfold chn at h
    by_cases h0 : p = 0
    · rw [if_pos h0] at h; cases h
      exact ⟨[], by simp, h0, id, id, id⟩
    · rw [if_neg h0] at h; cases h
  | f + 1, p, b, t, h => by
    by_cases h0 : p = 0
    · subst h0
      rw [chn_zero] at h; cases h
      exact ⟨[], by simp, rfl, id, id, id⟩
    · by_cases h1 : recOk xs p = true
      · by_cases h2 : fitsB (recAt xs p) (b.map (recAt xs)) = true
        · rw [chn_yes h0 h1 h2] at h
          obtain ⟨c, e, k1, k2, k3, k4⟩ := chn_told f _ _ _ h
          have hh := h2
          unfold fitsB at hh
          rw [Bool.and_eq_true] at hh
          refine ⟨p :: c, by rw [e]; simp, ⟨rfl, h0, h1, k1⟩, fun hi => k2 (hi.snoc h1 h2), fun hp => k3 ?_, fun hk => k4 ?_⟩
          · rw [List.map_append, List.pairwise_append]
            refine ⟨hp, by simp, fun x hx y hy => ?_⟩
            obtain rfl : y = recAt xs p := by simpa using hy
            have h5 := hh.1
            simp only [hasB, Bool.not_eq_true', List.any_eq_false] at h5
            simpa using h5 x hx
          · intro i hi0 hil
            by_cases e : i < b.length
            · have : (b ++ [p]).getD i 0 = b.getD i 0 := by simp [List.getD_eq_getElem?_getD, List.getElem?_append_left e]
              rw [this]; exact hk i hi0 e
            · have : i = b.length := by simp at hil; omega
              subst this
              rw [show (b ++ [p]).getD b.length 0 = p by simp [List.getD_eq_getElem?_getD]]
              intro h6
              have h7 := hh.2
              rw [if_pos h6] at h7
              have : b.length = 0 := by simpa using h7
              omega
        · rw [chn_no h0 (.inr (by simpa using h2))] at h; cases h
      · rw [chn_no h0 (.inl (by simpa using h1))] at h; cases h

/-- What Records tells. -/
def recE (xs : List Int) (first : Int) : Int := if Wd.devB xs.length = true then (if (recs xs first).isSome = true then 0 else 7) else 2
def recP (xs : List Int) (first : Int) : List Int := if Wd.devB xs.length = true then (recs xs first).getD [] else []
def recL (xs : List Int) (first : Int) : List Rec := (recP xs first).map (recAt xs)
theorem rec_some {xs : List Int} {first : Int} {b : List Int} (hd : Wd.devB xs.length = true) (h : recs xs first = some b) : recE xs first = 0 ∧ recP xs first = b ∧ recL xs first = b.map (recAt xs) := by
  unfold recL recE recP
  rw [if_pos hd, if_pos hd, h]
  exact ⟨rfl, rfl, rfl⟩
theorem rec_none {xs : List Int} {first : Int} (hd : Wd.devB xs.length = true) (h : recs xs first = none) : recE xs first = 7 ∧ recP xs first = [] ∧ recL xs first = [] := by
  unfold recL recE recP
  rw [if_pos hd, if_pos hd, h]
  exact ⟨rfl, rfl, rfl⟩
theorem rec_dev {xs : List Int} {first : Int} (hd : Wd.devB xs.length = false) : recE xs first = 2 ∧ recP xs first = [] ∧ recL xs first = [] := by
  unfold recL recE recP
  rw [if_neg (by rw [hd]; decide), if_neg (by rw [hd]; decide)]
  exact ⟨rfl, rfl, rfl⟩
theorem recs_told {xs : List Int} {first : Int} {b : List Int} (h : recs xs first = some b) :
    Lnk xs first b ∧ Iv xs b ∧ (b.map (recAt xs)).Pairwise (fun x y => ¬ x.id = y.id) ∧ ∀ i, 0 < i → i < b.length → ¬ (recAt xs (b.getD i 0)).kind = 1 := by
  obtain ⟨c, e, k1, k2, k3, k4⟩ := chn_told 62 first [] b h
  simp only [List.nil_append] at e
  subst e
  exact ⟨k1, k2 (Iv.nil xs), k3 (by simp), k4 (by simp)⟩

/-- Which record is of that id, and whole. -/
def fnd (l : List Rec) (id : Int) : Option Nat := l.findIdx? fun r => r.id == id && r.kind == 0
def fndN (l : List Rec) (id : Int) : Int := match fnd l id with | some i => (i : Int) | none => 0

end Wi
namespace Wi
open Go Go.RowKit

def cells8 (r : Wr.Rec) : List Value := [.int .i64 r.next, .int .i64 r.id, .int .i64 r.parent, .int .i64 r.root, .int .i64 r.size, .int .i64 r.kind, .int .i64 r.frames, .int .i64 r.digest]

/-- At the offset o of the block b lies the record r. -/
def Ra (w : World) (b o : Nat) (r : Wr.Rec) : Prop :=
  w.cell? ⟨b, o, none⟩ = some (.int .i64 r.next) ∧ w.cell? ⟨b, o + 1, none⟩ = some (.int .i64 r.id) ∧ w.cell? ⟨b, o + 2, none⟩ = some (.int .i64 r.parent) ∧ w.cell? ⟨b, o + 3, none⟩ = some (.int .i64 r.root) ∧
  w.cell? ⟨b, o + 4, none⟩ = some (.int .i64 r.size) ∧ w.cell? ⟨b, o + 5, none⟩ = some (.int .i64 r.kind) ∧ w.cell? ⟨b, o + 6, none⟩ = some (.int .i64 r.frames) ∧ w.cell? ⟨b, o + 7, none⟩ = some (.int .i64 r.digest)

/-- The slice value v holds the records l in the world w. -/
def Rs (w : World) (v : Value) (l : List Wr.Rec) : Prop :=
  ∃ a n cap, v = .slice a n cap ∧ l.length = n ∧ n ≤ cap ∧ cap ≤ 9223372036854775807 ∧ n ≤ 1099511627776 ∧
    (0 < n → ∃ b off, a = some ⟨b, off, none⟩ ∧ b < w.heap.size ∧ ∀ i, i < n → Ra w b (off + i * 8) (l.getD i Wr.r0))

theorem Ra.lt {w : World} {b o : Nat} {r : Wr.Rec} (h : Ra w b o r) : b < w.heap.size := Wc.cell_lt h.1
theorem Ra.keep {w w' : World} {b o : Nat} {r : Wr.Rec} (h : Ra w b o r) (hb : Below w.heap.size w w') : Ra w' b o r := by
  have hl := h.lt
  obtain ⟨h0, h1, h2, h3, h4, h5, h6, h7⟩ := h
  exact ⟨(hb.cell (p := ⟨b, o, none⟩) hl).trans h0, (hb.cell (p := ⟨b, o + 1, none⟩) hl).trans h1, (hb.cell (p := ⟨b, o + 2, none⟩) hl).trans h2, (hb.cell (p := ⟨b, o + 3, none⟩) hl).trans h3,
    (hb.cell (p := ⟨b, o + 4, none⟩) hl).trans h4, (hb.cell (p := ⟨b, o + 5, none⟩) hl).trans h5, (hb.cell (p := ⟨b, o + 6, none⟩) hl).trans h6, (hb.cell (p := ⟨b, o + 7, none⟩) hl).trans h7⟩

theorem Rs.keep {w w' : World} {v : Value} {l : List Wr.Rec} (h : Rs w v l) (hb : Below w.heap.size w w') : Rs w' v l := by
  obtain ⟨a, n, cap, h1, h2, h3, h4, h5, h6⟩ := h
  refine ⟨a, n, cap, h1, h2, h3, h4, h5, fun hn => ?_⟩
  obtain ⟨b, off, k1, k2, k3⟩ := h6 hn
  exact ⟨b, off, k1, Nat.lt_of_lt_of_le k2 hb.size, fun i hi => (k3 i hi).keep hb⟩
theorem Rs.nil (w : World) : Rs w (.slice none 0 0) [] := ⟨none, 0, 0, rfl, rfl, Nat.le_refl _, by omega, by omega, fun h => by omega⟩
theorem Rs.open {w : World} {v : Value} {l : List Wr.Rec} (h : Rs w v l) :
    (l = [] ∧ ∃ a cap, v = .slice a 0 cap ∧ cap ≤ 9223372036854775807) ∨
    ∃ b off n cap, v = .slice (some ⟨b, off, none⟩) n cap ∧ 0 < n ∧ l.length = n ∧ n ≤ cap ∧ cap ≤ 9223372036854775807 ∧ n ≤ 1099511627776 ∧ b < w.heap.size ∧
      ∀ i, i < n → Ra w b (off + i * 8) (l.getD i Wr.r0) := by
  obtain ⟨a, n, cap, rfl, h2, h3, h4, h5, h6⟩ := h
  by_cases hn : 0 < n
  · obtain ⟨b, off, rfl, k2, k3⟩ := h6 hn
    exact .inr ⟨b, off, n, cap, rfl, hn, h2, h3, h4, h5, k2, k3⟩
  · obtain rfl : n = 0 := by omega
    exact .inl ⟨List.eq_nil_of_length_eq_zero h2, a, cap, rfl, h4⟩
theorem rs_len {w : World} {a : Option Addr} {n cap : Nat} {l : List Wr.Rec} (h : Rs w (.slice a n cap) l) : l.length = n := by
  obtain ⟨_, _, _, h1, h2, _⟩ := h; cases h1; exact h2
theorem rs_drewN {w : World} {v : Value} {l : List Wr.Rec} (h : Rs w v l) (n : Nat) : Rs (w.drewN n) v l := h.keep (below_drewN (Below.refl _ _) n)

theorem flat8_length : ∀ l : List Wr.Rec, (l.flatMap cells8).length = l.length * 8
  | [] => rfl
  | q :: l => by simp [List.flatMap_cons, flat8_length l, cells8]; omega
theorem flat8_get : ∀ (l : List Wr.Rec) (i j : Nat) (hi : i < l.length), j < 8 → (l.flatMap cells8)[i * 8 + j]? = (cells8 l[i])[j]?
  | [], i, _, hi, _ => by simp at hi
  | q :: l, 0, j, _, hj => by
    rw [List.flatMap_cons, List.getElem?_append_left (by simp [cells8]; omega)]
    simp
  | q :: l, i + 1, j, hi, hj => by
    rw [List.flatMap_cons, List.getElem?_append_right (by simp [cells8]; omega)]
    have := flat8_get l i j (by simpa using hi) hj
    have e : (i + 1) * 8 + j - (cells8 q).length = i * 8 + j := by simp [cells8]; omega
    rw [e, this]
    simp

theorem ra_of_cells {w : World} {b o : Nat} {r : Wr.Rec} (h : ∀ j u, (cells8 r)[j]? = some u → w.cell? ⟨b, o + j, none⟩ = some u) : Ra w b o r :=
  ⟨by simpa using h 0 _ rfl, h 1 _ rfl, h 2 _ rfl, h 3 _ rfl, h 4 _ rfl, h 5 _ rfl, h 6 _ rfl, h 7 _ rfl⟩

/-- Memory of the call's own, from the block base on, that holds records: e is the number of their type. -/
def Or (e base : Nat) (w : World) (v : Value) (l : List Wr.Rec) : Prop := w.ownsRow base e 8 v l.length (l.flatMap cells8) ∧ l.length ≤ 1048576

theorem Or.nil (e base : Nat) (w : World) : Or e base w (.slice none 0 0) [] := ⟨World.ownsRow_nil _ _ _ _, by simp⟩
theorem Or.keep {e base : Nat} {w w' : World} {v : Value} {l : List Wr.Rec} (h : Or e base w v l) (hb : Below w.heap.size w w') : Or e base w' v l := by
  obtain ⟨h2, h3⟩ := h
  refine ⟨⟨h2.1, ?_⟩, h3⟩
  rcases h2.2 with hn | ⟨g, cap, cur, hv, hbg, hg, rest⟩
  · exact .inl hn
  · refine .inr ⟨g, cap, cur, hv, hbg, ?_, rest⟩
    rw [hb.block g (Array.getElem?_eq_some_iff.1 hg).1]
    exact hg
theorem Or.rs {e base : Nat} {w : World} {v : Value} {l : List Wr.Rec} (h : Or e base w v l) : Rs w v l := by
  obtain ⟨h2, h3⟩ := h
  rcases h2.2 with ⟨rfl, h0⟩ | ⟨g, cap, cur, rfl, hg, hh, k1, k2, k3, k4⟩
  · obtain rfl := List.eq_nil_of_length_eq_zero h0
    exact Rs.nil w
  · refine ⟨_, l.length, cap, rfl, rfl, k1, by unfold maxLen at k2; omega, by omega, fun h0 => ⟨g, 0, rfl, (Array.getElem?_eq_some_iff.1 hh).1, fun i hi => ?_⟩⟩
    rw [show l.getD i Wr.r0 = l[i] by simp [hi]]
    refine ra_of_cells (fun j u hu => ?_)
    have hj : j < 8 := by have := (List.getElem?_eq_some_iff.1 hu).1; simpa [cells8] using this
    have := h2.cells (g := g) rfl (i * 8 + j) u (by rw [flat8_get l i j hi hj]; exact hu)
    rw [Wc.add_none] at this
    rw [Nat.zero_add] at this ⊢
    exact this
theorem Or.slice {e base : Nat} {w : World} {v : Value} {l : List Wr.Rec} (h : Or e base w v l) : ∃ a c, v = .slice a l.length c := by
  obtain ⟨h2, h3⟩ := h
  rcases h2.2 with ⟨rfl, h0⟩ | ⟨g, cap, cur, rfl, hg, hh, k1, k2, k3, k4⟩
  · exact ⟨none, 0, by simp [h0]⟩
  · exact ⟨some ⟨g, 0, none⟩, cap, rfl⟩

/-- It stays where blocks of its type stay. -/
theorem Or.types {e base : Nat} {w w' : World} {v : Value} {l : List Wr.Rec} (h : Or e base w v l) (hb : ∀ (b : Nat) (cs : Array Value) (fr : Nat × Nat), w.heap[b]? = some (.cells cs e fr) → w'.heap[b]? = some (.cells cs e fr)) : Or e base w' v l := by
  obtain ⟨h2, h3⟩ := h
  refine ⟨⟨h2.1, ?_⟩, h3⟩
  rcases h2.2 with hn | ⟨g, cap, cur, hv, hbg, hg, rest⟩
  · exact .inl hn
  · exact .inr ⟨g, cap, cur, hv, hbg, hb _ _ _ hg, rest⟩
theorem ov_types {α : Type} {val : α → Value} {e base : Nat} {w w' : World} {v : Value} {l : List α} (h : Wv.Ov val e base w v l) (hb : ∀ (b : Nat) (cs : Array Value) (fr : Nat × Nat), w.heap[b]? = some (.cells cs e fr) → w'.heap[b]? = some (.cells cs e fr)) : Wv.Ov val e base w' v l := by
  obtain ⟨h2, h3⟩ := h
  refine ⟨⟨h2.1, ?_⟩, h3⟩
  rcases h2.2 with hn | ⟨g, cap, cur, hv, hbg, hg, rest⟩
  · exact .inl hn
  · exact .inr ⟨g, cap, cur, hv, hbg, hb _ _ _ hg, rest⟩

/-- A record is put behind memory of the call's own; blocks of other things, and younger ones, stay. -/
theorem append_rec {P : Program} {e t ty base bytes : Nat} {i : TypeInfo} {z : Value} {w0 w : World} {v : Value} {ad : Addr} {c : Nat} {l : List Wr.Rec} {r : Wr.Rec} (ht : P.underlying t = some (.slice e)) (hi : P.info? e = some i) (hz : i.zero = some z) (hsz : i.size = 8) (hby : i.bytes = bytes)
    (hzs : z.cells.size = 8) (h8 : bytes ≤ 64) (hv0 : Or e base w0 v l) (hk : Below w0.heap.size w0 w) (hu : ∀ j x, (cells8 r)[j]? = some x → w.cell? (ad.add j) = some x) (hl : l.length + 1 ≤ 1048576) (hbase : base ≤ w.heap.size) :
    ∃ a n c' w', Sem.run P (Builtin.append_ #[t, t] ty #[v, .slice (some ad) 1 c]) w = .ok (.slice a n c') w' ∧ Or e base w' (.slice a n c') (l ++ [r]) ∧ Below base w w' ∧
      (∀ (b : Nat) (cs : Array Value) (T : TypeId) (fr : Nat × Nat), w.heap[b]? = some (.cells cs T fr) → T ≠ e ∨ w0.heap.size ≤ b → w'.heap[b]? = some (.cells cs T fr)) := by
  have hv := hv0.keep hk
  obtain ⟨h2, h3⟩ := hv
  obtain ⟨v', w', k1, k2, k3, -⟩ := run_append_own (P := P) w base t ty e i z 8 bytes ht hi hz hsz hby hzs (by decide) v _ _ h2 ad 1 c (cells8 r) rfl hu (by
      intro x hx; simp only [cells8, List.mem_cons, List.not_mem_nil, or_false] at hx; rcases hx with rfl | rfl | rfl | rfl | rfl | rfl | rfl | rfl <;> rfl) (by unfold maxLen; omega) (by
        have := Nat.mul_le_mul_left (l.length + 1) h8
        omega) hbase
  have hO : Or e base w' v' (l ++ [r]) := by
    refine ⟨?_, by simpa using hl⟩
    have : (l ++ [r]).flatMap cells8 = l.flatMap cells8 ++ cells8 r := by simp
    rw [this]; simpa using k2
  obtain ⟨a, c', rfl⟩ := hO.slice
  refine ⟨a, _, c', w', k1, hO, (Below.refl _ _).grown k3 hbase (fun g hg => (h2.lt g hg).1), fun b cs T fr hb hT => ?_⟩
  refine (k3.block b (Array.getElem?_eq_some_iff.1 hb).1 (fun ee => ?_)).trans hb
  rcases hT with hT | hT
  · rcases h2.2 with ⟨rfl, _⟩ | ⟨g2, c2, cur2, rfl, _, hg2, _⟩
    · cases ee
    · have : b = g2 := by simpa [Value.ownBlock] using ee
      subst this
      rw [hb] at hg2
      cases hg2
      exact hT rfl
  · have := (hv0.1.lt b (by rw [ee])).2
    omega

/-- A record's cells, laid. -/
theorem lit8 (w : World) (r : Wr.Rec) (e g : Nat) (hg : g = w.heap.size) : ∀ j u, (cells8 r)[j]? = some u →
    (w.alloc (.cells #[.int .i64 r.next, .int .i64 r.id, .int .i64 r.parent, .int .i64 r.root, .int .i64 r.size, .int .i64 r.kind, .int .i64 r.frames, .int .i64 r.digest] e)).cell? ((⟨g, 0, none⟩ : Addr).add j) = some u := by
  subst hg
  intro j u hu
  have hr := World.rowIs_alloc w (cells8 r).toArray e (fun i => (cells8 r).getD i .nilFunc) (fun i hi => by
    have : i < (cells8 r).length := by simpa using hi
    simp [this])
  have hj : j < 8 := by have := (List.getElem?_eq_some_iff.1 hu).1; simpa [cells8] using this
  have h1 := hr.cell (i := j) (by simpa [cells8] using hj)
  rw [Wc.add_none, Nat.zero_add]
  refine h1.trans ?_
  rw [List.getD_eq_getElem?_getD, hu]; rfl

end Wi
namespace Wi
/-- What read tells. -/
def recGot (xs : List Int) (p : Int) : Wr.Rec := if recOk xs p = true then recAt xs p else Wr.r0
theorem any_snoc {l : List Wr.Rec} {k : Nat} (f : Wr.Rec → Bool) (h : k < l.length) : (l.take (k + 1)).any f = ((l.take k).any f || f (l.getD k Wr.r0)) := by
  have : l.take (k + 1) = l.take k ++ [l.getD k Wr.r0] := by rw [List.take_add_one]; simp [h]
  rw [this]; simp
theorem any_take {l : List Wr.Rec} {k : Nat} (f : Wr.Rec → Bool) (h : k < l.length) (hp : f (l.getD k Wr.r0) = true) : l.any f = true := by
  rw [List.any_eq_true]
  exact ⟨l.getD k Wr.r0, by simp [h], hp⟩
theorem whN_take {l : List Wr.Rec} {k : Nat} (h : k < l.length) : whN (l.take (k + 1)) = whN (l.take k) + (if (l.getD k Wr.r0).kind = 0 then 1 else 0) := by
  have : l.take (k + 1) = l.take k ++ [l.getD k Wr.r0] := by rw [List.take_add_one]; simp [h]
  rw [this, whN_snoc]
end Wi
namespace Go.Proofs.YtfflhiajbioheaaGreat
open Go.RowKit

theorem ret_cell41 {fn : Func} {tmps : Array Value} {w : World} {B : Nat} {s : Wr.Rec} {v : Value} (hr : fn.results = #[.cell 4 39, .tmp 5]) (hp : tmps.getD 4 undef = .pointer (some ⟨B, 0, none⟩)) (hv : tmps.getD 5 undef = v) (h : Rc w B s) :
    (results fn tmps).run Tryz.prog w = .ok (.tuple #[rv s, v]) w := by
  obtain ⟨c0, c1, c2, c3, c4, c5, c6, c7⟩ := h
  rw [results_cell_tmp hr, hp, hv]
  simp [go_sem, c0, c1, c2, c3, c4, c5, c6, c7, rv]

set_option maxHeartbeats 1600000 in
theorem oread_any (v : Value) (p : Int) (xs : List Int) (w : World) (hv : Wc.Bs w v xs) :
    Calls Tryz.prog 72 #[v, .int .i64 p] w fun e w' => e = .returned (.tuple #[rv (Wi.recGot xs p), .bool (Wi.recOk xs p)]) ∧ Below w.heap.size w w' := by
  obtain ⟨ai, ni, ci, rfl, -⟩ := id hv
  have H0 := Wc.hid (hv.alloc (.cells #[.int .i64 0, .int .i64 0, .int .i64 0, .int .i64 0, .int .i64 0, .int .i64 0, .int .i64 0, .int .i64 0] 39))
  clear hv
  have C0 := Wc.hid (Rh.new w Wr.r0)
  by_cases hp : p < 2
  · have ⟨c0, c1, c2, c3, c4, c5, c6, c7⟩ := C0.out.rc
    have hf := C0.out.frozen
    go_enter Tryz.func72, Tryz.ntmps72
    go_wp2_with fail
    have e1 : Wi.recOk xs p = false := by unfold Wi.recOk; simp; omega
    exact bodyPost_ret (ret_cell41 rfl rfl rfl C0.out.rc) rfl ⟨by unfold Wi.recGot; rw [e1]; rfl, (Below.refl w.heap.size w).alloc (Nat.le_refl _) _⟩
  by_cases hz : Wd.rdE xs.length p = 0
  · have HZ := Wc.hid hz
    have HP := Wc.hid hp
    clear hz
    go_enter Tryz.func72, Tryz.ntmps72
    go_wp2_with fail
    refine (read_any ai ni ci p xs _ H0.out).mono ?_
    rintro e w1 ⟨ax, cx, rfl, hv1, hb1⟩
    rw [HZ.out]
    clear hp
    go_wp2_with fail
    refine (parse8_any _ _ _ hv1).mono ?_
    rintro e w2 ⟨rfl, hb2⟩
    obtain ⟨n, hn⟩ : ∃ n, Wr.par (Wd.rdR xs p) = n := ⟨_, rfl⟩
    obtain ⟨E, hE⟩ : ∃ E, Wr.parE (Wd.rdR xs p) = E := ⟨_, rfl⟩
    rw [hn, hE]
    have HG : Hid (n = Wi.recGot xs p) := Wc.hid (by
      unfold Wi.recGot
      by_cases e : Wi.recOk xs p = true
      · rw [if_pos e, Wi.recAt, hn]
      · rw [if_neg e, ← hn, Wr.par, if_neg]
        intro h
        exact e (Wi.recOk_iff.2 ⟨by have := HP.out; omega, h⟩))
    have HE : Hid ((E == 0) = Wi.recOk xs p) := Wc.hid (by
      rw [← hE, Wi.recOk]
      have := HP.out
      simp; omega)
    clear hn hE
    unfold rv
    have C2 := Wc.hid (((C0.out.keep hb1).keep hb2).keep ((Below.refl _ _).alloc (Nat.le_refl _) (.cells #[.int .i64 n.next, .int .i64 n.id, .int .i64 n.parent, .int .i64 n.root, .int .i64 n.size, .int .i64 n.kind, .int .i64 n.frames, .int .i64 n.digest] 39)))
    have ⟨d0, d1, d2, d3, d4, d5, d6, d7⟩ := (Rh.new w2 n).rc
    have ⟨c0, c1, c2, c3, c4, c5, c6, c7⟩ := C2.out.rc
    have hf := C2.out.frozen
    have HB := Wc.hid ((Wc.step (Wc.step ((Below.refl w.heap.size w).alloc (Nat.le_refl _) _) (Nat.le_refl _) hb1) (Nat.le_refl _) hb2))
    clear hb1 hb2 hv1
    go_wp2_with fail
    have H9 := C2.out.over n
    exact bodyPost_ret (ret_cell41 rfl rfl rfl H9.rc) rfl ⟨by rw [← HG.out, ← HE.out]; rfl, below8 (HB.out.alloc HB.out.size _) (Nat.le_refl _) n⟩
  · have e1 := rd_fail hz
    have e2 : Wi.recOk xs p = false := by unfold Wi.recOk; rw [e1, Wi.parE_nil]; simp
    have HZ := Wc.hid hz
    obtain ⟨E, hE⟩ : ∃ E, Wd.rdE xs.length p = E := ⟨_, rfl⟩
    rw [hE] at hz
    have hz' : (E != 0) = true := by simpa using hz
    have HE := Wc.hid hE
    clear hE hz
    go_enter Tryz.func72, Tryz.ntmps72
    go_wp2_with fail
    refine (read_any ai ni ci p xs _ H0.out).mono ?_
    rintro e w1 ⟨ax, cx, rfl, hv1, hb1⟩
    rw [HE.out]
    have C2 := Wc.hid (C0.out.keep hb1)
    have ⟨c0, c1, c2, c3, c4, c5, c6, c7⟩ := C2.out.rc
    have hf := C2.out.frozen
    have HB := Wc.hid (Wc.step ((Below.refl w.heap.size w).alloc (Nat.le_refl _) _) (Nat.le_refl _) hb1)
    clear hb1 hv1
    go_wp2_with fail
    have H9 := C2.out.over Wr.r0
    exact bodyPost_ret (ret_cell41 rfl rfl rfl H9.rc) rfl ⟨by unfold Wi.recGot; rw [e2]; rfl, below8 HB.out (Nat.le_refl _) Wr.r0⟩

set_option maxHeartbeats 800000 in
theorem fitclos_any (P1 : Nat) (a r : Wr.Rec) (w : World) (h : Rh w P1 r) :
    Calls Tryz.prog 87 #[rv a, .pointer (some ⟨P1, 0, none⟩)] w fun e w' => e = .returned (.bool (a.id == r.id)) ∧ Below w.heap.size w w' := by
  have b1 : Below w.heap.size w (w.alloc (.cells #[.int .i64 a.next, .int .i64 a.id, .int .i64 a.parent, .int .i64 a.root, .int .i64 a.size, .int .i64 a.kind, .int .i64 a.frames, .int .i64 a.digest] 39)) := (Below.refl _ _).alloc (Nat.le_refl _) _
  have ⟨d0, d1, d2, d3, d4, d5, d6, d7⟩ := (Rh.new w a).rc
  have ⟨c0, c1, c2, c3, c4, c5, c6, c7⟩ := (h.keep b1).rc
  have HB := Wc.hid b1
  clear b1 h
  unfold rv
  go_enter Tryz.func87, Tryz.ntmps87
  go_wp2_with fail
  go_ret
  exact ⟨rfl, HB.out⟩

set_option maxHeartbeats 1600000 in
theorem indexr_any (a : Option Addr) (n cap P1 : Nat) (l : List Wr.Rec) (r : Wr.Rec) (w : World) (hl : Wi.Rs w (.slice a n cap) l) (hr : Rh w P1 r) :
    Calls Tryz.prog 98 #[.slice a n cap, .func (.func 87) #[] #[.pointer (some ⟨P1, 0, none⟩)]] w fun e w' => ∃ z : Int, e = .returned (.int .i64 z) ∧ decide (0 ≤ z) = Wi.hasB l r.id ∧ Below w.heap.size w w' := by
  obtain ⟨a', n', cap', h1, hl, hcap, hcap2, hln, hpos⟩ := hl
  cases h1
  have HP := Wc.hid hpos
  have HL := Wc.hid hl
  have HR := Wc.hid hr
  clear hpos hl hr
  go_enter Tryz.func98, Tryz.ntmps98
  go_wp2_with fail
  go_loopw [8] (fun i wr => ∃ k : Nat, i = .int .i64 k ∧ k ≤ n ∧ Hid (Below w.heap.size w wr) ∧ Hid ((l.take k).any (fun a => a.id == r.id) = false)) (fun i _ => n - (intOf i).toNat)
  case atStart => exact ⟨0, rfl, by omega, Wc.hid (Below.refl _ _), Wc.hid (by simp)⟩
  case round =>
    obtain ⟨k, rfl, hk, RB, RZ⟩ := hrel
    by_cases hlt : k < n
    · obtain ⟨b, off, rfl, hblt, hcs⟩ := HP.out (by omega)
      have hx := (hcs k hlt).keep RB.out
      have hkl : k < l.length := by rw [HL.out]; exact hlt
      have HS := Wc.hid (Wi.any_snoc (fun a => a.id == r.id) hkl)
      have HT := Wc.hid (Wi.any_take (l := l) (fun a => a.id == r.id) hkl)
      obtain ⟨x, hxe⟩ : ∃ x, l.getD k Wr.r0 = x := ⟨_, rfl⟩
      rw [hxe] at hx HS HT
      have ⟨c0, c1, c2, c3, c4, c5, c6, c7⟩ := hx
      clear hcs hx hkl hxe
      cases hp : (x.id == r.id)
      · have HPp := Wc.hid hp
        clear hp
        go_wp2_with fail
        refine (fitclos_any P1 x r wr (HR.out.keep RB.out)).mono ?_
        rintro e w1 ⟨rfl, hb1⟩
        rw [HPp.out]
        have HB := Wc.hid (Wc.step RB.out (Nat.le_refl _) hb1)
        clear hb1
        go_wp2_with fail
        go_roundw
        case rel => exact ⟨k + 1, by go_num, by omega, HB, Wc.hid (by rw [HS.out, RZ.out]; simpa using HPp.out)⟩
        case measure => simp [intOf]; omega
      · have HPp := Wc.hid hp
        clear hp
        go_wp2_with fail
        refine (fitclos_any P1 x r wr (HR.out.keep RB.out)).mono ?_
        rintro e w1 ⟨rfl, hb1⟩
        rw [HPp.out]
        have HB := Wc.hid (Wc.step RB.out (Nat.le_refl _) hb1)
        clear hb1
        go_wp2_with fail
        go_ret
        refine ⟨_, rfl, ?_, HB.out⟩
        have := HT.out HPp.out
        unfold Wi.hasB
        rw [this]; simp
    · go_wp2_with fail
      go_ret
      refine ⟨_, rfl, ?_, RB.out⟩
      have := RZ.out
      rw [List.take_of_length_le (by rw [HL.out]; omega)] at this
      unfold Wi.hasB
      rw [this]; rfl

set_option maxHeartbeats 800000 in
theorem containsr_any (a : Option Addr) (n cap P1 : Nat) (l : List Wr.Rec) (r : Wr.Rec) (w : World) (hl : Wi.Rs w (.slice a n cap) l) (hr : Rh w P1 r) :
    Calls Tryz.prog 86 #[.slice a n cap, .func (.func 87) #[] #[.pointer (some ⟨P1, 0, none⟩)]] w fun e w' => e = .returned (.bool (Wi.hasB l r.id)) ∧ Below w.heap.size w w' := by
  have HI := Wc.hid (indexr_any a n cap P1 l r w hl hr)
  clear hl hr
  go_enter Tryz.func86, Tryz.ntmps86
  go_wp2_with fail
  refine HI.out.mono ?_
  rintro e w1 ⟨z, rfl, hz, hb⟩
  have HZ := Wc.hid hz
  have HB := Wc.hid hb
  clear hz hb
  go_wp2_with fail
  go_ret
  exact ⟨ret_bool (by rw [← HZ.out]), HB.out⟩

set_option maxHeartbeats 1600000 in
theorem snapshots_any (a : Option Addr) (n cap : Nat) (l : List Wr.Rec) (w : World) (hl : Wi.Rs w (.slice a n cap) l) :
    Calls Tryz.prog 88 #[.slice a n cap] w fun e w' => e = .returned (.int .i64 (Wi.whN l : Nat)) ∧ Below w.heap.size w w' := by
  obtain ⟨a', n', cap', h1, hl, hcap, hcap2, hln, hpos⟩ := hl
  cases h1
  have HP := Wc.hid hpos
  have HL := Wc.hid hl
  clear hpos hl
  go_enter Tryz.func88, Tryz.ntmps88
  go_wp2_with fail
  go_loopw [3, 8] (fun z i wr => ∃ k m : Nat, i = .int .i64 k ∧ z = .int .i64 m ∧ k ≤ n ∧ m ≤ k ∧ Hid (Below w.heap.size w wr) ∧ Hid (Wi.whN (l.take k) = m)) (fun _ i _ => n - (intOf i).toNat)
  case atStart => exact ⟨0, 0, rfl, rfl, by omega, by omega, Wc.hid (Below.refl _ _), Wc.hid (by simp [Wi.whN])⟩
  case round =>
    obtain ⟨k, m, rfl, rfl, hk, hm, RB, RZ⟩ := hrel
    by_cases hlt : k < n
    · obtain ⟨b, off, rfl, hblt, hcs⟩ := HP.out (by omega)
      have hx := (hcs k hlt).keep RB.out
      have hkl : k < l.length := by rw [HL.out]; exact hlt
      have HS := Wc.hid (Wi.whN_take hkl)
      obtain ⟨x, hxe⟩ : ∃ x, l.getD k Wr.r0 = x := ⟨_, rfl⟩
      rw [hxe] at hx HS
      have ⟨c0, c1, c2, c3, c4, c5, c6, c7⟩ := hx
      have ⟨d0, d1, d2, d3, d4, d5, d6, d7⟩ := (Rh.new wr x).rc
      have HB := Wc.hid (RB.out.alloc RB.out.size (.cells #[.int .i64 x.next, .int .i64 x.id, .int .i64 x.parent, .int .i64 x.root, .int .i64 x.size, .int .i64 x.kind, .int .i64 x.frames, .int .i64 x.digest] 39))
      clear hcs hx hkl hxe
      by_cases hk0 : x.kind = 0
      · have hkb : (x.kind == 0) = true := by simpa using hk0
        have HS1 : Hid (Wi.whN (l.take (k + 1)) = m + 1) := Wc.hid (by rw [HS.out, RZ.out, if_pos hk0])
        clear hk0
        go_wp2_with fail
        go_roundw
        case rel => exact ⟨k + 1, m + 1, by go_num, by go_num, by omega, by omega, HB, HS1⟩
        case measure => simp [intOf]; omega
      · have hkb : (x.kind == 0) = false := by simpa using hk0
        have HS1 : Hid (Wi.whN (l.take (k + 1)) = m) := Wc.hid (by rw [HS.out, RZ.out, if_neg hk0]; rfl)
        clear hk0
        go_wp2_with fail
        go_roundw
        case rel => exact ⟨k + 1, m, by go_num, rfl, by omega, by omega, HB, HS1⟩
        case measure => simp [intOf]; omega
    · go_wp2_with fail
      go_ret
      have := RZ.out
      rw [List.take_of_length_le (by rw [HL.out]; omega)] at this
      exact ⟨by rw [this]; rfl, RB.out⟩

set_option maxHeartbeats 1600000 in
theorem ofits_any (a : Option Addr) (n cap : Nat) (l : List Wr.Rec) (r : Wr.Rec) (w : World) (hl : Wi.Rs w (.slice a n cap) l) :
    Calls Tryz.prog 73 #[rv r, .slice a n cap] w fun e w' => e = .returned (.bool (Wi.fitsB r l)) ∧ Below w.heap.size w w' := by
  have hln := Wi.rs_len hl
  have b1 : Below w.heap.size w (w.alloc (.cells #[.int .i64 r.next, .int .i64 r.id, .int .i64 r.parent, .int .i64 r.root, .int .i64 r.size, .int .i64 r.kind, .int .i64 r.frames, .int .i64 r.digest] 39)) := (Below.refl _ _).alloc (Nat.le_refl _) _
  have HV := Wc.hid (hl.keep b1)
  have HR := Wc.hid (Rh.new w r)
  have HB := Wc.hid b1
  have HL := Wc.hid hln
  have hmf : ∀ (fn : Fn) (first cap : Array Value) (w : World), (Instr.makeFunc fn first cap).run Tryz.prog w = .ok (.func fn first cap) w := fun _ _ _ _ => rfl
  clear b1 hl hln
  unfold rv
  obtain ⟨h, hh⟩ : ∃ h, Wi.hasB l r.id = h := ⟨_, rfl⟩
  have HH := Wc.hid hh
  clear hh
  go_enter Tryz.func73, Tryz.ntmps73
  go_wp2_with fail
  refine (containsr_any a n cap _ l r _ HV.out HR.out).mono ?_
  rintro e w1 ⟨rfl, hb1⟩
  rw [HH.out]
  have ⟨c0, c1, c2, c3, c4, c5, c6, c7⟩ := (HR.out.keep hb1).rc
  have HB1 := Wc.hid (Wc.step HB.out (Nat.le_refl _) hb1)
  have HV1 := Wc.hid (HV.out.keep hb1)
  clear hb1
  cases h
  · by_cases hk : r.kind = 1
    · have hkb : (r.kind == 1) = true := by simpa using hk
      have HK := Wc.hid hk
      clear hk
      go_wp2_with fail
      go_ret
      refine ⟨ret_bool ?_, HB1.out⟩
      unfold Wi.fitsB
      rw [HH.out, if_pos HK.out, HL.out, Bool.eq_iff_iff]
      simp
    · have hkb : (r.kind == 1) = false := by simpa using hk
      have HK := Wc.hid hk
      clear hk
      go_wp2_with fail
      refine (snapshots_any a n cap l _ HV1.out).mono ?_
      rintro e w2 ⟨rfl, hb2⟩
      have HB2 := Wc.hid (Wc.step HB1.out (Nat.le_refl _) hb2)
      clear hb2
      obtain ⟨m, hm⟩ : ∃ m, Wi.whN l = m := ⟨_, rfl⟩
      rw [hm]
      have HM := Wc.hid hm
      clear hm
      go_wp2_with fail
      go_ret
      refine ⟨ret_bool ?_, HB2.out⟩
      unfold Wi.fitsB
      rw [HH.out, if_neg HK.out, HM.out, Bool.eq_iff_iff]
      simp
      omega
  · go_wp2_with fail
    go_ret
    refine ⟨ret_bool ?_, HB1.out⟩
    unfold Wi.fitsB
    rw [HH.out]; rfl

end Go.Proofs.YtfflhiajbioheaaGreat
namespace Go.Proofs.YtfflhiajbioheaaGreat
open Go.RowKit

theorem Tryz.info41 : (Tryz.prog.info? 39).map (fun i => (i.zero, i.size, i.bytes)) = some (some (.agg #[.int .i64 0, .int .i64 0, .int .i64 0, .int .i64 0, .int .i64 0, .int .i64 0, .int .i64 0, .int .i64 0]), 8, 64) := by kernel_rfl

/-- One record is put behind memory of the call's own; blocks of other things, and younger ones, stay. -/
theorem pushr_run (w0 w : World) (gb base : Nat) (hgb : gb = w.heap.size) (v : Value) (l : List Wr.Rec) (r : Wr.Rec) (hO : Wi.Or 39 base w0 v l) (hk : Below w0.heap.size w0 w) (hl : l.length ≤ 1000) (hb : base ≤ w.heap.size) :
    ∃ a n c w', Sem.run Tryz.prog (Builtin.append_ #[24, 24] 24 #[v, .slice (some ⟨gb, 0, none⟩) 1 1]) (w.alloc (.cells #[.int .i64 r.next, .int .i64 r.id, .int .i64 r.parent, .int .i64 r.root, .int .i64 r.size, .int .i64 r.kind, .int .i64 r.frames, .int .i64 r.digest] 39)) = .ok (.slice a n c) w' ∧
      Wi.Or 39 base w' (.slice a n c) (l ++ [r]) ∧ Below base (w.alloc (.cells #[.int .i64 r.next, .int .i64 r.id, .int .i64 r.parent, .int .i64 r.root, .int .i64 r.size, .int .i64 r.kind, .int .i64 r.frames, .int .i64 r.digest] 39)) w' ∧
      ∀ (b : Nat) (cs : Array Value) (T : TypeId) (fr : Nat × Nat), w.heap[b]? = some (.cells cs T fr) → T ≠ 39 ∨ w0.heap.size ≤ b → w'.heap[b]? = some (.cells cs T fr) := by
  obtain ⟨i, hi, hzz⟩ := Option.map_eq_some_iff.1 Tryz.info41
  simp only [Prod.mk.injEq] at hzz
  obtain ⟨hz, hs, hby⟩ := hzz
  have b1 : Below w.heap.size w (w.alloc (.cells #[.int .i64 r.next, .int .i64 r.id, .int .i64 r.parent, .int .i64 r.root, .int .i64 r.size, .int .i64 r.kind, .int .i64 r.frames, .int .i64 r.digest] 39)) := (Below.refl _ _).alloc (Nat.le_refl _) _
  obtain ⟨a, n, c, w', k1, k2, k3, k4⟩ := Wi.append_rec (P := Tryz.prog) (ty := 24) (c := 1) Tryz.underlying24 hi hz hs hby rfl (by omega) hO (Wc.step hk (Nat.le_refl _) b1) (Wi.lit8 w r 39 gb hgb) (by omega) (by have := b1.size; omega)
  refine ⟨a, n, c, w', k1, k2, k3, fun b cs T fr hb hT => k4 b cs T fr ?_ hT⟩
  rw [b1.block b (Array.getElem?_eq_some_iff.1 hb).1]
  exact hb

/-- What Records tells. -/
def RecPost (xs : List Int) (first : Int) (w : World) : Ending → World → Prop := fun e w' =>
  ∃ a n c a' n' c', e = .returned (.tuple #[.slice a n c, .slice a' n' c', .int .i64 (Wi.recE xs first)]) ∧ Wi.Rs w' (.slice a n c) (Wi.recL xs first) ∧ Wd.In w' (.slice a' n' c') (Wi.recP xs first) ∧ Below w.heap.size w w'

theorem rec_nil {xs : List Int} {first : Int} {w w' : World} {E : Int} (h : Wi.recE xs first = E ∧ Wi.recP xs first = [] ∧ Wi.recL xs first = []) (hb : Below w.heap.size w w') :
    RecPost xs first w (.returned (.tuple #[.slice none 0 0, .slice none 0 0, .int .i64 E])) w' := by
  refine ⟨_, _, _, _, _, _, by rw [h.1], ?_, ?_, hb⟩
  · rw [h.2.2]; exact Wi.Rs.nil _
  · rw [h.2.1]; exact Wv.Rv.nil _

theorem rh_stay {w w' : World} {B : Nat} {r : Wr.Rec} (h : Rh w B r) (hk : ∀ (b : Nat) (cs : Array Value) (T : TypeId) (fr : Nat × Nat), w.heap[b]? = some (.cells cs T fr) → T ≠ 39 ∨ B ≤ b → w'.heap[b]? = some (.cells cs T fr)) : Rh w' B r :=
  hk _ _ _ _ h (.inr (Nat.le_refl _))

set_option maxRecDepth 100000 in
set_option maxHeartbeats 6400000 in
theorem records_yes (ai : Option Addr) (ni ci : Nat) (xs : List Int) (first : Int) (w : World) (hv : Wc.Bs w (.slice ai ni ci) xs) (hd : Wd.devB xs.length = true) :
    Calls Tryz.prog 53 #[.slice ai ni ci, .int .i64 first] w (RecPost xs first w) := by
  have hxl := Wc.bs_len hv
  have hni : ni ≤ 140737488355328 := by obtain ⟨_, _, _, h1, _, _, _, h5, _⟩ := hv; cases h1; exact h5
  have hdn : Wd.devB ni = true := by rw [← hxl]; exact hd
  have hE := (Wd.chk_yes (Wd.devB_iff.1 hdn)).2.symm
  have HV := Wc.hid hv
  have HD := Wc.hid hd
  clear hv hd hxl hdn
  go_enter Tryz.func53, Tryz.ntmps53
  go_wp2_with (go_at_call 70; refine (check_any _ _ _ _ hni).mono ?_; rintro e w' ⟨rfl, rfl⟩; rw [hE])
  clear hE
  go_loopw [9, 10, 11] (fun v u i wr => ∃ (p : Int) (b : List Int) (a : Option Addr) (n c : Nat) (a' : Option Addr) (n' c' : Nat), i = .int .i64 p ∧ v = .slice a n c ∧ u = .slice a' n' c' ∧ Hid (Below w.heap.size w wr) ∧ Hid (Wi.Or 39 w.heap.size wr (.slice a n c) (b.map (Wi.recAt xs))) ∧ Hid (Wv.Ov (Value.int .i64) 3 w.heap.size wr (.slice a' n' c') b) ∧ Hid (Wi.Iv xs b) ∧ Hid (Wi.chn xs (62 - b.length) p b = Wi.recs xs first)) (fun v _ _ _ => 62 - Wc.slLen v)
  case atStart => exact ⟨first, [], none, 0, 0, none, 0, 0, rfl, rfl, rfl, Wc.hid (Below.refl _ _), Wc.hid (Wi.Or.nil _ _ _), Wc.hid (Wv.Ov.nil _ _ _), Wc.hid (Wi.Iv.nil xs), Wc.hid rfl⟩
  case round =>
    obtain ⟨p, b, a, n, c, a', n', c', rfl, rfl, rfl, RB, RO, RP, RI, RC⟩ := hrel
    by_cases hp : p = 0
    · subst hp
      go_wp2_with fail
      go_ret3
      have h1 := RC.out
      rw [Wi.chn_zero] at h1
      have h2 := Wi.rec_some HD.out h1.symm
      refine ⟨_, _, _, _, _, _, by rw [h2.1]; rfl, ?_, ?_, RB.out⟩
      · rw [h2.2.2]; exact RO.out.rs
      · rw [h2.2.1]; exact RP.out.rv
    · have hpb : (p != 0) = true := by simpa using hp
      have HPn := Wc.hid hp
      clear hp
      go_wp2_with fail
      refine (oread_any _ p xs _ (HV.out.keep RB.out)).mono ?_
      rintro e w1 ⟨rfl, hb1⟩
      obtain ⟨r, hr⟩ : ∃ r, Wi.recGot xs p = r := ⟨_, rfl⟩
      obtain ⟨q, hq⟩ : ∃ q, Wi.recOk xs p = q := ⟨_, rfl⟩
      rw [hr, hq]
      have HR := Wc.hid hr
      have HQ := Wc.hid hq
      clear hr hq
      unfold rv
      have hbA : Below w1.heap.size w1 (w1.alloc (.cells #[.int .i64 r.next, .int .i64 r.id, .int .i64 r.parent, .int .i64 r.root, .int .i64 r.size, .int .i64 r.kind, .int .i64 r.frames, .int .i64 r.digest] 39)) := (Below.refl _ _).alloc (Nat.le_refl _) _
      have ⟨d0, d1, d2, d3, d4, d5, d6, d7⟩ := (Rh.new w1 r).rc
      have HX := Wc.hid (Rh.new w1 r)
      have HB1 := Wc.hid (Wc.step RB.out (Nat.le_refl _) hb1)
      have HB2 := Wc.hid (Wc.step HB1.out (Nat.le_refl _) hbA)
      have HO1 := Wc.hid (RO.out.keep hb1)
      have HP2 := Wc.hid ((RP.out.keep hb1).keep hbA)
      have HBA := Wc.hid hbA
      clear hb1 hbA
      cases q
      · go_wp2_with fail
        go_ret3
        exact rec_nil (Wi.rec_none HD.out (by rw [← RC.out]; exact Wi.chn_no HPn.out (.inl HQ.out))) HB2.out
      · have HRA : Hid (Wi.recAt xs p = r) := Wc.hid (by have := HR.out; rw [Wi.recGot, if_pos HQ.out] at this; exact this)
        obtain ⟨f, hf⟩ : ∃ f, Wi.fitsB r (b.map (Wi.recAt xs)) = f := ⟨_, rfl⟩
        have HF := Wc.hid hf
        clear hf
        go_wp2_with fail
        refine (ofits_any a n c (b.map (Wi.recAt xs)) r _ (HO1.out.keep HBA.out).rs).mono ?_
        rintro e w3 ⟨rfl, hb3⟩
        rw [HF.out]
        have HB3 := Wc.hid (Wc.step HB2.out (Nat.le_refl _) hb3)
        cases f
        · clear hb3
          go_wp2_with fail
          go_ret3
          exact rec_nil (Wi.rec_none HD.out (by rw [← RC.out]; exact Wi.chn_no HPn.out (.inr (by rw [HRA.out]; exact HF.out)))) HB3.out
        · have hlen : b.length ≤ 61 := RI.out.len
          obtain ⟨xa, xn, xc, w4, hrun4, hO4, hb4, hs4⟩ := pushr_run w1 w3 w3.heap.size w.heap.size rfl (.slice a n c) (b.map (Wi.recAt xs)) r HO1.out (Wc.step HBA.out (Nat.le_refl _) hb3) (by simp; omega) HB3.out.size
          have hX4 : Rh w4 w1.heap.size r := rh_stay (HX.out.keep hb3) hs4
          have hP4 : Wv.Ov (Value.int .i64) 3 w.heap.size w4 (.slice a' n' c') b := Wi.ov_types (HP2.out.keep hb3) (fun g cs fr hg => hs4 g cs 3 fr hg (.inl (by decide)))
          have hb4' : Below w.heap.size w w4 := (HB3.out.alloc HB3.out.size _).trans hb4
          obtain ⟨ya, yn, yc, w5, hrun5, hP5, hb5, hs5⟩ := push_run w4 w4.heap.size w.heap.size rfl (.slice a' n' c') b p hP4 (by omega) hb4'.size
          have bA : Below w4.heap.size w4 (w4.alloc (.cells #[.int .i64 p] 3)) := (Below.refl _ _).alloc (Nat.le_refl _) _
          have hX5 : Rh w5 w1.heap.size r := hs5 _ _ _ _ (hX4.keep bA) (by decide)
          have hO5 : Wi.Or 39 w.heap.size w5 (.slice xa xn xc) (b.map (Wi.recAt xs) ++ [r]) := (hO4.keep bA).types (fun g cs fr hg => hs5 g cs 39 fr hg (by decide))
          have hb5' : Below w.heap.size w w5 := (hb4'.alloc hb4'.size _).trans hb5
          have ⟨x0, x1, x2, x3, x4, x5, x6, x7⟩ := (HX.out.keep hb3).rc
          have ⟨y0, y1, y2, y3, y4, y5, y6, y7⟩ := hX5.rc
          have hn1 : n = b.length := by have := Wi.rs_len HO1.out.rs; simpa using this.symm
          have hn2 : xn = b.length + 1 := by have := Wi.rs_len hO5.rs; simpa using this.symm
          have HN1 := Wc.hid hn1
          have HN2 := Wc.hid hn2
          have HL := Wc.hid hlen
          have HO5 := Wc.hid hO5
          have HP5 := Wc.hid hP5
          have HB5 := Wc.hid hb5'
          clear hb3 hO4 hb4 hs4 hX4 hP4 hb4' hb5 hs5 bA hX5 hO5 hb5' hP5 hn1 hn2 hlen
          go_wp2_with (first | (at_builtin; refine Wv.wp_append hrun4 rfl rfl rfl rfl ?_) | (at_builtin; refine Wv.wp_append hrun5 rfl rfl rfl rfl ?_))
          go_roundw
          case rel =>
            refine ⟨r.next, b ++ [p], xa, xn, xc, ya, yn, yc, rfl, rfl, rfl, HB5, Wc.hid ?_, HP5, Wc.hid (RI.out.snoc HQ.out (by rw [HRA.out]; exact HF.out)), Wc.hid ?_⟩
            · rw [List.map_append, List.map_singleton, HRA.out]; exact HO5.out
            · rw [← RC.out]
              have hlen := HL.out
              rw [show 62 - b.length = (62 - (b ++ [p]).length) + 1 by simp; omega, Wi.chn_yes HPn.out HQ.out (by rw [HRA.out]; exact HF.out), HRA.out]
          case measure =>
            have h1 := HN1.out
            have h2 := HN2.out
            have h3 := HL.out
            simp [Wc.slLen]; omega

set_option maxHeartbeats 1600000 in
theorem records_any (v : Value) (xs : List Int) (first : Int) (w : World) (hv : Wc.Bs w v xs) :
    Calls Tryz.prog 53 #[v, .int .i64 first] w (RecPost xs first w) := by
  obtain ⟨ai, ni, ci, rfl, -⟩ := id hv
  by_cases hd : Wd.devB xs.length = true
  · exact records_yes ai ni ci xs first w hv hd
  · have hxl := Wc.bs_len hv
    have hni : ni ≤ 140737488355328 := by obtain ⟨_, _, _, h1, _, _, _, h5, _⟩ := hv; cases h1; exact h5
    have hE := (Wd.chk_no (fun h => hd (by rw [hxl]; exact Wd.devB_iff.2 h))).2.symm
    have HD := Wc.hid (show Wd.devB xs.length = false by simpa using hd)
    clear hd hv hxl
    go_enter Tryz.func53, Tryz.ntmps53
    go_wp2_with (go_at_call 70; refine (check_any _ _ _ _ hni).mono ?_; rintro e w' ⟨rfl, rfl⟩; rw [hE])
    go_ret3
    exact rec_nil (Wi.rec_dev HD.out) (Below.refl _ _)

end Go.Proofs.YtfflhiajbioheaaGreat
namespace Wi
open Wt

/-- May all these blocks be taken for that use? -/
def okT (U : Nat → Int) (k : Int) (ps : List Int) : Bool := ps.all fun p => p == 0 || (U p.toNat == 0 || U p.toNat == k)
/-- The uses then. -/
def upT (U : Nat → Int) (k : Int) (ps : List Int) : Nat → Int := fun j => if (j : Int) ∈ ps ∧ ¬ j = 0 then k else U j

theorem okT_snoc (U : Nat → Int) (k : Int) (ps : List Int) (p : Int) : okT U k (ps ++ [p]) = (okT U k ps && (p == 0 || (U p.toNat == 0 || U p.toNat == k))) := by simp [okT]
theorem upT_nil (U : Nat → Int) (k : Int) : upT U k [] = U := by funext j; simp [upT]
theorem upT_zero (U : Nat → Int) (k : Int) (ps : List Int) : upT U k (ps ++ [0]) = upT U k ps := by
  funext j
  unfold upT
  by_cases h : j = 0
  · simp [h]
  · have : ((j : Int) ∈ ps ++ [0]) ↔ (j : Int) ∈ ps := by simp; omega
    simp [this]
theorem upT_snoc (U : Nat → Int) (k : Int) (ps : List Int) (q : Nat) (hq : ¬ q = 0) (j : Nat) : upT U k (ps ++ [(q : Int)]) j = if j = q then k else upT U k ps j := by
  unfold upT
  by_cases h : j = q
  · subst h; simp [hq]
  · have : ((j : Int) ∈ ps ++ [(q : Int)]) ↔ (j : Int) ∈ ps := by simp; omega
    simp [this, h]

/-- Is it a tree of so many sectors? -/
def szB (xs : List Int) (t : Int × Int) : Bool := (tre xs t.1).isSome && ((treS xs t.1).drop t.2.toNat).all (· == 0)
/-- May a tree's blocks be taken? -/
def trB (xs : List Int) (U : Nat → Int) (t : Int × Int) : Bool :=
  szB xs t && (okT U 2 (treN xs t.1) && okT (upT U 2 (treN xs t.1)) 3 ((treS xs t.1).take t.2.toNat))
def trU (xs : List Int) (U : Nat → Int) (t : Int × Int) : Nat → Int := upT (upT U 2 (treN xs t.1)) 3 ((treS xs t.1).take t.2.toNat)
def sndU (xs : List Int) : (Nat → Int) → List (Int × Int) → Bool
  | _, [] => true
  | U, t :: L => trB xs U t && sndU xs (trU xs U t) L

/-- No block is two things: a record, a node, a sector's. -/
def Dis (R N D : List Int) : Prop := (∀ p ∈ R, ¬ p ∈ N ∧ ¬ p ∈ D) ∧ ∀ p ∈ N, ¬ p ∈ D
theorem Dis.sub {R N D N' D' : List Int} (h : Dis R N' D') (hN : ∀ p ∈ N, p ∈ N') (hD : ∀ p ∈ D, p ∈ D') : Dis R N D :=
  ⟨fun p hp => ⟨fun h1 => (h.1 p hp).1 (hN p h1), fun h1 => (h.1 p hp).2 (hD p h1)⟩, fun p hp h1 => h.2 p (hN p hp) (hD p h1)⟩

/-- The uses tell which block is which. -/
def Rep (U : Nat → Int) (R N D : List Int) : Prop := ∀ j : Nat, U j = if (j : Int) ∈ R then 1 else if (j : Int) ∈ N then 2 else if (j : Int) ∈ D then 3 else 0

def secs (xs : List Int) (t : Int × Int) : List Int := ((treS xs t.1).take t.2.toNat).filter fun p => !(p == 0)
def allN (xs : List Int) (L : List (Int × Int)) : List Int := L.flatMap fun t => treN xs t.1
def allD (xs : List Int) (L : List (Int × Int)) : List Int := L.flatMap (secs xs)

theorem s0_nodes : Wt.s0.nodes = [] := rfl
theorem s0_sec : Wt.s0.sec = List.replicate 512 0 := rfl
theorem tre_bounds {xs : List Int} {root : Int} {t : St} (h : tre xs root = some t) :
    t.sec.length = 512 ∧ (∀ x ∈ t.nodes, 2 ≤ x ∧ x < ((xs.length / 64 : Nat) : Int)) ∧ ∀ x ∈ t.sec, x = 0 ∨ 0 < x ∧ x < ((xs.length / 64 : Nat) : Int) := by
  refine ⟨tre_len h, ?_⟩
  by_cases hr : root = 0
  · subst hr
    unfold tre at h
    rw [if_pos rfl] at h
    cases h
    refine ⟨by simp [s0_nodes], fun x hx => ?_⟩
    rw [s0_sec] at hx
    exact .inl (List.eq_of_mem_replicate hx)
  · obtain ⟨h2, hlt, hm, hn, hd⟩ := tre_met hr h
    refine ⟨fun x hx => ⟨met_two xs 3 root 0 s0 t hm h2 (by simp [s0_nodes]) x hx, (met_nodes xs 3 root 0 s0 t hm (by simp [s0_nodes]) x hx).2⟩, fun x hx => ?_⟩
    have h0 := met_pos xs 3 root 0 s0 t hm (by omega) (fun y hy => by rw [s0_sec] at hy; rw [List.eq_of_mem_replicate hy]; decide) x hx
    rcases (sec_dat hm hr x).2 hx with h | h
    · exact .inl h
    · have := (hd x h).1
      by_cases e : x = 0
      · exact .inl e
      · exact .inr ⟨by omega, this⟩

theorem treN_bounds (xs : List Int) (root : Int) : ∀ x ∈ treN xs root, 2 ≤ x ∧ x < ((xs.length / 64 : Nat) : Int) := by
  unfold treN
  split
  · split
    · simp
    · exact (tre_bounds (by assumption)).2.1
  · simp
theorem treS_bounds (xs : List Int) (root : Int) : ∀ x ∈ treS xs root, x = 0 ∨ 0 < x ∧ x < ((xs.length / 64 : Nat) : Int) := by
  unfold treS
  split
  · split
    · simp
    · exact (tre_bounds (by assumption)).2.2
  · simp

theorem okT_iff {U : Nat → Int} {k : Int} {ps : List Int} : okT U k ps = true ↔ ∀ p ∈ ps, ¬ p = 0 → U p.toNat = 0 ∨ U p.toNat = k := by
  simp only [okT, List.all_eq_true, Bool.or_eq_true, beq_iff_eq]
  constructor
  · intro h p hp h0
    rcases h p hp with h | h
    · exact absurd h h0
    · exact h
  · intro h p hp
    by_cases h0 : p = 0
    · exact .inl h0
    · exact .inr (h p hp h0)

theorem rep_nodes {U : Nat → Int} {R N D : List Int} (hR : Rep U R N D) (_hd : Dis R N D) {ns : List Int} (hn : ∀ p ∈ ns, 2 ≤ p) : okT U 2 ns = true ↔ ∀ p ∈ ns, ¬ p ∈ R ∧ (p ∈ N ∨ ¬ p ∈ D) := by
  rw [okT_iff]
  refine forall_congr' fun p => forall_congr' fun hp => ?_
  have h2 := hn p hp
  have e := hR p.toNat
  rw [show ((p.toNat : Nat) : Int) = p by omega] at e
  rw [e]
  by_cases h1 : p ∈ R
  · rw [if_pos h1]; simp [h1]; omega
  · rw [if_neg h1]
    by_cases h3 : p ∈ N
    · rw [if_pos h3]; simp [h1, h3]
    · rw [if_neg h3]
      by_cases h4 : p ∈ D
      · rw [if_pos h4]; simp [h1, h3, h4]; omega
      · rw [if_neg h4]; simp [h1, h4]

theorem rep_secs {U : Nat → Int} {R N D : List Int} (hR : Rep U R N D) {ds : List Int} (hn : ∀ p ∈ ds, 0 ≤ p) : okT U 3 ds = true ↔ ∀ p ∈ ds, ¬ p = 0 → ¬ p ∈ R ∧ ¬ p ∈ N := by
  rw [okT_iff]
  refine forall_congr' fun p => forall_congr' fun hp => forall_congr' fun h0 => ?_
  have h2 := hn p hp
  have e := hR p.toNat
  rw [show ((p.toNat : Nat) : Int) = p by omega] at e
  rw [e]
  by_cases h1 : p ∈ R
  · rw [if_pos h1]; simp [h1]
  · rw [if_neg h1]
    by_cases h3 : p ∈ N
    · rw [if_pos h3]; simp [h3]
    · rw [if_neg h3]
      by_cases h4 : p ∈ D
      · rw [if_pos h4]; simp [h1, h3]
      · rw [if_neg h4]; simp [h1, h3]

theorem rep_upN {U : Nat → Int} {R N D : List Int} (hR : Rep U R N D) {ns : List Int} (hn : ∀ p ∈ ns, 2 ≤ p) (h : ∀ p ∈ ns, ¬ p ∈ R) : Rep (upT U 2 ns) R (N ++ ns) D := by
  intro j
  unfold upT
  by_cases hj : (j : Int) ∈ ns
  · have := hn _ hj
    rw [if_pos ⟨hj, by omega⟩, if_neg (h _ hj), if_pos (List.mem_append.2 (.inr hj))]
  · rw [if_neg (fun h => hj h.1), hR j]
    have : ((j : Int) ∈ N ++ ns) ↔ (j : Int) ∈ N := by simp [hj]
    simp only [this]

theorem rep_upD {U : Nat → Int} {R N D : List Int} (hR : Rep U R N D) {ds : List Int} (h : ∀ p ∈ ds, ¬ p = 0 → ¬ p ∈ R ∧ ¬ p ∈ N) : Rep (upT U 3 ds) R N (D ++ ds.filter fun p => !(p == 0)) := by
  intro j
  unfold upT
  by_cases hj : (j : Int) ∈ ds ∧ ¬ j = 0
  · have h1 := h _ hj.1 (by omega)
    rw [if_pos hj, if_neg h1.1, if_neg h1.2, if_pos (List.mem_append.2 (.inr (List.mem_filter.2 ⟨hj.1, by simp; omega⟩)))]
  · rw [if_neg hj, hR j]
    have : ((j : Int) ∈ D ++ ds.filter fun p => !(p == 0)) ↔ (j : Int) ∈ D := by
      rw [List.mem_append, List.mem_filter]
      constructor
      · rintro (h | ⟨h1, h2⟩)
        · exact h
        · exact absurd ⟨h1, by simp at h2; omega⟩ hj
      · exact .inl
    simp only [this]

theorem secs_mem {xs : List Int} {t : Int × Int} {p : Int} : p ∈ secs xs t ↔ p ∈ (treS xs t.1).take t.2.toNat ∧ ¬ p = 0 := by simp [secs, List.mem_filter]

/-- Sound, step by step, is sound in all. -/
theorem sndU_iff (xs : List Int) : ∀ (L : List (Int × Int)) (U : Nat → Int) (R N D : List Int), Rep U R N D → Dis R N D → (sndU xs U L = true ↔ L.all (szB xs) = true ∧ Dis R (N ++ allN xs L) (D ++ allD xs L))
  | [], U, R, N, D, _, hd => by simp [sndU, allN, allD, hd]
  | t :: L, U, R, N, D, hR, hd => by
    have hn := treN_bounds xs t.1
    have hs : ∀ p ∈ (treS xs t.1).take t.2.toNat, 0 ≤ p := fun p hp => by
      rcases treS_bounds xs t.1 p (List.mem_of_mem_take hp) with h | h <;> omega
    have eN : N ++ allN xs (t :: L) = (N ++ treN xs t.1) ++ allN xs L := by simp [allN]
    have eD : D ++ allD xs (t :: L) = (D ++ secs xs t) ++ allD xs L := by simp [allD]
    rw [eN, eD, List.all_cons, Bool.and_eq_true]
    show (trB xs U t && sndU xs (trU xs U t) L) = true ↔ _
    rw [Bool.and_eq_true]
    unfold trB
    rw [Bool.and_eq_true, Bool.and_eq_true, rep_nodes hR hd (fun p hp => (hn p hp).1)]
    constructor
    · rintro ⟨⟨h1, h2, h3⟩, h4⟩
      have r1 := rep_upN hR (fun p hp => (hn p hp).1) (fun p hp => (h2 p hp).1)
      have k3 := (rep_secs r1 hs).1 h3
      have r2 := rep_upD r1 k3
      have d2 : Dis R (N ++ treN xs t.1) (D ++ secs xs t) := by
        refine ⟨fun p hp => ⟨fun h => ?_, fun h => ?_⟩, fun p hp h => ?_⟩
        · rcases List.mem_append.1 h with h | h
          · exact (hd.1 p hp).1 h
          · exact (h2 p h).1 hp
        · rcases List.mem_append.1 h with h | h
          · exact (hd.1 p hp).2 h
          · obtain ⟨h5, h6⟩ := secs_mem.1 h
            exact (k3 p h5 h6).1 hp
        · rcases List.mem_append.1 h with h | h
          · rcases List.mem_append.1 hp with hp | hp
            · exact hd.2 p hp h
            · rcases (h2 p hp).2 with h7 | h7
              · exact hd.2 p h7 h
              · exact h7 h
          · obtain ⟨h5, h6⟩ := secs_mem.1 h
            exact (k3 p h5 h6).2 hp
      obtain ⟨k5, k6⟩ := (sndU_iff xs L _ R _ _ r2 d2).1 h4
      exact ⟨⟨h1, k5⟩, k6⟩
    · rintro ⟨⟨h1, h5⟩, h6⟩
      have d2 : Dis R (N ++ treN xs t.1) (D ++ secs xs t) := h6.sub (fun p hp => List.mem_append.2 (.inl hp)) (fun p hp => List.mem_append.2 (.inl hp))
      have h2 : ∀ p ∈ treN xs t.1, ¬ p ∈ R ∧ (p ∈ N ∨ ¬ p ∈ D) := fun p hp =>
        ⟨fun h => (d2.1 p h).1 (List.mem_append.2 (.inr hp)), .inr fun h => d2.2 p (List.mem_append.2 (.inr hp)) (List.mem_append.2 (.inl h))⟩
      have r1 := rep_upN hR (fun p hp => (hn p hp).1) (fun p hp => (h2 p hp).1)
      have k3 : ∀ p ∈ (treS xs t.1).take t.2.toNat, ¬ p = 0 → ¬ p ∈ R ∧ ¬ p ∈ N ++ treN xs t.1 := fun p hp h0 => by
        have hm : p ∈ D ++ secs xs t := List.mem_append.2 (.inr (secs_mem.2 ⟨hp, h0⟩))
        exact ⟨fun h => (d2.1 p h).2 hm, fun h => d2.2 p h hm⟩
      have r2 := rep_upD r1 k3
      exact ⟨⟨h1, h2, (rep_secs r1 hs).2 k3⟩, (sndU_iff xs L _ R _ _ r2 d2).2 ⟨h5, h6⟩⟩

/-- No block is used yet. -/
def u0 : Nat → Int := fun _ => 0
def trees (s : Ws.Sup) (l : List Wr.Rec) : List (Int × Int) := (s.root, s.size) :: l.map fun r => (r.root, r.size)
/-- Is an image sound, whose superblock and whose records' blocks are these? -/
def sndB (xs : List Int) (s : Ws.Sup) (b : List Int) : Bool := sndU xs (upT u0 1 b) (trees s (b.map (recAt xs)))

theorem rep_first {b : List Int} (h : ∀ p ∈ b, ¬ p = 0) : Rep (upT u0 1 b) b [] [] := by
  intro j
  unfold upT u0
  by_cases hj : (j : Int) ∈ b
  · have := h _ hj
    rw [if_pos ⟨hj, by omega⟩, if_pos hj]
  · rw [if_neg (fun h => hj h.1), if_neg hj]; simp
theorem dis_first (b : List Int) : Dis b [] [] := ⟨fun p _ => ⟨by simp, by simp⟩, by simp⟩
theorem sndB_iff {xs : List Int} {s : Ws.Sup} {b : List Int} (h : ∀ p ∈ b, ¬ p = 0) : sndB xs s b = true ↔ (trees s (b.map (recAt xs))).all (szB xs) = true ∧ Dis b (allN xs (trees s (b.map (recAt xs)))) (allD xs (trees s (b.map (recAt xs)))) := by
  unfold sndB
  rw [sndU_iff xs _ _ b [] [] (rep_first h) (dis_first b)]
  simp

end Wi
