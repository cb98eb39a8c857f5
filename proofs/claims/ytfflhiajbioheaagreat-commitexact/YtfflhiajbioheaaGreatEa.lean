/-
  Plain mathematics of commits: which may be made, the steps of one, a new chain of records. It speaks of no program. No conditions beyond those that each theorem names.
-/
import Derived.Test.YtfflhiajbioheaaGreatJP
namespace Wq
open Wr

/-- Is it a block behind the slots of some device? -/
def bkB (x : Int) : Bool := decide (2 ≤ x) && decide (x ≤ 4095)
theorem bkB_iff {x : Int} : bkB x = true ↔ 2 ≤ x ∧ x ≤ 4095 := by simp [bkB]
theorem bkB_no {x : Int} (h : x < 2 ∨ 4095 < x) : bkB x = false := by
  cases e : bkB x with
  | false => rfl
  | true => have := bkB_iff.1 e; omega

/-- The one ahead. -/
def prv (F : List Int) (j : Nat) : Int := if j = 0 then 0 else F.getD (j - 1) 0
def okF (F : List Int) (j : Nat) : Bool := decide (prv F j < F.getD j 0) && bkB (F.getD j 0)
/-- Free blocks: each is one, they rise. -/
def frB (F : List Int) : Bool := (List.range F.length).all (okF F)
theorem frB_iff {F : List Int} : frB F = true ↔ ∀ j, j < F.length → okF F j = true := by
  unfold frB
  rw [List.all_eq_true]
  exact ⟨fun h j hj => h j (List.mem_range.2 hj), fun h j hj => h j (List.mem_range.1 hj)⟩
theorem frB_bad {F : List Int} {j : Nat} (hj : j < F.length) (h : okF F j = false) : frB F = false := by
  cases e : frB F with
  | false => rfl
  | true => rw [frB_iff.1 e j hj] at h; cases h
theorem okF_iff {F : List Int} {j : Nat} : okF F j = true ↔ prv F j < F.getD j 0 ∧ 2 ≤ F.getD j 0 ∧ F.getD j 0 ≤ 4095 := by
  unfold okF
  rw [Bool.and_eq_true, decide_eq_true_eq, bkB_iff]
theorem frB_at {F : List Int} (h : frB F = true) {j : Nat} (hj : j < F.length) : 2 ≤ F.getD j 0 ∧ F.getD j 0 ≤ 4095 := (okF_iff.1 (frB_iff.1 h j hj)).2
theorem frB_rise {F : List Int} (h : frB F = true) : ∀ (i j : Nat), i < j → j < F.length → F.getD i 0 < F.getD j 0
  | i, 0, hi, _ => by omega
  | i, j + 1, hi, hj => by
    have h1 := (okF_iff.1 (frB_iff.1 h (j + 1) hj)).1
    unfold prv at h1
    rw [if_neg (by omega), show j + 1 - 1 = j by omega] at h1
    by_cases e : i = j
    · subst e; exact h1
    · have := frB_rise h i j (by omega) (by omega); omega

/-- A record and the block that it stands on. -/
def okC (old : List Rec) (blocks : List Int) (i : Nat) : Bool := recB (old.getD i r0) && bkB (blocks.getD i 0)
/-- Records that stand on so many blocks. -/
def chB (old : List Rec) (blocks : List Int) : Bool := decide (old.length = blocks.length) && (List.range old.length).all (okC old blocks)
theorem chB_iff {old : List Rec} {blocks : List Int} : chB old blocks = true ↔ old.length = blocks.length ∧ ∀ j, j < old.length → okC old blocks j = true := by
  unfold chB
  rw [Bool.and_eq_true, decide_eq_true_eq, List.all_eq_true]
  exact ⟨fun h => ⟨h.1, fun j hj => h.2 j (List.mem_range.2 hj)⟩, fun h => ⟨h.1, fun j hj => h.2 j (List.mem_range.1 hj)⟩⟩
theorem chB_bad {old : List Rec} {blocks : List Int} {j : Nat} (hj : j < old.length) (h : okC old blocks j = false) : chB old blocks = false := by
  cases e : chB old blocks with
  | false => rfl
  | true => rw [(chB_iff.1 e).2 j hj] at h; cases h
theorem chB_len {old : List Rec} {blocks : List Int} (h : ¬ old.length = blocks.length) : chB old blocks = false := by
  cases e : chB old blocks with
  | false => rfl
  | true => exact absurd (chB_iff.1 e).1 h

def bare (r : Rec) : Rec := ⟨0, r.id, r.parent, r.root, r.size, r.kind, r.frames, r.digest⟩
/-- May they be written? -/
def mayB (old : List Rec) (blocks : List Int) (n : Int) (r : Rec) (b : Bool) (F : List Int) : Bool :=
  chB old blocks && (decide (0 ≤ n) && (decide (n ≤ (old.length : Int)) && ((!b || recB (bare r)) && frB F)))
theorem mayB_iff {old : List Rec} {blocks : List Int} {n : Int} {r : Rec} {b : Bool} {F : List Int} : mayB old blocks n r b F = true ↔ chB old blocks = true ∧ 0 ≤ n ∧ n ≤ (old.length : Int) ∧ (b = true → recB (bare r) = true) ∧ frB F = true := by
  unfold mayB
  rw [Bool.and_eq_true, Bool.and_eq_true, Bool.and_eq_true, Bool.and_eq_true, decide_eq_true_eq, decide_eq_true_eq, Bool.or_eq_true, Bool.not_eq_true']
  cases b <;> simp

/-- Which are written, in their order. -/
def news (old : List Rec) (n : Nat) (r : Rec) (b : Bool) : List Rec := (old.take (n - 1)).reverse ++ (if b then [r] else [])
theorem news_len {old : List Rec} {n : Nat} (hn : n ≤ old.length) (r : Rec) (b : Bool) : (news old n r b).length = n - 1 + (if b then 1 else 0) := by
  unfold news
  rw [List.length_append, List.length_reverse, List.length_take, Nat.min_eq_left (by omega)]
  cases b <;> rfl
theorem news_at {old : List Rec} {n i : Nat} (hn : n ≤ old.length) (hi : i < n - 1) (r : Rec) (b : Bool) : (news old n r b).getD i r0 = old.getD (n - 2 - i) r0 := by
  unfold news
  rw [List.getD_eq_getElem?_getD, List.getElem?_append_left (by rw [List.length_reverse, List.length_take]; omega), List.getElem?_reverse (by rw [List.length_take]; omega), List.length_take, Nat.min_eq_left (by omega), List.getElem?_take, if_pos (by omega), ← List.getD_eq_getElem?_getD]
  first | rfl | (congr 1; omega)
theorem news_last {old : List Rec} {n : Nat} (hn : n ≤ old.length) (r : Rec) : (news old n r true).getD (n - 1) r0 = r := by
  unfold news
  rw [List.getD_eq_getElem?_getD, List.getElem?_append_right (by rw [List.length_reverse, List.length_take]; omega), List.length_reverse, List.length_take, Nat.min_eq_left (by omega), Nat.sub_self]
  rfl

/-- The block of the record that the k-th one leads to. -/
def nx (p : Int) (T : List Int) (k : Nat) : Int := if k = 0 then p else T.getD (k - 1) 0
/-- The k-th record that is written. -/
def lk (N : List Rec) (p : Int) (T : List Int) (k : Nat) : Rec :=
  ⟨nx p T k, (N.getD k r0).id, (N.getD k r0).parent, (N.getD k r0).root, (N.getD k r0).size, (N.getD k r0).kind, (N.getD k r0).frames, (N.getD k r0).digest⟩
/-- The writes. -/
def ws (N : List Rec) (p : Int) (T : List Int) (k : Nat) : List Wd.Io := (List.range k).map fun i => ⟨1, T.getD i 0, Wr.blk (lk N p T i)⟩
theorem ws_succ (N : List Rec) (p : Int) (T : List Int) (k : Nat) : ws N p T (k + 1) = ws N p T k ++ [⟨1, T.getD k 0, Wr.blk (lk N p T k)⟩] := by unfold ws; rw [List.range_succ, List.map_append]; rfl
theorem ws_length (N : List Rec) (p : Int) (T : List Int) (k : Nat) : (ws N p T k).length = k := by simp [ws]
theorem ws_at {N : List Rec} {p : Int} {T : List Int} {k i : Nat} (h : i < k) : (ws N p T k).getD i Wd.d0 = ⟨1, T.getD i 0, Wr.blk (lk N p T i)⟩ := by
  simp [ws, List.getD_eq_getElem?_getD, List.getElem?_range h]
/-- Where the first one stands that is left. -/
def stay (blocks : List Int) (n : Nat) : Int := blocks.getD n 0

theorem bare_ok {r : Rec} (h : recB r = true) : recB (bare r) = true := by
  rw [recB_iff] at h ⊢
  exact ⟨.inl rfl, h.2⟩
theorem link_ok {r : Rec} {p : Int} (h : recB (bare r) = true) (hp : p = 0 ∨ 2 ≤ p ∧ p < 4096) : recB ⟨p, r.id, r.parent, r.root, r.size, r.kind, r.frames, r.digest⟩ = true := by
  rw [recB_iff] at h ⊢
  exact ⟨hp, h.2⟩
theorem getD_take {α : Type} {l : List α} {d : α} {k i : Nat} (h : i < k) : (l.take k).getD i d = l.getD i d := by
  rw [List.getD_eq_getElem?_getD, List.getElem?_take, if_pos h, ← List.getD_eq_getElem?_getD]
theorem nx_take {p : Int} {F : List Int} {K k : Nat} (h : k ≤ K) : nx p (F.take K) k = nx p F k := by
  unfold nx
  by_cases e : k = 0
  · rw [if_pos e, if_pos e]
  · rw [if_neg e, if_neg e, getD_take (by omega)]
/-- All that are written are right. -/
theorem lk_ok {old : List Rec} {blocks : List Int} {n : Nat} {r : Rec} {b : Bool} {F : List Int} (h : mayB old blocks (n : Int) r b F = true) {k : Nat} (hk : k < (news old n r b).length) (hF : (news old n r b).length ≤ F.length) : recB (lk (news old n r b) (stay blocks n) F k) = true := by
  obtain ⟨hc, -, hn, hr, hf⟩ := mayB_iff.1 h
  obtain ⟨hcl, hc⟩ := chB_iff.1 hc
  have hn' : n ≤ old.length := by omega
  have hl := news_len hn' r b
  refine link_ok ?_ ?_
  · by_cases hk1 : k < n - 1
    · rw [news_at hn' hk1]
      have := hc (n - 2 - k) (by omega)
      unfold okC at this
      rw [Bool.and_eq_true] at this
      exact bare_ok this.1
    · cases b with
      | false => rw [hl] at hk; simp at hk; omega
      | true =>
        rw [hl] at hk
        obtain rfl : k = n - 1 := by simp at hk; omega
        rw [news_last hn']
        exact hr rfl
  · unfold nx
    by_cases e : k = 0
    · rw [if_pos e]
      unfold stay
      by_cases hnl : n < old.length
      · have := hc n hnl
        unfold okC at this
        rw [Bool.and_eq_true] at this
        have := bkB_iff.1 this.2
        omega
      · left
        rw [List.getD_eq_getElem?_getD, List.getElem?_eq_none (by omega)]; rfl
    · rw [if_neg e]
      have := frB_at hf (j := k - 1) (by omega)
      omega
/-- Why there is no new chain. -/
def cE (old : List Rec) (blocks : List Int) (n : Int) (r : Rec) (b : Bool) (F : List Int) : Int :=
  if mayB old blocks n r b F = true then (if (news old n.toNat r b).length ≤ F.length then 0 else 9) else 1

/-- A step that a commit may make. -/
def okW (m : Int) (x : Wd.Io) : Bool := decide (x.kind = 1) && (decide (2 ≤ x.pos) && (decide (x.pos ≤ m - 1) && decide (x.data.length = 64)))
theorem okW_iff {m : Int} {x : Wd.Io} : okW m x = true ↔ x.kind = 1 ∧ 2 ≤ x.pos ∧ x.pos ≤ m - 1 ∧ x.data.length = 64 := by simp [okW]
def rdyB (s : Ws.Sup) (t : Int) : Bool := Ws.supB s && (decide (s.gen < 1099511627776) && (decide (0 ≤ t) && decide (t ≤ 1)))
theorem rdyB_iff {s : Ws.Sup} {t : Int} : rdyB s t = true ↔ Ws.supB s = true ∧ s.gen < 1099511627776 ∧ 0 ≤ t ∧ t ≤ 1 := by simp [rdyB]
/-- The new superblock. -/
def nxt (s : Ws.Sup) (root size first : Int) : Ws.Sup := ⟨s.gen + 1, s.blocks, root, size, first⟩
/-- Why there is no commit. -/
def sE (s : Ws.Sup) (t : Int) (l : List Wd.Io) (root size first : Int) : Int :=
  if rdyB s t = true then (if Ws.supB (nxt s root size first) = true then (if l.all (okW s.blocks) = true then 0 else 1) else 1) else 8
/-- The commit's steps. -/
def tail3 (s : Ws.Sup) (t root size first : Int) : List Wd.Io := [⟨2, 0, []⟩, ⟨1, 1 - t, Ws.blk (nxt s root size first)⟩, ⟨2, 0, []⟩]
def sts (s : Ws.Sup) (t : Int) (l : List Wd.Io) (root size first : Int) : List Wd.Io := l ++ tail3 s t root size first
theorem all_bad {m : Int} {l : List Wd.Io} {k : Nat} (hk : k < l.length) (h : okW m (l.getD k Wd.d0) = false) : l.all (okW m) = false := by
  cases e : l.all (okW m) with
  | false => rfl
  | true =>
    rw [List.all_eq_true] at e
    rw [e _ (by rw [List.getD_eq_getElem?_getD, List.getElem?_eq_getElem hk]; exact List.getElem_mem hk)] at h
    cases h
theorem all_good {m : Int} {l : List Wd.Io} (h : ∀ k, k < l.length → okW m (l.getD k Wd.d0) = true) : l.all (okW m) = true := by
  rw [List.all_eq_true]
  intro x hx
  obtain ⟨k, hk, rfl⟩ := List.getElem_of_mem hx
  have := h k hk
  rwa [show l.getD k Wd.d0 = l[k] by simp [hk]] at this
theorem take_succ_at {l : List Wd.Io} {k : Nat} (hk : k < l.length) : l.take (k + 1) = l.take k ++ [l.getD k Wd.d0] := by
  rw [List.take_add_one, List.getElem?_eq_getElem hk, show l.getD k Wd.d0 = l[k] by simp [hk]]; rfl
end Wq
