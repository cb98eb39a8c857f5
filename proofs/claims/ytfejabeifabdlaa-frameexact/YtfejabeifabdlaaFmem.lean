/-
  A command's cells and one number beside them, by their places; a slice of pointers to them. What frame.parts returns. No conditions beyond those that each theorem names.
-/
import Derived.Test.YtfejabeifabdlaaFleaf
import Derived.Test.YtfejabeifabdlaaSchg
namespace Wk
open Go Go.RowKit Wc

theorem wrap_i64_zero (n : Nat) (h : n < 18446744073709551616) : IntKind.i64.wrap (n : Int) = 0 ↔ n = 0 := by
  rw [IntKind.wrap_i64]; omega

theorem ofInt_zero {a : Int} (ha : -9223372036854775808 ≤ a ∧ a ≤ 9223372036854775807) : BitVec.ofInt 64 a = 0#64 ↔ a = 0 := by
  constructor
  · intro h
    have := congrArg BitVec.toInt h
    rw [BitVec.toInt_ofInt, BitVec.toInt_zero] at this
    rw [Int.bmod_def] at this
    omega
  · rintro rfl; rfl

/-- Of two numbers together no bit stands just if both are nought. -/
theorem or_zero {a b : Int} (ha : -9223372036854775808 ≤ a ∧ a ≤ 9223372036854775807) (hb : -9223372036854775808 ≤ b ∧ b ≤ 9223372036854775807) : bits .or .i64 a b = 0 ↔ a = 0 ∧ b = 0 := by
  show IntKind.i64.wrap ((BitVec.ofInt 64 a ||| BitVec.ofInt 64 b).toNat : Int) = 0 ↔ _
  rw [wrap_i64_zero _ (BitVec.isLt _), ← ofInt_zero ha, ← ofInt_zero hb]
  constructor
  · intro h
    have h0 : BitVec.ofInt 64 a ||| BitVec.ofInt 64 b = 0#64 := BitVec.eq_of_toNat_eq h
    exact BitVec.or_eq_zero_iff.1 h0
  · rintro ⟨h1, h2⟩
    rw [h1, h2]; rfl

theorem or_rng (a b : Int) : -9223372036854775808 ≤ bits .or .i64 a b ∧ bits .or .i64 a b ≤ 9223372036854775807 := by
  show -9223372036854775808 ≤ IntKind.i64.wrap ((BitVec.ofInt 64 a ||| BitVec.ofInt 64 b).toNat : Int) ∧ IntKind.i64.wrap ((BitVec.ofInt 64 a ||| BitVec.ofInt 64 b).toNat : Int) ≤ 9223372036854775807
  rw [IntKind.wrap_i64]; omega

/-- A number that an int holds. -/
def I64 (a : Int) : Prop := -9223372036854775808 ≤ a ∧ a ≤ 9223372036854775807

/-- The place f: of the command in the block B, or of the one number in the block S. -/
def Adr (B S f : Nat) : Addr := if f < 8 then ⟨B, f, none⟩ else ⟨S, 0, none⟩

/-- In the block B lies a command with the numbers s and the slice v, in S the number s 8. -/
def Pb (w : World) (B S : Nat) (s : Nat → Int) (v : Value) : Prop :=
  w.heap[B]? = some (.cells #[.int .i64 (s 0), .int .i64 (s 1), .int .i64 (s 2), .int .i64 (s 3), .int .i64 (s 4), .int .i64 (s 5), .int .i64 (s 6), .int .i64 (s 7), v] 24 (0, 0)) ∧
  w.heap[S]? = some (.cells #[.int .i64 (s 8)] 3 (0, 0)) ∧ B ≠ S

theorem Pb.lt {w : World} {B S : Nat} {s : Nat → Int} {v : Value} (h : Pb w B S s v) : B < w.heap.size ∧ S < w.heap.size :=
  ⟨(Array.getElem?_eq_some_iff.1 h.1).1, (Array.getElem?_eq_some_iff.1 h.2.1).1⟩

theorem Pb.below {w w' : World} {B S base : Nat} {s : Nat → Int} {v : Value} (h : Pb w B S s v) (hb : Below base w w') (h1 : B < base) (h2 : S < base) : Pb w' B S s v := by
  refine ⟨?_, ?_, h.2.2⟩
  · rw [hb.block B h1]; exact h.1
  · rw [hb.block S h2]; exact h.2.1

theorem Pb.keep {w w' : World} {B S : Nat} {s : Nat → Int} {v : Value} (h : Pb w B S s v) (hb : Below w.heap.size w w') : Pb w' B S s v := h.below hb h.lt.1 h.lt.2

theorem Adr_lt (B S f : Nat) (h : f < 8) : Adr B S f = ⟨B, f, none⟩ := if_pos h
theorem Adr_8 (B S : Nat) : Adr B S 8 = ⟨S, 0, none⟩ := rfl

theorem nine {f : Nat} (h : f < 9) : f = 0 ∨ f = 1 ∨ f = 2 ∨ f = 3 ∨ f = 4 ∨ f = 5 ∨ f = 6 ∨ f = 7 ∨ f = 8 := by omega

theorem Pb.cell {w : World} {B S : Nat} {s : Nat → Int} {v : Value} (h : Pb w B S s v) {f : Nat} (hf : f < 9) : w.cell? (Adr B S f) = some (.int .i64 (s f)) := by
  rcases nine hf with rfl | rfl | rfl | rfl | rfl | rfl | rfl | rfl | rfl
  all_goals first | (show w.cell? ⟨B, _, none⟩ = _; simp [World.cell?, h.1]; done) | (show w.cell? ⟨S, _, none⟩ = _; simp [World.cell?, h.2.1])

theorem Pb.data {w : World} {B S : Nat} {s : Nat → Int} {v : Value} (h : Pb w B S s v) : w.cell? ⟨B, 8, none⟩ = some v := by
  simp [World.cell?, h.1]

theorem Pb.frozen {w : World} {B S : Nat} {s : Nat → Int} {v : Value} (h : Pb w B S s v) (f : Nat) : w.frozen? (Adr B S f) = false := by
  unfold Adr
  split
  · simp [World.frozen?, h.1]
  · simp [World.frozen?, h.2.1]

theorem Pb.frozenD {w : World} {B S : Nat} {s : Nat → Int} {v : Value} (h : Pb w B S s v) (f : Nat) : w.frozen? ⟨B, f, none⟩ = false := by
  simp [World.frozen?, h.1]

theorem Pb.set {w : World} {B S : Nat} {s : Nat → Int} {v : Value} (h : Pb w B S s v) {f : Nat} (hf : f < 9) (x : Int) : Pb (w.setCell (Adr B S f) (.int .i64 x)) B S (upd s f x) v := by
  have hne := h.2.2
  rcases nine hf with rfl | rfl | rfl | rfl | rfl | rfl | rfl | rfl | rfl
  case inr.inr.inr.inr.inr.inr.inr.inr =>
    refine ⟨?_, ?_, hne⟩
    · rw [Adr_8, heap_setCell_other _ _ _ _ hne]; exact h.1
    · rw [Adr_8, heap_setCell_same w S 0 _ 3 (.int .i64 x) h.2.1]; simp [upd]
  all_goals
    rw [Adr_lt _ _ _ (by omega)]
    refine ⟨?_, ?_, hne⟩
    · rw [heap_setCell_same w B _ _ 24 (.int .i64 x) h.1]; simp [upd]
    · rw [heap_setCell_other _ _ _ _ (Ne.symm hne)]; exact h.2.1

theorem Pb.setD {w : World} {B S : Nat} {s : Nat → Int} {v : Value} (h : Pb w B S s v) (u : Value) : Pb (w.setCell ⟨B, 8, none⟩ u) B S s u := by
  refine ⟨?_, ?_, h.2.2⟩
  · rw [heap_setCell_same w B _ _ 24 u h.1]; simp
  · rw [heap_setCell_other _ _ _ _ (Ne.symm h.2.2)]; exact h.2.1

/-- The slice value v holds such pointers, with a size each. -/
def Pv (w : World) (v : Value) (B S : Nat) (l : List (Nat × Int)) : Prop :=
  (l = [] ∧ v = .slice none 0 0) ∨ ∃ g, v = .slice (some ⟨g, 0, none⟩) l.length l.length ∧ g < w.heap.size ∧ g ≠ B ∧ g ≠ S ∧
    ∀ i, i < l.length → w.cell? ⟨g, i * 2, none⟩ = some (.pointer (some (Adr B S (l.getD i (0, 0)).1))) ∧ w.cell? ⟨g, i * 2 + 1, none⟩ = some (.int .i64 (l.getD i (0, 0)).2)

theorem pl_fields (k : Int) : ∀ p ∈ pl k, p.1 < 9 ∧ (p.2 = 4 ∨ p.2 = 8) := by
  unfold pl
  repeat' split
  all_goals simp
theorem pl_len (k : Int) : (pl k).length ≤ 4 := by
  unfold pl
  repeat' split
  all_goals simp

theorem Pv.new (w : World) {B S : Nat} (hB : B < w.heap.size) (hS : S < w.heap.size) (cs : Array Value) (l : List (Nat × Int)) (hl : ∀ i, i < l.length → cs[i * 2]? = some (.pointer (some (Adr B S (l.getD i (0, 0)).1))) ∧ cs[i * 2 + 1]? = some (.int .i64 (l.getD i (0, 0)).2)) :
    Pv (w.alloc (.cells cs 56)) (.slice (some ⟨w.heap.size, 0, none⟩) l.length l.length) B S l := by
  refine .inr ⟨w.heap.size, rfl, by simp, by omega, by omega, fun i hi => ?_⟩
  rw [World.cell?_alloc_mark, World.cell?_alloc_mark]
  exact hl i hi

theorem Pv.keep {w w' : World} {v : Value} {B S : Nat} {l : List (Nat × Int)} (h : Pv w v B S l) (hb : Below w.heap.size w w') : Pv w' v B S l := by
  rcases h with h | ⟨g, rfl, hg, n1, n2, hc⟩
  · exact .inl h
  · refine .inr ⟨g, rfl, Nat.lt_of_lt_of_le hg hb.size, n1, n2, fun i hi => ?_⟩
    exact ⟨(hb.cell (p := ⟨g, i * 2, none⟩) hg).trans (hc i hi).1, (hb.cell (p := ⟨g, i * 2 + 1, none⟩) hg).trans (hc i hi).2⟩

theorem Pv.shape {w : World} {v : Value} {B S : Nat} {l : List (Nat × Int)} (h : Pv w v B S l) : ∃ a, v = .slice a l.length l.length := by
  rcases h with ⟨rfl, rfl⟩ | ⟨g, rfl, _⟩
  · exact ⟨none, rfl⟩
  · exact ⟨_, rfl⟩

theorem Pv.set {w : World} {v : Value} {B S : Nat} {l : List (Nat × Int)} (h : Pv w v B S l) (f : Nat) (x : Value) : Pv (w.setCell (Adr B S f) x) v B S l := by
  rcases h with h | ⟨g, rfl, hg, n1, n2, hc⟩
  · exact .inl h
  · have hne : g ≠ (Adr B S f).block := by unfold Adr; split <;> assumption
    have hb : ∀ o, (w.setCell (Adr B S f) x).cell? ⟨g, o, none⟩ = w.cell? ⟨g, o, none⟩ := fun o => by
      simp only [World.cell?, heap_setCell_other _ _ _ _ hne]
    refine .inr ⟨g, rfl, ?_, n1, n2, fun i hi => ?_⟩
    · have := heap_setCell_other w (Adr B S f) g x hne
      rw [Array.getElem?_eq_getElem hg] at this
      exact (Array.getElem?_eq_some_iff.1 this).1
    · rw [hb, hb]; exact hc i hi

theorem Pb.new (w : World) (s : Nat → Int) (v : Value) :
    Pb ((w.alloc (.cells #[.int .i64 (s 0), .int .i64 (s 1), .int .i64 (s 2), .int .i64 (s 3), .int .i64 (s 4), .int .i64 (s 5), .int .i64 (s 6), .int .i64 (s 7), v] 24)).alloc (.cells #[.int .i64 (s 8)] 3)) w.heap.size (w.heap.size + 1) s v := by
  refine ⟨?_, ?_, by omega⟩
  · show ((w.heap.push _).push _)[w.heap.size]? = _
    rw [Array.getElem?_push_lt (by simp)]; simp
  · show ((w.heap.push _).push _)[w.heap.size + 1]? = _
    have e : w.heap.size + 1 = (w.heap.push (.cells #[.int .i64 (s 0), .int .i64 (s 1), .int .i64 (s 2), .int .i64 (s 3), .int .i64 (s 4), .int .i64 (s 5), .int .i64 (s 6), .int .i64 (s 7), v] 24)).size := by simp
    rw [e, Array.getElem?_push_size]

theorem below_adr {B0 B S : Nat} {a w : World} (h : Below B0 a w) (hB : B0 ≤ B) (hS : B0 ≤ S) (f : Nat) (x : Value) : Below B0 a (w.setCell (Adr B S f) x) := by
  unfold Adr
  split
  · exact h.setCell hB _
  · exact h.setCell hS _

theorem clr_kind (l : List (Nat × Int)) (s : Nat → Int) (h : ∀ p ∈ l, ¬ p.1 = 0) : clr l s 0 = s 0 := by
  induction l generalizing s with
  | nil => rfl
  | cons a l ih =>
    obtain ⟨f, z⟩ := a
    have hf := h (f, z) (by simp)
    rw [clr, ih _ (fun p hp => h p (by simp [hp]))]
    unfold upd
    rw [if_neg (fun e => hf e.symm)]

theorem pl_kind (k : Int) : ∀ p ∈ pl k, ¬ p.1 = 0 := by
  unfold pl
  repeat' split
  all_goals simp

theorem clr_rng (l : List (Nat × Int)) (s : Nat → Int) (h : ∀ i, I64 (s i)) : ∀ i, I64 (clr l s i) := by
  induction l generalizing s with
  | nil => exact h
  | cons a l ih =>
    obtain ⟨f, z⟩ := a
    refine ih _ (fun i => ?_)
    unfold upd
    split
    · unfold I64; omega
    · exact h i

/-- What a command that an int holds is. -/
def Held (c : Cmd) : Prop := I64 c.kind ∧ I64 c.id ∧ I64 c.parent ∧ I64 c.size ∧ I64 c.start ∧ I64 c.count ∧ I64 c.source ∧ I64 c.digest

theorem st_rng {c : Cmd} (h : Held c) {z : Int} (hz : I64 z) : ∀ i, I64 (st c z i) := by
  obtain ⟨h0, h1, h2, h3, h4, h5, h6, h7⟩ := h
  intro i
  unfold st
  repeat' split
  all_goals assumption

/-- The seven together have no bit just if each is nought. -/
theorem none_or {s : Nat → Int} (h : ∀ i, I64 (s i)) : (bits .or .i64 (bits .or .i64 (bits .or .i64 (bits .or .i64 (bits .or .i64 (bits .or .i64 (s 1) (s 2)) (s 3)) (s 4)) (s 5)) (s 6)) (s 7) == 0) = noneB s := by
  rw [Bool.eq_iff_iff, beq_iff_eq, or_zero (or_rng _ _) (h 7), or_zero (or_rng _ _) (h 6), or_zero (or_rng _ _) (h 5), or_zero (or_rng _ _) (h 4), or_zero (or_rng _ _) (h 3), or_zero (h 1) (h 2)]
  simp [noneB, and_assoc]

theorem drop_get (l : List (Nat × Int)) (k : Nat) (h : k < l.length) : l.drop k = l.getD k (0, 0) :: l.drop (k + 1) := by
  rw [List.drop_eq_getElem_cons h]
  simp [List.getD, h]

theorem getD_mem (l : List (Nat × Int)) (k : Nat) (h : k < l.length) : l.getD k (0, 0) ∈ l := by
  rw [List.getD_eq_getElem?_getD, List.getElem?_eq_getElem h]; exact List.getElem_mem _

end Wk
namespace Go.Proofs.Ytfejabeifabdlaa
open Go.RowKit

set_option maxHeartbeats 1600000 in
theorem parts_any (B S : Nat) (s : Nat → Int) (v : Value) (w : World) (h : Wk.Pb w B S s v) :
    Calls Try.prog 23 #[.pointer (some ⟨B, 0, none⟩), .pointer (some ⟨S, 0, none⟩)] w fun e w' => ∃ u, e = .returned u ∧ Wk.Pv w' u B S (Wk.pl (s 0)) ∧ Below w.heap.size w w' := by
  have hc : w.cell? ⟨B, 0, none⟩ = some (.int .i64 (s 0)) := h.cell (f := 0) (by omega)
  have HLT := Wc.hid h.lt
  generalize s 0 = k at hc
  clear h
  by_cases h1 : k = 1
  · subst h1
    have HP := Wc.hid (Wk.Pv.new w HLT.out.1 HLT.out.2 #[.pointer (some ⟨B, 1, none⟩), .int .i64 8, .pointer (some ⟨B, 2, none⟩), .int .i64 8, .pointer (some ⟨B, 3, none⟩), .int .i64 4, .pointer (some ⟨B, 5, none⟩), .int .i64 4] [(1, 8), (2, 8), (3, 4), (5, 4)] (by
      intro i hi
      obtain rfl | rfl | rfl | rfl : i = 0 ∨ i = 1 ∨ i = 2 ∨ i = 3 := by simp at hi; omega
      all_goals exact ⟨rfl, rfl⟩))
    have HB := Wc.hid ((Below.refl w.heap.size w).alloc (Nat.le_refl _) (.cells #[.pointer (some ⟨B, 1, none⟩), .int .i64 8, .pointer (some ⟨B, 2, none⟩), .int .i64 8, .pointer (some ⟨B, 3, none⟩), .int .i64 4, .pointer (some ⟨B, 5, none⟩), .int .i64 4] 56))
    go_enter Try.func23, Try.ntmps23
    go_wp2
    go_region
    go_wp2
    go_ret
    exact ⟨_, rfl, HP.out.keep (show_drew (Below.refl _ _)), show_drew HB.out⟩
  by_cases h2 : k = 2
  · subst h2
    have HP := Wc.hid (Wk.Pv.new w HLT.out.1 HLT.out.2 #[.pointer (some ⟨B, 4, none⟩), .int .i64 4, .pointer (some ⟨S, 0, none⟩), .int .i64 4] [(4, 4), (8, 4)] (by
      intro i hi
      obtain rfl | rfl : i = 0 ∨ i = 1 := by simp at hi; omega
      all_goals exact ⟨rfl, rfl⟩))
    have HB := Wc.hid ((Below.refl w.heap.size w).alloc (Nat.le_refl _) (.cells #[.pointer (some ⟨B, 4, none⟩), .int .i64 4, .pointer (some ⟨S, 0, none⟩), .int .i64 4] 56))
    go_enter Try.func23, Try.ntmps23
    go_wp2
    go_ret
    exact ⟨_, rfl, HP.out, HB.out⟩
  by_cases h3 : k = 3
  · subst h3
    have HP := Wc.hid (Wk.Pv.new w HLT.out.1 HLT.out.2 #[.pointer (some ⟨B, 4, none⟩), .int .i64 4, .pointer (some ⟨B, 5, none⟩), .int .i64 4] [(4, 4), (5, 4)] (by
      intro i hi
      obtain rfl | rfl : i = 0 ∨ i = 1 := by simp at hi; omega
      all_goals exact ⟨rfl, rfl⟩))
    have HB := Wc.hid ((Below.refl w.heap.size w).alloc (Nat.le_refl _) (.cells #[.pointer (some ⟨B, 4, none⟩), .int .i64 4, .pointer (some ⟨B, 5, none⟩), .int .i64 4] 56))
    go_enter Try.func23, Try.ntmps23
    go_wp2
    go_region
    go_wp2
    go_ret
    exact ⟨_, rfl, HP.out.keep (show_drew (Below.refl _ _)), show_drew HB.out⟩
  by_cases h4 : k = 4
  · subst h4
    have HP := Wc.hid (Wk.Pv.new w HLT.out.1 HLT.out.2 #[.pointer (some ⟨B, 4, none⟩), .int .i64 4, .pointer (some ⟨B, 5, none⟩), .int .i64 4, .pointer (some ⟨B, 6, none⟩), .int .i64 4] [(4, 4), (5, 4), (6, 4)] (by
      intro i hi
      obtain rfl | rfl | rfl : i = 0 ∨ i = 1 ∨ i = 2 := by simp at hi; omega
      all_goals exact ⟨rfl, rfl⟩))
    have HB := Wc.hid ((Below.refl w.heap.size w).alloc (Nat.le_refl _) (.cells #[.pointer (some ⟨B, 4, none⟩), .int .i64 4, .pointer (some ⟨B, 5, none⟩), .int .i64 4, .pointer (some ⟨B, 6, none⟩), .int .i64 4] 56))
    go_enter Try.func23, Try.ntmps23
    go_wp2
    go_region
    go_wp2
    go_ret
    exact ⟨_, rfl, HP.out.keep (show_drew (Below.refl _ _)), show_drew HB.out⟩
  by_cases h5 : k = 5
  · subst h5
    have HP := Wc.hid (Wk.Pv.new w HLT.out.1 HLT.out.2 #[.pointer (some ⟨B, 3, none⟩), .int .i64 4] [(3, 4)] (by
      intro i hi
      obtain rfl : i = 0 := by simp at hi; omega
      all_goals exact ⟨rfl, rfl⟩))
    have HB := Wc.hid ((Below.refl w.heap.size w).alloc (Nat.le_refl _) (.cells #[.pointer (some ⟨B, 3, none⟩), .int .i64 4] 56))
    go_enter Try.func23, Try.ntmps23
    go_wp2
    go_ret
    exact ⟨_, rfl, HP.out, HB.out⟩
  by_cases h6 : k = 6
  · subst h6
    have HP := Wc.hid (Wk.Pv.new w HLT.out.1 HLT.out.2 #[.pointer (some ⟨B, 5, none⟩), .int .i64 4, .pointer (some ⟨B, 7, none⟩), .int .i64 4] [(5, 4), (7, 4)] (by
      intro i hi
      obtain rfl | rfl : i = 0 ∨ i = 1 := by simp at hi; omega
      all_goals exact ⟨rfl, rfl⟩))
    have HB := Wc.hid ((Below.refl w.heap.size w).alloc (Nat.le_refl _) (.cells #[.pointer (some ⟨B, 5, none⟩), .int .i64 4, .pointer (some ⟨B, 7, none⟩), .int .i64 4] 56))
    go_enter Try.func23, Try.ntmps23
    go_wp2
    go_region
    go_wp2
    go_ret
    exact ⟨_, rfl, HP.out.keep (show_drew (Below.refl _ _)), show_drew HB.out⟩
  have HN : Hid (Wk.pl k = []) := Wc.hid (by unfold Wk.pl; rw [if_neg h1, if_neg h2, if_neg h3, if_neg h4, if_neg h5, if_neg h6])
  go_enter Try.func23, Try.ntmps23
  go_wp2
  go_ret
  exact ⟨_, rfl, .inl ⟨HN.out, rfl⟩, Below.refl _ _⟩

end Go.Proofs.Ytfejabeifabdlaa
