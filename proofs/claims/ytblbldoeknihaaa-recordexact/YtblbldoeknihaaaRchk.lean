/-
  What the small functions of package record and of the page's layer 8 return, for every input.
-/
import Derived.Test.YtblbldoeknihaaaRrec
import Derived.Test.YtblbldoeknihaaaNblk
namespace Go.Proofs.Ytblbldoeknihaaa
open Go.RowKit

/-- A record as a value. -/
def rv (r : Wr.Rec) : Value := .agg #[.int .i64 r.next, .int .i64 r.id, .int .i64 r.parent, .int .i64 r.root, .int .i64 r.size, .int .i64 r.kind, .int .i64 r.frames, .int .i64 r.digest]

/-- The block B is a record's own cells. -/
def Rh (w : World) (B : Nat) (r : Wr.Rec) : Prop := w.heap[B]? = some (.cells #[.int .i64 r.next, .int .i64 r.id, .int .i64 r.parent, .int .i64 r.root, .int .i64 r.size, .int .i64 r.kind, .int .i64 r.frames, .int .i64 r.digest] 23 (0, 0))

theorem Rh.new (w : World) (r : Wr.Rec) : Rh (w.alloc (.cells #[.int .i64 r.next, .int .i64 r.id, .int .i64 r.parent, .int .i64 r.root, .int .i64 r.size, .int .i64 r.kind, .int .i64 r.frames, .int .i64 r.digest] 23)) w.heap.size r := by
  show (w.heap.push _)[w.heap.size]? = _; simp

theorem Rh.lt {w : World} {B : Nat} {r : Wr.Rec} (h : Rh w B r) : B < w.heap.size := (Array.getElem?_eq_some_iff.1 h).1

theorem Rh.keep {w w' : World} {B : Nat} {r : Wr.Rec} (h : Rh w B r) (hb : Below w.heap.size w w') : Rh w' B r := by
  unfold Rh
  rw [hb.block B h.lt]; exact h

theorem Rh.below {w w' : World} {B base : Nat} {r : Wr.Rec} (h : Rh w B r) (hb : Below base w w') (hlt : B < base) : Rh w' B r := by
  unfold Rh
  rw [hb.block B hlt]; exact h

theorem Rh.frozen {w : World} {B : Nat} {r : Wr.Rec} (h : Rh w B r) (i : Nat) : w.frozen? ⟨B, i, none⟩ = false := by
  unfold Rh at h
  simp [World.frozen?, h]

/-- At the block B lies the record r. -/
def Rc (w : World) (B : Nat) (r : Wr.Rec) : Prop :=
  w.cell? ⟨B, 0, none⟩ = some (.int .i64 r.next) ∧ w.cell? ⟨B, 1, none⟩ = some (.int .i64 r.id) ∧ w.cell? ⟨B, 2, none⟩ = some (.int .i64 r.parent) ∧ w.cell? ⟨B, 3, none⟩ = some (.int .i64 r.root) ∧ w.cell? ⟨B, 4, none⟩ = some (.int .i64 r.size) ∧ w.cell? ⟨B, 5, none⟩ = some (.int .i64 r.kind) ∧ w.cell? ⟨B, 6, none⟩ = some (.int .i64 r.frames) ∧ w.cell? ⟨B, 7, none⟩ = some (.int .i64 r.digest)

theorem Rh.rc {w : World} {B : Nat} {r : Wr.Rec} (h : Rh w B r) : Rc w B r := by
  unfold Rh at h
  refine ⟨?_, ?_, ?_, ?_, ?_, ?_, ?_, ?_⟩ <;> simp [World.cell?, h]

/-- A record written over another one. -/
theorem Rh.over {w : World} {B : Nat} {s : Wr.Rec} (h : Rh w B s) (t : Wr.Rec) :
    Rh ((((((((w.setCell ⟨B, 0, none⟩ (.int .i64 t.next)).setCell ⟨B, 1, none⟩ (.int .i64 t.id)).setCell ⟨B, 2, none⟩ (.int .i64 t.parent)).setCell ⟨B, 3, none⟩ (.int .i64 t.root)).setCell ⟨B, 4, none⟩ (.int .i64 t.size)).setCell ⟨B, 5, none⟩ (.int .i64 t.kind)).setCell ⟨B, 6, none⟩ (.int .i64 t.frames)).setCell ⟨B, 7, none⟩ (.int .i64 t.digest)) B t := by
  have h0 := heap_setCell_same w B 0 _ 23 (.int .i64 t.next) h
  have h1 := heap_setCell_same _ B 1 _ 23 (.int .i64 t.id) h0
  have h2 := heap_setCell_same _ B 2 _ 23 (.int .i64 t.parent) h1
  have h3 := heap_setCell_same _ B 3 _ 23 (.int .i64 t.root) h2
  have h4 := heap_setCell_same _ B 4 _ 23 (.int .i64 t.size) h3
  have h5 := heap_setCell_same _ B 5 _ 23 (.int .i64 t.kind) h4
  have h6 := heap_setCell_same _ B 6 _ 23 (.int .i64 t.frames) h5
  have h7 := heap_setCell_same _ B 7 _ 23 (.int .i64 t.digest) h6
  unfold Rh
  simpa using h7

theorem below8 {B0 B : Nat} {a w : World} (h : Below B0 a w) (hB : B0 ≤ B) (t : Wr.Rec) :
    Below B0 a ((((((((w.setCell ⟨B, 0, none⟩ (.int .i64 t.next)).setCell ⟨B, 1, none⟩ (.int .i64 t.id)).setCell ⟨B, 2, none⟩ (.int .i64 t.parent)).setCell ⟨B, 3, none⟩ (.int .i64 t.root)).setCell ⟨B, 4, none⟩ (.int .i64 t.size)).setCell ⟨B, 5, none⟩ (.int .i64 t.kind)).setCell ⟨B, 6, none⟩ (.int .i64 t.frames)).setCell ⟨B, 7, none⟩ (.int .i64 t.digest)) :=
  (((((((h.setCell hB _).setCell hB _).setCell hB _).setCell hB _).setCell hB _).setCell hB _).setCell hB _).setCell hB _

theorem Rh.other {w : World} {B B' : Nat} {r : Wr.Rec} (h : Rh w B r) (hne : B ≠ B') (o : Nat) (v : Value) : Rh (w.setCell ⟨B', o, none⟩ v) B r := by
  unfold Rh
  rw [heap_setCell_other _ _ _ _ hne]; exact h

theorem ide_any (n : Int) (w : World) :
    Calls Try.prog 28 #[.int .i64 n] w fun e w' => e = .returned (.int .i64 (Wr.idE n)) ∧ w = w' := by
  have e : Wr.idE n = if 1 ≤ n ∧ n ≤ 4611686018427387903 then 0 else 1 := by unfold Wr.idE; simp only [Wr.idB_iff]
  have E := Wc.hid e
  clear e
  go_enter Try.func28, Try.ntmps28
  go_wp2
  all_goals go_ret
  all_goals refine ⟨?_, rfl⟩
  all_goals rw [E.out]
  all_goals first | (rw [if_neg (by omega)]; rfl) | (rw [if_pos (by omega)]; rfl)

theorem refIde_any (n : Int) (w : World) :
    Calls Try.prog 25 #[.int .i64 n] w fun e w' => e = .returned (.bool (Wr.idB n)) ∧ w = w' := by
  go_enter Try.func25, Try.ntmps25
  go_wp2_with (first | (go_at_call 26; refine (refIn_any _ _ _ _).mono ?_; rintro e w' ⟨rfl, rfl⟩))
  go_ret
  exact ⟨rfl, rfl⟩

set_option maxHeartbeats 400000 in
theorem within8_any (n lo hi : Int) (w : World) :
    Calls Try.prog 30 #[.int .i64 n, .int .i64 lo, .int .i64 hi] w fun e w' => e = .returned (.bool (decide (lo ≤ n) && decide (n ≤ hi))) ∧ w = w' := by
  go_enter Try.func30, Try.ntmps30
  go_wp2
  all_goals go_ret
  · exact ⟨ret_bool (by simp [*]), rfl⟩
  · exact ⟨ret_bool (by symm; rw [Bool.eq_false_iff]; simp; omega), rfl⟩

set_option maxHeartbeats 400000 in
theorem leads8_any (n : Int) (w : World) :
    Calls Try.prog 27 #[.int .i64 n] w fun e w' => e = .returned (.bool (Ws.linkB n 4096)) ∧ w = w' := by
  go_enter Try.func27, Try.ntmps27
  go_wp2_with (go_at_call 30; refine (within8_any _ _ _ _).mono ?_; rintro e w' ⟨rfl, rfl⟩)
  all_goals go_ret
  all_goals (refine ⟨ret_bool ?_, rfl⟩; rw [Bool.eq_iff_iff]; simp [Ws.linkB]; try omega)

set_option maxHeartbeats 400000 in
theorem link_any (n m : Int) (w : World) (hm : 4 ≤ m ∧ m ≤ 4096) :
    Calls Try.prog 24 #[.int .i64 n, .int .i64 m] w fun e w' => e = .returned (.bool (Ws.linkB n m)) ∧ w = w' := by
  go_enter Try.func24, Try.ntmps24
  go_wp2_with (go_at_call 26; refine (refIn_any _ _ _ _).mono ?_; rintro e w' ⟨rfl, rfl⟩)
  all_goals go_ret
  all_goals (refine ⟨ret_bool ?_, rfl⟩; rw [Bool.eq_iff_iff]; simp [Ws.linkB]; try omega)

set_option maxHeartbeats 800000 in
theorem rightParent_any (p n : Int) (w : World) :
    Calls Try.prog 29 #[.int .i64 p, .int .i64 n] w fun e w' => e = .returned (.bool (Wr.parB p n)) ∧ w = w' := by
  unfold Wr.parB
  cases hi : Wr.idB p
  · have HE := Wc.hid (Wr.idE_no hi)
    clear hi
    go_enter Try.func29, Try.ntmps29
    go_wp2_with (go_at_call 28; refine (ide_any _ _).mono ?_; rintro e w' ⟨rfl, rfl⟩; rw [HE.out])
    all_goals go_ret
    all_goals (refine ⟨ret_bool ?_, rfl⟩; simp_all)
  · have HE := Wc.hid (Wr.idE_yes hi)
    clear hi
    go_enter Try.func29, Try.ntmps29
    go_wp2_with (go_at_call 28; refine (ide_any _ _).mono ?_; rintro e w' ⟨rfl, rfl⟩; rw [HE.out])
    all_goals go_ret
    all_goals (refine ⟨ret_bool ?_, rfl⟩; simp_all)

set_option maxHeartbeats 1600000 in
theorem rightKind_any (r : Wr.Rec) (w : World) :
    Calls Try.prog 31 #[rv r] w fun e w' => e = .returned (.bool (Wr.kindB r.kind r.frames r.digest)) ∧ Below w.heap.size w w' := by
  unfold rv
  go_enter Try.func31, Try.ntmps31
  go_wp2_with (go_at_call 30; refine (within8_any _ _ _ _).mono ?_; rintro e w' ⟨rfl, rfl⟩)
  all_goals go_ret
  all_goals (refine ⟨ret_bool ?_, (Below.refl _ _).alloc (Nat.le_refl _) _⟩; simp_all [Wr.kindB] <;> (intros; omega))

end Go.Proofs.Ytblbldoeknihaaa
