/-
  What build.pointers and build.nodeOf return, for every device and every row.
-/
import Derived.Test.YtafpjnofccfmlaaJE
import Derived.Test.YtafpjnofccfmlaaJG
import Derived.Test.YtafpjnofccfmlaaJQ
namespace Wb
open Wt Wn
/-- The old tree's node under a pointer: none under 0. -/
def pn (xs : List Int) (p : Int) : Nod := if p = 0 then n0 else nd xs p
theorem ptr_pn (xs : List Int) (p : Int) : ptr (pn xs p) = kids xs p := by
  unfold pn kids
  split
  · rfl
  · rfl
end Wb
namespace Go.Proofs.Ytafpjnofccfmlaa
open Go.RowKit

/-- A node's pointers as a value. -/
def av (n : Wn.Nod) : Value := .agg #[.int .i64 n.p0, .int .i64 n.p1, .int .i64 n.p2, .int .i64 n.p3, .int .i64 n.p4, .int .i64 n.p5, .int .i64 n.p6, .int .i64 n.p7]

/-- A block that is an array of eight pointers. -/
def Ah (w : World) (B : Nat) (n : Wn.Nod) : Prop := w.heap[B]? = some (.cells #[.int .i64 n.p0, .int .i64 n.p1, .int .i64 n.p2, .int .i64 n.p3, .int .i64 n.p4, .int .i64 n.p5, .int .i64 n.p6, .int .i64 n.p7] 81 (0, 0))
theorem Ah.new (w : World) (n : Wn.Nod) : Ah (w.alloc (.cells #[.int .i64 n.p0, .int .i64 n.p1, .int .i64 n.p2, .int .i64 n.p3, .int .i64 n.p4, .int .i64 n.p5, .int .i64 n.p6, .int .i64 n.p7] 81)) w.heap.size n := by
  show (w.heap.push _)[_]? = _; simp
theorem Ah.lt {w : World} {B : Nat} {n : Wn.Nod} (h : Ah w B n) : B < w.heap.size := (Array.getElem?_eq_some_iff.1 h).1
theorem Ah.keep {w w' : World} {B : Nat} {n : Wn.Nod} (h : Ah w B n) (hb : Below w.heap.size w w') : Ah w' B n := (hb.block B h.lt).trans h
def Ac (w : World) (B : Nat) (n : Wn.Nod) : Prop := w.cell? ⟨B, 0, none⟩ = some (.int .i64 n.p0) ∧ w.cell? ⟨B, 1, none⟩ = some (.int .i64 n.p1) ∧ w.cell? ⟨B, 2, none⟩ = some (.int .i64 n.p2) ∧ w.cell? ⟨B, 3, none⟩ = some (.int .i64 n.p3) ∧ w.cell? ⟨B, 4, none⟩ = some (.int .i64 n.p4) ∧ w.cell? ⟨B, 5, none⟩ = some (.int .i64 n.p5) ∧ w.cell? ⟨B, 6, none⟩ = some (.int .i64 n.p6) ∧ w.cell? ⟨B, 7, none⟩ = some (.int .i64 n.p7)
theorem Ah.ac {w : World} {B : Nat} {n : Wn.Nod} (h : Ah w B n) : Ac w B n := by
  refine ⟨?_, ?_, ?_, ?_, ?_, ?_, ?_, ?_⟩ <;> simp [World.cell?, show w.heap[B]? = _ from h]
theorem Ah.frozen {w : World} {B : Nat} {n : Wn.Nod} (h : Ah w B n) (i : Nat) : w.frozen? ⟨B, i, none⟩ = false := by simp [World.frozen?, show w.heap[B]? = _ from h]
theorem Ah.over {w : World} {B : Nat} {s : Wn.Nod} (h : Ah w B s) (t : Wn.Nod) :
    Ah ((((((((w.setCell ⟨B, 0, none⟩ (.int .i64 t.p0)).setCell ⟨B, 1, none⟩ (.int .i64 t.p1)).setCell ⟨B, 2, none⟩ (.int .i64 t.p2)).setCell ⟨B, 3, none⟩ (.int .i64 t.p3)).setCell ⟨B, 4, none⟩ (.int .i64 t.p4)).setCell ⟨B, 5, none⟩ (.int .i64 t.p5)).setCell ⟨B, 6, none⟩ (.int .i64 t.p6)).setCell ⟨B, 7, none⟩ (.int .i64 t.p7)) B t := by
  have h0 := heap_setCell_same w B 0 _ 81 (.int .i64 t.p0) h
  have h1 := heap_setCell_same _ B 1 _ 81 (.int .i64 t.p1) h0
  have h2 := heap_setCell_same _ B 2 _ 81 (.int .i64 t.p2) h1
  have h3 := heap_setCell_same _ B 3 _ 81 (.int .i64 t.p3) h2
  have h4 := heap_setCell_same _ B 4 _ 81 (.int .i64 t.p4) h3
  have h5 := heap_setCell_same _ B 5 _ 81 (.int .i64 t.p5) h4
  have h6 := heap_setCell_same _ B 6 _ 81 (.int .i64 t.p6) h5
  have h7 := heap_setCell_same _ B 7 _ 81 (.int .i64 t.p7) h6
  simpa [Ah] using h7
theorem below8c {B0 B : Nat} {a w : World} (h : Below B0 a w) (hB : B0 ≤ B) (t : Wn.Nod) :
    Below B0 a ((((((((w.setCell ⟨B, 0, none⟩ (.int .i64 t.p0)).setCell ⟨B, 1, none⟩ (.int .i64 t.p1)).setCell ⟨B, 2, none⟩ (.int .i64 t.p2)).setCell ⟨B, 3, none⟩ (.int .i64 t.p3)).setCell ⟨B, 4, none⟩ (.int .i64 t.p4)).setCell ⟨B, 5, none⟩ (.int .i64 t.p5)).setCell ⟨B, 6, none⟩ (.int .i64 t.p6)).setCell ⟨B, 7, none⟩ (.int .i64 t.p7)) :=
  (((((((h.setCell hB _).setCell hB _).setCell hB _).setCell hB _).setCell hB _).setCell hB _).setCell hB _).setCell hB _
theorem ret_cellA {fn : Func} {tmps : Array Value} {w : World} {B : Nat} {s : Wn.Nod} (hr : fn.results = #[.cell 4 81]) (hp : tmps.getD 4 undef = .pointer (some ⟨B, 0, none⟩)) (h : Ac w B s) :
    (results fn tmps).run Try.prog w = .ok (av s) w := by
  obtain ⟨c0, c1, c2, c3, c4, c5, c6, c7⟩ := h
  have hp' : tmps[4]?.getD undef = .pointer (some ⟨B, 0, none⟩) := by simpa using hp
  simp only [results, hr]
  simp [hp', go_sem, c0, c1, c2, c3, c4, c5, c6, c7, av]

set_option maxRecDepth 100000 in
set_option maxHeartbeats 1600000 in
theorem pointers_any (v : Value) (p : Int) (xs : List Int) (w : World) (hv : Wc.Bs w v xs) :
    Calls Try.prog 65 #[v, .int .i64 p] w fun e w' => e = .returned (av (Wb.pn xs p)) ∧ Below w.heap.size w w' := by
  obtain ⟨ai, ni, ci, rfl, -⟩ := id hv
  have H0 := Wc.hid (hv.alloc (.cells #[.int .i64 0, .int .i64 0, .int .i64 0, .int .i64 0, .int .i64 0, .int .i64 0, .int .i64 0, .int .i64 0] 81))
  have C0 := Wc.hid (Ah.new w Wn.n0)
  have B0 := Wc.hid ((Below.refl w.heap.size w).alloc (Nat.le_refl _) (.cells #[.int .i64 0, .int .i64 0, .int .i64 0, .int .i64 0, .int .i64 0, .int .i64 0, .int .i64 0, .int .i64 0] 81))
  clear hv
  by_cases hz : p = 0
  · subst hz
    go_enter Try.func65, Try.ntmps65
    go_wp2_with fail
    have H9 := C0.out.over Wn.n0
    exact bodyPost_ret (ret_cellA rfl rfl C0.out.ac) rfl ⟨rfl, B0.out⟩
  · have HZ := Wc.hid hz
    have hz' : (p == 0) = false := by simpa using hz
    clear hz
    go_enter Try.func65, Try.ntmps65
    go_wp2_with fail
    refine (read_any ai ni ci p xs _ H0.out).mono ?_
    rintro e w1 ⟨ax, cx, rfl, hv1, hb1⟩
    obtain ⟨E, hE⟩ : ∃ E, Wd.rdE xs.length p = E := ⟨_, rfl⟩
    rw [hE]
    clear hE
    go_wp2_with fail
    refine (parse7_any _ _ _ hv1).mono ?_
    rintro e w2 ⟨rfl, hb2⟩
    obtain ⟨n, hn⟩ : ∃ n, Wn.par (Wd.rdR xs p) = n := ⟨_, rfl⟩
    obtain ⟨E, hE⟩ : ∃ E, Wn.parE (Wd.rdR xs p) = E := ⟨_, rfl⟩
    rw [hn, hE]
    have HN := Wc.hid hn
    clear hn hE
    unfold nv
    have C2 := Wc.hid (((C0.out.keep hb1).keep hb2).keep ((Below.refl _ _).alloc (Nat.le_refl _) (.cells #[.int .i64 n.level, .int .i64 n.p0, .int .i64 n.p1, .int .i64 n.p2, .int .i64 n.p3, .int .i64 n.p4, .int .i64 n.p5, .int .i64 n.p6, .int .i64 n.p7] 83)))
    have ⟨d, d0, d1, d2, d3, d4, d5, d6, d7⟩ := (Nh.new w2 n).nc
    have ⟨c0, c1, c2, c3, c4, c5, c6, c7⟩ := C2.out.ac
    have hf := C2.out.frozen
    have HB := Wc.hid (Wc.step (Wc.step B0.out (Nat.le_refl _) hb1) (Nat.le_refl _) hb2)
    clear hb1 hb2 hv1
    go_wp2_with fail
    have H9 := C2.out.over n
    exact bodyPost_ret (ret_cellA rfl rfl H9.ac) rfl ⟨by unfold Wb.pn; rw [if_neg HZ.out]; unfold Wt.nd; rw [HN.out], below8c (HB.out.alloc HB.out.size _) (Nat.le_refl _) n⟩

theorem nul_none (xs : List Int) (lv i : Nat) : noneB (Wb.mk lv xs i) = Wb.nul xs i := by
  rw [Bool.eq_iff_iff, Wb.nul_iff]
  constructor
  · intro h k hk
    have := noneB_yes h k hk
    rwa [Wb.pat_mk _ _ _ hk] at this
  · intro h
    cases hn : noneB (Wb.mk lv xs i)
    · obtain ⟨k, hk, h0⟩ := noneB_no hn
      exact absurd (by rw [Wb.pat_mk _ _ _ hk]; exact h k hk) h0
    · rfl
end Go.Proofs.Ytafpjnofccfmlaa
