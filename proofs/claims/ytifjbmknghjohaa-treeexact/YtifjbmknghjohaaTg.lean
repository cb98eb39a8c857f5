/-
  What tree.find returns, for every device and every root.
-/
import Derived.Test.YtifjbmknghjohaaTb
import Derived.Test.YtifjbmknghjohaaTp
namespace Wt
open Go Go.RowKit

/-- Nothing is met yet. -/
def s0 : St := ⟨[], List.replicate 512 0, []⟩
/-- What the tree of a root holds, on a right device. -/
def tre (xs : List Int) (root : Int) : Option St :=
  if root = 0 then some s0 else
  if bsB root ((xs.length / 64 : Nat) : Int) = true then
    match met xs 3 root 0 s0 with
    | none => none
    | some t => if apB t.nodes t.sec (xs.length / 64) = true then some t else none
  else none
def treE (xs : List Int) (root : Int) : Int := if Wd.devB xs.length = true then (if (tre xs root).isSome = true then 0 else 6) else 2
def treN (xs : List Int) (root : Int) : List Int := if Wd.devB xs.length = true then (match tre xs root with | none => [] | some t => t.nodes) else []
def treS (xs : List Int) (root : Int) : List Int := if Wd.devB xs.length = true then (match tre xs root with | none => [] | some t => t.sec) else []

theorem tre_none {xs : List Int} {root : Int} (hd : Wd.devB xs.length = true) (h : tre xs root = none) : treE xs root = 6 ∧ treN xs root = [] ∧ treS xs root = [] := by
  simp [treE, treN, treS, hd, h]
theorem tre_some {xs : List Int} {root : Int} {t : St} (hd : Wd.devB xs.length = true) (h : tre xs root = some t) : treE xs root = 0 ∧ treN xs root = t.nodes ∧ treS xs root = t.sec := by
  simp [treE, treN, treS, hd, h]
theorem tre_dev {xs : List Int} {root : Int} (hd : Wd.devB xs.length = false) : treE xs root = 2 ∧ treN xs root = [] ∧ treS xs root = [] := by
  simp [treE, treN, treS, hd]

end Wt
namespace Go.Proofs.Ytifjbmknghjohaa
open Go.RowKit

/-- A block of two cells. -/
def Two (w : World) (B : Nat) (x y : Value) (T : TypeId) : Prop := w.heap[B]? = some (.cells #[x, y] T (0, 0))

theorem Two.lt {w : World} {B : Nat} {x y : Value} {T : TypeId} (h : Two w B x y T) : B < w.heap.size := (Array.getElem?_eq_some_iff.1 h).1
theorem Two.cells {w : World} {B : Nat} {x y : Value} {T : TypeId} (h : Two w B x y T) : w.cell? ⟨B, 0, none⟩ = some x ∧ w.cell? ⟨B, 1, none⟩ = some y ∧ ∀ i, w.frozen? ⟨B, i, none⟩ = false := by
  unfold Two at h
  exact ⟨by simp [World.cell?, h], by simp [World.cell?, h], fun i => by simp [World.frozen?, h]⟩
theorem Two.new (w : World) (x y : Value) (T : TypeId) : Two (w.alloc (.cells #[x, y] T)) w.heap.size x y T := by
  show (w.heap.push _)[w.heap.size]? = _; simp
theorem Two.keep {w w' : World} {B : Nat} {x y : Value} {T : TypeId} (h : Two w B x y T) (hb : Below w.heap.size w w') : Two w' B x y T := by
  unfold Two; rw [hb.block B h.lt]; exact h
theorem Two.below {w w' : World} {B base : Nat} {x y : Value} {T : TypeId} (h : Two w B x y T) (hb : Below base w w') (hB : B < base) : Two w' B x y T := by
  unfold Two; rw [hb.block B hB]; exact h
theorem Two.over {w : World} {B : Nat} {x y : Value} {T : TypeId} (h : Two w B x y T) (x' y' : Value) : Two ((w.setCell ⟨B, 0, none⟩ x').setCell ⟨B, 1, none⟩ y') B x' y' T := by
  have h0 := heap_setCell_same w B 0 _ T x' h
  have h1 := heap_setCell_same _ B 1 _ T y' h0
  unfold Two
  simpa using h1

theorem ret_cell26 {fn : Func} {tmps : Array Value} {w : World} {B : Nat} {x y v : Value} {a a' : Option Addr} {n n' c c' : Nat} (hx : x = .slice a n c) (hy : y = .slice a' n' c') (hr : fn.results = #[.cell 4 62, .tmp 5]) (hp : tmps.getD 4 undef = .pointer (some ⟨B, 0, none⟩)) (hv : tmps.getD 5 undef = v) (h : Two w B x y 62) :
    (results fn tmps).run Try.prog w = .ok (.tuple #[.agg #[x, y], v]) w := by
  subst hx hy
  obtain ⟨c0, c1, -⟩ := h.cells
  rw [results_cell_tmp hr, hp, hv]
  simp [go_sem, c0, c1]

theorem rv_row {w : World} {g n : Nat} {xs : List Int} (h : w.rowIs g 3 n (fun j => .int .i64 (xs.getD j 0))) (hl : xs.length = n) (hn : n ≤ 17592186044416) : Wd.In w (.slice (some ⟨g, 0, none⟩) n n) xs := by
  refine ⟨_, n, n, rfl, hl, Nat.le_refl _, by omega, hn, fun _ => ⟨g, 0, rfl, h.lt, fun i hi => ?_⟩⟩
  rw [Nat.zero_add]; exact h.cell hi

/-- What is met, told by two slices, also where another block is written. -/
theorem Fo.tell {w : World} {B g nb R : Nat} {s : Wt.St} (h : Fo w B g nb s) (hR : R < nb) (hg : R ≠ g) :
    ∃ a n c, w.cell? ⟨B, 0, none⟩ = some (.slice a n c) ∧ ∀ x y, Wd.In ((w.setCell ⟨R, 0, none⟩ x).setCell ⟨R, 1, none⟩ y) (.slice a n c) s.nodes ∧ Wd.In ((w.setCell ⟨R, 0, none⟩ x).setCell ⟨R, 1, none⟩ y) (.slice (some ⟨g, 0, none⟩) 512 512) s.sec := by
  obtain ⟨a, n, c, c0, c1, cf, hO⟩ := h.cells
  obtain ⟨r1, r2, -⟩ := h.row
  refine ⟨a, n, c, c0, fun x y => ⟨?_, ?_⟩⟩
  · have h1 : Wv.Ov (Value.int .i64) 3 nb ((w.setCell ⟨R, 0, none⟩ x).setCell ⟨R, 1, none⟩ y) (.slice a n c) s.nodes := ⟨ownsRow_setCell_below (ownsRow_setCell_below hO.1 (a := ⟨R, 0, none⟩) hR x) (a := ⟨R, 1, none⟩) hR y, hO.2⟩
    exact h1.rv
  · exact rv_row ((r1.setOther (a := ⟨R, 0, none⟩) (fun e => hg e.symm) x).setOther (a := ⟨R, 1, none⟩) (fun e => hg e.symm) y) r2 (by omega)

/-- What find tells. -/
def FindPost (xs : List Int) (root : Int) (w : World) : Ending → World → Prop := fun e w' =>
  ∃ a n c a' n' c', e = .returned (.tuple #[.agg #[.slice a n c, .slice a' n' c'], .int .i64 (Wt.treE xs root)]) ∧ Wd.In w' (.slice a n c) (Wt.treN xs root) ∧ Wd.In w' (.slice a' n' c') (Wt.treS xs root) ∧ Below w.heap.size w w'

theorem find_nil {xs : List Int} {root : Int} {w w' : World} {E : Int} (h : Wt.treE xs root = E ∧ Wt.treN xs root = [] ∧ Wt.treS xs root = []) (hb : Below w.heap.size w w') : FindPost xs root w (.returned (.tuple #[.agg #[.slice none 0 0, .slice none 0 0], .int .i64 E])) w' := by
  refine ⟨none, 0, 0, none, 0, 0, by rw [h.1], ?_, ?_, hb⟩
  · rw [h.2.1]; exact Wv.Rv.nil _
  · rw [h.2.2]; exact Wv.Rv.nil _

set_option maxHeartbeats 1600000 in
theorem find_dev (ai : Option Addr) (ni ci : Nat) (xs : List Int) (root : Int) (w : World) (hv : Wc.Bs w (.slice ai ni ci) xs) (hd : Wd.devB xs.length = false) :
    Calls Try.prog 26 #[.slice ai ni ci, .int .i64 root] w (FindPost xs root w) := by
  have hni : ni ≤ 140737488355328 := by obtain ⟨_, _, _, h1, _, _, _, h5, _⟩ := hv; cases h1; exact h5
  have hl := Wc.bs_len hv
  have HT := Wc.hid (Wt.tre_dev (root := root) hd)
  rw [hl] at hd
  have hE := Wd.chk_no (fun h => by rw [Wd.devB_iff.2 h] at hd; cases hd)
  have h0 := hE.1.symm
  have h2 := hE.2.symm
  have T0 := Two.new w (.slice none 0 0) (.slice none 0 0) 62
  have HB := Wc.hid ((Below.refl w.heap.size w).alloc (Nat.le_refl _) (.cells #[.slice none 0 0, .slice none 0 0] 62))
  have HT0 := Wc.hid T0
  clear hv hl hd hE T0
  go_enter Try.func26, Try.ntmps26
  go_wp2_with fail
  refine (check_any _ _ _ _ hni).mono ?_
  rintro e w1 ⟨rfl, rfl⟩
  rw [h0, h2]
  go_wp2_with fail
  exact bodyPost_ret (ret_cell26 rfl rfl rfl rfl rfl HT0.out) rfl (find_nil HT.out HB.out)

theorem zeros_getD (n j : Nat) : (List.replicate n (0 : Int)).getD j 0 = 0 := by
  rw [List.getD_eq_getElem?_getD, List.getElem?_replicate]
  split <;> rfl

theorem made512 : ∃ mc : Array Value, (∀ w : World, (Instr.makeSlice 23 (.int .i64 512) (.int .i64 512)).run Try.prog w = .ok (.slice (some ⟨w.heap.size, 0, none⟩) 512 512) (w.alloc (.cells mc 3))) ∧ ∀ w : World, (w.alloc (.cells mc 3)).rowIs w.heap.size 3 512 (fun _ => .int .i64 0) :=
  ⟨madeCells #[.int .i64 0] 512, run_make_row' (P := Try.prog) 23 3 (.int .i64 0) 8 Try.underlying23 Try.infoI rfl .i64 .i64 512 (by omega) (by omega), fun w => World.rowIs_made w (.int .i64 0) 512 3⟩

theorem fo_start (w : World) (X : Obj) (mc : Array Value) (hmc : ∀ w : World, (w.alloc (.cells mc 3)).rowIs w.heap.size 3 512 (fun _ => .int .i64 0)) :
    Fo (((w.alloc X).alloc (.cells mc 3)).alloc (.cells #[.slice none 0 0, .slice (some ⟨w.heap.size + 1, 0, none⟩) 512 512] 62)) (w.heap.size + 2) (w.heap.size + 1) (w.heap.size + 3) Wt.s0 := by
  have h1 := World.rowIs.alloc (hmc (w.alloc X)) (.cells #[.slice none 0 0, .slice (some ⟨w.heap.size + 1, 0, none⟩) 512 512] 62)
  rw [show (w.alloc X).heap.size = w.heap.size + 1 by simp] at h1
  have h2 := Two.new ((w.alloc X).alloc (.cells mc 3)) (.slice none 0 0) (.slice (some ⟨w.heap.size + 1, 0, none⟩) 512 512) 62
  rw [show ((w.alloc X).alloc (.cells mc 3)).heap.size = w.heap.size + 2 by simp] at h2
  refine ⟨none, 0, 0, h2, Wv.Ov.nil _ _ _, h1.congr fun j hj => ?_, List.length_replicate, by omega, by omega, by omega, by simp⟩
  rw [show Wt.s0.sec.getD j 0 = 0 from zeros_getD 512 j]

set_option maxHeartbeats 1600000 in
theorem find_rest_zero (ai : Option Addr) (ni ci : Nat) (xs : List Int) (w : World) (hv : Wc.Bs w (.slice ai ni ci) xs) (hd : Wd.devB xs.length = true) :
    Calls Try.prog 26 #[.slice ai ni ci, .int .i64 0] w (FindPost xs 0 w) := by
  have hni : ni ≤ 140737488355328 := by obtain ⟨_, _, _, h1, _, _, _, h5, _⟩ := hv; cases h1; exact h5
  have hl := Wc.bs_len hv
  have hd2 := hd
  rw [hl] at hd2
  have hE := Wd.chk_yes (Wd.devB_iff.1 hd2)
  have hdd := Wd.devB_iff.1 hd2
  obtain ⟨m, hm⟩ : ∃ m : Nat, ni / 64 = m := ⟨_, rfl⟩
  have hmi : (ni : Int) / 64 = (m : Int) := by omega
  have hml : m ≤ 4096 := by omega
  have h0 := hE.1.symm
  rw [hmi] at h0
  have h2 := hE.2.symm
  have hxm : xs.length / 64 = m := by rw [hl]; exact hm
  have HXM := Wc.hid hxm
  have HD := Wc.hid hd
  obtain ⟨mc, hmk, hmc⟩ := made512
  have HMC := Wc.hid hmc
  have F3 := Wc.hid (fo_start w (.cells #[.slice none 0 0, .slice none 0 0] 62) mc hmc)
  have T1 := Two.new w (.slice none 0 0) (.slice none 0 0) 62
  have b1 : Below w.heap.size w (w.alloc (.cells #[.slice none 0 0, .slice none 0 0] 62)) := (Below.refl _ _).alloc (Nat.le_refl _) _
  have b2 : Below (w.alloc (.cells #[.slice none 0 0, .slice none 0 0] 62)).heap.size (w.alloc (.cells #[.slice none 0 0, .slice none 0 0] 62)) ((w.alloc (.cells #[.slice none 0 0, .slice none 0 0] 62)).alloc (.cells mc 3)) := (Below.refl _ _).alloc (Nat.le_refl _) _
  have b3 : Below ((w.alloc (.cells #[.slice none 0 0, .slice none 0 0] 62)).alloc (.cells mc 3)).heap.size ((w.alloc (.cells #[.slice none 0 0, .slice none 0 0] 62)).alloc (.cells mc 3)) (((w.alloc (.cells #[.slice none 0 0, .slice none 0 0] 62)).alloc (.cells mc 3)).alloc (.cells #[.slice none 0 0, .slice (some ⟨w.heap.size + 1, 0, none⟩) 512 512] 62)) := (Below.refl _ _).alloc (Nat.le_refl _) _
  have T3 := Wc.hid ((T1.keep b2).keep b3)
  have V1 := Wc.hid (hv.keep b1)
  have B1 := Wc.hid b1
  have B3 := Wc.hid (Wc.step b2 (Nat.le_refl _) b3)
  have V3 := Wc.hid ((hv.keep b1).keep (Wc.step b2 (Nat.le_refl _) b3))
  clear hv hl hd hd2 hE hdd hm hmi hxm hmc T1 b1 b2 b3
  have HT := Wc.hid (Wt.tre_some (root := 0) (t := Wt.s0) HD.out (by simp [Wt.tre]))
  have b1 : Below w.heap.size w (w.alloc (.cells #[.slice none 0 0, .slice (some ⟨w.heap.size + 1, 0, none⟩) 512 512] 62)) := (Below.refl _ _).alloc (Nat.le_refl _) _
  have b2 : Below (w.alloc (.cells #[.slice none 0 0, .slice (some ⟨w.heap.size + 1, 0, none⟩) 512 512] 62)).heap.size (w.alloc (.cells #[.slice none 0 0, .slice (some ⟨w.heap.size + 1, 0, none⟩) 512 512] 62)) ((w.alloc (.cells #[.slice none 0 0, .slice (some ⟨w.heap.size + 1, 0, none⟩) 512 512] 62)).alloc (.cells mc 3)) := (Below.refl _ _).alloc (Nat.le_refl _) _
  have b3 : Below ((w.alloc (.cells #[.slice none 0 0, .slice (some ⟨w.heap.size + 1, 0, none⟩) 512 512] 62)).alloc (.cells mc 3)).heap.size ((w.alloc (.cells #[.slice none 0 0, .slice (some ⟨w.heap.size + 1, 0, none⟩) 512 512] 62)).alloc (.cells mc 3)) (((w.alloc (.cells #[.slice none 0 0, .slice (some ⟨w.heap.size + 1, 0, none⟩) 512 512] 62)).alloc (.cells mc 3)).alloc (.cells #[.slice none 0 0, .slice (some ⟨w.heap.size + 1, 0, none⟩) 512 512] 62)) := (Below.refl _ _).alloc (Nat.le_refl _) _
  have T5 := Wc.hid (((Two.new w (.slice none 0 0) (.slice (some ⟨w.heap.size + 1, 0, none⟩) 512 512) 62).keep b2).keep b3)
  have F5 := Wc.hid (fo_start w (.cells #[.slice none 0 0, .slice (some ⟨w.heap.size + 1, 0, none⟩) 512 512] 62) mc HMC.out)
  have HB5 := Wc.hid (Wc.step (Wc.step b1 (Nat.le_refl _) b2) (Nat.le_refl _) b3)
  clear b1 b2 b3 T3 F3 V3 V1 B1 B3
  go_enter Try.func26, Try.ntmps26
  go_wp2_with fail
  refine (check_any _ _ _ _ hni).mono ?_
  rintro e w1 ⟨rfl, rfl⟩
  rw [h0, h2]
  go_wp2_with fail
  refine bodyPost_ret (ret_cell26 rfl rfl rfl rfl rfl T5.out) rfl ⟨_, _, _, _, _, _, by rw [HT.out.1]; rfl, ?_, ?_, HB5.out⟩
  · rw [HT.out.2.1]; exact Wv.Rv.nil _
  · rw [HT.out.2.2]; exact rv_row F5.out.row.1 F5.out.row.2.1 (by omega)

set_option maxHeartbeats 1600000 in
theorem find_slot (ai : Option Addr) (ni ci : Nat) (xs : List Int) (root : Int) (w : World) (hv : Wc.Bs w (.slice ai ni ci) xs) (hd : Wd.devB xs.length = true) (hr : ¬ root = 0) (hb : Wt.bsB root ((xs.length / 64 : Nat) : Int) = false) :
    Calls Try.prog 26 #[.slice ai ni ci, .int .i64 root] w (FindPost xs root w) := by
  have hni : ni ≤ 140737488355328 := by obtain ⟨_, _, _, h1, _, _, _, h5, _⟩ := hv; cases h1; exact h5
  have hl := Wc.bs_len hv
  have hd2 := hd
  rw [hl] at hd2
  have hE := Wd.chk_yes (Wd.devB_iff.1 hd2)
  have hdd := Wd.devB_iff.1 hd2
  obtain ⟨m, hm⟩ : ∃ m : Nat, ni / 64 = m := ⟨_, rfl⟩
  have hmi : (ni : Int) / 64 = (m : Int) := by omega
  have hml : m ≤ 4096 := by omega
  have h0 := hE.1.symm
  rw [hmi] at h0
  have h2 := hE.2.symm
  have hxm : xs.length / 64 = m := by rw [hl]; exact hm
  have HXM := Wc.hid hxm
  have HD := Wc.hid hd
  obtain ⟨mc, hmk, hmc⟩ := made512
  have F3 := Wc.hid (fo_start w (.cells #[.slice none 0 0, .slice none 0 0] 62) mc hmc)
  have T1 := Two.new w (.slice none 0 0) (.slice none 0 0) 62
  have b1 : Below w.heap.size w (w.alloc (.cells #[.slice none 0 0, .slice none 0 0] 62)) := (Below.refl _ _).alloc (Nat.le_refl _) _
  have b2 : Below (w.alloc (.cells #[.slice none 0 0, .slice none 0 0] 62)).heap.size (w.alloc (.cells #[.slice none 0 0, .slice none 0 0] 62)) ((w.alloc (.cells #[.slice none 0 0, .slice none 0 0] 62)).alloc (.cells mc 3)) := (Below.refl _ _).alloc (Nat.le_refl _) _
  have b3 : Below ((w.alloc (.cells #[.slice none 0 0, .slice none 0 0] 62)).alloc (.cells mc 3)).heap.size ((w.alloc (.cells #[.slice none 0 0, .slice none 0 0] 62)).alloc (.cells mc 3)) (((w.alloc (.cells #[.slice none 0 0, .slice none 0 0] 62)).alloc (.cells mc 3)).alloc (.cells #[.slice none 0 0, .slice (some ⟨w.heap.size + 1, 0, none⟩) 512 512] 62)) := (Below.refl _ _).alloc (Nat.le_refl _) _
  have T3 := Wc.hid ((T1.keep b2).keep b3)
  have V1 := Wc.hid (hv.keep b1)
  have B1 := Wc.hid b1
  have B3 := Wc.hid (Wc.step b2 (Nat.le_refl _) b3)
  have V3 := Wc.hid ((hv.keep b1).keep (Wc.step b2 (Nat.le_refl _) b3))
  clear hv hl hd hd2 hE hdd hm hmi hxm hmc T1 b1 b2 b3
  have HT := Wc.hid (Wt.tre_none (root := root) HD.out (by unfold Wt.tre; rw [if_neg hr, if_neg (by rw [hb]; decide)]))
  rw [HXM.out] at hb
  have hrb : (root == 0) = false := by simpa using hr
  go_enter Try.func26, Try.ntmps26
  go_wp2_with fail
  refine (check_any _ _ _ _ hni).mono ?_
  rintro e w1 ⟨rfl, rfl⟩
  rw [h0, h2]
  go_wp2_with fail
  refine (behind_any root m _).mono ?_
  rintro e w2 ⟨rfl, rfl⟩
  rw [hb]
  go_wp2_with fail
  exact bodyPost_ret (ret_cell26 rfl rfl rfl rfl rfl T3.out) rfl (find_nil HT.out (B1.out.trans (B3.out.mono B1.out.size)))

set_option maxHeartbeats 1600000 in
theorem find_none (ai : Option Addr) (ni ci : Nat) (xs : List Int) (root : Int) (w : World) (hv : Wc.Bs w (.slice ai ni ci) xs) (hd : Wd.devB xs.length = true) (hr : ¬ root = 0) (hb : Wt.bsB root ((xs.length / 64 : Nat) : Int) = true) (ht : Wt.met xs 3 root 0 Wt.s0 = none) :
    Calls Try.prog 26 #[.slice ai ni ci, .int .i64 root] w (FindPost xs root w) := by
  have hni : ni ≤ 140737488355328 := by obtain ⟨_, _, _, h1, _, _, _, h5, _⟩ := hv; cases h1; exact h5
  have hl := Wc.bs_len hv
  have hd2 := hd
  rw [hl] at hd2
  have hE := Wd.chk_yes (Wd.devB_iff.1 hd2)
  have hdd := Wd.devB_iff.1 hd2
  obtain ⟨m, hm⟩ : ∃ m : Nat, ni / 64 = m := ⟨_, rfl⟩
  have hmi : (ni : Int) / 64 = (m : Int) := by omega
  have hml : m ≤ 4096 := by omega
  have h0 := hE.1.symm
  rw [hmi] at h0
  have h2 := hE.2.symm
  have hxm : xs.length / 64 = m := by rw [hl]; exact hm
  have HXM := Wc.hid hxm
  have HD := Wc.hid hd
  obtain ⟨mc, hmk, hmc⟩ := made512
  have F3 := Wc.hid (fo_start w (.cells #[.slice none 0 0, .slice none 0 0] 62) mc hmc)
  have T1 := Two.new w (.slice none 0 0) (.slice none 0 0) 62
  have b1 : Below w.heap.size w (w.alloc (.cells #[.slice none 0 0, .slice none 0 0] 62)) := (Below.refl _ _).alloc (Nat.le_refl _) _
  have b2 : Below (w.alloc (.cells #[.slice none 0 0, .slice none 0 0] 62)).heap.size (w.alloc (.cells #[.slice none 0 0, .slice none 0 0] 62)) ((w.alloc (.cells #[.slice none 0 0, .slice none 0 0] 62)).alloc (.cells mc 3)) := (Below.refl _ _).alloc (Nat.le_refl _) _
  have b3 : Below ((w.alloc (.cells #[.slice none 0 0, .slice none 0 0] 62)).alloc (.cells mc 3)).heap.size ((w.alloc (.cells #[.slice none 0 0, .slice none 0 0] 62)).alloc (.cells mc 3)) (((w.alloc (.cells #[.slice none 0 0, .slice none 0 0] 62)).alloc (.cells mc 3)).alloc (.cells #[.slice none 0 0, .slice (some ⟨w.heap.size + 1, 0, none⟩) 512 512] 62)) := (Below.refl _ _).alloc (Nat.le_refl _) _
  have T3 := Wc.hid ((T1.keep b2).keep b3)
  have V1 := Wc.hid (hv.keep b1)
  have B1 := Wc.hid b1
  have B3 := Wc.hid (Wc.step b2 (Nat.le_refl _) b3)
  have V3 := Wc.hid ((hv.keep b1).keep (Wc.step b2 (Nat.le_refl _) b3))
  clear hv hl hd hd2 hE hdd hm hmi hxm hmc T1 b1 b2 b3
  have HT := Wc.hid (Wt.tre_none (root := root) HD.out (by unfold Wt.tre; rw [if_neg hr, if_pos hb, ht]))
  rw [HXM.out] at hb
  have HTN := Wc.hid ht
  have hrb : (root == 0) = false := by simpa using hr
  clear ht
  go_enter Try.func26, Try.ntmps26
  go_wp2_with fail
  refine (check_any _ _ _ _ hni).mono ?_
  rintro e w1 ⟨rfl, rfl⟩
  rw [h0, h2]
  go_wp2_with fail
  refine (behind_any root m _).mono ?_
  rintro e w2 ⟨rfl, rfl⟩
  rw [hb]
  go_wp2_with fail
  refine (follow_any xs _ (w.alloc (.cells #[.slice none 0 0, .slice none 0 0] 62)) (w.heap.size + 2) (w.heap.size + 1) (w.heap.size + 3) V1.out (by simp) (by simp) root Wt.s0 _ rfl B3.out F3.out).mono ?_
  rintro e w5 ⟨rfl, hb5, -⟩
  rw [HTN.out]
  have T5 := (Two.new w (.slice none 0 0) (.slice none 0 0) 62).keep hb5
  obtain ⟨c0, c1, cf⟩ := T5.cells
  have HT5 := Wc.hid (T5.over (.slice none 0 0) (.slice none 0 0))
  have HB5 := Wc.hid (Wc.step B1.out (Nat.le_refl _) hb5)
  clear T5 hb5
  go_wp2_with fail
  exact bodyPost_ret (ret_cell26 rfl rfl rfl rfl rfl HT5.out) rfl (find_nil HT.out ((HB5.out.setCell (p := ⟨w.heap.size, 0, none⟩) (Nat.le_refl _) _).setCell (p := ⟨w.heap.size, 1, none⟩) (Nat.le_refl _) _))

theorem s0_pos : ∀ x ∈ Wt.s0.sec, (0 : Int) ≤ x := by
  intro x hx
  have : x = 0 := (List.mem_replicate.1 hx).2
  omega

set_option maxHeartbeats 1600000 in
theorem find_near (ai : Option Addr) (ni ci : Nat) (xs : List Int) (root : Int) (w : World) (hv : Wc.Bs w (.slice ai ni ci) xs) (hd : Wd.devB xs.length = true) (hr : ¬ root = 0) (hb : Wt.bsB root ((xs.length / 64 : Nat) : Int) = true) (t : Wt.St) (ht : Wt.met xs 3 root 0 Wt.s0 = some t) (ha : Wt.apB t.nodes t.sec (xs.length / 64) = false) :
    Calls Try.prog 26 #[.slice ai ni ci, .int .i64 root] w (FindPost xs root w) := by
  have hne : ¬ t.nodes = [] := by
    obtain ⟨a, h1⟩ := Wt.met_root ht
    rw [h1]; simp
  have hnd := Wt.met_nodes xs 3 root 0 Wt.s0 t ht (by intro x hx; cases hx)
  have hsc := Wt.met_pos xs 3 root 0 Wt.s0 t ht (by have := Wt.bsB_iff.1 hb; omega) s0_pos
  have hni : ni ≤ 140737488355328 := by obtain ⟨_, _, _, h1, _, _, _, h5, _⟩ := hv; cases h1; exact h5
  have hl := Wc.bs_len hv
  have hd2 := hd
  rw [hl] at hd2
  have hE := Wd.chk_yes (Wd.devB_iff.1 hd2)
  have hdd := Wd.devB_iff.1 hd2
  obtain ⟨m, hm⟩ : ∃ m : Nat, ni / 64 = m := ⟨_, rfl⟩
  have hmi : (ni : Int) / 64 = (m : Int) := by omega
  have hml : m ≤ 4096 := by omega
  have h0 := hE.1.symm
  rw [hmi] at h0
  have h2 := hE.2.symm
  have hxm : xs.length / 64 = m := by rw [hl]; exact hm
  have HXM := Wc.hid hxm
  have HD := Wc.hid hd
  obtain ⟨mc, hmk, hmc⟩ := made512
  have F3 := Wc.hid (fo_start w (.cells #[.slice none 0 0, .slice none 0 0] 62) mc hmc)
  have T1 := Two.new w (.slice none 0 0) (.slice none 0 0) 62
  have b1 : Below w.heap.size w (w.alloc (.cells #[.slice none 0 0, .slice none 0 0] 62)) := (Below.refl _ _).alloc (Nat.le_refl _) _
  have b2 : Below (w.alloc (.cells #[.slice none 0 0, .slice none 0 0] 62)).heap.size (w.alloc (.cells #[.slice none 0 0, .slice none 0 0] 62)) ((w.alloc (.cells #[.slice none 0 0, .slice none 0 0] 62)).alloc (.cells mc 3)) := (Below.refl _ _).alloc (Nat.le_refl _) _
  have b3 : Below ((w.alloc (.cells #[.slice none 0 0, .slice none 0 0] 62)).alloc (.cells mc 3)).heap.size ((w.alloc (.cells #[.slice none 0 0, .slice none 0 0] 62)).alloc (.cells mc 3)) (((w.alloc (.cells #[.slice none 0 0, .slice none 0 0] 62)).alloc (.cells mc 3)).alloc (.cells #[.slice none 0 0, .slice (some ⟨w.heap.size + 1, 0, none⟩) 512 512] 62)) := (Below.refl _ _).alloc (Nat.le_refl _) _
  have T3 := Wc.hid ((T1.keep b2).keep b3)
  have V1 := Wc.hid (hv.keep b1)
  have B1 := Wc.hid b1
  have B3 := Wc.hid (Wc.step b2 (Nat.le_refl _) b3)
  have V3 := Wc.hid ((hv.keep b1).keep (Wc.step b2 (Nat.le_refl _) b3))
  clear hv hl hd hd2 hE hdd hm hmi hxm hmc T1 b1 b2 b3
  have HT := Wc.hid (Wt.tre_none (root := root) HD.out (by unfold Wt.tre; rw [if_neg hr, if_pos hb, ht]; exact if_neg (by rw [ha]; decide)))
  rw [HXM.out] at hb ha hnd
  have HTN := Wc.hid ht
  have hrb : (root == 0) = false := by simpa using hr
  have HND := Wc.hid hnd
  have HSC := Wc.hid hsc
  have HNE := Wc.hid hne
  have HAP := Wc.hid ha
  clear ht hnd hsc hne ha
  go_enter Try.func26, Try.ntmps26
  go_wp2_with fail
  refine (check_any _ _ _ _ hni).mono ?_
  rintro e w1 ⟨rfl, rfl⟩
  rw [h0, h2]
  go_wp2_with fail
  refine (behind_any root m _).mono ?_
  rintro e w2 ⟨rfl, rfl⟩
  rw [hb]
  go_wp2_with fail
  refine (follow_any xs _ (w.alloc (.cells #[.slice none 0 0, .slice none 0 0] 62)) (w.heap.size + 2) (w.heap.size + 1) (w.heap.size + 3) V1.out (by simp) (by simp) root Wt.s0 _ rfl B3.out F3.out).mono ?_
  rintro e w5 ⟨rfl, hb5, hF5⟩
  rw [HTN.out]
  have F5 := Wc.hid (hF5 t HTN.out)
  have HB5 := Wc.hid hb5
  clear hb5 hF5
  go_wp2_with fail
  refine (apart_any (w.heap.size + 2) (w.heap.size + 1) (w.heap.size + 3) m t _ F5.out (by omega) HNE.out HND.out HSC.out).mono ?_
  rintro e w6 ⟨rfl, hb6⟩
  rw [HAP.out]
  have F6 := F5.out.keep hb6
  have T6 := ((Two.new w (.slice none 0 0) (.slice none 0 0) 62).keep HB5.out).keep hb6
  have HB6 := Wc.hid (Wc.step (Wc.step B1.out (Nat.le_refl _) HB5.out) (Nat.le_refl _) hb6)
  obtain ⟨c0, c1, cf⟩ := T6.cells
  have HT5 := Wc.hid (T6.over (.slice none 0 0) (.slice none 0 0))
  clear T6 hb6 F6
  go_wp2_with fail
  exact bodyPost_ret (ret_cell26 rfl rfl rfl rfl rfl HT5.out) rfl (find_nil HT.out ((HB6.out.setCell (p := ⟨w.heap.size, 0, none⟩) (Nat.le_refl _) _).setCell (p := ⟨w.heap.size, 1, none⟩) (Nat.le_refl _) _))

set_option maxHeartbeats 1600000 in
theorem find_good (ai : Option Addr) (ni ci : Nat) (xs : List Int) (root : Int) (w : World) (hv : Wc.Bs w (.slice ai ni ci) xs) (hd : Wd.devB xs.length = true) (hr : ¬ root = 0) (hb : Wt.bsB root ((xs.length / 64 : Nat) : Int) = true) (t : Wt.St) (ht : Wt.met xs 3 root 0 Wt.s0 = some t) (ha : Wt.apB t.nodes t.sec (xs.length / 64) = true) :
    Calls Try.prog 26 #[.slice ai ni ci, .int .i64 root] w (FindPost xs root w) := by
  have hne : ¬ t.nodes = [] := by
    obtain ⟨a, h1⟩ := Wt.met_root ht
    rw [h1]; simp
  have hnd := Wt.met_nodes xs 3 root 0 Wt.s0 t ht (by intro x hx; cases hx)
  have hsc := Wt.met_pos xs 3 root 0 Wt.s0 t ht (by have := Wt.bsB_iff.1 hb; omega) s0_pos
  have hni : ni ≤ 140737488355328 := by obtain ⟨_, _, _, h1, _, _, _, h5, _⟩ := hv; cases h1; exact h5
  have hl := Wc.bs_len hv
  have hd2 := hd
  rw [hl] at hd2
  have hE := Wd.chk_yes (Wd.devB_iff.1 hd2)
  have hdd := Wd.devB_iff.1 hd2
  obtain ⟨m, hm⟩ : ∃ m : Nat, ni / 64 = m := ⟨_, rfl⟩
  have hmi : (ni : Int) / 64 = (m : Int) := by omega
  have hml : m ≤ 4096 := by omega
  have h0 := hE.1.symm
  rw [hmi] at h0
  have h2 := hE.2.symm
  have hxm : xs.length / 64 = m := by rw [hl]; exact hm
  have HXM := Wc.hid hxm
  have HD := Wc.hid hd
  obtain ⟨mc, hmk, hmc⟩ := made512
  have F3 := Wc.hid (fo_start w (.cells #[.slice none 0 0, .slice none 0 0] 62) mc hmc)
  have T1 := Two.new w (.slice none 0 0) (.slice none 0 0) 62
  have b1 : Below w.heap.size w (w.alloc (.cells #[.slice none 0 0, .slice none 0 0] 62)) := (Below.refl _ _).alloc (Nat.le_refl _) _
  have b2 : Below (w.alloc (.cells #[.slice none 0 0, .slice none 0 0] 62)).heap.size (w.alloc (.cells #[.slice none 0 0, .slice none 0 0] 62)) ((w.alloc (.cells #[.slice none 0 0, .slice none 0 0] 62)).alloc (.cells mc 3)) := (Below.refl _ _).alloc (Nat.le_refl _) _
  have b3 : Below ((w.alloc (.cells #[.slice none 0 0, .slice none 0 0] 62)).alloc (.cells mc 3)).heap.size ((w.alloc (.cells #[.slice none 0 0, .slice none 0 0] 62)).alloc (.cells mc 3)) (((w.alloc (.cells #[.slice none 0 0, .slice none 0 0] 62)).alloc (.cells mc 3)).alloc (.cells #[.slice none 0 0, .slice (some ⟨w.heap.size + 1, 0, none⟩) 512 512] 62)) := (Below.refl _ _).alloc (Nat.le_refl _) _
  have T3 := Wc.hid ((T1.keep b2).keep b3)
  have V1 := Wc.hid (hv.keep b1)
  have B1 := Wc.hid b1
  have B3 := Wc.hid (Wc.step b2 (Nat.le_refl _) b3)
  have V3 := Wc.hid ((hv.keep b1).keep (Wc.step b2 (Nat.le_refl _) b3))
  clear hv hl hd hd2 hE hdd hm hmi hxm hmc T1 b1 b2 b3
  have HT := Wc.hid (Wt.tre_some (root := root) (t := t) HD.out (by unfold Wt.tre; rw [if_neg hr, if_pos hb, ht]; exact if_pos ha))
  rw [HXM.out] at hb ha hnd
  have HTN := Wc.hid ht
  have hrb : (root == 0) = false := by simpa using hr
  have HND := Wc.hid hnd
  have HSC := Wc.hid hsc
  have HNE := Wc.hid hne
  have HAP := Wc.hid ha
  clear ht hnd hsc hne ha
  go_enter Try.func26, Try.ntmps26
  go_wp2_with fail
  refine (check_any _ _ _ _ hni).mono ?_
  rintro e w1 ⟨rfl, rfl⟩
  rw [h0, h2]
  go_wp2_with fail
  refine (behind_any root m _).mono ?_
  rintro e w2 ⟨rfl, rfl⟩
  rw [hb]
  go_wp2_with fail
  refine (follow_any xs _ (w.alloc (.cells #[.slice none 0 0, .slice none 0 0] 62)) (w.heap.size + 2) (w.heap.size + 1) (w.heap.size + 3) V1.out (by simp) (by simp) root Wt.s0 _ rfl B3.out F3.out).mono ?_
  rintro e w5 ⟨rfl, hb5, hF5⟩
  rw [HTN.out]
  have F5 := Wc.hid (hF5 t HTN.out)
  have HB5 := Wc.hid hb5
  clear hb5 hF5
  go_wp2_with fail
  refine (apart_any (w.heap.size + 2) (w.heap.size + 1) (w.heap.size + 3) m t _ F5.out (by omega) HNE.out HND.out HSC.out).mono ?_
  rintro e w6 ⟨rfl, hb6⟩
  rw [HAP.out]
  have F6 := F5.out.keep hb6
  have T6 := ((Two.new w (.slice none 0 0) (.slice none 0 0) 62).keep HB5.out).keep hb6
  have HB6 := Wc.hid (Wc.step (Wc.step B1.out (Nat.le_refl _) HB5.out) (Nat.le_refl _) hb6)
  obtain ⟨c0, c1, cf⟩ := T6.cells
  obtain ⟨a, n, c, k0, HK⟩ := F6.tell (R := w.heap.size) (by omega) (by omega)
  obtain ⟨-, -, -, -, k1, -⟩ := F6.cells
  have HKK := Wc.hid HK
  have HT5 := Wc.hid (T6.over (.slice a n c) (.slice (some ⟨w.heap.size + 1, 0, none⟩) 512 512))
  clear T6 hb6 F6 HK
  go_wp2_with fail
  exact bodyPost_ret (ret_cell26 rfl rfl rfl rfl rfl HT5.out) rfl ⟨a, n, c, _, _, _, by rw [HT.out.1]; rfl, by rw [HT.out.2.1]; exact (HKK.out _ _).1, by rw [HT.out.2.2]; exact (HKK.out _ _).2, ((HB6.out.setCell (p := ⟨w.heap.size, 0, none⟩) (Nat.le_refl _) _).setCell (p := ⟨w.heap.size, 1, none⟩) (Nat.le_refl _) _)⟩

/-- What find tells, for every device and every root. -/
theorem find_any (v : Value) (xs : List Int) (root : Int) (w : World) (hv : Wc.Bs w v xs) : Calls Try.prog 26 #[v, .int .i64 root] w (FindPost xs root w) := by
  obtain ⟨ai, ni, ci, rfl, -⟩ := id hv
  cases hd : Wd.devB xs.length
  · exact find_dev ai ni ci xs root w hv hd
  · by_cases hr : root = 0
    · subst hr; exact find_rest_zero ai ni ci xs w hv hd
    · cases hb : Wt.bsB root ((xs.length / 64 : Nat) : Int)
      · exact find_slot ai ni ci xs root w hv hd hr hb
      · cases ht : Wt.met xs 3 root 0 Wt.s0 with
        | none => exact find_none ai ni ci xs root w hv hd hr hb ht
        | some t =>
          cases ha : Wt.apB t.nodes t.sec (xs.length / 64)
          · exact find_near ai ni ci xs root w hv hd hr hb t ht ha
          · exact find_good ai ni ci xs root w hv hd hr hb t ht ha

end Go.Proofs.Ytifjbmknghjohaa
