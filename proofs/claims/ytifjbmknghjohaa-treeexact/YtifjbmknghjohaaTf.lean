/-
  What the small functions of package tree return, for every input.
-/
import Derived.Test.YtifjbmknghjohaaTm
import Derived.Test.YtifjbmknghjohaaNpar
import Derived.Test.YtifjbmknghjohaaDtw
import Derived.Deep.RegionLaw
import Derived.Deep.RegionWith
namespace Wt
open Go Go.RowKit

/-- A block of so many that is no slot's. -/
def bsB (p n : Int) : Bool := decide (2 ≤ p) && decide (p < n)
theorem bsB_iff {p n : Int} : bsB p n = true ↔ 2 ≤ p ∧ p < n := by simp [bsB]

end Wt
namespace Go.Proofs.Ytifjbmknghjohaa
open Go.RowKit

set_option maxHeartbeats 400000 in
theorem behind_any (p n : Int) (w : World) :
    Calls Try.prog 27 #[.int .i64 p, .int .i64 n] w fun e w' => e = .returned (.bool (Wt.bsB p n)) ∧ w = w' := by
  go_enter Try.func27, Try.ntmps27
  go_wp2
  all_goals go_ret
  all_goals (refine ⟨ret_bool ?_, rfl⟩; rw [Bool.eq_iff_iff]; simp [Wt.bsB]; try omega)

theorem ret_cell52 {fn : Func} {tmps : Array Value} {w : World} {B : Nat} {s : Wn.Nod} {v : Value} (hr : fn.results = #[.cell 4 47, .tmp 5]) (hp : tmps.getD 4 undef = .pointer (some ⟨B, 0, none⟩)) (hv : tmps.getD 5 undef = v) (h : Nc w B s) :
    (results fn tmps).run Try.prog w = .ok (.tuple #[nv s, v]) w := by
  obtain ⟨c, c0, c1, c2, c3, c4, c5, c6, c7⟩ := h
  rw [results_cell_tmp hr, hp, hv]
  simp [go_sem, c, c0, c1, c2, c3, c4, c5, c6, c7, nv]

theorem rd_fail {xs : List Int} {p : Int} (h : ¬ Wd.rdE xs.length p = 0) : Wd.rdR xs p = [] := by
  unfold Wd.rdR; rw [if_neg h]

set_option maxHeartbeats 1600000 in
theorem tread_any (v : Value) (p : Int) (xs : List Int) (w : World) (hv : Wc.Bs w v xs) :
    Calls Try.prog 52 #[v, .int .i64 p] w fun e w' => e = .returned (.tuple #[nv (Wt.nd xs p), .bool (Wn.parE (Wd.rdR xs p) == 0)]) ∧ Below w.heap.size w w' := by
  obtain ⟨ai, ni, ci, rfl, -⟩ := id hv
  have H0 := Wc.hid (hv.alloc (.cells #[.int .i64 0, .int .i64 0, .int .i64 0, .int .i64 0, .int .i64 0, .int .i64 0, .int .i64 0, .int .i64 0, .int .i64 0] 47))
  clear hv
  have C0 := Wc.hid (Nh.new w Wn.n0)
  by_cases hz : Wd.rdE xs.length p = 0
  · have HZ := Wc.hid hz
    clear hz
    go_enter Try.func52, Try.ntmps52
    go_wp2_with fail
    refine (read_any ai ni ci p xs _ H0.out).mono ?_
    rintro e w1 ⟨ax, cx, rfl, hv1, hb1⟩
    rw [HZ.out]
    go_wp2_with fail
    refine (parse7_any _ _ _ hv1).mono ?_
    rintro e w2 ⟨rfl, hb2⟩
    obtain ⟨n, hn⟩ : ∃ n, Wn.par (Wd.rdR xs p) = n := ⟨_, rfl⟩
    obtain ⟨E, hE⟩ : ∃ E, Wn.parE (Wd.rdR xs p) = E := ⟨_, rfl⟩
    rw [hn, hE]
    have HN := Wc.hid hn
    have HE := Wc.hid hE
    clear hn hE
    unfold nv
    have C2 := Wc.hid (((C0.out.keep hb1).keep hb2).keep ((Below.refl _ _).alloc (Nat.le_refl _) (.cells #[.int .i64 n.level, .int .i64 n.p0, .int .i64 n.p1, .int .i64 n.p2, .int .i64 n.p3, .int .i64 n.p4, .int .i64 n.p5, .int .i64 n.p6, .int .i64 n.p7] 47)))
    have ⟨d, d0, d1, d2, d3, d4, d5, d6, d7⟩ := (Nh.new w2 n).nc
    have ⟨c, c0, c1, c2, c3, c4, c5, c6, c7⟩ := C2.out.nc
    have hf := C2.out.frozen
    have HB := Wc.hid ((Wc.step (Wc.step ((Below.refl w.heap.size w).alloc (Nat.le_refl _) _) (Nat.le_refl _) hb1) (Nat.le_refl _) hb2))
    clear hb1 hb2 hv1
    go_wp2_with fail
    have H9 := C2.out.over n
    exact bodyPost_ret (ret_cell52 rfl rfl rfl H9.nc) rfl ⟨by unfold Wt.nd; rw [HN.out, HE.out]; rfl, below9 (HB.out.alloc HB.out.size _) (Nat.le_refl _) n⟩
  · have e1 := rd_fail hz
    have HZ := Wc.hid hz
    obtain ⟨E, hE⟩ : ∃ E, Wd.rdE xs.length p = E := ⟨_, rfl⟩
    rw [hE] at hz
    have hz' : (E != 0) = true := by simpa using hz
    have HE := Wc.hid hE
    clear hE hz
    go_enter Try.func52, Try.ntmps52
    go_wp2_with fail
    refine (read_any ai ni ci p xs _ H0.out).mono ?_
    rintro e w1 ⟨ax, cx, rfl, hv1, hb1⟩
    rw [HE.out]
    have C2 := Wc.hid (C0.out.keep hb1)
    have ⟨c, c0, c1, c2, c3, c4, c5, c6, c7⟩ := C2.out.nc
    have hf := C2.out.frozen
    have HB := Wc.hid (Wc.step ((Below.refl w.heap.size w).alloc (Nat.le_refl _) _) (Nat.le_refl _) hb1)
    clear hb1 hv1
    go_wp2_with fail
    have H9 := C2.out.over Wn.n0
    exact bodyPost_ret (ret_cell52 rfl rfl rfl H9.nc) rfl ⟨by unfold Wt.nd; rw [e1]; rfl, below9 HB.out (Nat.le_refl _) Wn.n0⟩

end Go.Proofs.Ytifjbmknghjohaa
