/-
  What the small functions of package walk return, for every input.
-/
import Derived.Test.YtiobegoiehjfiaaGreatKa
import Derived.Test.YtiobegoiehjfiaaGreatQh
namespace Wj
open Go Go.RowKit
/-- How often each of m blocks is met. -/
def Cn (w : World) (g m : Nat) (T : List Int) : Prop := w.rowIs g 3 m (fun j => .int .i64 (T.count (j : Int) : Int))
end Wj
namespace Go.Proofs.YtiobegoiehjfiaaGreat
open Go.RowKit

theorem cn_led {w : World} {g m : Nat} {T : List Int} {p : Nat} (h : Wj.Cn w g m T) (hp : ¬ p = 0) (v : Value) (hv : v = .int .i64 (((T.count (p : Int) : Nat) : Int) + 1)) : Wj.Cn (w.setCell ⟨g, p, none⟩ v) g m (Wj.led T p) := by
  subst hv
  refine (World.rowIs.set h p _).congr fun q _ => ?_
  rw [Wj.led_yes (by omega), List.count_append]
  by_cases e : q = p
  · rw [if_pos e]; subst e; simp
  · rw [if_neg e]
    have : List.count (q : Int) [(p : Int)] = 0 := List.count_eq_zero.2 (by simp; omega)
    rw [this]; simp

set_option maxHeartbeats 1600000 in
theorem lead_any (g m : Nat) (T : List Int) (p : Nat) (w : World) (hC : Wj.Cn w g m T) (hT : T.length ≤ 1000000) (hp : p < m) :
    Calls Tryz.prog 30 #[.slice (some ⟨g, 0, none⟩) m m, .int .i64 p] w fun e w' => e = .returned (.bool (p != 0 && !decide ((p : Int) ∈ T))) ∧ Wi.But g w w' ∧ Wj.Cn w' g m (Wj.led T p) := by
  have hcl : T.count (p : Int) ≤ 1000000 := Nat.le_trans List.count_le_length hT
  have h1 := World.rowIs.cell hC hp
  have h2 := World.rowIs.frozen hC p
  have HC := Wc.hid hC
  have HM : Hid (T.count (p : Int) = 0 ↔ ¬ (p : Int) ∈ T) := Wc.hid List.count_eq_zero
  clear hC hT
  by_cases hz : p = 0
  · subst hz
    clear h1 h2
    go_enter Tryz.func30, Tryz.ntmps30
    go_wp2_with fail
    go_ret
    exact ⟨rfl, Wi.But.refl _ _, by rw [show ((0 : Nat) : Int) = 0 from rfl, Wj.led_zero]; exact HC.out⟩
  · have HZ := Wc.hid hz
    obtain ⟨c, hc⟩ : ∃ c, T.count (p : Int) = c := ⟨_, rfl⟩
    have HL := Wc.hid (cn_led HC.out hz (.int .i64 ((c : Int) + 1)) (by rw [hc]))
    have HB := Wc.hid ((Wi.But.refl g w).set p (.int .i64 ((c : Int) + 1)))
    have HMM := HM.out
    rw [hc] at h1 hcl HMM
    have HM2 := Wc.hid HMM
    clear hc HMM HM
    have hzb : ((p : Int) == 0) = false := by simpa using hz
    go_enter Tryz.func30, Tryz.ntmps30
    go_wp2_with fail
    go_ret
    refine ⟨ret_bool ?_, HB.out, HL.out⟩
    have h3 := HM2.out
    rw [Bool.eq_iff_iff]
    by_cases e : c = 0
    · have := h3.1 e
      simp [e, this, hz]
    · have h4 : (p : Int) ∈ T := Classical.byContradiction fun h => e (h3.2 h)
      simp [h4]; omega

theorem ret_cell50 {fn : Func} {tmps : Array Value} {w : World} {B : Nat} {s : Wn.Nod} (hr : fn.results = #[.cell 4 69]) (hp : tmps.getD 4 undef = .pointer (some ⟨B, 0, none⟩)) (h : Nc w B s) :
    (results fn tmps).run Tryz.prog w = .ok (nv s) w := by
  obtain ⟨c, c0, c1, c2, c3, c4, c5, c6, c7⟩ := h
  have hp' : tmps[4]?.getD undef = .pointer (some ⟨B, 0, none⟩) := by rw [← hp]; simp
  simp [results, hr, hp', go_sem, c, c0, c1, c2, c3, c4, c5, c6, c7, nv]

set_option maxHeartbeats 1600000 in
/-- What walk's read returns. -/
theorem wread_any (v : Value) (p : Int) (xs : List Int) (w : World) (hv : Wc.Bs w v xs) (hp : Wd.rdE xs.length p = 0) (hk : Wn.parE (Wd.rdR xs p) = 0) :
    Calls Tryz.prog 45 #[v, .int .i64 p] w fun e w' => e = .returned (nv (Wt.nd xs p)) ∧ Below w.heap.size w w' := by
  obtain ⟨ai, ni, ci, rfl, -⟩ := id hv
  have H0 := Wc.hid (hv.alloc (.cells #[.int .i64 0, .int .i64 0, .int .i64 0, .int .i64 0, .int .i64 0, .int .i64 0, .int .i64 0, .int .i64 0, .int .i64 0] 69))
  have HZ := Wc.hid hp
  have HK := Wc.hid hk
  have C0 := Wc.hid (Nh.new w Wn.n0)
  clear hv hp hk
  go_enter Tryz.func45, Tryz.ntmps45
  go_wp2_with fail
  refine (read_any ai ni ci p xs _ H0.out).mono ?_
  rintro e w1 ⟨ax, cx, rfl, hv1, hb1⟩
  rw [HZ.out]
  go_wp2_with fail
  refine (parse7_any _ _ _ hv1).mono ?_
  rintro e w2 ⟨rfl, hb2⟩
  rw [HK.out]
  obtain ⟨n, hn⟩ : ∃ n, Wn.par (Wd.rdR xs p) = n := ⟨_, rfl⟩
  rw [hn]
  have HN := Wc.hid hn
  clear hn
  unfold nv
  have C2 := Wc.hid (((C0.out.keep hb1).keep hb2).keep ((Below.refl _ _).alloc (Nat.le_refl _) (.cells #[.int .i64 n.level, .int .i64 n.p0, .int .i64 n.p1, .int .i64 n.p2, .int .i64 n.p3, .int .i64 n.p4, .int .i64 n.p5, .int .i64 n.p6, .int .i64 n.p7] 69)))
  have ⟨d, d0, d1, d2, d3, d4, d5, d6, d7⟩ := (Nh.new w2 n).nc
  have ⟨c, c0, c1, c2, c3, c4, c5, c6, c7⟩ := C2.out.nc
  have hf := C2.out.frozen
  have HB := Wc.hid ((Wc.step (Wc.step ((Below.refl w.heap.size w).alloc (Nat.le_refl _) _) (Nat.le_refl _) hb1) (Nat.le_refl _) hb2))
  clear hb1 hb2 hv1
  go_wp2_with fail
  have H9 := C2.out.over n
  exact bodyPost_ret (ret_cell50 rfl rfl H9.nc) rfl ⟨by unfold Wt.nd; rw [HN.out], below9 (HB.out.alloc HB.out.size _) (Nat.le_refl _) n⟩
end Go.Proofs.YtiobegoiehjfiaaGreat
