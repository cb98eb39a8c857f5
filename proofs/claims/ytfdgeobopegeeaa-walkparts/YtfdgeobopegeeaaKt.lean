/-
  What tree.Nodes returns, on: its answer is memory of the call's own, which may be appended to.
-/
import Derived.Test.YtfdgeobopegeeaaJG
namespace Go.Proofs.Ytfdgeobopegeeaa
open Go.RowKit

theorem ov_base {e b b' : Nat} {w : World} {v : Value} {l : List Int} (h : Wv.Ov (Value.int .i64) e b w v l) (hb : b' ≤ b) : Wv.Ov (Value.int .i64) e b' w v l := by
  obtain ⟨⟨h1, h2⟩, h3⟩ := h
  refine ⟨⟨h1, ?_⟩, h3⟩
  rcases h2 with h2 | ⟨g, cap, cur, k1, k2, k3⟩
  · exact .inl h2
  · exact .inr ⟨g, cap, cur, k1, Nat.le_trans hb k2, k3⟩

/-- What is met, told by two slices, also where another block is written. -/
theorem Fo.tellO {w : World} {B g nb R : Nat} {s : Wt.St} (h : Fo w B g nb s) (hR : R < nb) (hg : R ≠ g) :
    ∃ a n c, w.cell? ⟨B, 0, none⟩ = some (.slice a n c) ∧ Young nb (.slice a n c) ∧ (∀ x y, Wd.In ((w.setCell ⟨R, 0, none⟩ x).setCell ⟨R, 1, none⟩ y) (.slice a n c) s.nodes ∧ Wd.In ((w.setCell ⟨R, 0, none⟩ x).setCell ⟨R, 1, none⟩ y) (.slice (some ⟨g, 0, none⟩) 512 512) s.sec) ∧
      ∀ x y, Wv.Ov (Value.int .i64) 3 nb ((w.setCell ⟨R, 0, none⟩ x).setCell ⟨R, 1, none⟩ y) (.slice a n c) s.nodes := by
  obtain ⟨a, n, c, c0, c1, cf, hO⟩ := h.cells
  obtain ⟨r1, r2, -⟩ := h.row
  have hov : ∀ x y, Wv.Ov (Value.int .i64) 3 nb ((w.setCell ⟨R, 0, none⟩ x).setCell ⟨R, 1, none⟩ y) (.slice a n c) s.nodes := fun x y => ⟨ownsRow_setCell_below (ownsRow_setCell_below hO.1 (a := ⟨R, 0, none⟩) hR x) (a := ⟨R, 1, none⟩) hR y, hO.2⟩
  refine ⟨a, n, c, c0, fun a' n' c' e => ?_, fun x y => ⟨(hov x y).rv, ?_⟩, hov⟩
  · cases e
    exact (hO.1.lt _ rfl).1
  · exact rv_row ((r1.setOther (a := ⟨R, 0, none⟩) (fun e => hg e.symm) x).setOther (a := ⟨R, 1, none⟩) (fun e => hg e.symm) y) r2 (by omega)

/-- What find tells. -/
def FindPostO (xs : List Int) (root : Int) (w : World) : Ending → World → Prop := fun e w' =>
  ∃ a n c a' n' c', e = .returned (.tuple #[.agg #[.slice a n c, .slice a' n' c'], .int .i64 (Wt.treE xs root)]) ∧ Wd.In w' (.slice a n c) (Wt.treN xs root) ∧ Wd.In w' (.slice a' n' c') (Wt.treS xs root) ∧ Below w.heap.size w w' ∧ Young w.heap.size (.slice a n c) ∧ Young w.heap.size (.slice a' n' c') ∧ Wv.Ov (Value.int .i64) 3 w.heap.size w' (.slice a n c) (Wt.treN xs root)

theorem find_nilO {xs : List Int} {root : Int} {w w' : World} {E : Int} (h : Wt.treE xs root = E ∧ Wt.treN xs root = [] ∧ Wt.treS xs root = []) (hb : Below w.heap.size w w') : FindPostO xs root w (.returned (.tuple #[.agg #[.slice none 0 0, .slice none 0 0], .int .i64 E])) w' := by
  refine ⟨none, 0, 0, none, 0, 0, by rw [h.1], ?_, ?_, hb, Young.nil _ _ _, Young.nil _ _ _, by rw [h.2.1]; exact Wv.Ov.nil _ _ _⟩
  · rw [h.2.1]; exact Wv.Rv.nil _
  · rw [h.2.2]; exact Wv.Rv.nil _

set_option maxHeartbeats 1600000 in
theorem find_devO (ai : Option Addr) (ni ci : Nat) (xs : List Int) (root : Int) (w : World) (hv : Wc.Bs w (.slice ai ni ci) xs) (hd : Wd.devB xs.length = false) :
    Calls Try.prog 49 #[.slice ai ni ci, .int .i64 root] w (FindPostO xs root w) := by
  have hni : ni ≤ 140737488355328 := by obtain ⟨_, _, _, h1, _, _, _, h5, _⟩ := hv; cases h1; exact h5
  have hl := Wc.bs_len hv
  have HT := Wc.hid (Wt.tre_dev (root := root) hd)
  rw [hl] at hd
  have hE := Wd.chk_no (fun h => by rw [Wd.devB_iff.2 h] at hd; cases hd)
  have h0 := hE.1.symm
  have h2 := hE.2.symm
  have T0 := Two.new w (.slice none 0 0) (.slice none 0 0) 102
  have HB := Wc.hid ((Below.refl w.heap.size w).alloc (Nat.le_refl _) (.cells #[.slice none 0 0, .slice none 0 0] 102))
  have HT0 := Wc.hid T0
  clear hv hl hd hE T0
  go_enter Try.func49, Try.ntmps49
  go_wp2_with fail
  refine (check_any _ _ _ _ hni).mono ?_
  rintro e w1 ⟨rfl, rfl⟩
  rw [h0, h2]
  go_wp2_with fail
  exact bodyPost_ret (ret_cell26 rfl rfl rfl rfl rfl HT0.out) rfl (find_nilO HT.out HB.out)

set_option maxHeartbeats 1600000 in
theorem find_rest_zeroO (ai : Option Addr) (ni ci : Nat) (xs : List Int) (w : World) (hv : Wc.Bs w (.slice ai ni ci) xs) (hd : Wd.devB xs.length = true) :
    Calls Try.prog 49 #[.slice ai ni ci, .int .i64 0] w (FindPostO xs 0 w) := by
  have hni : ni ≤ 140737488355328 := by obtain ⟨_, _, _, h1, _, _, _, h5, _⟩ := hv; cases h1; exact h5
  have hl := Wc.bs_len hv
  have hd2 := hd
  rw [hl] at hd2
  have hE := Wd.chk_yes (Wd.devB_iff.1 hd2)
  have hdd := Wd.devB_iff.1 hd2
  obtain ⟨m, hm⟩ : ∃ m : Nat, ni / 64 = m := ⟨_, rfl⟩
  have hmi : (ni : Int) / 64 = (m : Int) := by omega
  have hml : m ≤ 4096 := by omega
  have h0 := hE.1.symm
  rw [hmi] at h0
  have h2 := hE.2.symm
  have hxm : xs.length / 64 = m := by rw [hl]; exact hm
  have HXM := Wc.hid hxm
  have HD := Wc.hid hd
  obtain ⟨mc, hmk, hmc⟩ := made512
  have HMC := Wc.hid hmc
  have F3 := Wc.hid (fo_start w (.cells #[.slice none 0 0, .slice none 0 0] 102) mc hmc)
  have T1 := Two.new w (.slice none 0 0) (.slice none 0 0) 102
  have b1 : Below w.heap.size w (w.alloc (.cells #[.slice none 0 0, .slice none 0 0] 102)) := (Below.refl _ _).alloc (Nat.le_refl _) _
  have b2 : Below (w.alloc (.cells #[.slice none 0 0, .slice none 0 0] 102)).heap.size (w.alloc (.cells #[.slice none 0 0, .slice none 0 0] 102)) ((w.alloc (.cells #[.slice none 0 0, .slice none 0 0] 102)).alloc (.cells mc 3)) := (Below.refl _ _).alloc (Nat.le_refl _) _
  have b3 : Below ((w.alloc (.cells #[.slice none 0 0, .slice none 0 0] 102)).alloc (.cells mc 3)).heap.size ((w.alloc (.cells #[.slice none 0 0, .slice none 0 0] 102)).alloc (.cells mc 3)) (((w.alloc (.cells #[.slice none 0 0, .slice none 0 0] 102)).alloc (.cells mc 3)).alloc (.cells #[.slice none 0 0, .slice (some ⟨w.heap.size + 1, 0, none⟩) 512 512] 102)) := (Below.refl _ _).alloc (Nat.le_refl _) _
  have T3 := Wc.hid ((T1.keep b2).keep b3)
  have V1 := Wc.hid (hv.keep b1)
  have B1 := Wc.hid b1
  have B3 := Wc.hid (Wc.step b2 (Nat.le_refl _) b3)
  have V3 := Wc.hid ((hv.keep b1).keep (Wc.step b2 (Nat.le_refl _) b3))
  clear hv hl hd hd2 hE hdd hm hmi hxm hmc T1 b1 b2 b3
  have HT := Wc.hid (Wt.tre_some (root := 0) (t := Wt.s0) HD.out (by simp [Wt.tre]))
  have b1 : Below w.heap.size w (w.alloc (.cells #[.slice none 0 0, .slice (some ⟨w.heap.size + 1, 0, none⟩) 512 512] 102)) := (Below.refl _ _).alloc (Nat.le_refl _) _
  have b2 : Below (w.alloc (.cells #[.slice none 0 0, .slice (some ⟨w.heap.size + 1, 0, none⟩) 512 512] 102)).heap.size (w.alloc (.cells #[.slice none 0 0, .slice (some ⟨w.heap.size + 1, 0, none⟩) 512 512] 102)) ((w.alloc (.cells #[.slice none 0 0, .slice (some ⟨w.heap.size + 1, 0, none⟩) 512 512] 102)).alloc (.cells mc 3)) := (Below.refl _ _).alloc (Nat.le_refl _) _
  have b3 : Below ((w.alloc (.cells #[.slice none 0 0, .slice (some ⟨w.heap.size + 1, 0, none⟩) 512 512] 102)).alloc (.cells mc 3)).heap.size ((w.alloc (.cells #[.slice none 0 0, .slice (some ⟨w.heap.size + 1, 0, none⟩) 512 512] 102)).alloc (.cells mc 3)) (((w.alloc (.cells #[.slice none 0 0, .slice (some ⟨w.heap.size + 1, 0, none⟩) 512 512] 102)).alloc (.cells mc 3)).alloc (.cells #[.slice none 0 0, .slice (some ⟨w.heap.size + 1, 0, none⟩) 512 512] 102)) := (Below.refl _ _).alloc (Nat.le_refl _) _
  have T5 := Wc.hid (((Two.new w (.slice none 0 0) (.slice (some ⟨w.heap.size + 1, 0, none⟩) 512 512) 102).keep b2).keep b3)
  have F5 := Wc.hid (fo_start w (.cells #[.slice none 0 0, .slice (some ⟨w.heap.size + 1, 0, none⟩) 512 512] 102) mc HMC.out)
  have HB5 := Wc.hid (Wc.step (Wc.step b1 (Nat.le_refl _) b2) (Nat.le_refl _) b3)
  clear b1 b2 b3 T3 F3 V3 V1 B1 B3
  go_enter Try.func49, Try.ntmps49
  go_wp2_with fail
  refine (check_any _ _ _ _ hni).mono ?_
  rintro e w1 ⟨rfl, rfl⟩
  rw [h0, h2]
  go_wp2_with fail
  refine bodyPost_ret (ret_cell26 rfl rfl rfl rfl rfl T5.out) rfl ⟨_, _, _, _, _, _, by rw [HT.out.1]; rfl, ?_, ?_, HB5.out, Young.nil _ _ _, Young.at (by omega), by rw [HT.out.2.1]; exact Wv.Ov.nil _ _ _⟩
  · rw [HT.out.2.1]; exact Wv.Rv.nil _
  · rw [HT.out.2.2]; exact rv_row F5.out.row.1 F5.out.row.2.1 (by omega)

set_option maxHeartbeats 1600000 in
theorem find_slotO (ai : Option Addr) (ni ci : Nat) (xs : List Int) (root : Int) (w : World) (hv : Wc.Bs w (.slice ai ni ci) xs) (hd : Wd.devB xs.length = true) (hr : ¬ root = 0) (hb : Wt.bsB root ((xs.length / 64 : Nat) : Int) = false) :
    Calls Try.prog 49 #[.slice ai ni ci, .int .i64 root] w (FindPostO xs root w) := by
  have hni : ni ≤ 140737488355328 := by obtain ⟨_, _, _, h1, _, _, _, h5, _⟩ := hv; cases h1; exact h5
  have hl := Wc.bs_len hv
  have hd2 := hd
  rw [hl] at hd2
  have hE := Wd.chk_yes (Wd.devB_iff.1 hd2)
  have hdd := Wd.devB_iff.1 hd2
  obtain ⟨m, hm⟩ : ∃ m : Nat, ni / 64 = m := ⟨_, rfl⟩
  have hmi : (ni : Int) / 64 = (m : Int) := by omega
  have hml : m ≤ 4096 := by omega
  have h0 := hE.1.symm
  rw [hmi] at h0
  have h2 := hE.2.symm
  have hxm : xs.length / 64 = m := by rw [hl]; exact hm
  have HXM := Wc.hid hxm
  have HD := Wc.hid hd
  obtain ⟨mc, hmk, hmc⟩ := made512
  have F3 := Wc.hid (fo_start w (.cells #[.slice none 0 0, .slice none 0 0] 102) mc hmc)
  have T1 := Two.new w (.slice none 0 0) (.slice none 0 0) 102
  have b1 : Below w.heap.size w (w.alloc (.cells #[.slice none 0 0, .slice none 0 0] 102)) := (Below.refl _ _).alloc (Nat.le_refl _) _
  have b2 : Below (w.alloc (.cells #[.slice none 0 0, .slice none 0 0] 102)).heap.size (w.alloc (.cells #[.slice none 0 0, .slice none 0 0] 102)) ((w.alloc (.cells #[.slice none 0 0, .slice none 0 0] 102)).alloc (.cells mc 3)) := (Below.refl _ _).alloc (Nat.le_refl _) _
  have b3 : Below ((w.alloc (.cells #[.slice none 0 0, .slice none 0 0] 102)).alloc (.cells mc 3)).heap.size ((w.alloc (.cells #[.slice none 0 0, .slice none 0 0] 102)).alloc (.cells mc 3)) (((w.alloc (.cells #[.slice none 0 0, .slice none 0 0] 102)).alloc (.cells mc 3)).alloc (.cells #[.slice none 0 0, .slice (some ⟨w.heap.size + 1, 0, none⟩) 512 512] 102)) := (Below.refl _ _).alloc (Nat.le_refl _) _
  have T3 := Wc.hid ((T1.keep b2).keep b3)
  have V1 := Wc.hid (hv.keep b1)
  have B1 := Wc.hid b1
  have B3 := Wc.hid (Wc.step b2 (Nat.le_refl _) b3)
  have V3 := Wc.hid ((hv.keep b1).keep (Wc.step b2 (Nat.le_refl _) b3))
  clear hv hl hd hd2 hE hdd hm hmi hxm hmc T1 b1 b2 b3
  have HT := Wc.hid (Wt.tre_none (root := root) HD.out (by unfold Wt.tre; rw [if_neg hr, if_neg (by rw [hb]; decide)]))
  rw [HXM.out] at hb
  have hrb : (root == 0) = false := by simpa using hr
  go_enter Try.func49, Try.ntmps49
  go_wp2_with fail
  refine (check_any _ _ _ _ hni).mono ?_
  rintro e w1 ⟨rfl, rfl⟩
  rw [h0, h2]
  go_wp2_with fail
  refine (behind_any root m _).mono ?_
  rintro e w2 ⟨rfl, rfl⟩
  rw [hb]
  go_wp2_with fail
  exact bodyPost_ret (ret_cell26 rfl rfl rfl rfl rfl T3.out) rfl (find_nilO HT.out (B1.out.trans (B3.out.mono B1.out.size)))

set_option maxHeartbeats 1600000 in
theorem find_noneO (ai : Option Addr) (ni ci : Nat) (xs : List Int) (root : Int) (w : World) (hv : Wc.Bs w (.slice ai ni ci) xs) (hd : Wd.devB xs.length = true) (hr : ¬ root = 0) (hb : Wt.bsB root ((xs.length / 64 : Nat) : Int) = true) (ht : Wt.met xs 3 root 0 Wt.s0 = none) :
    Calls Try.prog 49 #[.slice ai ni ci, .int .i64 root] w (FindPostO xs root w) := by
  have hni : ni ≤ 140737488355328 := by obtain ⟨_, _, _, h1, _, _, _, h5, _⟩ := hv; cases h1; exact h5
  have hl := Wc.bs_len hv
  have hd2 := hd
  rw [hl] at hd2
  have hE := Wd.chk_yes (Wd.devB_iff.1 hd2)
  have hdd := Wd.devB_iff.1 hd2
  obtain ⟨m, hm⟩ : ∃ m : Nat, ni / 64 = m := ⟨_, rfl⟩
  have hmi : (ni : Int) / 64 = (m : Int) := by omega
  have hml : m ≤ 4096 := by omega
  have h0 := hE.1.symm
  rw [hmi] at h0
  have h2 := hE.2.symm
  have hxm : xs.length / 64 = m := by rw [hl]; exact hm
  have HXM := Wc.hid hxm
  have HD := Wc.hid hd
  obtain ⟨mc, hmk, hmc⟩ := made512
  have F3 := Wc.hid (fo_start w (.cells #[.slice none 0 0, .slice none 0 0] 102) mc hmc)
  have T1 := Two.new w (.slice none 0 0) (.slice none 0 0) 102
  have b1 : Below w.heap.size w (w.alloc (.cells #[.slice none 0 0, .slice none 0 0] 102)) := (Below.refl _ _).alloc (Nat.le_refl _) _
  have b2 : Below (w.alloc (.cells #[.slice none 0 0, .slice none 0 0] 102)).heap.size (w.alloc (.cells #[.slice none 0 0, .slice none 0 0] 102)) ((w.alloc (.cells #[.slice none 0 0, .slice none 0 0] 102)).alloc (.cells mc 3)) := (Below.refl _ _).alloc (Nat.le_refl _) _
  have b3 : Below ((w.alloc (.cells #[.slice none 0 0, .slice none 0 0] 102)).alloc (.cells mc 3)).heap.size ((w.alloc (.cells #[.slice none 0 0, .slice none 0 0] 102)).alloc (.cells mc 3)) (((w.alloc (.cells #[.slice none 0 0, .slice none 0 0] 102)).alloc (.cells mc 3)).alloc (.cells #[.slice none 0 0, .slice (some ⟨w.heap.size + 1, 0, none⟩) 512 512] 102)) := (Below.refl _ _).alloc (Nat.le_refl _) _
  have T3 := Wc.hid ((T1.keep b2).keep b3)
  have V1 := Wc.hid (hv.keep b1)
  have B1 := Wc.hid b1
  have B3 := Wc.hid (Wc.step b2 (Nat.le_refl _) b3)
  have V3 := Wc.hid ((hv.keep b1).keep (Wc.step b2 (Nat.le_refl _) b3))
  clear hv hl hd hd2 hE hdd hm hmi hxm hmc T1 b1 b2 b3
  have HT := Wc.hid (Wt.tre_none (root := root) HD.out (by unfold Wt.tre; rw [if_neg hr, if_pos hb, ht]))
  rw [HXM.out] at hb
  have HTN := Wc.hid ht
  have hrb : (root == 0) = false := by simpa using hr
  clear ht
  go_enter Try.func49, Try.ntmps49
  go_wp2_with fail
  refine (check_any _ _ _ _ hni).mono ?_
  rintro e w1 ⟨rfl, rfl⟩
  rw [h0, h2]
  go_wp2_with fail
  refine (behind_any root m _).mono ?_
  rintro e w2 ⟨rfl, rfl⟩
  rw [hb]
  go_wp2_with fail
  refine (follow_any xs _ (w.alloc (.cells #[.slice none 0 0, .slice none 0 0] 102)) (w.heap.size + 2) (w.heap.size + 1) (w.heap.size + 3) V1.out (by simp) (by simp) root Wt.s0 _ rfl B3.out F3.out).mono ?_
  rintro e w5 ⟨rfl, hb5, -⟩
  rw [HTN.out]
  have T5 := (Two.new w (.slice none 0 0) (.slice none 0 0) 102).keep hb5
  obtain ⟨c0, c1, cf⟩ := T5.cells
  have HT5 := Wc.hid (T5.over (.slice none 0 0) (.slice none 0 0))
  have HB5 := Wc.hid (Wc.step B1.out (Nat.le_refl _) hb5)
  clear T5 hb5
  go_wp2_with fail
  exact bodyPost_ret (ret_cell26 rfl rfl rfl rfl rfl HT5.out) rfl (find_nilO HT.out ((HB5.out.setCell (p := ⟨w.heap.size, 0, none⟩) (Nat.le_refl _) _).setCell (p := ⟨w.heap.size, 1, none⟩) (Nat.le_refl _) _))

set_option maxHeartbeats 1600000 in
theorem find_nearO (ai : Option Addr) (ni ci : Nat) (xs : List Int) (root : Int) (w : World) (hv : Wc.Bs w (.slice ai ni ci) xs) (hd : Wd.devB xs.length = true) (hr : ¬ root = 0) (hb : Wt.bsB root ((xs.length / 64 : Nat) : Int) = true) (t : Wt.St) (ht : Wt.met xs 3 root 0 Wt.s0 = some t) (ha : Wt.apB t.nodes t.sec (xs.length / 64) = false) :
    Calls Try.prog 49 #[.slice ai ni ci, .int .i64 root] w (FindPostO xs root w) := by
  have hne : ¬ t.nodes = [] := by
    obtain ⟨a, h1⟩ := Wt.met_root ht
    rw [h1]; simp
  have hnd := Wt.met_nodes xs 3 root 0 Wt.s0 t ht (by intro x hx; cases hx)
  have hsc := Wt.met_pos xs 3 root 0 Wt.s0 t ht (by have := Wt.bsB_iff.1 hb; omega) s0_pos
  have hni : ni ≤ 140737488355328 := by obtain ⟨_, _, _, h1, _, _, _, h5, _⟩ := hv; cases h1; exact h5
  have hl := Wc.bs_len hv
  have hd2 := hd
  rw [hl] at hd2
  have hE := Wd.chk_yes (Wd.devB_iff.1 hd2)
  have hdd := Wd.devB_iff.1 hd2
  obtain ⟨m, hm⟩ : ∃ m : Nat, ni / 64 = m := ⟨_, rfl⟩
  have hmi : (ni : Int) / 64 = (m : Int) := by omega
  have hml : m ≤ 4096 := by omega
  have h0 := hE.1.symm
  rw [hmi] at h0
  have h2 := hE.2.symm
  have hxm : xs.length / 64 = m := by rw [hl]; exact hm
  have HXM := Wc.hid hxm
  have HD := Wc.hid hd
  obtain ⟨mc, hmk, hmc⟩ := made512
  have F3 := Wc.hid (fo_start w (.cells #[.slice none 0 0, .slice none 0 0] 102) mc hmc)
  have T1 := Two.new w (.slice none 0 0) (.slice none 0 0) 102
  have b1 : Below w.heap.size w (w.alloc (.cells #[.slice none 0 0, .slice none 0 0] 102)) := (Below.refl _ _).alloc (Nat.le_refl _) _
  have b2 : Below (w.alloc (.cells #[.slice none 0 0, .slice none 0 0] 102)).heap.size (w.alloc (.cells #[.slice none 0 0, .slice none 0 0] 102)) ((w.alloc (.cells #[.slice none 0 0, .slice none 0 0] 102)).alloc (.cells mc 3)) := (Below.refl _ _).alloc (Nat.le_refl _) _
  have b3 : Below ((w.alloc (.cells #[.slice none 0 0, .slice none 0 0] 102)).alloc (.cells mc 3)).heap.size ((w.alloc (.cells #[.slice none 0 0, .slice none 0 0] 102)).alloc (.cells mc 3)) (((w.alloc (.cells #[.slice none 0 0, .slice none 0 0] 102)).alloc (.cells mc 3)).alloc (.cells #[.slice none 0 0, .slice (some ⟨w.heap.size + 1, 0, none⟩) 512 512] 102)) := (Below.refl _ _).alloc (Nat.le_refl _) _
  have T3 := Wc.hid ((T1.keep b2).keep b3)
  have V1 := Wc.hid (hv.keep b1)
  have B1 := Wc.hid b1
  have B3 := Wc.hid (Wc.step b2 (Nat.le_refl _) b3)
  have V3 := Wc.hid ((hv.keep b1).keep (Wc.step b2 (Nat.le_refl _) b3))
  clear hv hl hd hd2 hE hdd hm hmi hxm hmc T1 b1 b2 b3
  have HT := Wc.hid (Wt.tre_none (root := root) HD.out (by unfold Wt.tre; rw [if_neg hr, if_pos hb, ht]; exact if_neg (by rw [ha]; decide)))
  rw [HXM.out] at hb ha hnd
  have HTN := Wc.hid ht
  have hrb : (root == 0) = false := by simpa using hr
  have HND := Wc.hid hnd
  have HSC := Wc.hid hsc
  have HNE := Wc.hid hne
  have HAP := Wc.hid ha
  clear ht hnd hsc hne ha
  go_enter Try.func49, Try.ntmps49
  go_wp2_with fail
  refine (check_any _ _ _ _ hni).mono ?_
  rintro e w1 ⟨rfl, rfl⟩
  rw [h0, h2]
  go_wp2_with fail
  refine (behind_any root m _).mono ?_
  rintro e w2 ⟨rfl, rfl⟩
  rw [hb]
  go_wp2_with fail
  refine (follow_any xs _ (w.alloc (.cells #[.slice none 0 0, .slice none 0 0] 102)) (w.heap.size + 2) (w.heap.size + 1) (w.heap.size + 3) V1.out (by simp) (by simp) root Wt.s0 _ rfl B3.out F3.out).mono ?_
  rintro e w5 ⟨rfl, hb5, hF5⟩
  rw [HTN.out]
  have F5 := Wc.hid (hF5 t HTN.out)
  have HB5 := Wc.hid hb5
  clear hb5 hF5
  go_wp2_with fail
  refine (apart_any (w.heap.size + 2) (w.heap.size + 1) (w.heap.size + 3) m t _ F5.out (by omega) HNE.out HND.out HSC.out).mono ?_
  rintro e w6 ⟨rfl, hb6⟩
  rw [HAP.out]
  have F6 := F5.out.keep hb6
  have T6 := ((Two.new w (.slice none 0 0) (.slice none 0 0) 102).keep HB5.out).keep hb6
  have HB6 := Wc.hid (Wc.step (Wc.step B1.out (Nat.le_refl _) HB5.out) (Nat.le_refl _) hb6)
  obtain ⟨c0, c1, cf⟩ := T6.cells
  have HT5 := Wc.hid (T6.over (.slice none 0 0) (.slice none 0 0))
  clear T6 hb6 F6
  go_wp2_with fail
  exact bodyPost_ret (ret_cell26 rfl rfl rfl rfl rfl HT5.out) rfl (find_nilO HT.out ((HB6.out.setCell (p := ⟨w.heap.size, 0, none⟩) (Nat.le_refl _) _).setCell (p := ⟨w.heap.size, 1, none⟩) (Nat.le_refl _) _))

set_option maxHeartbeats 1600000 in
theorem find_goodO (ai : Option Addr) (ni ci : Nat) (xs : List Int) (root : Int) (w : World) (hv : Wc.Bs w (.slice ai ni ci) xs) (hd : Wd.devB xs.length = true) (hr : ¬ root = 0) (hb : Wt.bsB root ((xs.length / 64 : Nat) : Int) = true) (t : Wt.St) (ht : Wt.met xs 3 root 0 Wt.s0 = some t) (ha : Wt.apB t.nodes t.sec (xs.length / 64) = true) :
    Calls Try.prog 49 #[.slice ai ni ci, .int .i64 root] w (FindPostO xs root w) := by
  have hne : ¬ t.nodes = [] := by
    obtain ⟨a, h1⟩ := Wt.met_root ht
    rw [h1]; simp
  have hnd := Wt.met_nodes xs 3 root 0 Wt.s0 t ht (by intro x hx; cases hx)
  have hsc := Wt.met_pos xs 3 root 0 Wt.s0 t ht (by have := Wt.bsB_iff.1 hb; omega) s0_pos
  have hni : ni ≤ 140737488355328 := by obtain ⟨_, _, _, h1, _, _, _, h5, _⟩ := hv; cases h1; exact h5
  have hl := Wc.bs_len hv
  have hd2 := hd
  rw [hl] at hd2
  have hE := Wd.chk_yes (Wd.devB_iff.1 hd2)
  have hdd := Wd.devB_iff.1 hd2
  obtain ⟨m, hm⟩ : ∃ m : Nat, ni / 64 = m := ⟨_, rfl⟩
  have hmi : (ni : Int) / 64 = (m : Int) := by omega
  have hml : m ≤ 4096 := by omega
  have h0 := hE.1.symm
  rw [hmi] at h0
  have h2 := hE.2.symm
  have hxm : xs.length / 64 = m := by rw [hl]; exact hm
  have HXM := Wc.hid hxm
  have HD := Wc.hid hd
  obtain ⟨mc, hmk, hmc⟩ := made512
  have F3 := Wc.hid (fo_start w (.cells #[.slice none 0 0, .slice none 0 0] 102) mc hmc)
  have T1 := Two.new w (.slice none 0 0) (.slice none 0 0) 102
  have b1 : Below w.heap.size w (w.alloc (.cells #[.slice none 0 0, .slice none 0 0] 102)) := (Below.refl _ _).alloc (Nat.le_refl _) _
  have b2 : Below (w.alloc (.cells #[.slice none 0 0, .slice none 0 0] 102)).heap.size (w.alloc (.cells #[.slice none 0 0, .slice none 0 0] 102)) ((w.alloc (.cells #[.slice none 0 0, .slice none 0 0] 102)).alloc (.cells mc 3)) := (Below.refl _ _).alloc (Nat.le_refl _) _
  have b3 : Below ((w.alloc (.cells #[.slice none 0 0, .slice none 0 0] 102)).alloc (.cells mc 3)).heap.size ((w.alloc (.cells #[.slice none 0 0, .slice none 0 0] 102)).alloc (.cells mc 3)) (((w.alloc (.cells #[.slice none 0 0, .slice none 0 0] 102)).alloc (.cells mc 3)).alloc (.cells #[.slice none 0 0, .slice (some ⟨w.heap.size + 1, 0, none⟩) 512 512] 102)) := (Below.refl _ _).alloc (Nat.le_refl _) _
  have T3 := Wc.hid ((T1.keep b2).keep b3)
  have V1 := Wc.hid (hv.keep b1)
  have B1 := Wc.hid b1
  have B3 := Wc.hid (Wc.step b2 (Nat.le_refl _) b3)
  have V3 := Wc.hid ((hv.keep b1).keep (Wc.step b2 (Nat.le_refl _) b3))
  clear hv hl hd hd2 hE hdd hm hmi hxm hmc T1 b1 b2 b3
  have HT := Wc.hid (Wt.tre_some (root := root) (t := t) HD.out (by unfold Wt.tre; rw [if_neg hr, if_pos hb, ht]; exact if_pos ha))
  rw [HXM.out] at hb ha hnd
  have HTN := Wc.hid ht
  have hrb : (root == 0) = false := by simpa using hr
  have HND := Wc.hid hnd
  have HSC := Wc.hid hsc
  have HNE := Wc.hid hne
  have HAP := Wc.hid ha
  clear ht hnd hsc hne ha
  go_enter Try.func49, Try.ntmps49
  go_wp2_with fail
  refine (check_any _ _ _ _ hni).mono ?_
  rintro e w1 ⟨rfl, rfl⟩
  rw [h0, h2]
  go_wp2_with fail
  refine (behind_any root m _).mono ?_
  rintro e w2 ⟨rfl, rfl⟩
  rw [hb]
  go_wp2_with fail
  refine (follow_any xs _ (w.alloc (.cells #[.slice none 0 0, .slice none 0 0] 102)) (w.heap.size + 2) (w.heap.size + 1) (w.heap.size + 3) V1.out (by simp) (by simp) root Wt.s0 _ rfl B3.out F3.out).mono ?_
  rintro e w5 ⟨rfl, hb5, hF5⟩
  rw [HTN.out]
  have F5 := Wc.hid (hF5 t HTN.out)
  have HB5 := Wc.hid hb5
  clear hb5 hF5
  go_wp2_with fail
  refine (apart_any (w.heap.size + 2) (w.heap.size + 1) (w.heap.size + 3) m t _ F5.out (by omega) HNE.out HND.out HSC.out).mono ?_
  rintro e w6 ⟨rfl, hb6⟩
  rw [HAP.out]
  have F6 := F5.out.keep hb6
  have T6 := ((Two.new w (.slice none 0 0) (.slice none 0 0) 102).keep HB5.out).keep hb6
  have HB6 := Wc.hid (Wc.step (Wc.step B1.out (Nat.le_refl _) HB5.out) (Nat.le_refl _) hb6)
  obtain ⟨c0, c1, cf⟩ := T6.cells
  obtain ⟨a, n, c, k0, hy, HK, HOO⟩ := F6.tellO (R := w.heap.size) (by omega) (by omega)
  have HOO := Wc.hid HOO
  obtain ⟨-, -, -, -, k1, -⟩ := F6.cells
  have HKK := Wc.hid HK
  have HY := Wc.hid hy
  have HT5 := Wc.hid (T6.over (.slice a n c) (.slice (some ⟨w.heap.size + 1, 0, none⟩) 512 512))
  clear T6 hb6 F6 HK hy
  go_wp2_with fail
  exact bodyPost_ret (ret_cell26 rfl rfl rfl rfl rfl HT5.out) rfl ⟨a, n, c, _, _, _, by rw [HT.out.1]; rfl, by rw [HT.out.2.1]; exact (HKK.out _ _).1, by rw [HT.out.2.2]; exact (HKK.out _ _).2, ((HB6.out.setCell (p := ⟨w.heap.size, 0, none⟩) (Nat.le_refl _) _).setCell (p := ⟨w.heap.size, 1, none⟩) (Nat.le_refl _) _), fun x y z e => by have := HY.out x y z e; omega, Young.at (by omega), by rw [HT.out.2.1]; exact ov_base ((HOO.out _ _)) (by omega)⟩

/-- What find tells, for every device and every root. -/
theorem find_anyO (v : Value) (xs : List Int) (root : Int) (w : World) (hv : Wc.Bs w v xs) : Calls Try.prog 49 #[v, .int .i64 root] w (FindPostO xs root w) := by
  obtain ⟨ai, ni, ci, rfl, -⟩ := id hv
  cases hd : Wd.devB xs.length
  · exact find_devO ai ni ci xs root w hv hd
  · by_cases hr : root = 0
    · subst hr; exact find_rest_zeroO ai ni ci xs w hv hd
    · cases hb : Wt.bsB root ((xs.length / 64 : Nat) : Int)
      · exact find_slotO ai ni ci xs root w hv hd hr hb
      · cases ht : Wt.met xs 3 root 0 Wt.s0 with
        | none => exact find_noneO ai ni ci xs root w hv hd hr hb ht
        | some t =>
          cases ha : Wt.apB t.nodes t.sec (xs.length / 64)
          · exact find_nearO ai ni ci xs root w hv hd hr hb t ht ha
          · exact find_goodO ai ni ci xs root w hv hd hr hb t ht ha

set_option maxHeartbeats 1600000 in
theorem nodes_own (v : Value) (xs : List Int) (root : Int) (w : World) (hv : Wc.Bs w v xs) :
    Calls Try.prog 24 #[v, .int .i64 root] w fun e w' => ∃ a n c, e = .returned (.tuple #[.slice a n c, .int .i64 (Wt.treE xs root)]) ∧ Wv.Ov (Value.int .i64) 3 w.heap.size w' (.slice a n c) (Wt.treN xs root) ∧ Below w.heap.size w w' := by
  have HV := Wc.hid hv
  clear hv
  go_enter Try.func24, Try.ntmps24
  go_wp2_with fail
  refine (find_anyO v xs root _ HV.out).mono ?_
  rintro e w1 ⟨a, n, c, a', n', c', rfl, h1, h2, hb, hy1, hy2, ho⟩
  have HB := Wc.hid (hb.alloc hb.size (.cells #[.slice a n c, .slice a' n' c'] 102))
  have H2 := Wc.hid (ho.keep ((Below.refl _ _).alloc (Nat.le_refl _) (.cells #[.slice a n c, .slice a' n' c'] 102)))
  clear h1 h2 hb hy1 hy2 ho
  go_wp2_with fail
  go_ret2
  exact ⟨_, _, _, rfl, H2.out, HB.out⟩
end Go.Proofs.Ytfdgeobopegeeaa
