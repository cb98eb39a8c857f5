/-
  What the page's Tree returns, and that what it tells lies in blocks of ints; memory of the call's own that holds slices of ints, and append to it.
-/
import Derived.Test.YtiobegoiehjfiaaGreatXb
import Derived.Test.YtiobegoiehjfiaaGreatJH
namespace Go.Proofs.YtiobegoiehjfiaaGreat
open Go.RowKit

/-- The slice lies in a block of ints. -/
def Tb (w : World) (v : Value) : Prop := ∀ b o n c, v = .slice (some ⟨b, o, none⟩) n c → ∃ cs fr, w.heap[b]? = some (.cells cs 3 fr)
theorem Tb.nil (w : World) (n c : Nat) : Tb w (.slice none n c) := fun _ _ _ _ h => by cases h
theorem Tb.row {w : World} {g n k c : Nat} {f : Nat → Value} (h : w.rowIs g 3 k f) : Tb w (.slice (some ⟨g, 0, none⟩) n c) := fun b o n c e => by
  cases e
  obtain ⟨cs, h1, _⟩ := h
  exact ⟨cs, _, h1⟩
theorem Tb.ov {w : World} {v : Value} {base : Nat} {l : List Int} (h : Wv.Ov (Value.int .i64) 3 base w v l) : Tb w v := fun b o n c e => by
  subst e
  rcases h.1.2 with ⟨h0, _⟩ | ⟨g, cap, cur, hv, _, hg, _⟩
  · cases h0
  · cases hv
    exact ⟨cur, _, hg⟩
theorem Tb.keep {w w' : World} {v : Value} (h : Tb w v) (hb : Below w.heap.size w w') : Tb w' v := fun b o n c e => by
  obtain ⟨cs, fr, h1⟩ := h b o n c e
  exact ⟨cs, fr, by rw [hb.block b (Array.getElem?_eq_some_iff.1 h1).1]; exact h1⟩

/-- What the page's Tree tells. -/
def TreePostT (xs : List Int) (root : Int) (w : World) : Ending → World → Prop := fun e w' =>
  ∃ a n c a' n' c', e = .returned (.tuple #[.slice a n c, .slice a' n' c', .bool (Wt.tre xs root).isSome]) ∧ Wd.In w' (.slice a n c) (Wt.treS xs root) ∧ Wd.In w' (.slice a' n' c') (Wt.treN xs root) ∧ Below w.heap.size w w' ∧ Tb w' (.slice a n c) ∧ Tb w' (.slice a' n' c')

theorem treeT_nil {xs : List Int} {root : Int} {w w' : World} (hd : Wd.devB xs.length = true) (h : Wt.rtre xs root = none) (hb : Below w.heap.size w w') : TreePostT xs root w (.returned (.tuple #[.slice none 0 0, .slice none 0 0, .bool false])) w' := by
  have ht : Wt.tre xs root = none := (Wt.tre_rtre xs root).trans h
  have h3 := Wt.tre_none hd ht
  refine ⟨none, 0, 0, none, 0, 0, by rw [ht]; rfl, ?_, ?_, hb, Tb.nil _ _ _, Tb.nil _ _ _⟩
  · rw [h3.2.2]; exact Wv.Rv.nil _
  · rw [h3.2.1]; exact Wv.Rv.nil _

theorem treeT_yes {xs : List Int} {root : Int} {w wr w' : World} {B m gs gd gm nb : Nat} {img : Value} {t : Wt.St} {a : Option Addr} {n c : Nat} (hd : Wd.devB xs.length = true) (h : Wt.rtre xs root = some t) (hWr : Wk wr B img m gs gd gm nb t.nodes t.nodes t.sec t.dat) (hcr : wr.cell? ⟨B, 2, none⟩ = some (.slice a n c)) (hbr : Below wr.heap.size wr w') (hb : Below w.heap.size w w') :
    TreePostT xs root w (.returned (.tuple #[.slice (some ⟨gm, 0, none⟩) 512 512, .slice a n c, .bool true])) w' := by
  have ht : Wt.tre xs root = some t := (Wt.tre_rtre xs root).trans h
  have h3 := Wt.tre_some hd ht
  have hlt : B < wr.heap.size := Nat.lt_of_lt_of_le hWr.rows.2.2.2.2.1 hWr.rows.2.2.2.2.2.1
  have hW := hWr.keep hbr
  have hc : w'.cell? ⟨B, 2, none⟩ = some (.slice a n c) := (hbr.cell (p := ⟨B, 2, none⟩) hlt).trans hcr
  obtain ⟨a', n', c', ⟨-, -, c2, -⟩, -, hO⟩ := hW.cells
  rw [hc] at c2
  cases c2
  refine ⟨_, 512, 512, a, n, c, by rw [ht]; rfl, ?_, ?_, hb, Tb.row hW.rows.2.2.1, Tb.ov hO⟩
  · rw [h3.2.2]; exact rv_row hW.rows.2.2.1 hW.rows.2.2.2.1 (by omega)
  · rw [h3.2.1]; exact hO.rv

set_option maxRecDepth 100000 in
set_option maxHeartbeats 3200000 in
theorem refTreeT_zero (ai : Option Addr) (ni ci : Nat) (xs : List Int) (w : World) (hv : Wc.Bs w (.slice ai ni ci) xs) (hd : Wd.devB xs.length = true) :
    Calls Tryz.prog 24 #[.slice ai ni ci, .int .i64 0] w (TreePostT xs 0 w) := by
  have hni : ni ≤ 140737488355328 := by obtain ⟨_, _, _, h1, _, _, _, h5, _⟩ := hv; cases h1; exact h5
  have hl := Wc.bs_len hv
  have hdv := Wd.devB_iff.1 hd
  rw [hl] at hdv
  have hm : ni / 64 ≤ 1000000 := by omega
  have HD := Wc.hid hd
  clear hv hl hd hdv
  go_enter Tryz.func24, Tryz.ntmps24
  go_wp2_with fail
  refine (blocks_any _ _ _ _ hni).mono ?_
  rintro e w1 ⟨rfl, rfl⟩
  generalize ni / 64 = m at *
  generalize Wd.devB ni = db at *
  go_wp2_with fail
  refine region2 _ ai ni ci rfl m hm _ _ _ rfl rfl rfl ?_
  intro u W hb hleft
  obtain ⟨B, gs, gd, gm, hu, -, -, -, -, hW⟩ := hleft
  simp only [Wo.setAll, slts, List.foldl_cons, List.foldl_nil, List.setIfInBounds_toArray, List.set_cons_zero, List.set_cons_succ]
  rw [hu]
  obtain ⟨a, n, c, ⟨c0, c1, c2, c3, c4, c5, c6⟩, cf, -⟩ := hW.cells
  have HB := Wc.hid hb
  have HW := Wc.hid hW
  clear hb hW c0 c1 c2 c3 c4 c6
  go_wp2_with fail
  go_ret3
  have ht : Wt.tre xs 0 = some Wt.s0 := by unfold Wt.tre; rw [if_pos rfl]
  have h3 := Wt.tre_some HD.out ht
  refine ⟨_, _, _, none, 0, 0, by rw [ht]; rfl, ?_, ?_, HB.out, Tb.row HW.out.rows.2.2.1, Tb.nil _ _ _⟩
  · rw [h3.2.2]; exact rv_row HW.out.rows.2.2.1 HW.out.rows.2.2.2.1 (by omega)
  · rw [h3.2.1]; exact Wv.Rv.nil _

set_option maxRecDepth 100000 in
set_option maxHeartbeats 3200000 in
theorem refTreeT_more (ai : Option Addr) (ni ci : Nat) (xs : List Int) (root : Int) (w : World) (hv : Wc.Bs w (.slice ai ni ci) xs) (hd : Wd.devB xs.length = true) (h0 : ¬ root = 0) :
    Calls Tryz.prog 24 #[.slice ai ni ci, .int .i64 root] w (TreePostT xs root w) := by
  have hni : ni ≤ 140737488355328 := by obtain ⟨_, _, _, h1, _, _, _, h5, _⟩ := hv; cases h1; exact h5
  have hl := Wc.bs_len hv
  have hdv := Wd.devB_iff.1 hd
  rw [hl] at hdv
  have hmx : xs.length / 64 = ni / 64 := by rw [hl]
  have hm6 : ni / 64 ≤ 4096 := by omega
  have HD := Wc.hid hd
  have HV := Wc.hid hv
  have hr0 : (root == 0) = false := by simpa using h0
  have H0 := Wc.hid h0
  have HMX := Wc.hid hmx
  clear hv hl hd hdv h0 hmx
  go_enter Tryz.func24, Tryz.ntmps24
  go_wp2_with fail
  refine (blocks_any _ _ _ _ hni).mono ?_
  rintro e w1 ⟨rfl, rfl⟩
  generalize ni / 64 = m at *
  generalize Wd.devB ni = db at *
  go_wp2_with fail
  refine region2 _ ai ni ci rfl m (by omega) _ _ _ rfl rfl rfl ?_
  intro u W hb hleft
  obtain ⟨B, gs, gd, gm, hu, hB, hgs, hgd, hgm, hW⟩ := hleft
  simp only [Wo.setAll, slts, List.foldl_cons, List.foldl_nil, List.setIfInBounds_toArray, List.set_cons_zero, List.set_cons_succ]
  rw [hu]
  obtain ⟨nb, hnb⟩ : ∃ nb, W.heap.size = nb := ⟨_, rfl⟩
  rw [hnb] at hW
  have HB := Wc.hid hb
  have HW := Wc.hid hW
  clear hb hW hu
  go_wp2_with fail
  have hcall : Calls Tryz.prog 36 #[.pointer (some ⟨B, 0, none⟩), .int .i64 root, .int .i64 2, .int .i64 0] W fun e w' => e = .returned (.tuple #[]) ∧ Below w.heap.size w w' ∧ Lst xs root (.slice ai ni ci) B m gs gd gm nb 0 w' := by
    by_cases h2 : 2 ≤ root
    · refine ((node_all xs ai ni ci w B m gs gd gm nb HV.out HD.out HMX.out hB hgs hgd hgm hm6 2 (by omega)) root 2 0 0 Wt.s0 W rfl (by simp) (by omega) (by show 0 + Wt.room 3 ≤ 1000; decide) h2 HB.out HW.out).mono ?_
      rintro e w' ⟨rfl, hb', -, h1, h3⟩
      refine ⟨rfl, hb', ?_⟩
      cases ho : Wt.rmet xs m 3 root 0 Wt.s0 with
      | none => exact .inr ⟨rtre_no HMX.out H0.out ho, h3 ho⟩
      | some t => exact .inl ⟨t, h2, ho, h1 t ho, fun j hj => by omega⟩
    · refine (node_far (.slice ai ni ci) w W B m gs gd gm nb root 2 0 Wt.s0 hB hm6 HB.out HW.out (by omega)).mono ?_
      rintro e w' ⟨rfl, hb', -, -, h3⟩
      exact ⟨rfl, hb', .inr ⟨rtre_low H0.out h2, h3 rfl⟩⟩
  refine hcall.mono ?_
  rintro e w2 ⟨rfl, hb2, hL2⟩
  have HB2 := Wc.hid hb2
  have HL2 := Wc.hid hL2
  have HBB := Wc.hid hB
  clear hb2 hL2 HW HB hcall hB hgs hgd hgm
  go_wp2_with fail
  go_loopw [10] (fun i wr => ∃ k : Nat, i = .int .i64 k ∧ k ≤ m ∧ Hid (Lst xs root (.slice ai ni ci) B m gs gd gm nb k wr) ∧ Hid (Below w.heap.size w wr)) (fun i _ => m - (intOf i).toNat)
  case atStart => exact ⟨0, rfl, by omega, HL2, HB2⟩
  case round =>
    obtain ⟨k, rfl, hk, RL, RB⟩ := hrel
    rcases RL.out with ⟨t, h2, hr, hW, hs⟩ | ⟨hn, hF⟩
    · have H2 := Wc.hid h2
      have HR := Wc.hid hr
      have HW := Wc.hid hW
      have HS := Wc.hid hs
      obtain ⟨a, n, c, ⟨c0, c1, c2, c3, c4, c5, c6⟩, cf, -⟩ := hW.cells
      obtain ⟨hMs, hMd, -⟩ := hW.rows
      clear h2 hr hW hs c0 c1 RL
      by_cases hlt : k < m
      · have k3 := hMs.cell hlt
        have k4 := hMd.cell hlt
        clear hMs hMd c2 c5
        by_cases hm1 : (k : Int) ∈ t.nodes
        · rw [decide_eq_true hm1] at k3
          by_cases hm2 : (k : Int) ∈ t.dat
          · rw [decide_eq_true hm2] at k4
            have HN := Wc.hid (rtre_two HMX.out H2.out HR.out hlt hm1 hm2)
            clear hm1 hm2
            go_wp2_with fail
            go_roundw
            case rel => exact ⟨k + 1, by go_num, by omega, Wc.hid (.inr ⟨HN.out, HW.out.fail⟩), Wc.hid (RB.out.setCell HBB.out _)⟩
            case measure => simp [intOf]; omega
          · rw [decide_eq_false hm2] at k4
            have HM := Wc.hid hm2
            clear hm1 hm2
            go_wp2_with fail
            go_roundw
            case rel => exact ⟨k + 1, by go_num, by omega, Wc.hid (.inl ⟨t, H2.out, HR.out, HW.out.okT, fun j hj => by
              by_cases e : j = k
              · subst e; exact .inr HM.out
              · exact HS.out j (by omega)⟩), Wc.hid (RB.out.setCell HBB.out _)⟩
            case measure => simp [intOf]; omega
        · rw [decide_eq_false hm1] at k3
          have HM := Wc.hid hm1
          clear hm1
          go_wp2_with fail
          go_roundw
          case rel => exact ⟨k + 1, by go_num, by omega, Wc.hid (.inl ⟨t, H2.out, HR.out, HW.out.okT, fun j hj => by
            by_cases e : j = k
            · subst e; exact .inl HM.out
            · exact HS.out j (by omega)⟩), Wc.hid (RB.out.setCell HBB.out _)⟩
          case measure => simp [intOf]; omega
      · obtain rfl : k = m := by omega
        clear hMs hMd c3 c4
        have HC := Wc.hid c2
        go_wp2_with fail
        go_quiet (fail)
        go_wp2
        go_ret3
        exact treeT_yes HD.out (rtre_yes HMX.out H2.out HR.out HS.out) HW.out HC.out (below_drewN (Below.refl _ _) _) (below_drewN RB.out _)
    · have HN := Wc.hid hn
      obtain ⟨vn, vs, vd, vm, h5⟩ := hF
      have g6 := h5.c6
      clear hn h5
      by_cases hlt : k < m
      · go_wp2_with fail
        go_ret3
        exact treeT_nil HD.out HN.out RB.out
      · obtain rfl : k = m := by omega
        go_wp2_with fail
        go_ret3
        exact treeT_nil HD.out HN.out RB.out

theorem refTreeT_any (v : Value) (xs : List Int) (root : Int) (w : World) (hv : Wc.Bs w v xs) (hd : Wd.devB xs.length = true) : Calls Tryz.prog 24 #[v, .int .i64 root] w (TreePostT xs root w) := by
  obtain ⟨ai, ni, ci, rfl, -⟩ := id hv
  by_cases h0 : root = 0
  · subst h0; exact refTreeT_zero ai ni ci xs w hv hd
  · exact refTreeT_more ai ni ci xs root w hv hd h0

end Go.Proofs.YtiobegoiehjfiaaGreat
