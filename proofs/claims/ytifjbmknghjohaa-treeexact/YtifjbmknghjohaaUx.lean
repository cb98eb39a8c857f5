/-
  What the page's walk.node does where it ends at once.
-/
import Derived.Test.YtifjbmknghjohaaUw
namespace Go.Proofs.Ytifjbmknghjohaa
open Go.RowKit

/-- What a call of node leaves. -/
def NodePost (img : Value) (w0 w : World) (B m gs gd gm nb : Nat) (o : Option Wt.St) : Ending → World → Prop := fun e w' =>
  e = .returned (.tuple #[]) ∧ Below w0.heap.size w0 w' ∧ K47 w w' ∧ (∀ t, o = some t → Wk w' B img m gs gd gm nb t.nodes t.nodes t.sec t.dat) ∧ (o = none → Wf w' B img m)

theorem node_none {img : Value} {w0 w w' : World} {B m gs gd gm nb : Nat} (hb : Below w0.heap.size w0 w') (hk : K47 w w') (hf : Wf w' B img m) : NodePost img w0 w B m gs gd gm nb none (.returned (.tuple #[])) w' :=
  ⟨rfl, hb, hk, fun t h => (by cases h), fun _ => hf⟩

set_option maxRecDepth 100000 in
set_option maxHeartbeats 1600000 in
theorem node_failed (img : Value) (w0 w : World) (B m gs gd gm nb : Nat) (p l q : Int) (hB : w0.heap.size ≤ B) (hb : Below w0.heap.size w0 w) (hF : Wf w B img m) :
    Calls Try.prog 29 #[.pointer (some ⟨B, 0, none⟩), .int .i64 p, .int .i64 l, .int .i64 q] w (NodePost img w0 w B m gs gd gm nb none) := by
  obtain ⟨vn, vs, vd, vm, h⟩ := hF
  have c6 := h.c6
  have cf := h.fr
  have H := Wc.hid h
  have HB := Wc.hid hb
  clear h hb
  go_enter Try.func29, Try.ntmps29
  go_wp2_with fail
  go_end0
  exact node_none (HB.out.setCell hB _) (K47.set H.out (by decide) _ _) ⟨_, _, _, _, H.out.fail false⟩

set_option maxRecDepth 100000 in
set_option maxHeartbeats 1600000 in
theorem node_far (img : Value) (w0 w : World) (B m gs gd gm nb : Nat) (p l q : Int) (s : Wt.St) (hB : w0.heap.size ≤ B) (hm : m ≤ 4096) (hb : Below w0.heap.size w0 w) (hW : Wk w B img m gs gd gm nb s.nodes s.nodes s.sec s.dat) (hp : ¬ (2 ≤ p ∧ p < m)) :
    Calls Try.prog 29 #[.pointer (some ⟨B, 0, none⟩), .int .i64 p, .int .i64 l, .int .i64 q] w (NodePost img w0 w B m gs gd gm nb none) := by
  obtain ⟨a, n, c, ⟨c0, c1, c2, c3, c4, c5, c6⟩, cf, -⟩ := hW.cells
  obtain ⟨-, -, -, -, -, -, cs, hcs⟩ := hW.rows
  have hin : (decide (2 ≤ p) && decide (p ≤ (m : Int) - 1)) = false := by rw [Bool.eq_false_iff]; simp; omega
  have HW := Wc.hid hW
  have HB := Wc.hid hb
  have HC := Wc.hid hcs
  clear hW hb hcs hp c0 c2 c3 c4 c5
  go_enter Try.func29, Try.ntmps29
  go_wp2_with fail
  refine (refIn10_any _ _ _ _).mono ?_
  rintro e w1 ⟨rfl, rfl⟩
  rw [hin]
  go_wp2_with fail
  go_end0
  exact node_none (HB.out.setCell hB _) (K47.set HC.out (by decide) _ _) HW.out.fail

set_option maxRecDepth 100000 in
set_option maxHeartbeats 1600000 in
theorem node_seen (img : Value) (w0 w : World) (B m gs gd gm nb j : Nat) (l q : Int) (s : Wt.St) (hB : w0.heap.size ≤ B) (hm : m ≤ 4096) (hb : Below w0.heap.size w0 w) (hW : Wk w B img m gs gd gm nb s.nodes s.nodes s.sec s.dat) (h2 : 2 ≤ j) (hj : j < m) (hs : (j : Int) ∈ s.nodes) :
    Calls Try.prog 29 #[.pointer (some ⟨B, 0, none⟩), .int .i64 j, .int .i64 l, .int .i64 q] w (NodePost img w0 w B m gs gd gm nb none) := by
  obtain ⟨a, n, c, ⟨c0, c1, c2, c3, c4, c5, c6⟩, cf, -⟩ := hW.cells
  obtain ⟨hM, -, -, -, -, -, cs, hcs⟩ := hW.rows
  have k0 := hM.cell hj
  rw [decide_eq_true hs] at k0
  have hin : (decide (2 ≤ (j : Int)) && decide ((j : Int) ≤ (m : Int) - 1)) = true := by simp; omega
  have HW := Wc.hid hW
  have HB := Wc.hid hb
  have HC := Wc.hid hcs
  clear hW hb hcs c0 c2 c4 c5 hM hs
  go_enter Try.func29, Try.ntmps29
  go_wp2_with fail
  refine (refIn10_any _ _ _ _).mono ?_
  rintro e w1 ⟨rfl, rfl⟩
  rw [hin]
  go_wp2_with fail
  go_end0
  exact node_none (HB.out.setCell hB _) (K47.set HC.out (by decide) _ _) HW.out.fail

set_option maxRecDepth 100000 in
set_option maxHeartbeats 1600000 in
theorem node_bad (xs : List Int) (ai : Option Addr) (ni ci : Nat) (w0 w : World) (B m gs gd gm nb j L : Nat) (l q : Int) (s : Wt.St) (hv : Wc.Bs w0 (.slice ai ni ci) xs) (hd : Wd.devB xs.length = true) (hmx : xs.length / 64 = m) (hl : l = L) (hB : w0.heap.size ≤ B) (hm : m ≤ 4096) (hb : Below w0.heap.size w0 w)
   (hW : Wk w B (.slice ai ni ci) m gs gd gm nb s.nodes s.nodes s.sec s.dat) (h2 : 2 ≤ j) (hj : j < m) (hs : ¬ (j : Int) ∈ s.nodes) (ho : Wt.okN xs (j : Int) L = false) :
    Calls Try.prog 29 #[.pointer (some ⟨B, 0, none⟩), .int .i64 j, .int .i64 l, .int .i64 q] w (NodePost (.slice ai ni ci) w0 w B m gs gd gm nb none) := by
  obtain ⟨a, n, c, ⟨c0, c1, c2, c3, c4, c5, c6⟩, cf, -⟩ := hW.cells
  obtain ⟨hM, -, -, -, -, -, cs, hcs⟩ := hW.rows
  have k0 := hM.cell hj
  rw [decide_eq_false hs] at k0
  have hin : (decide (2 ≤ (j : Int)) && decide ((j : Int) ≤ (m : Int) - 1)) = true := by simp; omega
  have hxl := Wc.bs_len hv
  have HV := Wc.hid (hv.keep hb)
  have HQ : Hid (j * 64 + 64 ≤ ni) := Wc.hid (by have := Wd.devB_iff.1 hd; omega)
  have HR := Wc.hid (rdR_at hd (show j < xs.length / 64 by omega))
  have HW := Wc.hid hW
  have HB := Wc.hid hb
  have HC := Wc.hid hcs
  clear hv hW hb hcs c2 c4 c5 hM hs hd hmx hxl
  cases hk : (Wn.parE (Wd.rdR xs (j : Int)) != 0)
  · have hlev : ¬ (Wt.nd xs (j : Int)).level = (L : Int) := fun e => by
      have h0 : (Wn.parE (Wd.rdR xs (j : Int)) == 0) = true := by simpa using hk
      rw [okN_iff.2 ⟨h0, e⟩] at ho; cases ho
    clear ho
    obtain ⟨n, hn⟩ : ∃ n, Wt.nd xs (j : Int) = n := ⟨_, rfl⟩
    rw [hn] at hlev
    have HN := Wc.hid hn
    clear hn
    have HK := Wc.hid hk
    clear hk
    go_enter Try.func29, Try.ntmps29
    go_wp2_with fail
    refine (refIn10_any _ _ _ _).mono ?_
    rintro e w1 ⟨rfl, rfl⟩
    rw [hin]
    go_wp2_with fail
    refine (block_any ai ni ci j xs _ HV.out HQ.out).mono ?_
    rintro e w2 ⟨ax, cx, rfl, hbs, rfl⟩
    rw [← HR.out] at hbs
    have HBS := Wc.hid hbs
    clear hbs
    go_wp2_with fail
    refine (refParse7_any _ _ _ HBS.out).mono ?_
    rintro e w3 ⟨rfl, hb3⟩
    have hE : Wn.parE (Wd.rdR xs (j : Int)) = 0 := by simpa using HK.out
    rw [show Wn.par (Wd.rdR xs (j : Int)) = n from HN.out, hE]
    have bA : Below w3.heap.size w3 (w3.alloc (.cells #[.int .i64 n.level, .int .i64 n.p0, .int .i64 n.p1, .int .i64 n.p2, .int .i64 n.p3, .int .i64 n.p4, .int .i64 n.p5, .int .i64 n.p6, .int .i64 n.p7] 47)) := (Below.refl _ _).alloc (Nat.le_refl _) _
    have W3 := (HW.out.keep hb3).keep bA
    obtain ⟨a3, n3, x3, ⟨d0, d1, d2, d3, d4, d5, d6⟩, df, -⟩ := W3.cells
    obtain ⟨-, -, -, -, -, -, cs3, hcs3⟩ := W3.rows
    have ⟨f, f0, f1, f2, f3, f4, f5, f6, f7⟩ := (Nh.new w3 n).nc
    have hne : (n.level != l) = true := by simp; omega
    have HW3 := Wc.hid W3
    have HC3 := Wc.hid hcs3
    have HB3 := Wc.hid (Wc.step (Wc.step HB.out (Nat.le_refl _) hb3) (Nat.le_refl _) bA)
    have HK3 := Wc.hid ((K47.of hb3).trans (K47.of bA))
    unfold nv
    clear W3 hcs3 hb3 bA d0 d1 d2 d3 d4 d5 hE
    go_wp2_with fail
    go_end0
    exact node_none (HB3.out.setCell hB _) (HK3.out.trans (K47.set HC3.out (by decide) _ _)) HW3.out.fail
  · clear ho
    obtain ⟨E, hE⟩ : ∃ E, Wn.parE (Wd.rdR xs (j : Int)) = E := ⟨_, rfl⟩
    rw [hE] at hk
    obtain ⟨n, hn⟩ : ∃ n, Wt.nd xs (j : Int) = n := ⟨_, rfl⟩
    have HN := Wc.hid hn
    have HE := Wc.hid hE
    clear hn hE
    go_enter Try.func29, Try.ntmps29
    go_wp2_with fail
    refine (refIn10_any _ _ _ _).mono ?_
    rintro e w1 ⟨rfl, rfl⟩
    rw [hin]
    go_wp2_with fail
    refine (block_any ai ni ci j xs _ HV.out HQ.out).mono ?_
    rintro e w2 ⟨ax, cx, rfl, hbs, rfl⟩
    rw [← HR.out] at hbs
    have HBS := Wc.hid hbs
    clear hbs
    go_wp2_with fail
    refine (refParse7_any _ _ _ HBS.out).mono ?_
    rintro e w3 ⟨rfl, hb3⟩
    rw [show Wn.par (Wd.rdR xs (j : Int)) = n from HN.out, HE.out]
    have bA : Below w3.heap.size w3 (w3.alloc (.cells #[.int .i64 n.level, .int .i64 n.p0, .int .i64 n.p1, .int .i64 n.p2, .int .i64 n.p3, .int .i64 n.p4, .int .i64 n.p5, .int .i64 n.p6, .int .i64 n.p7] 47)) := (Below.refl _ _).alloc (Nat.le_refl _) _
    have W3 := (HW.out.keep hb3).keep bA
    obtain ⟨a3, n3, x3, ⟨d0, d1, d2, d3, d4, d5, d6⟩, df, -⟩ := W3.cells
    obtain ⟨-, -, -, -, -, -, cs3, hcs3⟩ := W3.rows
    have HW3 := Wc.hid W3
    have HC3 := Wc.hid hcs3
    have HB3 := Wc.hid (Wc.step (Wc.step HB.out (Nat.le_refl _) hb3) (Nat.le_refl _) bA)
    have HK3 := Wc.hid ((K47.of hb3).trans (K47.of bA))
    unfold nv
    clear W3 hcs3 hb3 bA d0 d1 d2 d3 d4 d5
    go_wp2_with fail
    go_end0
    exact node_none (HB3.out.setCell hB _) (HK3.out.trans (K47.set HC3.out (by decide) _ _)) HW3.out.fail

end Go.Proofs.Ytifjbmknghjohaa
