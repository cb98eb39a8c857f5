/-
  A commit's steps may be done; the statements' own wakes returns true.
-/
import Derived.Test.YtfflhiajbioheaaGreatEg
import Derived.Test.YtfflhiajbioheaaGreatEh
import Derived.Test.YtfflhiajbioheaaGreatJI
namespace Wq
/-- A commit's steps are right ones. -/
theorem sts_ok {B n : Nat} (h4 : 4 ≤ B) (hB : B ≤ 4096) (hn : B * 64 = n) {s : Ws.Sup} {t : Int} (h0 : 0 ≤ t) (ht : t ≤ 1) {l : List Wd.Io} {root size first : Int} (hl : l.all (okW (B : Int)) = true) (hll : l.length ≤ 1000000) : Wd.stepsE n (sts s t l root size first) = 0 := by
  subst hn
  refine Wd.stepsE_ok (Wt.devB_b h4 hB) (by unfold sts tail3; simp; omega) ?_
  rw [show (((B * 64 : Nat) : Int) / 64) = (B : Int) by omega]
  unfold sts tail3
  rw [List.all_append, Bool.and_eq_true]
  constructor
  · rw [List.all_eq_true] at hl ⊢
    intro x hx
    obtain ⟨h1, h2, h3, h5⟩ := okW_iff.1 (hl x hx)
    unfold Wd.okIo Wd.rightB
    rw [h1, h5]
    simp; omega
  · simp only [List.all_cons, List.all_nil, Bool.and_true, Bool.and_eq_true]
    refine ⟨rfl, ?_, rfl⟩
    unfold Wd.okIo Wd.rightB
    rw [Ws.blk_length]
    simp; omega
end Wq
namespace Go.Proofs.YtfflhiajbioheaaGreat
open Go.RowKit

/-- A commit that writes no blocks, done: the new superblock in the other slot; without a tree and records it opens. -/
theorem step_open {X : List Int} {B : Nat} {S : Ws.Sup} {t : Nat} {bl : Nat → List Int} (H : Wq.Cdv X B S t bl) (size tt : Int) (htt : tt = (t : Int)) (hn : Ws.supB (Wq.nxt S 0 size 0) = true) :
    ∃ bl', Wq.Cdv (Wd.app X (Wq.sts S tt [] 0 size 0)) B (Wq.nxt S 0 size 0) (1 - t) bl' ∧ opnE (Wd.app X (Wq.sts S tt [] 0 size 0)) = 0 ∧ opnS (Wd.app X (Wq.sts S tt [] 0 size 0)) = Wq.nxt S 0 size 0 ∧ opnT (Wd.app X (Wq.sts S tt [] 0 size 0)) = ((1 - t : Nat) : Int) ∧ opnL (Wd.app X (Wq.sts S tt [] 0 size 0)) = [] := by
  subst htt
  have hN := H.next hn
  rw [Wq.app_sts X S t H.ht]
  exact ⟨_, hN, cdv_empty hN rfl rfl⟩
/-- A new image of eight blocks. -/
theorem new8c (w : World) : Calls Tryz.prog 37 #[.int .i64 8] w fun e w' => ∃ g X bl, e = .returned (.tuple #[.slice (some ⟨g, 0, none⟩) 512 512, .int .i64 0]) ∧ Wc.Bs w' (.slice (some ⟨g, 0, none⟩) 512 512) X ∧
    (opnE X = 0 ∧ opnS X = ⟨1, 8, 0, 0, 0⟩ ∧ opnT X = 0 ∧ opnL X = []) ∧ Wq.Cdv X 8 ⟨1, 8, 0, 0, 0⟩ 0 bl ∧ Below w.heap.size w w' := by
  refine (new_yes 8 512 w (by decide) (by decide) rfl).mono ?_
  rintro e w1 ⟨g, rfl, hg, hO, hb⟩
  have H := Wq.Cdv.new (m := 8) (by decide) (by decide)
  exact ⟨g, _, _, rfl, hO.bs, cdv_empty H rfl rfl, H, hb⟩
theorem c8_ok : Wq.sE ⟨1, 8, 0, 0, 0⟩ 0 [] 0 5 0 = 0 := by decide
theorem r46 : Wq.cE [] [] 0 ⟨0, 3, 0, 0, 0, 0, 0, 0⟩ true [4, 6] = 0 := by decide

theorem recs46 (g : Nat) (w : World) (hF : Wd.In w (.slice (some ⟨g, 0, none⟩) 2 2) [4, 6]) :
    Calls Tryz.prog 11 #[.slice none 0 0, .slice none 0 0, .int .i64 0, .agg #[.int .i64 0, .int .i64 3, .int .i64 0, .int .i64 0, .int .i64 0, .int .i64 0, .int .i64 0, .int .i64 0], .bool true, .slice (some ⟨g, 0, none⟩) 2 2] w fun e w' =>
      ∃ al cl ar cr, e = .returned (.tuple #[.slice al 1 cl, .int .i64 4, .slice ar 1 cr, .int .i64 0]) ∧ Wd.In w' (.slice ar 1 cr) [6] ∧ Below w.heap.size w w' := by
  refine (records15_any none 0 0 [] none 0 0 [] 0 ⟨0, 3, 0, 0, 0, 0, 0, 0⟩ true _ 2 2 [4, 6] _ (Wi.Rs.nil _) (Wv.Rv.nil _) hF (by decide)).mono ?_
  rintro e w1 ⟨hb, hy, -⟩
  obtain ⟨al, cl, ar, cr, rfl, -, hO⟩ := hy r46
  exact ⟨al, cl, ar, cr, rfl, hO.rv, hb⟩

set_option maxRecDepth 100000 in
set_option maxHeartbeats 6400000 in
theorem wakes15_any (w : World) : Calls Tryz.prog 14 #[] w fun e w' => e = .returned (.bool true) ∧ Below w.heap.size w w' := by
  go_enter Tryz.func14, Tryz.ntmps14
  go_wp2_with fail
  refine (new8c _).mono ?_
  rintro e w1 ⟨g, X, bl, rfl, hX, ⟨o1, o2, o3, o4⟩, hC, hb1⟩
  have HX := Wc.hid hX
  have HB1 := Wc.hid hb1
  have HC := Wc.hid hC
  clear hX hb1 hC
  go_wp2_with fail
  refine (oopen_any _ X _ HX.out).mono ?_
  rintro e w2 ⟨a, n, c, rfl, hR, hb2⟩
  rw [o1, o2, o3]
  simp only [stv]
  have bA : Below w2.heap.size w2 (w2.alloc (.cells #[.int .i64 1, .int .i64 8, .int .i64 0, .int .i64 0, .int .i64 0, .int .i64 0, .slice a n c] 26)) := (Below.refl _ _).alloc (Nat.le_refl _) _
  have Z2 := Wc.hid (Zh.new w2 ⟨1, 8, 0, 0, 0⟩ 0 (.slice a n c))
  have HB2 := Wc.hid (Wc.step (Wc.step HB1.out (Nat.le_refl _) hb2) (Nat.le_refl _) bA)
  have HX2 := Wc.hid ((HX.out.keep hb2).keep bA)
  clear hb2 bA hR o1 o2 o3 o4
  have ⟨z0, z1, z2, z3, z4, z5, z6⟩ := Z2.out.zc
  simp only at z0 z1 z2 z3 z4 z5 z6
  go_wp2_with fail
  refine (steps15_any ⟨1, 8, 0, 0, 0⟩ 0 (.slice a n c) none 0 0 [] 0 5 0 _ (Wd.Is.nil _) (by decide)).mono ?_
  rintro e w3 ⟨hb3, hy, -⟩
  obtain ⟨al, cl, rfl, hO⟩ := hy c8_ok
  simp only [List.length_nil, Nat.zero_add] at hO ⊢
  have HO := Wc.hid hO
  have HB3 := Wc.hid (Wc.step HB2.out (Nat.le_refl _) hb3)
  have HX3 := Wc.hid (HX2.out.keep hb3)
  have Z3 := Wc.hid (Z2.out.keep hb3)
  clear hb3 hy hO z0 z1 z2 z3 z4 z5 z6
  go_wp2_with fail
  refine (apply_ob _ 512 _ _ _ _ X _ _ HX3.out HO.out.is (Wq.sts_ok (B := 8) (by decide) (by decide) rfl (by decide) (by decide) rfl (by decide))).mono ?_
  rintro e w4 ⟨g4, rfl, hg4, hO4, hb4⟩
  obtain ⟨bl', -, p1, p2, p3, p4⟩ := step_open HC.out 5 0 rfl (by decide)
  obtain ⟨Y, hY⟩ : ∃ Y, Wd.app X (Wq.sts ⟨1, 8, 0, 0, 0⟩ 0 [] 0 5 0) = Y := ⟨_, rfl⟩
  rw [hY] at p1 p2 p3 p4 hO4
  have p3 : opnT Y = 1 := p3
  have p2 : opnS Y = ⟨2, 8, 0, 5, 0⟩ := p2
  have HY := Wc.hid hO4.bs
  have HB4 := Wc.hid (Wc.step HB3.out (Nat.le_refl _) hb4)
  clear hb4 hg4 hO4 hY
  go_wp2_with fail
  refine (oopen_any _ Y _ HY.out).mono ?_
  rintro e w5 ⟨a5, n5, c5, rfl, hR5, hb5⟩
  rw [p1, p2, p3]
  simp only [stv]
  have bA : Below w5.heap.size w5 (w5.alloc (.cells #[.int .i64 2, .int .i64 8, .int .i64 0, .int .i64 5, .int .i64 0, .int .i64 1, .slice a5 n5 c5] 26)) := (Below.refl _ _).alloc (Nat.le_refl _) _
  have Z5 := Wc.hid (Zh.new w5 ⟨2, 8, 0, 5, 0⟩ 1 (.slice a5 n5 c5))
  have HB5 := Wc.hid (Wc.step (Wc.step HB4.out (Nat.le_refl _) hb5) (Nat.le_refl _) bA)
  obtain ⟨W5, hW5⟩ : ∃ W5, w5.alloc (.cells #[.int .i64 2, .int .i64 8, .int .i64 0, .int .i64 5, .int .i64 0, .int .i64 1, .slice a5 n5 c5] 26) = W5 := ⟨_, rfl⟩
  have HW5 := Wc.hid hW5
  have hs5 : w5.heap.size + 1 = W5.heap.size := by rw [← hW5]; simp
  rw [hW5] at Z5 HB5
  have bI : Below W5.heap.size W5 (W5.alloc (.cells #[.int .i64 4, .int .i64 6] 3)) := (Below.refl _ _).alloc (Nat.le_refl _) _
  have HF := Wc.hid (Wv.Rv.lit (val := Value.int .i64) (d := (0 : Int)) W5 #[.int .i64 4, .int .i64 6] 3 2 [4, 6] rfl (by decide) rfl)
  rw [← hs5] at HF
  have Z6 := Wc.hid (Z5.out.keep bI)
  have HB6 := Wc.hid (Wc.step HB5.out (Nat.le_refl _) bI)
  clear hb5 bA hR5 hW5 hs5 p1 p2 p3 p4 bI
  go_wp2_with fail
  rw [HW5.out]
  go_wp2_with fail
  refine (recs46 (w5.heap.size + 1) _ HF.out).mono ?_
  rintro e w7 ⟨ml, mc, ar, cr, rfl, hr7, hb7⟩
  have HB7 := Wc.hid (Wc.step HB6.out (Nat.le_refl _) hb7)
  have ⟨z0, z1, z2, z3, z4, z5, z6⟩ := (Z6.out.keep hb7).zc
  simp only at z0 z1 z2 z3 z4 z5 z6
  have bJ : Below w7.heap.size w7 (w7.alloc (.cells #[.int .i64 6] 3)) := (Below.refl _ _).alloc (Nat.le_refl _) _
  have HG := Wc.hid (Wv.Rv.lit (val := Value.int .i64) (d := (0 : Int)) w7 #[.int .i64 6] 3 1 [6] rfl (by decide) rfl)
  have HR7 := Wc.hid (hr7.keep bJ)
  have HB8 := Wc.hid (Wc.step HB7.out (Nat.le_refl _) bJ)
  clear hb7 hr7 bJ
  go_wp2_with (go_at_call 12; refine (ints_any _ _ [6] [6] _ HR7.out HG.out).mono ?_; rintro e w9 ⟨rfl, hb9⟩; rw [show (([6] : List Int) == [6]) = true from rfl])
  go_ret
  exact ⟨rfl, Wc.step HB8.out (Nat.le_refl _) hb9⟩
end Go.Proofs.YtfflhiajbioheaaGreat
