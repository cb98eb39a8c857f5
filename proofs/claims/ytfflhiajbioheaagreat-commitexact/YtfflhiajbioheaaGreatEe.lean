/-
  What commit.Records returns, for every input.
-/
import Derived.Test.YtfflhiajbioheaaGreatEd
namespace Wq
open Go Go.RowKit
/-- A row of bytes is memory of the call's own. -/
theorem row_own {e base g n : Nat} {w : World} {xs : List Int} (h : w.rowIs g e n (fun j => .int .u8 (xs.getD j 0))) (hl : xs.length = n) (hn : n ≤ 140737488355328) (hx : ∀ x ∈ xs, 0 ≤ x ∧ x < 256) (hb : base ≤ g) : Wc.Ob e base w (.slice (some ⟨g, 0, none⟩) n n) xs := by
  obtain ⟨c, h1, h2, h3⟩ := h
  subst hl
  refine ⟨⟨by simp, .inr ⟨g, xs.length, c, rfl, hb, h1, Nat.le_refl _, by unfold maxLen; omega, by omega, ?_⟩⟩, hn, hx⟩
  apply List.ext_getElem (by simp; omega)
  intro i hi hj
  have hi' : i < xs.length := by simpa using hj
  have := h3 i hi'
  rw [Array.getElem?_eq_getElem (by omega)] at this
  simp only [List.getElem_take, Array.getElem_toList, List.getElem_map]
  rw [Option.some.inj this]
  simp [hi']
theorem oi_down {e u b1 b0 : Nat} {w : World} {v : Value} {l : List Wd.Io} (h : Wd.Oi e u b1 w v l) (hb : b0 ≤ b1) : Wd.Oi e u b0 w v l := by
  obtain ⟨P, h1, h2, h3, h4⟩ := h
  refine ⟨P, h1, ⟨h2.1, ?_⟩, h3, fun q hq => (h4 q hq).base hb⟩
  rcases h2.2 with hn | ⟨g, cap, cur, hv, hbg, rest⟩
  · exact .inl hn
  · exact .inr ⟨g, cap, cur, hv, Nat.le_trans hb hbg, rest⟩
theorem cE_bad {old : List Wr.Rec} {bl : List Int} {n : Int} {r : Wr.Rec} {b : Bool} {F : List Int} (h : mayB old bl n r b F = false) : cE old bl n r b F = 1 := by unfold cE; rw [h]; rfl
theorem cE_space {old : List Wr.Rec} {bl : List Int} {n : Nat} {r : Wr.Rec} {b : Bool} {F : List Int} (h : mayB old bl n r b F = true) (hK : ¬ (news old n r b).length ≤ F.length) : cE old bl n r b F = 9 := by
  unfold cE; rw [if_pos h, Int.toNat_natCast, if_neg hK]
theorem cE_good {old : List Wr.Rec} {bl : List Int} {n : Nat} {r : Wr.Rec} {b : Bool} {F : List Int} (h : mayB old bl n r b F = true) (hK : (news old n r b).length ≤ F.length) : cE old bl n r b F = 0 := by
  unfold cE; rw [if_pos h, Int.toNat_natCast, if_pos hK]
end Wq
namespace Go.Proofs.YtfflhiajbioheaaGreat
open Go.RowKit

theorem results_four {fn : Func} {t u v x : Tmp} (h : fn.results = #[.tmp t, .tmp u, .tmp v, .tmp x]) (tmps : Array Value) (P : Program) (w : World) :
    (results fn tmps).run P w = .ok (.tuple #[tmps.getD t undef, tmps.getD u undef, tmps.getD v undef, tmps.getD x undef]) w := by
  simp [results, h]

/-- A step with a block of bytes: its cells, laid. -/
theorem lit_io64 (w : World) (k p : Int) (g : Nat) (xs : List Int) (hl : xs.length = 64) (e : Nat) : ∀ j u, (Wd.cells3 (⟨k, p, xs⟩, (some ⟨g, 0, none⟩, 64)))[j]? = some u →
    (w.alloc (.cells #[.int .i64 k, .int .i64 p, .slice (some ⟨g, 0, none⟩) 64 64] e)).cell? ((⟨w.heap.size, 0, none⟩ : Addr).add j) = some u := by
  have h := lit_cells w (⟨k, p, xs⟩, (some ⟨g, 0, none⟩, 64)) e
  simp only [Wd.cells3, hl] at h ⊢
  exact h

set_option maxRecDepth 100000 in
set_option maxHeartbeats 6400000 in
/-- What may not be written is refused. -/
theorem records15_bad (a : Option Addr) (len cap : Nat) (old : List Wr.Rec) (a' : Option Addr) (len' cap' : Nat) (bl : List Int) (n : Int) (r : Wr.Rec) (b : Bool) (a2 : Option Addr) (len2 cap2 : Nat) (F : List Int) (w : World)
    (ho : Wi.Rs w (.slice a len cap) old) (hb : Wd.In w (.slice a' len' cap') bl) (hF : Wd.In w (.slice a2 len2 cap2) F) (hno : Wq.mayB old bl n r b F = false) :
    Calls Tryz.prog 11 #[.slice a len cap, .slice a' len' cap', .int .i64 n, rv r, .bool b, .slice a2 len2 cap2] w fun e w' => e = .returned (.tuple #[.slice none 0 0, .int .i64 0, .slice none 0 0, .int .i64 1]) ∧ Below w.heap.size w w' := by
  have hL := Wi.rs_len ho
  have bA := (Below.refl w.heap.size w).alloc (Nat.le_refl _) (.cells #[.int .i64 r.next, .int .i64 r.id, .int .i64 r.parent, .int .i64 r.root, .int .i64 r.size, .int .i64 r.kind, .int .i64 r.frames, .int .i64 r.digest] 39)
  have BA := Wc.hid bA
  have HO := Wc.hid (ho.keep bA)
  have HB := Wc.hid (hb.keep bA)
  have HF := Wc.hid (hF.keep bA)
  have HR := Wc.hid (Rh.new w r)
  unfold Wq.mayB at hno
  clear bA ho hb hF
  cases hc : Wq.chB old bl
  · clear hno
    unfold rv
    go_enter Tryz.func11, Tryz.ntmps11
    go_wp2_with (go_at_call 27; refine (rightChain15_any _ _ _ old _ _ _ bl _ HO.out HB.out).mono ?_; rintro e w1 ⟨rfl, hb1⟩; rw [hc]; have HB1 := Wc.hid hb1; clear hb1)
    refine bodyPost_ret (results_four rfl _ _ _) rfl ?_
    exact ⟨rfl, Wc.step BA.out (Nat.le_refl _) HB1.out⟩
  rw [hc, Bool.true_and] at hno
  by_cases h0 : n < 0
  · clear hno
    unfold rv
    go_enter Tryz.func11, Tryz.ntmps11
    go_wp2_with (go_at_call 27; refine (rightChain15_any _ _ _ old _ _ _ bl _ HO.out HB.out).mono ?_; rintro e w1 ⟨rfl, hb1⟩; rw [hc]; have HB1 := Wc.hid hb1; clear hb1)
    refine bodyPost_ret (results_four rfl _ _ _) rfl ?_
    exact ⟨rfl, Wc.step BA.out (Nat.le_refl _) HB1.out⟩
  rw [decide_eq_true (by omega), Bool.true_and] at hno
  by_cases h1 : (len : Int) < n
  · clear hno
    unfold rv
    go_enter Tryz.func11, Tryz.ntmps11
    go_wp2_with (go_at_call 27; refine (rightChain15_any _ _ _ old _ _ _ bl _ HO.out HB.out).mono ?_; rintro e w1 ⟨rfl, hb1⟩; rw [hc]; have HB1 := Wc.hid hb1; clear hb1)
    refine bodyPost_ret (results_four rfl _ _ _) rfl ?_
    exact ⟨rfl, Wc.step BA.out (Nat.le_refl _) HB1.out⟩
  rw [decide_eq_true (by omega), Bool.true_and] at hno
  cases b with
  | false =>
    have hfr : Wq.frB F = false := by simpa using hno
    unfold rv
    go_enter Tryz.func11, Tryz.ntmps11
    go_wp2_with (first | (go_at_call 27; refine (rightChain15_any _ _ _ old _ _ _ bl _ HO.out HB.out).mono ?_; rintro e w1 ⟨rfl, hb1⟩; rw [hc]; have HB1 := Wc.hid hb1; clear hb1) | (go_at_call 29; refine (rightFree15_any _ _ _ F _ (HF.out.keep HB1.out)).mono ?_; rintro e w' ⟨rfl, rfl⟩; rw [hfr]))
    refine bodyPost_ret (results_four rfl _ _ _) rfl ?_
    exact ⟨rfl, Wc.step BA.out (Nat.le_refl _) HB1.out⟩
  | true =>
    cases hr : Wr.recB (Wq.bare r)
    · clear hno
      unfold rv
      go_enter Tryz.func11, Tryz.ntmps11
      go_wp2_with (first | (go_at_call 27; refine (rightChain15_any _ _ _ old _ _ _ bl _ HO.out HB.out).mono ?_; rintro e w1 ⟨rfl, hb1⟩; rw [hc]; have HB1 := Wc.hid hb1; have ⟨d0, d1, d2, d3, d4, d5, d6, d7⟩ := (HR.out.keep hb1).rc; clear hb1) | (go_at_call 28; refine (rightFirst15_any r _).mono ?_; rintro e w2 ⟨rfl, hb2⟩; rw [hr]; have HB2 := Wc.hid hb2; clear hb2))
      refine bodyPost_ret (results_four rfl _ _ _) rfl ?_
      exact ⟨rfl, Wc.step (Wc.step BA.out (Nat.le_refl _) HB1.out) (Nat.le_refl _) HB2.out⟩
    · have hfr : Wq.frB F = false := by rw [hr] at hno; simpa using hno
      unfold rv
      go_enter Tryz.func11, Tryz.ntmps11
      go_wp2_with (first | (go_at_call 27; refine (rightChain15_any _ _ _ old _ _ _ bl _ HO.out HB.out).mono ?_; rintro e w1 ⟨rfl, hb1⟩; rw [hc]; have HB1 := Wc.hid hb1; have ⟨d0, d1, d2, d3, d4, d5, d6, d7⟩ := (HR.out.keep hb1).rc; clear hb1) | (go_at_call 28; refine (rightFirst15_any r _).mono ?_; rintro e w2 ⟨rfl, hb2⟩; rw [hr]; have HB2 := Wc.hid hb2; clear hb2) | (go_at_call 29; refine (rightFree15_any _ _ _ F _ ((HF.out.keep HB1.out).keep HB2.out)).mono ?_; rintro e w' ⟨rfl, rfl⟩; rw [hfr]))
      refine bodyPost_ret (results_four rfl _ _ _) rfl ?_
      exact ⟨rfl, Wc.step (Wc.step BA.out (Nat.le_refl _) HB1.out) (Nat.le_refl _) HB2.out⟩
end Go.Proofs.YtfflhiajbioheaaGreat

