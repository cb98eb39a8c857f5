/-
  What the page's Build returns: a new tree for a right map beside an old one.
-/
import Derived.Test.YtafpjnofccfmlaaCn
import Derived.Test.YtafpjnofccfmlaaJH
import Derived.Test.YtafpjnofccfmlaaDb1
namespace Wb
open Wt Wn
/-- A node's pointers as far as they are laid. -/
def pf (a : List Int) (i k : Nat) : Nod := ⟨0, if 0 < k then a.getD (8 * i) 0 else 0, if 1 < k then a.getD (8 * i + 1) 0 else 0, if 2 < k then a.getD (8 * i + 2) 0 else 0, if 3 < k then a.getD (8 * i + 3) 0 else 0, if 4 < k then a.getD (8 * i + 4) 0 else 0, if 5 < k then a.getD (8 * i + 5) 0 else 0, if 6 < k then a.getD (8 * i + 6) 0 else 0, if 7 < k then a.getD (8 * i + 7) 0 else 0⟩
theorem pf_zero (a : List Int) (i : Nat) : pf a i 0 = n0 := rfl
theorem pf_all (a : List Int) (i : Nat) : pf a i 8 = mk 0 a i := rfl
theorem pf_set (a : List Int) (i : Nat) {k : Nat} (hk : k < 8) : setP (pf a i k) k (a.getD (8 * i + k) 0) = pf a i (k + 1) := by
  rcases below8 hk with rfl | rfl | rfl | rfl | rfl | rfl | rfl | rfl <;> rfl
theorem pf_pat (a : List Int) (i : Nat) {k j : Nat} (hj : j < 8) : pat (pf a i k) j = if j < k then a.getD (8 * i + j) 0 else 0 := by
  rcases below8 hj with rfl | rfl | rfl | rfl | rfl | rfl | rfl | rfl <;> rfl
/-- Is any of the first k there? -/
def anyK (a : List Int) (i k : Nat) : Bool := !((List.range k).all fun j => a.getD (8 * i + j) 0 == 0)
theorem anyK_succ (a : List Int) (i k : Nat) : anyK a i (k + 1) = (anyK a i k || a.getD (8 * i + k) 0 != 0) := by
  unfold anyK
  rw [List.range_succ, List.all_append, List.all_cons, List.all_nil, Bool.and_true, Bool.not_and]; rfl
theorem anyK_all (a : List Int) (i : Nat) : anyK a i 8 = !nul a i := rfl
/-- Do the first k stay? -/
def kpK (g : Nat → Bool) (i k : Nat) : Bool := (List.range k).all fun j => g (8 * i + j)
theorem kpK_succ (g : Nat → Bool) (i k : Nat) : kpK g i (k + 1) = (kpK g i k && g (8 * i + k)) := by
  unfold kpK
  rw [List.range_succ, List.all_append, List.all_cons, List.all_nil, Bool.and_true]
/-- What the page asks of a place under a node of a level. -/
def gk (m was : List Int) (L j : Nat) : Bool := if L = 0 then m.getD j 0 == was.getD j 0 else kp m was (L - 1) j
theorem kpK_all (m was : List Int) (L i : Nat) : kpK (gk m was L) i 8 = kp m was L i := by
  cases L with
  | zero => rfl
  | succ L => rfl
theorem ios_min {F : List Int} {N : List Nod} {n : Nod} (h : ¬ N.length < F.length) : ios F (N ++ [n]) (min (N ++ [n]).length F.length) = ios F N (min N.length F.length) := by
  have e : min (N ++ [n]).length F.length = min N.length F.length := by rw [List.length_append, List.length_singleton]; omega
  rw [e]
  exact ios_more (Nat.min_le_left _ _)
theorem ios_put {F : List Int} {N : List Nod} {n : Nod} (h : N.length < F.length) : ios F (N ++ [n]) (min (N ++ [n]).length F.length) = ios F N (min N.length F.length) ++ [⟨1, F.getD N.length 2, blk n⟩] := by
  have e : min (N ++ [n]).length F.length = N.length + 1 := by rw [List.length_append, List.length_singleton]; omega
  have e2 : min N.length F.length = N.length := by omega
  rw [e, e2, ios_succ, ios_more (Nat.le_refl _)]
  congr 2
  unfold wio
  congr 2
  rw [List.getD_eq_getElem?_getD, List.getElem?_append_right (Nat.le_refl _)]
  simp
end Wb
namespace Go.Proofs.Ytafpjnofccfmlaa
open Go.RowKit

theorem ptr_getD (n : Wn.Nod) {k : Nat} (hk : k < 8) : (Wn.ptr n).getD k 0 = Wn.pat n k := by
  rcases Wn.below8 hk with rfl | rfl | rfl | rfl | rfl | rfl | rfl | rfl <;> rfl
/-- A block that is three slices. -/
def Th (w : World) (B : Nat) (f : Nat → Value) : Prop := w.heap[B]? = some (.cells #[f 0, f 1, f 2] 80 (0, 0))
theorem Th.lt {w : World} {B : Nat} {f : Nat → Value} (h : Th w B f) : B < w.heap.size := (Array.getElem?_eq_some_iff.1 h).1
theorem Th.keep {w w' : World} {B : Nat} {f : Nat → Value} (h : Th w B f) {base : Nat} (hb : Below base w w') (hlt : B < base) : Th w' B f := (hb.block B hlt).trans h
theorem Th.cell {w : World} {B : Nat} {f : Nat → Value} (h : Th w B f) {k : Nat} (hk : k < 3) : w.cell? ⟨B, k, none⟩ = some (f k) := by
  have h : w.heap[B]? = _ := h
  rcases (by omega : k = 0 ∨ k = 1 ∨ k = 2) with rfl | rfl | rfl <;> simp [World.cell?, h]
theorem Th.frozen {w : World} {B : Nat} {f : Nat → Value} (h : Th w B f) (i : Nat) : w.frozen? ⟨B, i, none⟩ = false := by simp [World.frozen?, show w.heap[B]? = _ from h]
theorem Th.set {w : World} {B : Nat} {f : Nat → Value} (h : Th w B f) {k : Nat} (hk : k < 3) (v : Value) : Th (w.setCell ⟨B, k, none⟩ v) B (fun i => if i = k then v else f i) := by
  have h0 := heap_setCell_same w B k _ 80 v h
  unfold Th
  rw [h0]
  rcases (by omega : k = 0 ∨ k = 1 ∨ k = 2) with rfl | rfl | rfl <;> simp
/-- A slice of ints in a block of ints that is not below a base. -/
def Rt (base : Nat) (w : World) (v : Value) (xs : List Int) : Prop := Wd.In w v xs ∧ ∀ g o t n c, v = .slice (some ⟨g, o, t⟩) n c → base ≤ g ∧ ∃ cs fr, w.heap[g]? = some (.cells cs 3 fr)
theorem Rt.of {base : Nat} {w : World} {v : Value} {xs : List Int} (h : Wv.Ov (Value.int .i64) 3 base w v xs) : Rt base w v xs := by
  refine ⟨h.rv, fun g o t n c e => ?_⟩
  rcases h.1.2 with ⟨hn, _⟩ | ⟨g', cap, cur, hv, hbg, hh, _⟩
  · rw [hn] at e; cases e
  · rw [hv] at e; cases e; exact ⟨hbg, _, _, hh⟩
theorem Rt.base {base b0 : Nat} {w : World} {v : Value} {xs : List Int} (h : Rt base w v xs) (hb : b0 ≤ base) : Rt b0 w v xs := ⟨h.1, fun g o t n c e => ⟨Nat.le_trans hb (h.2 g o t n c e).1, (h.2 g o t n c e).2⟩⟩
theorem Rt.stay {base : Nat} {w w' : World} {v : Value} {xs : List Int} (h : Rt base w v xs) (hs : w.heap.size ≤ w'.heap.size) (hb : ∀ b cs fr, base ≤ b → w.heap[b]? = some (.cells cs 3 fr) → w'.heap[b]? = w.heap[b]?) : Rt base w' v xs := by
  obtain ⟨⟨a, n, cap, rfl, h1, h2, h3, h4, h5⟩, h6⟩ := h
  refine ⟨⟨a, n, cap, rfl, h1, h2, h3, h4, fun h0 => ?_⟩, fun g o t n c e => ?_⟩
  · obtain ⟨b, off, rfl, k1, k2⟩ := h5 h0
    refine ⟨b, off, rfl, Nat.lt_of_lt_of_le k1 hs, fun i hi => ?_⟩
    rw [← k2 i hi]
    obtain ⟨e1, cs, fr, e2⟩ := h6 _ _ _ _ _ rfl
    unfold World.cell?
    rw [hb b cs fr e1 e2]
  · obtain ⟨e1, cs, fr, e2⟩ := h6 g o t n c e
    exact ⟨e1, cs, fr, (hb g cs fr e1 e2).trans e2⟩
theorem Ah.at {w : World} {B : Nat} {n : Wn.Nod} (h : Ah w B n) {k : Nat} (hk : k < 8) : w.cell? ⟨B, k, none⟩ = some (.int .i64 (Wn.pat n k)) := by
  obtain ⟨c0, c1, c2, c3, c4, c5, c6, c7⟩ := h.ac
  rcases Wn.below8 hk with rfl | rfl | rfl | rfl | rfl | rfl | rfl | rfl <;> assumption
theorem Ah.set {w : World} {B : Nat} {n : Wn.Nod} (h : Ah w B n) {k : Nat} (hk : k < 8) (z : Int) : Ah (w.setCell ⟨B, k, none⟩ (.int .i64 z)) B (Wn.setP n k z) := by
  have h0 := heap_setCell_same w B k _ 81 (.int .i64 z) h
  unfold Ah
  rw [h0]
  rcases Wn.below8 hk with rfl | rfl | rfl | rfl | rfl | rfl | rfl | rfl <;> rfl
theorem Ah.below {w w' : World} {B base : Nat} {n : Wn.Nod} (h : Ah w B n) (hb : Below base w w') (hlt : B < base) : Ah w' B n := (hb.block B hlt).trans h
theorem results_tmp5 {fn : Func} {t u v x y : Tmp} (h : fn.results = #[.tmp t, .tmp u, .tmp v, .tmp x, .tmp y]) (tmps : Array Value) (P : Program) (w : World) :
    (results fn tmps).run P w = .ok (.tuple #[tmps.getD t undef, tmps.getD u undef, tmps.getD v undef, tmps.getD x undef, tmps.getD y undef]) w := by
  simp [results, h]

/-- What the page's Build returns. -/
def RBPost (xs : List Int) (r : Int) (m F : List Int) (w : World) : Ending → World → Prop := fun e w' =>
  Below w.heap.size w w' ∧ (Wb.need xs r m (Wt.treS xs r) F ≤ F.length → ∃ al cl ar cr, e = .returned (.tuple #[.int .i64 (Wb.root xs r m (Wt.treS xs r) F), .slice al (Wb.need xs r m (Wt.treS xs r) F) cl, .slice ar (F.length - Wb.need xs r m (Wt.treS xs r) F) cr, .int .i64 (Wb.need xs r m (Wt.treS xs r) F : Nat), .bool true]) ∧
      Wd.Is w' (.slice al (Wb.need xs r m (Wt.treS xs r) F) cl) (Wb.ios F (Wb.new xs r m (Wt.treS xs r) F) (Wb.need xs r m (Wt.treS xs r) F)) ∧ Wd.In w' (.slice ar (F.length - Wb.need xs r m (Wt.treS xs r) F) cr) (F.drop (Wb.need xs r m (Wt.treS xs r) F))) ∧
    (F.length < Wb.need xs r m (Wt.treS xs r) F → e = .returned (.tuple #[.int .i64 0, .slice none 0 0, .slice none 0 0, .int .i64 (Wb.need xs r m (Wt.treS xs r) F : Nat), .bool false]))

set_option maxRecDepth 100000 in
set_option maxHeartbeats 25600000 in
theorem refBuild_any (ai : Option Addr) (ni ci : Nat) (r : Int) (am : Option Addr) (nm cm : Nat) (af : Option Addr) (nf cf : Nat) (xs m F : List Int) (w : World) (hv : Wc.Bs w (.slice ai ni ci) xs) (hm : Wd.In w (.slice am nm cm) m) (hF : Wd.In w (.slice af nf cf) F)
   (h0 : Wb.begE xs r m = 0) (hFr : ∀ j, 2 ≤ F.getD j 2 ∧ F.getD j 2 < 4096) :
    Calls Try.prog 18 #[.slice ai ni ci, .int .i64 r, .slice am nm cm, .slice af nf cf] w (RBPost xs r m F w) := by
  unfold RBPost
  obtain ⟨hte, hme⟩ := Wb.begE_zero h0
  obtain ⟨hd, t, htr, hts, htn⟩ := Wb.treE_zero hte
  obtain ⟨hml, hmr⟩ := Wb.mapE_zero hme
  have hdv := Wd.devB_iff.1 hd
  have hxl := Wc.bs_len hv
  have hni : ni ≤ 262144 := by omega
  have HV := Wc.hid hv
  have HM := Wc.hid hm
  have HF := Wc.hid hF
  have HFL := Wc.hid (Wv.rv_len hF)
  have HFR := Wc.hid hFr
  have HD := Wc.hid hd
  have HTR := Wc.hid htr
  have HTS := Wc.hid hts
  have HML := Wc.hid hml
  have HMR := Wc.hid hmr
  have HXL := Wc.hid hxl
  have hnf : nf ≤ 17592186044416 := by obtain ⟨_, _, _, h1, _, _, _, h5, _⟩ := hF; cases h1; exact h5
  have hmk : ∀ w : World, (Instr.makeSlice 71 (.int .i64 64) (.int .i64 64)).run Try.prog w = .ok (.slice (some ⟨w.heap.size, 0, none⟩) 64 64) (w.alloc (.cells (madeCells #[.bool false] 64) 4)) := fun w => run_make_row' (P := Try.prog) 71 4 (.bool false) 1 Try.underlying71 Try.infoB rfl .i64 .i64 64 (by omega) (by omega) w
  clear hv hm hF hFr hd htr hts htn hml hmr hxl hte hme h0 hdv
  go_enter Try.func18, Try.ntmps18
  go_wp2_with fail
  refine (refTree_any _ xs r w HV.out HD.out).mono ?_
  rintro e w1 ⟨aw, nw, cw, an', nn', cn', rfl, hW1, -, hb1⟩
  have HW1 := Wc.hid hW1
  have HB1 := Wc.hid hb1
  have HV1 := Wc.hid (HV.out.keep hb1)
  have HM1 := Wc.hid (HM.out.keep hb1)
  have HF1 := Wc.hid (HF.out.keep hb1)
  obtain ⟨hs, hhs⟩ : ∃ hs, w1.heap.size = hs := ⟨_, rfl⟩
  have HHS := Wc.hid hhs
  -- the three blocks that are laid ahead of the loops
  have A1 := (Below.refl hs w1).alloc (Nat.le_of_eq hhs.symm) (.cells (madeCells #[.bool false] 64) 4)
  obtain ⟨wA, hwA⟩ : ∃ wA, w1.alloc (.cells (madeCells #[.bool false] 64) 4) = wA := ⟨_, rfl⟩
  have sA : wA.heap.size = hs + 1 := by rw [← hwA]; simp [hhs]
  rw [hwA] at A1
  have A2 := A1.alloc (by omega) (.cells #[.slice none 0 0, .slice none 0 0, .slice (some ⟨hs + 1 + 1, 0, none⟩) 1 1] 80)
  have T2 : Th (wA.alloc (.cells #[.slice none 0 0, .slice none 0 0, .slice (some ⟨hs + 1 + 1, 0, none⟩) 1 1] 80)) (hs + 1) (fun i => if i = 2 then .slice (some ⟨hs + 1 + 1, 0, none⟩) 1 1 else .slice none 0 0) := by
    rw [← sA]
    show (wA.heap.push _)[_]? = _
    rw [Array.getElem?_push_size]; rfl
  obtain ⟨wB, hwB⟩ : ∃ wB, wA.alloc (.cells #[.slice none 0 0, .slice none 0 0, .slice (some ⟨hs + 1 + 1, 0, none⟩) 1 1] 80) = wB := ⟨_, rfl⟩
  have sB : wB.heap.size = hs + 2 := by rw [← hwB]; simp [sA]
  rw [hwB] at A2 T2
  have A3 := A2.alloc (by omega) (.cells #[.int .i64 r] 3)
  have A3b := (Below.refl wB.heap.size wB).alloc (Nat.le_refl _) (.cells #[.int .i64 r] 3)
  have hR0 : Rt (hs + 2) (wB.alloc (.cells #[.int .i64 r] 3)) (.slice (some ⟨hs + 1 + 1, 0, none⟩) 1 1) [r] := by
    refine ⟨?_, fun g o t n c e => ?_⟩
    · rw [show hs + 1 + 1 = wB.heap.size by rw [sB]]
      exact Wv.Rv.lit wB _ 3 1 _ rfl (by decide) rfl
    · cases e
      refine ⟨Nat.le_refl _, #[.int .i64 r], (0, 0), ?_⟩
      rw [show hs + 1 + 1 = wB.heap.size by rw [sB]]
      show (wB.heap.push _)[_]? = _
      simp
  have S0 : Hid (Th (wB.alloc (.cells #[.int .i64 r] 3)) (hs + 1) (fun i => if i = 2 then .slice (some ⟨hs + 1 + 1, 0, none⟩) 1 1 else .slice none 0 0)) := Wc.hid (T2.keep A3b (by omega))
  have R0 := Wc.hid hR0
  have B0 := Wc.hid A3
  subst hwB hwA
  clear A1 A2 A3 A3b T2 hR0 sA sB hhs hW1 hb1
  go_wp2_with fail
  rw [HHS.out]
  go_loopw [18] (fun u wr => ∃ (z : Int) (c : Nat) (f : Nat → Value), u = .int .i64 z ∧ Hid (z + 1 = (c : Int)) ∧ Hid (c ≤ 2) ∧ Hid (Th wr (hs + 1) f) ∧ Hid (∀ i, c ≤ i → i < 3 → Rt (hs + 2) wr (f i) (Wb.rw xs r (2 - i))) ∧ Hid (∀ i, i < c → f i = .slice none 0 0) ∧ Hid (Below hs w1 wr)) (fun u _ => (intOf u + 1).toNat)
  case atStart =>
    refine ⟨1, 2, _, rfl, Wc.hid rfl, Wc.hid (Nat.le_refl _), S0, Wc.hid fun i h1 h2 => ?_, Wc.hid fun i hi => if_neg (by omega), B0⟩
    obtain rfl : i = 2 := by omega
    exact R0.out
  case round =>
    obtain ⟨z, c, f, rfl, HC, HC3, HT, HR, HN, HB⟩ := hrel
    by_cases hc0 : c = 0
    · subst hc0
      obtain rfl : z = -1 := by have := HC.out; omega
      clear HC HC3 HN R0 S0 B0
      go_wp2_with fail
      obtain ⟨was, hwas⟩ : ∃ was, was = Wt.treS xs r := ⟨_, rfl⟩
      have HWAS := Wc.hid hwas
      obtain ⟨wp, rfl⟩ : ∃ wp, wp = wr := ⟨wr, rfl⟩
      obtain ⟨ps, hps⟩ : ∃ ps, wp.heap.size = ps := ⟨_, rfl⟩
      have HPS := Wc.hid hps
      have hHB : Below w1.heap.size w1 wp := by rw [HHS.out]; exact HB.out
      have HWp : Hid (Wd.In wp (.slice aw nw cw) was) := Wc.hid (by rw [hwas]; exact HW1.out.keep hHB)
      have HMp : Hid (Wd.In wp (.slice am nm cm) m) := Wc.hid (HM1.out.keep hHB)
      have HFp : Hid (Wd.In wp (.slice af nf cf) F) := Wc.hid (HF1.out.keep hHB)
      have HBp := Wc.hid (HB1.out.trans (hHB.mono HB1.out.size))
      have hwl : was.length = 512 := by rw [hwas, HTS.out, ← Wb.rw_sec HTR.out, Wb.rw_length]
      have hnw : nw = 512 := by rw [← Wv.rv_len HWp.out]; exact hwl
      have hnm : nm = 512 := by rw [← Wv.rv_len HMp.out]; exact HML.out
      subst hnw hnm
      have HWL := Wc.hid hwl
      have hTl : hs + 1 < ps := by rw [← hps]; exact HT.out.lt
      have HTL := Wc.hid hTl
      have e0 : Wb.ios F (Wb.lv xs r m was F 0).new (min (Wb.lv xs r m was F 0).new.length F.length) = [] := by
        show Wb.ios F [] (min 0 F.length) = []
        rw [Nat.zero_min]; rfl
      have HI0 : Hid (Wd.Oi 54 5 ps wp (.slice none 0 0) (Wb.ios F (Wb.lv xs r m was F 0).new (min (Wb.lv xs r m was F 0).new.length F.length))) := Wc.hid (by rw [e0]; exact Wd.Oi.nil _ _ _ _)
      have HR0 : Hid (Ro ps wp (.slice am 512 cm) (Wb.lv xs r m was F 0).up) := Wc.hid ⟨HMp.out, fun g o t n c e => .inl (by
        cases e
        obtain ⟨b, off, cap, e, hb, -⟩ := in_open HMp.out (by rw [HML.out]; decide)
        rw [HML.out] at e
        cases e
        rw [hps] at hb
        exact hb)⟩
      clear hwas hps hHB hwl hTl e0 HV1 HM1 HF1 HW1 HB1
      go_loopw [9, 11, 16, 25, 26] (fun u9 u11 u16 u25 u26 wr => ∃ (L K : Nat) (a9 : Option Addr) (n9 c9 : Nat) (v16 : Value) (a25 : Option Addr) (n25 c25 : Nat), u9 = .slice a9 n9 c9 ∧ u11 = .int .i64 K ∧ u16 = v16 ∧ u25 = .slice a25 n25 c25 ∧ u26 = .int .i64 L ∧ L ≤ 3 ∧ Hid (K = (Wb.lv xs r m was F L).new.length) ∧ Hid (Wd.Oi 54 5 ps wr (.slice a9 n9 c9) (Wb.ios F (Wb.lv xs r m was F L).new (min (Wb.lv xs r m was F L).new.length F.length))) ∧ Hid (L = 0 ∨ R4 wr v16 ((List.range (8 ^ (3 - L))).map (Wb.kp m was (L - 1)))) ∧ Hid (Ro ps wr (.slice a25 n25 c25) (Wb.lv xs r m was F L).up) ∧ Hid (Below ps wp wr)) (fun _ _ _ _ u _ => 3 - (intOf u).toNat)
      case atStart => exact ⟨0, 0, none, 0, 0, _, am, 512, cm, rfl, rfl, rfl, rfl, rfl, by omega, Wc.hid rfl, HI0, Wc.hid (.inl rfl), HR0, Wc.hid (Below.refl _ _)⟩
      case round =>
        clear HI0 HR0
        obtain ⟨L, K, a9, n9, c9, v16, a25, n25, c25, rfl, rfl, rfl, rfl, rfl, hL3, HK9, HL9, HS, HA0, HB2⟩ := hrel
        by_cases hL : L = 3
        · subst hL
          obtain rfl := HWAS.out
          have hlen := Wb.lv_len (xs := xs) (r := r) (was := Wt.treS xs r) (F := F) HML.out 3 (Nat.le_refl _)
          obtain ⟨b3, off3, cap3, he3, hb3, hc3⟩ := in_open HA0.out.1 (by rw [hlen]; decide)
          rw [hlen] at he3 hc3
          cases he3
          obtain ⟨rt, hrt⟩ : ∃ rt, (Wb.lv xs r m (Wt.treS xs r) F 3).up.getD 0 0 = rt := ⟨_, rfl⟩
          have hc0 := hc3 0 (by decide)
          rw [hrt, Nat.add_zero] at hc0
          have HROOT := Wc.hid (show Wb.root xs r m (Wt.treS xs r) F = rt by rw [← hrt, Wb.lv_three]; rfl)
          have HNEW := Wc.hid (show (Wb.lv xs r m (Wt.treS xs r) F 3).new = Wb.new xs r m (Wt.treS xs r) F by rw [Wb.lv_three]; rfl)
          have HNEED := Wc.hid (show Wb.need xs r m (Wt.treS xs r) F = K by rw [HK9.out, HNEW.out]; rfl)
          have hBw := HBp.out.trans (HB2.out.mono (by rw [← HPS.out]; exact HBp.out.size))
          have HBW := Wc.hid hBw
          clear hlen hc3 hrt hBw HT HR
          by_cases hfull : nf < K
          · clear hc0
            go_wp2_with fail
            refine bodyPost_ret (results_tmp5 rfl _ _ _) rfl ?_
            refine ⟨HBW.out, fun h => ?_, fun _ => by rw [HNEED.out]; rfl⟩
            rw [HNEED.out, HFL.out] at h
            omega
          · obtain ⟨ax, hsl, ar, cr, w8, hrun, hIn, hb8⟩ := rest_any af nf cf K F wr (HFp.out.keep (by rw [HPS.out]; exact HB2.out)) (by omega)
            have hios : Wb.ios F (Wb.lv xs r m (Wt.treS xs r) F 3).new (min (Wb.lv xs r m (Wt.treS xs r) F 3).new.length F.length) = Wb.ios F (Wb.new xs r m (Wt.treS xs r) F) K := by
              rw [← HK9.out, HFL.out, HNEW.out, Nat.min_eq_left (by omega)]
            have hO9 := HL9.out
            rw [hios] at hO9
            obtain ⟨_, _, e9⟩ := hO9.slice
            rw [Wb.ios_length] at e9
            have hn9 : n9 = K := (Value.slice.inj e9).2.1
            rw [hn9] at hO9
            have HN9 := Wc.hid hn9
            have HO9 := Wc.hid (hO9.keep hb8).is
            have HIN := Wc.hid hIn
            have HB8 := Wc.hid (HBW.out.trans (hb8.mono HBW.out.size))
            have hc8 := (hb8.cell (p := ⟨b3, off3, none⟩) hb3).trans hc0
            have HRUN := Wc.hid hrun
            clear hios hO9 e9 hn9 hIn hb8 hrun hc0
            go_wp2_with (at_builtin; refine Wv.wp_append HRUN.out rfl rfl rfl rfl ?_)
            refine bodyPost_ret (results_tmp5 rfl _ _ _) rfl ?_
            refine ⟨HB8.out, fun _ => ⟨a9, c9, ar, cr, by rw [HROOT.out, HNEED.out, HFL.out, ← HN9.out]; rfl, by rw [HNEED.out]; exact HO9.out, by rw [HNEED.out, HFL.out]; exact HIN.out⟩, fun h => ?_⟩
            rw [HNEED.out, HFL.out] at h
            omega
        · have hL : L ≤ 2 := by omega
          obtain ⟨wl, rfl⟩ : ∃ wl, wl = wr := ⟨wr, rfl⟩
          obtain ⟨c, hc⟩ : ∃ c, 8 ^ (2 - L) = c := ⟨_, rfl⟩
          have hc64 : 1 ≤ c ∧ c ≤ 64 := by
            rw [← hc]
            rcases (by omega : L = 0 ∨ L = 1 ∨ L = 2) with rfl | rfl | rfl <;> decide
          have hc8 : 8 ^ (3 - L) = 8 * c := by rw [← hc, show 3 - L = 2 - L + 1 by omega, Nat.pow_succ, Nat.mul_comm]
          have hup : (Wb.lv xs r m was F L).up.length = 8 * c := by rw [Wb.lv_len HML.out L hL3, hc8]
          -- the row of the pointers to this level's old nodes
          obtain ⟨od, hod⟩ : ∃ od, Wb.rw xs r (2 - L) = od := ⟨_, rfl⟩
          have hodl : od.length = c := by rw [← hod, Wb.rw_length, hc]
          have hIo := (HR.out L (Nat.zero_le _) (by omega)).1
          rw [hod] at hIo
          obtain ⟨b, off, cap, hfe, hbl, hcells⟩ := in_open hIo (by rw [hodl]; omega)
          rw [hodl] at hfe hcells
          rw [HPS.out] at hbl
          have hcl := HT.out.cell (k := L) (by omega)
          rw [hfe] at hcl
          -- the row so far
          obtain ⟨b3, off3, cap3, he3, hb3, hc3⟩ := in_open HA0.out.1 (by rw [hup]; omega)
          rw [hup] at he3 hc3
          cases he3
          obtain ⟨bl, hbl0⟩ : ∃ bl, wl.heap.size = bl := ⟨_, rfl⟩
          have HBS := Wc.hid hbl0
          have HPB := Wc.hid (show ps ≤ bl by rw [← hbl0, ← HPS.out]; exact HB2.out.size)
          have HC := Wc.hid hcells
          have HCL := Wc.hid hcl
          have HOD := Wc.hid hod
          have HODL := Wc.hid hodl
          have HBL := Wc.hid hbl
          have HUP := Wc.hid hup
          have HCE := Wc.hid hc
          have HC8 := Wc.hid hc8
          obtain ⟨A, hA⟩ : ∃ A, (Wb.lv xs r m was F L).up = A := ⟨_, rfl⟩
          obtain ⟨N0, hN0⟩ : ∃ N0, (Wb.lv xs r m was F L).new = N0 := ⟨_, rfl⟩
          have hnext : Wb.lv xs r m was F (L + 1) = Wb.lvl F L A (Wb.kp m was L) od c N0 := by
            rw [← hA, ← hN0, ← hod, ← hc]; rfl
          have HNEXT := Wc.hid hnext
          have HMOST : Hid ((Wb.lvl F L A (Wb.kp m was L) od c N0).new.length ≤ 73) := Wc.hid (by rw [← hnext]; exact Nat.le_trans (Wb.lv_new _ (by omega)) (Wb.need_most _ _ _ _ _))
          have HRT : Hid (∀ n ∈ (Wb.lvl F L A (Wb.kp m was L) od c N0).new, Wn.nodB n = true) := Wc.hid (by
            rw [← hnext]
            exact Wb.new_right (fun j _ => HFR.out j) (fun i => by have := HMR.out i; have := HXL.out; omega) (fun q hq i => by have := Wb.rw_in HTR.out q (by omega) i; have := HXL.out; omega) _ (by omega))
          have HAM : Hid (L = 0 → A = m) := Wc.hid fun h => by subst h; exact hA.symm
          rw [hA] at HA0 HUP
          rw [hN0] at HL9 HK9
          rw [HC8.out] at HS
          clear hbl0 hcells hod hodl hIo hbl hup hc hc8 hA hN0 hnext hfe hcl hb3 hc3
          have hLt : decide ((L : Int) < 3) = true := by simp; omega
          go_wp2_with fail
          clear hLt
          go_loopw [9, 11, 27, 28, 29] (fun u9 u11 u27 u28 u29 wr => ∃ (i K : Nat) (a9 : Option Addr) (n9 c9 : Nat) (a27 : Option Addr) (n27 c27 : Nat) (a28 : Option Addr) (n28 c28 : Nat), u9 = .slice a9 n9 c9 ∧ u11 = .int .i64 K ∧ u27 = .slice a27 n27 c27 ∧ u28 = .slice a28 n28 c28 ∧ u29 = .int .i64 i ∧ i ≤ c ∧ Hid (K = (Wb.lvl F L A (Wb.kp m was L) od i N0).new.length) ∧ Hid (Wd.Oi 54 5 ps wr (.slice a9 n9 c9) (Wb.ios F (Wb.lvl F L A (Wb.kp m was L) od i N0).new (min (Wb.lvl F L A (Wb.kp m was L) od i N0).new.length F.length))) ∧ Hid (Wv.Ov (Value.int .i64) 3 bl wr (.slice a27 n27 c27) (Wb.lvl F L A (Wb.kp m was L) od i N0).up) ∧ Hid (Wv.Ov Value.bool 4 bl wr (.slice a28 n28 c28) ((List.range i).map (Wb.kp m was L))) ∧ Hid (K5 ps bl wl wr) ∧ Hid (Below ps wp wr)) (fun _ _ _ _ u _ => c - (intOf u).toNat)
          case atStart => exact ⟨0, K, a9, n9, c9, none, 0, 0, none, 0, 0, rfl, rfl, rfl, rfl, rfl, by omega, HK9, HL9, Wc.hid (Wv.Ov.nil _ _ _), Wc.hid (Wv.Ov.nil _ _ _), Wc.hid (K5.refl _ _ _), HB2⟩
          case round =>
            clear HK9 HL9
            obtain ⟨i, K, a9, n9, c9, a27, n27, c27, a28, n28, c28, rfl, rfl, rfl, rfl, rfl, hic, RN, R9, R27, R28, RK, RB⟩ := hrel
            obtain ⟨wm, rfl⟩ : ∃ wm, wm = wr := ⟨wr, rfl⟩
            by_cases hlt : i < c
            · have HIA := Wc.hid (HA0.out.k5 (by rw [HBS.out]; exact RK.out)).1
              have HP0 := Wc.hid (Ah.new wm Wn.n0)
              have HBP := Wc.hid ((Below.refl wm.heap.size wm).alloc (Nat.le_refl _) (.cells #[.int .i64 0, .int .i64 0, .int .i64 0, .int .i64 0, .int .i64 0, .int .i64 0, .int .i64 0, .int .i64 0] 81))
              go_wp2_with fail
              go_loopw [30, 31, 33] (fun u30 u31 u33 wr => ∃ k : Nat, u30 = .bool (Wb.anyK A i k) ∧ u31 = .bool (Wb.kpK (Wb.gk m was L) i k) ∧ u33 = .int .i64 k ∧ k ≤ 8 ∧ Hid (Ah wr wm.heap.size (Wb.pf A i k)) ∧ Hid (Below wm.heap.size wm wr)) (fun _ _ u _ => 8 - (intOf u).toNat)
              case atStart => exact ⟨0, rfl, rfl, rfl, by omega, HP0, HBP⟩
              case round =>
                obtain ⟨k, rfl, rfl, rfl, hk, SA, SB⟩ := hrel
                by_cases hk8 : k < 8
                · have hAc := (Wv.rv_cells HIA.out (by omega)).2 (8 * i + k) (by omega)
                  have hAc2 : wr.cell? ⟨b3, off3 + (8 * i + k), none⟩ = some (.int .i64 (A.getD (8 * i + k) 0)) := (SB.out.cell (p := ⟨b3, off3 + (8 * i + k), none⟩) (Wc.cell_lt hAc)).trans hAc
                  obtain ⟨q, hq⟩ : ∃ q, A.getD (8 * i + k) 0 = q := ⟨_, rfl⟩
                  rw [hq] at hAc2
                  have hset := SA.out.set hk8 q
                  have e1 : Wn.setP (Wb.pf A i k) k q = Wb.pf A i (k + 1) := by rw [← hq]; exact Wb.pf_set A i hk8
                  rw [e1] at hset
                  have hat := hset.at hk8
                  rw [Wb.pf_pat _ _ hk8, if_pos (Nat.lt_succ_self _), hq] at hat
                  have S1 := Wc.hid hset
                  have B1 := Wc.hid (SB.out.setCell (p := ⟨wm.heap.size, k, none⟩) (Nat.le_refl _) (.int .i64 q))
                  have hfr := SA.out.frozen k
                  have hca := SA.out.at hk8
                  have hany := Wb.anyK_succ A i k
                  have hkpk := Wb.kpK_succ (Wb.gk m was L) i k
                  rw [hq] at hany
                  obtain ⟨x, hx⟩ : ∃ x, Wb.anyK A i k = x := ⟨_, rfl⟩
                  obtain ⟨y, hy⟩ : ∃ y, Wb.kpK (Wb.gk m was L) i k = y := ⟨_, rfl⟩
                  rw [hx] at hany ⊢
                  rw [hy] at hkpk ⊢
                  have HANY := Wc.hid hany
                  have HKPK := Wc.hid hkpk
                  have HQQ := Wc.hid hq
                  clear hAc hset e1 hany hkpk hx hy hq SA
                  by_cases hL0 : L = 0
                  · have hz' : ((L : Int) == 0) = true := by rw [hL0]; rfl
                    have hc64' : c = 64 := by rw [← HCE.out, hL0]
                    obtain ⟨bw, offw, capw, hew, hbw, hcw⟩ := in_open HWp.out (by rw [HWL.out]; decide)
                    rw [HWL.out] at hew hcw
                    cases hew
                    obtain ⟨p, hp⟩ : ∃ p, was.getD (8 * i + k) 0 = p := ⟨_, rfl⟩
                    have hc5 := hcw (8 * i + k) (by omega)
                    rw [hp] at hc5
                    have hc7 := ((RB.out.trans (B1.out.mono (by have := RB.out.size; rw [HPS.out] at this; exact this))).cell (p := ⟨bw, offw + (8 * i + k), none⟩) (by rw [← HPS.out]; exact hbw)).trans hc5
                    have hgk : Wb.gk m was L (8 * i + k) = (q == p) := by
                      unfold Wb.gk
                      rw [if_pos hL0, hp, ← HQQ.out, HAM.out hL0]
                    rw [hgk] at HKPK
                    have hi64 : 8 * i + k < 512 := by omega
                    clear hc5 hgk hp hcw hbw
                    clear HFp HBp HT HR HC HODL HBL
                    cases x
                    · by_cases hq0 : q = 0
                      · have hqz : (q == 0) = true := by rw [hq0]; rfl
                        have HAN : Hid (Wb.anyK A i (k + 1) = false) := Wc.hid (by rw [HANY.out, hq0]; rfl)
                        clear hq0
                        cases y
                        · have HKP : Hid (Wb.kpK (Wb.gk m was L) i (k + 1) = false) := Wc.hid (by rw [HKPK.out]; rfl)
                          go_wp2_with fail
                          go_quiet (fail)
                          go_wp2_with fail
                          go_roundw
                          case rel => exact ⟨k + 1, by rw [HAN.out]; first | done | (show Value.bool (!(q == 0)) = _; rw [hqz]; rfl), by rw [HKP.out], by go_num, by omega, Wc.hid (S1.out.keep (below_drewN (Below.refl _ _) _)), Wc.hid (below_drewN B1.out _)⟩
                          case measure => simp [intOf]; omega
                        · by_cases hqw : q = p
                          · have hqp : (q == p) = true := by rw [hqw]; exact beq_self_eq_true p
                            have HKP : Hid (Wb.kpK (Wb.gk m was L) i (k + 1) = true) := Wc.hid (by rw [HKPK.out, hqp]; rfl)
                            clear hqw
                            go_wp2_with fail
                            go_quiet (fail)
                            go_wp2_with fail
                            go_roundw
                            case rel => exact ⟨k + 1, by rw [HAN.out]; first | done | (show Value.bool (!(q == 0)) = _; rw [hqz]; rfl), by rw [HKP.out], by go_num, by omega, Wc.hid (S1.out.keep (below_drewN (Below.refl _ _) _)), Wc.hid (below_drewN B1.out _)⟩
                            case measure => simp [intOf]; omega
                          · have hqp : (q == p) = false := by simpa using hqw
                            have HKP : Hid (Wb.kpK (Wb.gk m was L) i (k + 1) = false) := Wc.hid (by rw [HKPK.out, hqp]; rfl)
                            clear hqw
                            go_wp2_with fail
                            go_quiet (fail)
                            go_wp2_with fail
                            go_roundw
                            case rel => exact ⟨k + 1, by rw [HAN.out]; first | done | (show Value.bool (!(q == 0)) = _; rw [hqz]; rfl), by rw [HKP.out], by go_num, by omega, Wc.hid (S1.out.keep (below_drewN (Below.refl _ _) _)), Wc.hid (below_drewN B1.out _)⟩
                            case measure => simp [intOf]; omega
                      · have hqz : (q == 0) = false := by simpa using hq0
                        have HAN : Hid (Wb.anyK A i (k + 1) = true) := Wc.hid (by rw [HANY.out]; simp [hq0])
                        clear hq0
                        cases y
                        · have HKP : Hid (Wb.kpK (Wb.gk m was L) i (k + 1) = false) := Wc.hid (by rw [HKPK.out]; rfl)
                          go_wp2_with fail
                          go_quiet (fail)
                          go_wp2_with fail
                          go_roundw
                          case rel => exact ⟨k + 1, by rw [HAN.out]; first | done | (show Value.bool (!(q == 0)) = _; rw [hqz]; rfl), by rw [HKP.out], by go_num, by omega, Wc.hid (S1.out.keep (below_drewN (Below.refl _ _) _)), Wc.hid (below_drewN B1.out _)⟩
                          case measure => simp [intOf]; omega
                        · by_cases hqw : q = p
                          · have hqp : (q == p) = true := by rw [hqw]; exact beq_self_eq_true p
                            have HKP : Hid (Wb.kpK (Wb.gk m was L) i (k + 1) = true) := Wc.hid (by rw [HKPK.out, hqp]; rfl)
                            clear hqw
                            go_wp2_with fail
                            go_quiet (fail)
                            go_wp2_with fail
                            go_roundw
                            case rel => exact ⟨k + 1, by rw [HAN.out]; first | done | (show Value.bool (!(q == 0)) = _; rw [hqz]; rfl), by rw [HKP.out], by go_num, by omega, Wc.hid (S1.out.keep (below_drewN (Below.refl _ _) _)), Wc.hid (below_drewN B1.out _)⟩
                            case measure => simp [intOf]; omega
                          · have hqp : (q == p) = false := by simpa using hqw
                            have HKP : Hid (Wb.kpK (Wb.gk m was L) i (k + 1) = false) := Wc.hid (by rw [HKPK.out, hqp]; rfl)
                            clear hqw
                            go_wp2_with fail
                            go_quiet (fail)
                            go_wp2_with fail
                            go_roundw
                            case rel => exact ⟨k + 1, by rw [HAN.out]; first | done | (show Value.bool (!(q == 0)) = _; rw [hqz]; rfl), by rw [HKP.out], by go_num, by omega, Wc.hid (S1.out.keep (below_drewN (Below.refl _ _) _)), Wc.hid (below_drewN B1.out _)⟩
                            case measure => simp [intOf]; omega
                    · have HAN : Hid (Wb.anyK A i (k + 1) = true) := Wc.hid (by rw [HANY.out]; rfl)
                      cases y
                      · have HKP : Hid (Wb.kpK (Wb.gk m was L) i (k + 1) = false) := Wc.hid (by rw [HKPK.out]; rfl)
                        go_wp2_with fail
                        go_quiet (fail)
                        go_wp2_with fail
                        go_roundw
                        case rel => exact ⟨k + 1, by rw [HAN.out]; first | done | (show Value.bool (!(q == 0)) = _; rw [hqz]; rfl), by rw [HKP.out], by go_num, by omega, Wc.hid (S1.out.keep (below_drewN (Below.refl _ _) _)), Wc.hid (below_drewN B1.out _)⟩
                        case measure => simp [intOf]; omega
                      · by_cases hqw : q = p
                        · have hqp : (q == p) = true := by rw [hqw]; exact beq_self_eq_true p
                          have HKP : Hid (Wb.kpK (Wb.gk m was L) i (k + 1) = true) := Wc.hid (by rw [HKPK.out, hqp]; rfl)
                          clear hqw
                          go_wp2_with fail
                          go_quiet (fail)
                          go_wp2_with fail
                          go_roundw
                          case rel => exact ⟨k + 1, by rw [HAN.out]; first | done | (show Value.bool (!(q == 0)) = _; rw [hqz]; rfl), by rw [HKP.out], by go_num, by omega, Wc.hid (S1.out.keep (below_drewN (Below.refl _ _) _)), Wc.hid (below_drewN B1.out _)⟩
                          case measure => simp [intOf]; omega
                        · have hqp : (q == p) = false := by simpa using hqw
                          have HKP : Hid (Wb.kpK (Wb.gk m was L) i (k + 1) = false) := Wc.hid (by rw [HKPK.out, hqp]; rfl)
                          clear hqw
                          go_wp2_with fail
                          go_quiet (fail)
                          go_wp2_with fail
                          go_roundw
                          case rel => exact ⟨k + 1, by rw [HAN.out]; first | done | (show Value.bool (!(q == 0)) = _; rw [hqz]; rfl), by rw [HKP.out], by go_num, by omega, Wc.hid (S1.out.keep (below_drewN (Below.refl _ _) _)), Wc.hid (below_drewN B1.out _)⟩
                          case measure => simp [intOf]; omega
                  · have hz' : ((L : Int) == 0) = false := by simpa using hL0
                    have hR4 := (HS.out.resolve_left hL0).k5 (hs := ps) (by rw [HBS.out]; exact RK.out)
                    obtain ⟨b4, off4, cap4, he4, hb4, hc4⟩ := bools_open hR4.1 (by simp; omega)
                    have hl4 : ((List.range (8 * c)).map (Wb.kp m was (L - 1))).length = 8 * c := by simp
                    rw [hl4] at he4 hc4
                    subst he4
                    obtain ⟨g, hg⟩ : ∃ g, Wb.kp m was (L - 1) (8 * i + k) = g := ⟨_, rfl⟩
                    have hc5 := hc4 (8 * i + k) (by omega)
                    rw [List.getD_eq_getElem?_getD, List.getElem?_map, List.getElem?_range (by omega)] at hc5
                    have hc6 : wm.cell? ⟨b4, off4 + (8 * i + k), none⟩ = some (.bool g) := by rw [hc5, ← hg]; rfl
                    have hc7 := (B1.out.cell (p := ⟨b4, off4 + (8 * i + k), none⟩) hb4).trans hc6
                    have hgk : Wb.gk m was L (8 * i + k) = g := by rw [← hg]; unfold Wb.gk; rw [if_neg hL0]
                    rw [hgk] at HKPK
                    clear hR4 hl4 hc4 hc5 hc6 hg hgk
                    clear HFp HBp HT HR HC HODL HBL
                    cases x
                    · by_cases hq0 : q = 0
                      · have hqz : (q == 0) = true := by rw [hq0]; rfl
                        have HAN : Hid (Wb.anyK A i (k + 1) = false) := Wc.hid (by rw [HANY.out, hq0]; rfl)
                        clear hq0
                        cases y
                        · have HKP : Hid (Wb.kpK (Wb.gk m was L) i (k + 1) = false) := Wc.hid (by rw [HKPK.out]; rfl)
                          go_wp2_with fail
                          go_roundw
                          case rel => exact ⟨k + 1, by rw [HAN.out]; first | done | (show Value.bool (!(q == 0)) = _; rw [hqz]; rfl), by rw [HKP.out], by go_num, by omega, S1, B1⟩
                          case measure => simp [intOf]; omega
                        · have HKP : Hid (Wb.kpK (Wb.gk m was L) i (k + 1) = g) := Wc.hid (by rw [HKPK.out]; rfl)
                          go_wp2_with fail
                          go_roundw
                          case rel => exact ⟨k + 1, by rw [HAN.out]; first | done | (show Value.bool (!(q == 0)) = _; rw [hqz]; rfl), by rw [HKP.out], by go_num, by omega, S1, B1⟩
                          case measure => simp [intOf]; omega
                      · have hqz : (q == 0) = false := by simpa using hq0
                        have HAN : Hid (Wb.anyK A i (k + 1) = true) := Wc.hid (by rw [HANY.out]; simp [hq0])
                        clear hq0
                        cases y
                        · have HKP : Hid (Wb.kpK (Wb.gk m was L) i (k + 1) = false) := Wc.hid (by rw [HKPK.out]; rfl)
                          go_wp2_with fail
                          go_roundw
                          case rel => exact ⟨k + 1, by rw [HAN.out]; first | done | (show Value.bool (!(q == 0)) = _; rw [hqz]; rfl), by rw [HKP.out], by go_num, by omega, S1, B1⟩
                          case measure => simp [intOf]; omega
                        · have HKP : Hid (Wb.kpK (Wb.gk m was L) i (k + 1) = g) := Wc.hid (by rw [HKPK.out]; rfl)
                          go_wp2_with fail
                          go_roundw
                          case rel => exact ⟨k + 1, by rw [HAN.out]; first | done | (show Value.bool (!(q == 0)) = _; rw [hqz]; rfl), by rw [HKP.out], by go_num, by omega, S1, B1⟩
                          case measure => simp [intOf]; omega
                    · have HAN : Hid (Wb.anyK A i (k + 1) = true) := Wc.hid (by rw [HANY.out]; rfl)
                      cases y
                      · have HKP : Hid (Wb.kpK (Wb.gk m was L) i (k + 1) = false) := Wc.hid (by rw [HKPK.out]; rfl)
                        go_wp2_with fail
                        go_roundw
                        case rel => exact ⟨k + 1, by rw [HAN.out]; first | done | (show Value.bool (!(q == 0)) = _; rw [hqz]; rfl), by rw [HKP.out], by go_num, by omega, S1, B1⟩
                        case measure => simp [intOf]; omega
                      · have HKP : Hid (Wb.kpK (Wb.gk m was L) i (k + 1) = g) := Wc.hid (by rw [HKPK.out]; rfl)
                        go_wp2_with fail
                        go_roundw
                        case rel => exact ⟨k + 1, by rw [HAN.out]; first | done | (show Value.bool (!(q == 0)) = _; rw [hqz]; rfl), by rw [HKP.out], by go_num, by omega, S1, B1⟩
                        case measure => simp [intOf]; omega

                · obtain rfl : k = 8 := by omega
                  rw [Wb.anyK_all A i, Wb.kpK_all m was L i]
                  obtain ⟨z, hz⟩ : ∃ z, Wb.nul A i = z := ⟨_, rfl⟩
                  obtain ⟨y, hy⟩ : ∃ y, Wb.kp m was L i = y := ⟨_, rfl⟩
                  rw [hz, hy]
                  have hblm : bl ≤ wm.heap.size := by rw [← HBS.out]; exact RK.out.1
                  obtain ⟨bb, hbb⟩ : ∃ bb, Wb.lvl F L A (Wb.kp m was L) od i N0 = bb := ⟨_, rfl⟩
                  have hstep : Wb.lvl F L A (Wb.kp m was L) od (i + 1) N0 = Wb.stp F L A (Wb.kp m was L) od i bb := by rw [← hbb]; rfl
                  have hul : bb.up.length = i := by rw [← hbb]; exact Wb.lvl_len _ _
                  have hsub : ∃ E, (Wb.lvl F L A (Wb.kp m was L) od c N0).new = (Wb.lvl F L A (Wb.kp m was L) od (i + 1) N0).new ++ E := by
                    have := Wb.lvl_pre (F := F) (lv := L) (a := A) (kp := Wb.kp m was L) (od := od) N0 (i + 1) (c - (i + 1))
                    rwa [show i + 1 + (c - (i + 1)) = c by omega] at this
                  have HSUB := Wc.hid hsub
                  have HSTEP := Wc.hid hstep
                  have HUL := Wc.hid hul
                  rw [hbb] at RN R9 R27
                  have N28 := R28.out.keep SB.out
                  obtain ⟨a4, n4, c4, w4, hrun, hO, hb4, hot⟩ := push_bool wr wr.heap.size bl rfl (.slice a28 n28 c28) _ y N28 (by simp; omega) (Nat.le_trans hblm SB.out.size)
                  have hrg : (List.range (i + 1)).map (Wb.kp m was L) = (List.range i).map (Wb.kp m was L) ++ [y] := by rw [List.range_succ, List.map_append, ← hy]; rfl
                  rw [← hrg] at hO
                  have hal := (Below.refl wr.heap.size wr).alloc (Nat.le_refl _) (.cells #[.bool y] 4)
                  have O9 := ((R9.out.keep SB.out).keep hal).types fun b cs T fr h hT => hot b cs T fr h (by rcases hT with rfl | rfl <;> decide)
                  have O27 := Wb.ov_types ((R27.out.keep SB.out).keep hal) fun b cs fr h => hot b cs _ fr h (by decide)
                  have OA : Ah w4 wm.heap.size (Wb.pf A i 8) := hot _ _ _ _ (SA.out.keep hal) (by decide)
                  have W4 := (hal.mono (Nat.le_trans hblm SB.out.size)).trans hb4
                  have OK := (RK.out.trans (K5.below (SB.out.mono hblm))).trans (K5.below W4)
                  have OB := (RB.out.trans (SB.out.mono (Nat.le_trans HPB.out hblm))).trans (W4.mono HPB.out)
                  have OSZ : bl ≤ w4.heap.size := Nat.le_trans (Nat.le_trans hblm SB.out.size) W4.size
                  have O28 := hO
                  have HRUN := Wc.hid hrun
                  have HZ := Wc.hid hz
                  have HY := Wc.hid hy
                  unfold Wb.stp at HSTEP
                  rw [HZ.out, HY.out] at HSTEP
                  clear hrun hO hb4 hot hal W4 hrg hbb hstep hul hsub N28 hz hy R9 R27 R28 RK SA SB HIA HP0 HBP HT HR HWp
                  cases z
                  · rw [if_neg (by decide)] at HSTEP
                    cases y
                    · rw [if_neg (by decide)] at HSTEP
                      obtain ⟨N, hN⟩ : ∃ N, Wb.mk L A i = N := ⟨_, rfl⟩
                      rw [hN] at HSTEP
                      have hKe := RN.out
                      have hlev : N.level = (L : Int) := by rw [← hN]; rfl
                      have OA : Ah w4 wm.heap.size N := by rw [← hN]; exact OA
                      have hok : Wn.nodB N = true := HRT.out N (by obtain ⟨E, hE⟩ := HSUB.out; rw [hE, HSTEP.out]; simp)
                      have hKm : K < 73 := by
                        obtain ⟨E, hE⟩ := HSUB.out
                        have := HMOST.out
                        rw [hE, HSTEP.out] at this
                        simp at this
                        omega
                      have HK1 : Hid (K + 1 = (bb.new ++ [N]).length) := Wc.hid (by rw [List.length_append, ← hKe]; rfl)
                      by_cases hfull : nf < K + 1
                      · have hq2 : F.getD bb.new.length 2 = 2 := by rw [List.getD_eq_getElem?_getD, List.getElem?_eq_none (by have := HFL.out; omega)]; rfl
                        rw [hq2] at HSTEP
                        obtain ⟨a5, n5, c5, w5, hrun5, hO5, hb5, hot5⟩ := push_wide w4 w4.heap.size bl rfl (.slice a27 n27 c27) _ 2 O27 (by rw [HUL.out]; omega) OSZ
                        have hal5 := (Below.refl w4.heap.size w4).alloc (Nat.le_refl _) (.cells #[.int .i64 2] 3)
                        have P9 := Wc.hid ((O9.keep hal5).types fun b cs T fr h hT => hot5 b cs T fr h (by rcases hT with rfl | rfl <;> decide))
                        have P27 := Wc.hid hO5
                        have P28 := Wc.hid (Wb.ov_types (O28.keep hal5) fun b cs fr h => hot5 b cs _ fr h (by decide))
                        have W5 := (hal5.mono OSZ).trans hb5
                        have PK := Wc.hid (OK.trans (K5.below W5))
                        have PB := Wc.hid (OB.trans (W5.mono HPB.out))
                        have HRUN5 := Wc.hid hrun5
                        clear hrun5 hO5 hb5 hot5 hal5 W5
                        have hf2 : (nf : Int) < (K : Int) + 1 := by omega
                        have P9 : Hid (Wd.Oi 54 5 ps w5 (.slice a9 n9 c9) (Wb.ios F (bb.new ++ [N]) (min (bb.new ++ [N]).length F.length))) := Wc.hid (by
                          rw [Wb.ios_min (by have := HFL.out; omega)]
                          exact P9.out)
                        have HK5 := HK1
                        have HO28 := P28
                        clear O9 O27 OA OK OB O28 hq2 hN hlev hok hKe
                        clear HFp HBp HC HCL HBL
                        go_wp2_with (first | (at_builtin; refine Wv.wp_append HRUN.out rfl rfl rfl rfl ?_) | (at_builtin; refine Wv.wp_append HRUN5.out rfl rfl rfl rfl ?_))
                        go_roundw
                        case rel => exact ⟨i + 1, K + 1, a9, n9, c9, a5, n5, c5, a4, n4, c4, rfl, by go_num, rfl, rfl, by go_num, by omega, by rw [HSTEP.out]; exact HK5, by rw [HSTEP.out]; exact P9, by rw [HSTEP.out]; exact P27, HO28, PK, PB⟩
                        case measure => simp [intOf]; omega
                      · obtain ⟨q, hq⟩ : ∃ q, F.getD bb.new.length 2 = q := ⟨_, rfl⟩
                        rw [hq] at HSTEP
                        obtain ⟨bF, offF, capF, heF, hbF, hcF⟩ := in_open HFp.out (by have := HFL.out; omega)
                        rw [HFL.out] at heF
                        cases heF
                        have hcK := (OB.cell (p := ⟨bF, offF + K, none⟩) (by rw [← HPS.out]; exact hbF)).trans (hcF K (by have := HFL.out; omega))
                        have hqK : F.getD K 0 = q := by rw [← hq, ← hKe, List.getD_eq_getElem?_getD, List.getD_eq_getElem?_getD, List.getElem?_eq_getElem (by have := HFL.out; omega)]; rfl
                        rw [hqK] at hcK
                        have hNB : Calls Try.prog 39 #[.agg #[.int .i64 (L : Int), .int .i64 N.p0, .int .i64 N.p1, .int .i64 N.p2, .int .i64 N.p3, .int .i64 N.p4, .int .i64 N.p5, .int .i64 N.p6, .int .i64 N.p7]] w4 fun e w' => ∃ v, e = .returned v ∧ Wc.Ob 5 w4.heap.size w' v (Wn.blk N) ∧ Below w4.heap.size w4 w' := by
                          have := refNodeBytes_ob N w4 hok
                          unfold nv at this
                          rw [hlev] at this
                          exact this
                        have hf2 : ¬ (nf : Int) < (K : Int) + 1 := by omega
                        have ⟨c0, c1, c2, c3, c4, c5, c6, c7⟩ := OA.ac
                        have HKE := Wc.hid hKe
                        have HNB := Wc.hid hNB
                        have HQQ := Wc.hid hq
                        have H9 := Wc.hid O9
                        have H27 := Wc.hid O27
                        have H28 := Wc.hid O28
                        have HK := Wc.hid OK
                        have HB := Wc.hid OB
                        have hK1 : K + 1 - 1 = K := rfl
                        clear hcF hbF hqK hq hN hlev hok hKe hNB O9 O27 O28 OK OB OA
                        go_wp2_with (at_builtin; refine Wv.wp_append HRUN.out rfl rfl rfl rfl ?_)
                        clear c0 c1 c2 c3 c4 c5 c6 c7 hcK
                        refine HNB.out.mono ?_
                        rintro e w6 ⟨vb, rfl, hob, hb6⟩
                        have hbl64 := Wn.blk_length N
                        obtain ⟨g, cb, rfl⟩ := Wc.ob_form hob (by rw [hbl64]; omega)
                        rw [hbl64] at hob ⊢
                        have hcl : (Wd.cells3 (⟨⟨1, q, Wn.blk N⟩, (some ⟨g, 0, none⟩, cb)⟩ : Wd.Pl)).toArray = #[.int .i64 1, .int .i64 q, .slice (some ⟨g, 0, none⟩) 64 cb] := by
                          simp [Wd.cells3, hbl64]
                        have hA4 := (Below.refl w6.heap.size w6).alloc (Nat.le_refl _) (.cells #[.int .i64 1, .int .i64 q, .slice (some ⟨g, 0, none⟩) 64 cb] 54)
                        have hu := lit_cells w6 ⟨⟨1, q, Wn.blk N⟩, (some ⟨g, 0, none⟩, cb)⟩ 54
                        rw [hcl] at hu
                        obtain ⟨i0, hi, hz0, hz1, hz2⟩ := info_parts Try.info38
                        have b4' := hb6.trans (hA4.mono hb6.size)
                        have hps4 : ps ≤ w4.heap.size := Nat.le_trans HPB.out OSZ
                        obtain ⟨v7, w7, hrun7, hO7, hb7, hot7⟩ := Wd.append_ioW (P := Try.prog) (ty := 30) (base := ps) (c := 1) Try.underlying30 hi hz0 hz1 hz2 rfl (by omega) (by decide) (H9.out.keep b4') hu (by
                          show Wc.Ob 5 ps _ (.slice (some ⟨g, 0, none⟩) (Wn.blk N).length cb) (Wn.blk N)
                          rw [hbl64]
                          exact (hob.keep hA4).base (base' := ps) hps4) (by rw [Wb.ios_length]; have := HKE.out; omega) (Nat.le_trans hps4 b4'.size)
                        have hput := Wb.ios_put (F := F) (N := bb.new) (n := N) (by have := HFL.out; have := HKE.out; omega)
                        rw [HQQ.out] at hput
                        rw [← hput] at hO7
                        obtain ⟨a7, c7, rfl⟩ := hO7.slice
                        obtain ⟨n7, hn7⟩ : ∃ n7, (Wb.ios F (bb.new ++ [N]) (min (bb.new ++ [N]).length F.length)).length = n7 := ⟨_, rfl⟩
                        rw [hn7] at hrun7 hO7
                        have QSZ : bl ≤ w7.heap.size := Nat.le_trans OSZ (Nat.le_trans b4'.size hb7.size)
                        have Q27 := Wb.ov_types (H27.out.keep b4') fun b cs fr h => hot7 b cs _ fr h (by decide)
                        have Q28 := Wb.ov_types (H28.out.keep b4') fun b cs fr h => hot7 b cs _ fr h (by decide)
                        have QK := (HK.out.trans (K5.below (b4'.mono OSZ))).trans (K5.types hb7 fun b cs T fr h hT => hot7 b cs T fr h hT)
                        have QB := (HB.out.trans (b4'.mono hps4)).trans hb7
                        have Q9 := hO7
                        obtain ⟨a5, n5, c5, w5, hrun5, hO5, hb5, hot5⟩ := push_wide w7 w7.heap.size bl rfl (.slice a27 n27 c27) _ q Q27 (by rw [HUL.out]; omega) QSZ
                        have hal5 := (Below.refl w7.heap.size w7).alloc (Nat.le_refl _) (.cells #[.int .i64 q] 3)
                        have P9 := Wc.hid ((Q9.keep hal5).types fun b cs T fr h hT => hot5 b cs T fr h (by rcases hT with rfl | rfl <;> decide))
                        have P27 := Wc.hid hO5
                        have P28 := Wc.hid (Wb.ov_types (Q28.keep hal5) fun b cs fr h => hot5 b cs _ fr h (by decide))
                        have W5 := (hal5.mono QSZ).trans hb5
                        have PK := Wc.hid (QK.trans (K5.below W5))
                        have PB := Wc.hid (QB.trans (W5.mono HPB.out))
                        have HRUN5 := Wc.hid hrun5
                        clear hrun5 hO5 hb5 hot5 hal5 W5
                        have HRUN7 := Wc.hid hrun7
                        have HK5 := HK1
                        have HO28 := P28
                        clear hob hb6 hbl64 hcl hA4 hu hi hz0 hz1 hz2 i0 b4' hps4 hrun7 hO7 hb7 hot7 hput hn7 Q27 Q28 QK QB Q9 H9 H27 H28 HK HB HNB HQQ HKE
                        clear HFp HBp HC HCL HBL
                        go_wp2_with (first | (at_builtin; refine Wv.wp_append HRUN7.out rfl rfl rfl rfl ?_) | (at_builtin; refine Wv.wp_append HRUN5.out rfl rfl rfl rfl ?_))
                        go_roundw
                        case rel => exact ⟨i + 1, K + 1, _, _, _, a5, n5, c5, a4, n4, c4, rfl, by go_num, rfl, rfl, by go_num, by omega, by rw [HSTEP.out]; exact HK5, by rw [HSTEP.out]; exact P9, by rw [HSTEP.out]; exact P27, HO28, PK, PB⟩
                        case measure => simp [intOf]; omega
                    · rw [if_pos rfl] at HSTEP
                      obtain ⟨p, hp⟩ : ∃ p, od.getD i 0 = p := ⟨_, rfl⟩
                      have hcell := (OB.cell (p := ⟨b, off + i, none⟩) HBL.out).trans (HC.out i hlt)
                      have hcell2 := (OB.cell (p := ⟨hs + 1, L, none⟩) HTL.out).trans HCL.out
                      rw [hp] at HSTEP hcell
                      obtain ⟨a5, n5, c5, w5, hrun5, hO5, hb5, hot5⟩ := push_wide w4 w4.heap.size bl rfl (.slice a27 n27 c27) _ p O27 (by rw [HUL.out]; omega) OSZ
                      have hal5 := (Below.refl w4.heap.size w4).alloc (Nat.le_refl _) (.cells #[.int .i64 p] 3)
                      have P9 := Wc.hid ((O9.keep hal5).types fun b cs T fr h hT => hot5 b cs T fr h (by rcases hT with rfl | rfl <;> decide))
                      have P27 := Wc.hid hO5
                      have P28 := Wc.hid (Wb.ov_types (O28.keep hal5) fun b cs fr h => hot5 b cs _ fr h (by decide))
                      have W5 := (hal5.mono OSZ).trans hb5
                      have PK := Wc.hid (OK.trans (K5.below W5))
                      have PB := Wc.hid (OB.trans (W5.mono HPB.out))
                      have HRUN5 := Wc.hid hrun5
                      clear hrun5 hO5 hb5 hot5 hal5 W5
                      have HK5 := RN
                      have HO28 := P28
                      clear hp O9 O27 OA OK OB O28
                      clear HFp HBp HC HCL HBL
                      go_wp2_with (first | (at_builtin; refine Wv.wp_append HRUN.out rfl rfl rfl rfl ?_) | (at_builtin; refine Wv.wp_append HRUN5.out rfl rfl rfl rfl ?_))
                      go_roundw
                      case rel => exact ⟨i + 1, K, a9, n9, c9, a5, n5, c5, a4, n4, c4, rfl, rfl, rfl, rfl, by go_num, by omega, by rw [HSTEP.out]; exact HK5, by rw [HSTEP.out]; exact P9, by rw [HSTEP.out]; exact P27, HO28, PK, PB⟩
                      case measure => simp [intOf]; omega
                  · rw [if_pos rfl] at HSTEP
                    obtain ⟨a5, n5, c5, w5, hrun5, hO5, hb5, hot5⟩ := push_wide w4 w4.heap.size bl rfl (.slice a27 n27 c27) _ 0 O27 (by rw [HUL.out]; omega) OSZ
                    have hal5 := (Below.refl w4.heap.size w4).alloc (Nat.le_refl _) (.cells #[.int .i64 0] 3)
                    have P9 := Wc.hid ((O9.keep hal5).types fun b cs T fr h hT => hot5 b cs T fr h (by rcases hT with rfl | rfl <;> decide))
                    have P27 := Wc.hid hO5
                    have P28 := Wc.hid (Wb.ov_types (O28.keep hal5) fun b cs fr h => hot5 b cs _ fr h (by decide))
                    have W5 := (hal5.mono OSZ).trans hb5
                    have PK := Wc.hid (OK.trans (K5.below W5))
                    have PB := Wc.hid (OB.trans (W5.mono HPB.out))
                    have HRUN5 := Wc.hid hrun5
                    clear hrun5 hO5 hb5 hot5 hal5 W5
                    have HK5 := RN
                    have HO28 := P28
                    clear O9 O27 OA OK OB O28
                    clear HFp HBp HC HCL HBL
                    go_wp2_with (first | (at_builtin; refine Wv.wp_append HRUN.out rfl rfl rfl rfl ?_) | (at_builtin; refine Wv.wp_append HRUN5.out rfl rfl rfl rfl ?_))
                    go_roundw
                    case rel => exact ⟨i + 1, K, a9, n9, c9, a5, n5, c5, a4, n4, c4, rfl, rfl, rfl, rfl, by go_num, by omega, by rw [HSTEP.out]; exact HK5, by rw [HSTEP.out]; exact P9, by rw [HSTEP.out]; exact P27, HO28, PK, PB⟩
                    case measure => simp [intOf]; omega
            · obtain rfl : i = c := by omega
              go_wp2_with fail
              go_roundw
              case rel =>
                refine ⟨L + 1, K, a9, n9, c9, _, a27, n27, c27, rfl, rfl, rfl, rfl, by go_num, by omega, ?_, ?_, ?_, ?_, RB⟩
                · rw [HNEXT.out]; exact RN
                · rw [HNEXT.out]; exact R9
                · exact Wc.hid (.inr (by rw [show 3 - (L + 1) = 2 - L by omega, HCE.out]; exact R4.of R28.out))
                · rw [HNEXT.out]; exact Wc.hid (Ro.of R27.out)
              case measure => simp [intOf]; omega
    · obtain ⟨L, rfl⟩ : ∃ L, c = L + 1 := ⟨c - 1, by omega⟩
      obtain rfl : z = (L : Int) := by have := HC.out; omega
      have hL : L ≤ 1 := by have := HC3.out; omega
      clear HC HC3 hc0
      obtain ⟨lst, hlst⟩ : ∃ lst, Wb.rw xs r (2 - (L + 1)) = lst := ⟨_, rfl⟩
      have hlen : lst.length ≤ 8 ∧ 0 < lst.length := by
        rw [← hlst, Wb.rw_length]
        rcases (by omega : L = 0 ∨ L = 1) with rfl | rfl <;> decide
      have hnext : Wb.rw xs r (2 - L) = lst.flatMap (Wb.kids xs) := by
        rw [← hlst, show 2 - L = 2 - (L + 1) + 1 by omega]; rfl
      have hrin : ∀ i, lst.getD i 0 = 0 ∨ 2 ≤ lst.getD i 0 ∧ lst.getD i 0 < ((xs.length / 64 : Nat) : Int) := by
        rw [← hlst]
        exact Wb.rw_in HTR.out _ (by omega)
      have hRn := HR.out (L + 1) (Nat.le_refl _) (by omega)
      rw [hlst] at hRn
      have hnil := HN.out L (by omega)
      have hcl := HT.out.cell (k := L + 1) (by omega)
      obtain ⟨b, off, cap, hfe, hbl, hcells⟩ := in_open hRn.1 hlen.2
      have hbb := (hRn.2 _ _ _ _ _ hfe).1
      obtain ⟨n, hn⟩ : ∃ n, lst.length = n := ⟨_, rfl⟩
      rw [hn] at hfe hcells hlen
      rw [hfe] at hcl
      have HCE := Wc.hid hcells
      have HLN := Wc.hid hn
      have HNX := Wc.hid hnext
      have HNIL := Wc.hid hnil
      have HBB := Wc.hid hbb
      have HBL := Wc.hid hbl
      have HRIN := Wc.hid hrin
      have hn8 : n ≤ 8 := hlen.1
      clear hlst hRn hfe hcells hn hlen hnext hnil hbb hbl hrin
      obtain ⟨wo, rfl⟩ : ∃ wo, wo = wr := ⟨wr, rfl⟩
      obtain ⟨bl, hbl2⟩ : ∃ bl, wo.heap.size = bl := ⟨_, rfl⟩
      have HBS := Wc.hid hbl2
      have HW2 := Wc.hid (show hs + 2 ≤ bl by rw [← hbl2]; have := HBB.out; have := HBL.out; omega)
      clear hbl2
      go_wp2_with fail
      go_loopw [19] (fun u wr => ∃ (i : Nat) (a' : Option Addr) (n' c' : Nat), u = .int .i64 i ∧ i ≤ n ∧ Hid (Th wr (hs + 1) (fun j => if j = L then .slice a' n' c' else f j)) ∧ Hid (Wv.Ov (Value.int .i64) 3 bl wr (.slice a' n' c') ((lst.take i).flatMap (Wb.kids xs))) ∧ Hid (bl ≤ wr.heap.size ∧ ∀ b, hs + 2 ≤ b → b < bl → wr.heap[b]? = wo.heap[b]?) ∧ Hid (Below hs w1 wr)) (fun u _ => n - (intOf u).toNat)
      case atStart =>
        refine ⟨0, none, 0, 0, rfl, Nat.zero_le _, Wc.hid ?_, Wc.hid (Wv.Ov.nil _ _ _), Wc.hid ⟨Nat.le_of_eq HBS.out.symm, fun _ _ _ => rfl⟩, HB⟩
        have e : (fun i => if i = L then Value.slice none 0 0 else f i) = f := by
          funext i
          by_cases hi : i = L
          · subst hi; rw [if_pos rfl]; exact HNIL.out.symm
          · rw [if_neg hi]
        rw [e]; exact HT.out
      case round =>
        obtain ⟨i, a', n', c', rfl, hi, RT, RO, RS, RB⟩ := hrel
        obtain ⟨wm, rfl⟩ : ∃ wm, wm = wr := ⟨wr, rfl⟩
        by_cases hlt : i < n
        · obtain ⟨p, hp⟩ : ∃ p, lst.getD i 0 = p := ⟨_, rfl⟩
          have hcell : wm.cell? ⟨b, off + i, none⟩ = some (.int .i64 p) := by
            have e : wm.cell? ⟨b, off + i, none⟩ = wo.cell? ⟨b, off + i, none⟩ := by
              unfold World.cell?
              rw [RS.out.2 b HBB.out (by rw [← HBS.out]; exact HBL.out)]
            rw [e, HCE.out i hlt, hp]
          have hrp := HRIN.out i
          rw [hp] at hrp
          have hcL : wm.cell? ⟨hs + 1, L + 1, none⟩ = some (.slice (some ⟨b, off, none⟩) n cap) := by
            have := RT.out.cell (k := L + 1) (by omega)
            rw [if_neg (by omega)] at this
            rw [this]
            have h2 := HT.out.cell (k := L + 1) (by omega)
            rw [hcl] at h2
            exact h2.symm
          have hft : (lst.take (i + 1)).flatMap (Wb.kids xs) = (lst.take i).flatMap (Wb.kids xs) ++ Wb.kids xs p := by
            rw [Wb.flat_take lst (by rw [HLN.out]; exact hlt), hp]
          have hfl : ((lst.take i).flatMap (Wb.kids xs)).length = 8 * i := Wb.flat_take_len (Wb.kids_length xs) lst (by rw [HLN.out]; omega)
          have HFT := Wc.hid hft
          have HFL2 := Wc.hid hfl
          have hP0 := Ah.new wm Wn.n0
          have bP := (Below.refl wm.heap.size wm).alloc (Nat.le_refl _) (.cells #[.int .i64 0, .int .i64 0, .int .i64 0, .int .i64 0, .int .i64 0, .int .i64 0, .int .i64 0, .int .i64 0] 81)
          have HP0 := Wc.hid hP0
          have HBP := Wc.hid bP
          have hbp2 := hrp
          clear hft hfl hp
          have hcLA := (bP.cell (p := ⟨hs + 1, L + 1, none⟩) RT.out.lt).trans hcL
          have hcellA := (bP.cell (p := ⟨b, off + i, none⟩) (Wc.cell_lt hcell)).trans hcell
          clear bP hP0
          by_cases hp0 : p = 0
          · subst hp0
            have QA : Hid (Ah (wm.alloc (.cells #[.int .i64 0, .int .i64 0, .int .i64 0, .int .i64 0, .int .i64 0, .int .i64 0, .int .i64 0, .int .i64 0] 81)) wm.heap.size Wn.n0) := HP0
            have hks : Wn.ptr Wn.n0 = Wb.kids xs 0 := by rw [← Wb.ptr_pn]; rfl
            obtain ⟨N, hN⟩ : ∃ N, Wn.n0 = N := ⟨_, rfl⟩
            rw [hN] at QA hks
            obtain ⟨p, hp⟩ : ∃ p : Int, 0 = p := ⟨_, rfl⟩
            have HPN := Wc.hid hp
            rw [hp] at hks HFT
            have HKS := Wc.hid hks
            have QT := Wc.hid (RT.out.keep HBP.out RT.out.lt)
            have QO := Wc.hid (RO.out.keep HBP.out)
            have QS : Hid (bl ≤ (wm.alloc (.cells #[.int .i64 0, .int .i64 0, .int .i64 0, .int .i64 0, .int .i64 0, .int .i64 0, .int .i64 0, .int .i64 0] 81)).heap.size ∧ ∀ b, hs + 2 ≤ b → b < bl → (wm.alloc (.cells #[.int .i64 0, .int .i64 0, .int .i64 0, .int .i64 0, .int .i64 0, .int .i64 0, .int .i64 0, .int .i64 0] 81)).heap[b]? = wo.heap[b]?) := Wc.hid ⟨Nat.le_trans RS.out.1 HBP.out.size, fun b h1 h2 => (HBP.out.block b (Nat.lt_of_lt_of_le h2 RS.out.1)).trans (RS.out.2 b h1 h2)⟩
            have QB := Wc.hid (RB.out.trans (HBP.out.mono (by have := HW2.out; have := RS.out.1; omega)))
            have QZ := Wc.hid RS.out.1
            clear hks hN hp
            go_wp2_with fail
            clear hcLA hcellA hcell hcL RT RO RS RB HP0 HBP hrp hbp2
            go_loopw [24] (fun u wr => ∃ (k : Nat) (a2 : Option Addr) (n2 c2 : Nat), u = .int .i64 k ∧ k ≤ 8 ∧ Hid (Th wr (hs + 1) (fun j => if j = L then .slice a2 n2 c2 else f j)) ∧ Hid (Wv.Ov (Value.int .i64) 3 bl wr (.slice a2 n2 c2) ((lst.take i).flatMap (Wb.kids xs) ++ (Wb.kids xs p).take k)) ∧ Hid (Ah wr wm.heap.size N) ∧ Hid (bl ≤ wr.heap.size ∧ ∀ b, hs + 2 ≤ b → b < bl → wr.heap[b]? = wo.heap[b]?) ∧ Hid (Below hs w1 wr)) (fun u _ => 8 - (intOf u).toNat)
            case atStart => exact ⟨0, a', n', c', rfl, by omega, QT, by rw [List.take_zero, List.append_nil]; exact QO, QA, QS, QB⟩
            case round =>
              obtain ⟨k, a2, n2, c2, rfl, hk, ST, SO, SA, SS, SB⟩ := hrel
              by_cases hk8 : k < 8
              · have hA := SA.out.at hk8
                have hkk : (Wb.kids xs p).getD k 0 = Wn.pat N k := by rw [← HKS.out, ptr_getD _ hk8]
                obtain ⟨q, hq⟩ : ∃ q, Wn.pat N k = q := ⟨_, rfl⟩
                rw [hq] at hA hkk
                have hcL2 := ST.out.cell (k := L) (by omega)
                rw [if_pos rfl] at hcL2
                have hcL3 := (((Below.refl wr.heap.size wr).alloc (Nat.le_refl _) (.cells #[.int .i64 q] 3)).cell (p := ⟨hs + 1, L, none⟩) ST.out.lt).trans hcL2
                have hts : (Wb.kids xs p).take (k + 1) = (Wb.kids xs p).take k ++ [q] := by rw [take_snoc _ _ (by rw [Wb.kids_length]; exact hk8), hkk]
                have hdr := show_drew (Below.refl bl wr)
                obtain ⟨a4, n4, c4, w4, hrun, hO4, hb4, hot⟩ := push_wide wr.drew wr.heap.size bl rfl (.slice a2 n2 c2) _ q (SO.out.keep (show_drew (Below.refl _ _))) (by rw [List.length_append, List.length_take, HFL2.out]; omega) SS.out.1
                rw [List.append_assoc, ← hts] at hO4
                have hal := hdr.alloc (show bl ≤ wr.drew.heap.size from SS.out.1) (.cells #[.int .i64 q] 3)
                have hW4 := hal.trans hb4
                have hT4 := ST.out.keep hW4 (by have := HW2.out; omega)
                have hA4 : Ah w4 wm.heap.size N := hot _ _ _ _ ((SA.out.keep (show_drew (Below.refl _ _))).keep ((Below.refl _ _).alloc (Nat.le_refl _) (.cells #[.int .i64 q] 3))) (by decide)
                have hc4 := hT4.cell (k := L) (by omega)
                rw [if_pos rfl] at hc4
                have hf4 := hT4.frozen
                have HRUN := Wc.hid hrun
                have T5 : Hid (Th (w4.setCell ⟨hs + 1, L, none⟩ (.slice a4 n4 c4)) (hs + 1) (fun j => if j = L then .slice a4 n4 c4 else f j)) := Wc.hid (by
                  have := hT4.set (k := L) (by omega) (.slice a4 n4 c4)
                  have e : (fun i => if i = L then Value.slice a4 n4 c4 else (fun i => if i = L then Value.slice a2 n2 c2 else f i) i) = (fun i => if i = L then Value.slice a4 n4 c4 else f i) := by
                    funext i
                    by_cases hi : i = L
                    · rw [if_pos hi, if_pos hi]
                    · rw [if_neg hi, if_neg hi]; exact if_neg hi
                  rw [e] at this
                  exact this)
                have O5 : Hid (Wv.Ov (Value.int .i64) 3 bl (w4.setCell ⟨hs + 1, L, none⟩ (.slice a4 n4 c4)) (.slice a4 n4 c4) ((lst.take i).flatMap (Wb.kids xs) ++ (Wb.kids xs p).take (k + 1))) := Wc.hid ⟨ownsRow_setCell_below hO4.1 (show hs + 1 < bl by have := HW2.out; omega) _, hO4.2⟩
                have A5 : Hid (Ah (w4.setCell ⟨hs + 1, L, none⟩ (.slice a4 n4 c4)) wm.heap.size N) := Wc.hid (by
                  unfold Ah
                  rw [heap_setCell_other _ _ _ _ (show wm.heap.size ≠ hs + 1 by have := HW2.out; have := QZ.out; omega)]
                  exact hA4)
                have S5 : Hid (bl ≤ (w4.setCell ⟨hs + 1, L, none⟩ (.slice a4 n4 c4)).heap.size ∧ ∀ b, hs + 2 ≤ b → b < bl → (w4.setCell ⟨hs + 1, L, none⟩ (.slice a4 n4 c4)).heap[b]? = wo.heap[b]?) := Wc.hid ⟨by have := SS.out.1; have := hW4.size; simp; omega, fun b h2 h3 => by
                  rw [heap_setCell_other _ _ _ _ (show b ≠ hs + 1 by omega)]
                  exact (hW4.block b h3).trans (SS.out.2 b h2 h3)⟩
                have B5 := Wc.hid ((SB.out.trans (hW4.mono (by have := HW2.out; omega))).setCell (p := ⟨hs + 1, L, none⟩) (Nat.le_succ _) (.slice a4 n4 c4))
                have hL3 : (L : Int) < 3 := by omega
                have hk88 : (k : Int) < 8 := by omega
                clear hrun hO4 hb4 hot hal hW4 hT4 hA4 hdr hts hkk hq
                go_wp2_with fail
                go_region_law (refine step_append_run rfl rfl rfl rfl (by exact HRUN.out) ?_)
                all_goals (
                  go_wp2_with fail
                  go_roundw
                  case rel => exact ⟨k + 1, a4, n4, c4, by go_num, by omega, T5, O5, A5, S5, B5⟩
                  case measure => simp [intOf]; omega)
              · obtain rfl : k = 8 := by omega
                have hall : (Wb.kids xs p).take 8 = Wb.kids xs p := List.take_of_length_le (by rw [Wb.kids_length]; exact Nat.le_refl _)
                rw [hall, ← HFT.out] at SO
                clear hall
                go_wp2_with fail
                go_roundw
                case rel => exact ⟨i + 1, a2, n2, c2, by go_num, by omega, ST, SO, SS, SB⟩
                case measure => simp [intOf]; omega
          · have hpq := hbp2.resolve_left hp0
            obtain ⟨q, rfl⟩ : ∃ q : Nat, p = (q : Int) := ⟨p.toNat, by omega⟩
            have hz' : ((q : Int) == 0) = false := by simpa using hp0
            have hq64 : q * 64 + 64 ≤ ni := by have := HXL.out; omega
            have hrdq := Wt.rd_at HD.out q (by omega)
            have HRD := Wc.hid hrdq
            have HP1 := Wc.hid hp0
            have HVm := Wc.hid (Wc.Bs.keep HV1.out (by rw [HHS.out]; exact RB.out))
            clear hrdq hpq hbp2 hrp
            go_wp2_with fail
            clear hp0
            refine (block_any ai ni ci q xs _ (HVm.out.keep HBP.out) hq64).mono ?_
            rintro e w7 ⟨ax, cx, rfl, hbs, rfl⟩
            rw [← HRD.out] at hbs
            have HBS2 := Wc.hid hbs
            clear hbs
            go_wp2_with fail
            refine (refParse7_any _ _ _ HBS2.out).mono ?_
            rintro e w8 ⟨rfl, hb8⟩
            obtain ⟨N, hnod⟩ : ∃ N, Wn.par (Wd.rdR xs (q : Int)) = N := ⟨_, rfl⟩
            rw [hnod]
            have hks : Wn.ptr N = Wb.kids xs (q : Int) := by rw [← Wb.ptr_pn]; unfold Wb.pn; rw [if_neg HP1.out]; unfold Wt.nd; rw [hnod]
            have C2 := Wc.hid ((HP0.out.keep hb8).keep ((Below.refl _ _).alloc (Nat.le_refl _) (.cells #[.int .i64 N.level, .int .i64 N.p0, .int .i64 N.p1, .int .i64 N.p2, .int .i64 N.p3, .int .i64 N.p4, .int .i64 N.p5, .int .i64 N.p6, .int .i64 N.p7] 83)))
            have ⟨d, d0, d1, d2, d3, d4, d5, d6, d7⟩ := (Nh.new w8 N).nc
            have ⟨c0, c1, c2, c3, c4, c5, c6, c7⟩ := C2.out.ac
            have hfr := C2.out.frozen
            have B8 := Wc.step HBP.out (Nat.le_refl _) hb8
            have H9 := C2.out.over N
            have hbW := below8c (B8.alloc B8.size (.cells #[.int .i64 N.level, .int .i64 N.p0, .int .i64 N.p1, .int .i64 N.p2, .int .i64 N.p3, .int .i64 N.p4, .int .i64 N.p5, .int .i64 N.p6, .int .i64 N.p7] 83)) (Nat.le_refl wm.heap.size) N
            have HB9 := Wc.hid hbW
            have H9' := Wc.hid H9
            unfold nv
            clear hb8 B8 hbW H9 hcLA hcellA hcell hcL HBS2 HVm hnod
            go_wp2_with fail
            clear d d0 d1 d2 d3 d4 d5 d6 d7 c0 c1 c2 c3 c4 c5 c6 c7 hfr C2
            obtain ⟨W8, hW8⟩ : ∃ W8, (((((((((w8.alloc (.cells #[.int .i64 N.level, .int .i64 N.p0, .int .i64 N.p1, .int .i64 N.p2, .int .i64 N.p3, .int .i64 N.p4, .int .i64 N.p5, .int .i64 N.p6, .int .i64 N.p7] 83)).setCell ⟨wm.heap.size, 0, none⟩ (.int .i64 N.p0)).setCell ⟨wm.heap.size, 1, none⟩ (.int .i64 N.p1)).setCell ⟨wm.heap.size, 2, none⟩ (.int .i64 N.p2)).setCell ⟨wm.heap.size, 3, none⟩ (.int .i64 N.p3)).setCell ⟨wm.heap.size, 4, none⟩ (.int .i64 N.p4)).setCell ⟨wm.heap.size, 5, none⟩ (.int .i64 N.p5)).setCell ⟨wm.heap.size, 6, none⟩ (.int .i64 N.p6)).setCell ⟨wm.heap.size, 7, none⟩ (.int .i64 N.p7)) = W8 := ⟨_, rfl⟩
            rw [hW8] at HB9 H9' ⊢
            clear hW8
            obtain ⟨p, hp⟩ : ∃ p : Int, (q : Int) = p := ⟨_, rfl⟩
            have HPN := Wc.hid hp
            rw [hp] at hks HFT
            have HKS := Wc.hid hks
            have QA := H9'
            have QT := Wc.hid (RT.out.keep HB9.out RT.out.lt)
            have QO := Wc.hid (RO.out.keep HB9.out)
            have QS : Hid (bl ≤ W8.heap.size ∧ ∀ b, hs + 2 ≤ b → b < bl → W8.heap[b]? = wo.heap[b]?) := Wc.hid ⟨Nat.le_trans RS.out.1 HB9.out.size, fun b h1 h2 => (HB9.out.block b (Nat.lt_of_lt_of_le h2 RS.out.1)).trans (RS.out.2 b h1 h2)⟩
            have QB := Wc.hid (RB.out.trans (HB9.out.mono (by have := HW2.out; have := RS.out.1; omega)))
            have QZ := Wc.hid RS.out.1
            clear hks hp RT RO RS RB HP0 HBP HB9 H9' hz' HP1 HRD
            go_loopw [24] (fun u wr => ∃ (k : Nat) (a2 : Option Addr) (n2 c2 : Nat), u = .int .i64 k ∧ k ≤ 8 ∧ Hid (Th wr (hs + 1) (fun j => if j = L then .slice a2 n2 c2 else f j)) ∧ Hid (Wv.Ov (Value.int .i64) 3 bl wr (.slice a2 n2 c2) ((lst.take i).flatMap (Wb.kids xs) ++ (Wb.kids xs p).take k)) ∧ Hid (Ah wr wm.heap.size N) ∧ Hid (bl ≤ wr.heap.size ∧ ∀ b, hs + 2 ≤ b → b < bl → wr.heap[b]? = wo.heap[b]?) ∧ Hid (Below hs w1 wr)) (fun u _ => 8 - (intOf u).toNat)
            case atStart => exact ⟨0, a', n', c', rfl, by omega, QT, by rw [List.take_zero, List.append_nil]; exact QO, QA, QS, QB⟩
            case round =>
              obtain ⟨k, a2, n2, c2, rfl, hk, ST, SO, SA, SS, SB⟩ := hrel
              by_cases hk8 : k < 8
              · have hA := SA.out.at hk8
                have hkk : (Wb.kids xs p).getD k 0 = Wn.pat N k := by rw [← HKS.out, ptr_getD _ hk8]
                obtain ⟨q, hq⟩ : ∃ q, Wn.pat N k = q := ⟨_, rfl⟩
                rw [hq] at hA hkk
                have hcL2 := ST.out.cell (k := L) (by omega)
                rw [if_pos rfl] at hcL2
                have hcL3 := (((Below.refl wr.heap.size wr).alloc (Nat.le_refl _) (.cells #[.int .i64 q] 3)).cell (p := ⟨hs + 1, L, none⟩) ST.out.lt).trans hcL2
                have hts : (Wb.kids xs p).take (k + 1) = (Wb.kids xs p).take k ++ [q] := by rw [take_snoc _ _ (by rw [Wb.kids_length]; exact hk8), hkk]
                have hdr := show_drew (Below.refl bl wr)
                obtain ⟨a4, n4, c4, w4, hrun, hO4, hb4, hot⟩ := push_wide wr.drew wr.heap.size bl rfl (.slice a2 n2 c2) _ q (SO.out.keep (show_drew (Below.refl _ _))) (by rw [List.length_append, List.length_take, HFL2.out]; omega) SS.out.1
                rw [List.append_assoc, ← hts] at hO4
                have hal := hdr.alloc (show bl ≤ wr.drew.heap.size from SS.out.1) (.cells #[.int .i64 q] 3)
                have hW4 := hal.trans hb4
                have hT4 := ST.out.keep hW4 (by have := HW2.out; omega)
                have hA4 : Ah w4 wm.heap.size N := hot _ _ _ _ ((SA.out.keep (show_drew (Below.refl _ _))).keep ((Below.refl _ _).alloc (Nat.le_refl _) (.cells #[.int .i64 q] 3))) (by decide)
                have hc4 := hT4.cell (k := L) (by omega)
                rw [if_pos rfl] at hc4
                have hf4 := hT4.frozen
                have HRUN := Wc.hid hrun
                have T5 : Hid (Th (w4.setCell ⟨hs + 1, L, none⟩ (.slice a4 n4 c4)) (hs + 1) (fun j => if j = L then .slice a4 n4 c4 else f j)) := Wc.hid (by
                  have := hT4.set (k := L) (by omega) (.slice a4 n4 c4)
                  have e : (fun i => if i = L then Value.slice a4 n4 c4 else (fun i => if i = L then Value.slice a2 n2 c2 else f i) i) = (fun i => if i = L then Value.slice a4 n4 c4 else f i) := by
                    funext i
                    by_cases hi : i = L
                    · rw [if_pos hi, if_pos hi]
                    · rw [if_neg hi, if_neg hi]; exact if_neg hi
                  rw [e] at this
                  exact this)
                have O5 : Hid (Wv.Ov (Value.int .i64) 3 bl (w4.setCell ⟨hs + 1, L, none⟩ (.slice a4 n4 c4)) (.slice a4 n4 c4) ((lst.take i).flatMap (Wb.kids xs) ++ (Wb.kids xs p).take (k + 1))) := Wc.hid ⟨ownsRow_setCell_below hO4.1 (show hs + 1 < bl by have := HW2.out; omega) _, hO4.2⟩
                have A5 : Hid (Ah (w4.setCell ⟨hs + 1, L, none⟩ (.slice a4 n4 c4)) wm.heap.size N) := Wc.hid (by
                  unfold Ah
                  rw [heap_setCell_other _ _ _ _ (show wm.heap.size ≠ hs + 1 by have := HW2.out; have := QZ.out; omega)]
                  exact hA4)
                have S5 : Hid (bl ≤ (w4.setCell ⟨hs + 1, L, none⟩ (.slice a4 n4 c4)).heap.size ∧ ∀ b, hs + 2 ≤ b → b < bl → (w4.setCell ⟨hs + 1, L, none⟩ (.slice a4 n4 c4)).heap[b]? = wo.heap[b]?) := Wc.hid ⟨by have := SS.out.1; have := hW4.size; simp; omega, fun b h2 h3 => by
                  rw [heap_setCell_other _ _ _ _ (show b ≠ hs + 1 by omega)]
                  exact (hW4.block b h3).trans (SS.out.2 b h2 h3)⟩
                have B5 := Wc.hid ((SB.out.trans (hW4.mono (by have := HW2.out; omega))).setCell (p := ⟨hs + 1, L, none⟩) (Nat.le_succ _) (.slice a4 n4 c4))
                have hL3 : (L : Int) < 3 := by omega
                have hk88 : (k : Int) < 8 := by omega
                clear hrun hO4 hb4 hot hal hW4 hT4 hA4 hdr hts hkk hq
                go_wp2_with fail
                go_region_law (refine step_append_run rfl rfl rfl rfl (by exact HRUN.out) ?_)
                all_goals (
                  go_wp2_with fail
                  go_roundw
                  case rel => exact ⟨k + 1, a4, n4, c4, by go_num, by omega, T5, O5, A5, S5, B5⟩
                  case measure => simp [intOf]; omega)
              · obtain rfl : k = 8 := by omega
                have hall : (Wb.kids xs p).take 8 = Wb.kids xs p := List.take_of_length_le (by rw [Wb.kids_length]; exact Nat.le_refl _)
                rw [hall, ← HFT.out] at SO
                clear hall
                go_wp2_with fail
                go_roundw
                case rel => exact ⟨i + 1, a2, n2, c2, by go_num, by omega, ST, SO, SS, SB⟩
                case measure => simp [intOf]; omega
        · obtain rfl : i = n := by omega
          have hall : lst.take i = lst := List.take_of_length_le (by rw [HLN.out]; exact Nat.le_refl _)
          rw [hall] at RO
          have hcL : wm.cell? ⟨hs + 1, L + 1, none⟩ = some (.slice (some ⟨b, off, none⟩) i cap) := by
            have := RT.out.cell (k := L + 1) (by omega)
            rw [if_neg (by omega)] at this
            rw [this]
            have h2 := HT.out.cell (k := L + 1) (by omega)
            rw [hcl] at h2
            exact h2.symm
          clear hall
          go_wp2_with fail
          go_roundw
          case rel =>
            refine ⟨(L : Int) - 1, L, _, by go_num, Wc.hid (by omega), Wc.hid (by omega), RT, Wc.hid fun j h1 h2 => ?_, Wc.hid fun j h1 => ?_, RB⟩
            · by_cases hj : j = L
              · subst hj
                rw [if_pos rfl, HNX.out]
                exact (Rt.of RO.out).base HW2.out
              · rw [if_neg hj]
                exact (HR.out j (by omega) h2).stay (by rw [HBS.out]; exact RS.out.1) fun b cs fr h3 h4 => RS.out.2 b h3 (by rw [← HBS.out]; exact (Array.getElem?_eq_some_iff.1 h4).1)
            · rw [if_neg (by omega)]
              exact HN.out j (by omega)
          case measure => simp [intOf]
end Go.Proofs.Ytafpjnofccfmlaa
