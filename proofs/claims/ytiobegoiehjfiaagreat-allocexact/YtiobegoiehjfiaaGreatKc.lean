/-
  What walk's tree does, for every device and every root below which all is right.
-/
import Derived.Test.YtiobegoiehjfiaaGreatKb
namespace Go.Proofs.YtiobegoiehjfiaaGreat
open Go.RowKit

theorem okN_read {xs : List Int} {p : Int} {L : Nat} (h : Wt.okN xs p L = true) : Wd.rdE xs.length p = 0 ∧ Wn.parE (Wd.rdR xs p) = 0 ∧ (Wt.nd xs p).level = (L : Int) := by
  obtain ⟨-, h1, hd, h2, h3⟩ := Wt.okN_nod h
  refine ⟨?_, h2, h3⟩
  unfold Wd.rdE
  rw [if_pos hd, if_pos (by omega)]

/-- All blocks but one stay. -/
def Bt (g : Nat) (w w' : World) : Prop := w.heap.size ≤ w'.heap.size ∧ ∀ b, b < w.heap.size → ¬ b = g → w'.heap[b]? = w.heap[b]?
theorem Bt.refl (g : Nat) (w : World) : Bt g w w := ⟨Nat.le_refl _, fun _ _ _ => rfl⟩
theorem Bt.trans {g : Nat} {a b c : World} (h : Bt g a b) (k : Bt g b c) : Bt g a c := ⟨Nat.le_trans h.1 k.1, fun i hi hg => (k.2 i (Nat.lt_of_lt_of_le hi h.1) hg).trans (h.2 i hi hg)⟩
theorem Bt.below {g : Nat} {w w' : World} (h : Below w.heap.size w w') : Bt g w w' := ⟨h.size, fun i hi _ => h.block i hi⟩
theorem Bt.but {g : Nat} {w w' : World} (h : Wi.But g w w') : Bt g w w' := ⟨h.1.size, fun i _ hg => h.2 i hg⟩

/-- What walk's tree does below a level. -/
def WtreeOk (xs : List Int) (v : Value) (w0 : World) (g m : Nat) (A : Int → Prop) (L : Nat) : Prop :=
  ∀ (p : Int) (T : List Int) (w : World), Wj.Wf xs m A (L + 1) p → T.length + Wj.big (L + 1) ≤ 1000000 → Below w0.heap.size w0 w → Wj.Cn w g m T →
    Calls Tryz.prog 31 #[.slice (some ⟨g, 0, none⟩) m m, v, .int .i64 p] w fun e w' => e = .returned (.tuple #[]) ∧ Below w0.heap.size w0 w' ∧ Bt g w w' ∧ Wj.Cn w' g m (Wj.wlk xs (L + 1) p T)

/-- The same of a pointer of a node of level L, by lead or by tree. -/
theorem wtree_no (xs : List Int) (v : Value) (w0 : World) (g m : Nat) (A : Int → Prop) (L : Nat) (hg : w0.heap.size ≤ g) (hm : 2 ≤ m) (p : Int) (T : List Int) (w : World) (hf : Wj.Wf xs m A (L + 1) p) (hT : T.length + Wj.big (L + 1) ≤ 1000000) (hb : Below w0.heap.size w0 w) (hC : Wj.Cn w g m T) (hno : p = 0 ∨ p ∈ T) :
    Calls Tryz.prog 31 #[.slice (some ⟨g, 0, none⟩) m m, v, .int .i64 p] w fun e w' => e = .returned (.tuple #[]) ∧ Below w0.heap.size w0 w' ∧ Bt g w w' ∧ Wj.Cn w' g m (Wj.wlk xs (L + 1) p T) := by
  obtain ⟨q, hq, hqm⟩ : ∃ q : Nat, p = (q : Int) ∧ q < m := by
    rcases hf with rfl | ⟨-, -, h2, h3, -⟩
    · exact ⟨0, rfl, by omega⟩
    · exact ⟨p.toNat, by omega, by omega⟩
  subst hq
  have HC := Wc.hid hC
  have HW : Hid (Wj.wlk xs (L + 1) (q : Int) T = Wj.led T (q : Int)) := Wc.hid (by
    show (if (q : Int) = 0 then T else if (q : Int) ∈ T then T ++ [(q : Int)] else _) = _
    unfold Wj.led
    rcases hno with h | h
    · rw [if_pos h, if_pos h]
    · by_cases h0 : (q : Int) = 0
      · rw [if_pos h0, if_pos h0]
      · rw [if_neg h0, if_pos h, if_neg h0])
  have hfl : (q != 0 && !decide ((q : Int) ∈ T)) = false := by
    rcases hno with h | h
    · have : q = 0 := by omega
      subst this; rfl
    · rw [decide_eq_true h]; simp
  have HFL := Wc.hid hfl
  have HB := Wc.hid hb
  have hTl : T.length ≤ 1000000 := by omega
  clear hf hT hb hC hno hfl
  go_enter Tryz.func31, Tryz.ntmps31
  go_wp2_with fail
  refine (lead_any g m T q _ HC.out hTl hqm).mono ?_
  rintro e w1 ⟨rfl, hb1, hc1⟩
  rw [HFL.out]
  have HB1 := Wc.hid (HB.out.trans (hb1.1.mono hg))
  have HC1 := Wc.hid hc1
  have HBT := Wc.hid (Bt.but hb1)
  clear hb1 hc1
  go_wp2_with fail
  refine bodyPost_ret (results_none rfl _ _ _) rfl ?_
  exact ⟨rfl, HB1.out, HBT.out, by rw [HW.out]; exact HC1.out⟩

set_option maxRecDepth 100000 in
set_option maxHeartbeats 6400000 in
theorem wtree_yes (xs : List Int) (v : Value) (w0 : World) (g m : Nat) (A : Int → Prop) (L : Nat) (hv : Wc.Bs w0 v xs) (hg : w0.heap.size ≤ g) (hM : ∀ K, L = K + 1 → WtreeOk xs v w0 g m A K) (p : Int) (T : List Int) (w : World) (hf : Wj.Wf xs m A (L + 1) p) (hT : T.length + Wj.big (L + 1) ≤ 1000000) (hb : Below w0.heap.size w0 w) (hC : Wj.Cn w g m T) (hp0 : ¬ p = 0) (hpT : ¬ p ∈ T) :
    Calls Tryz.prog 31 #[.slice (some ⟨g, 0, none⟩) m m, v, .int .i64 p] w fun e w' => e = .returned (.tuple #[]) ∧ Below w0.heap.size w0 w' ∧ Bt g w w' ∧ Wj.Cn w' g m (Wj.wlk xs (L + 1) p T) := by
  have hW : Wj.wlk xs (L + 1) p T = Wj.wgo (Wj.wlk xs L) (Wt.nd xs p) 8 (T ++ [p]) := by
    show (if p = 0 then T else if p ∈ T then T ++ [p] else _) = _
    rw [if_neg hp0, if_neg hpT]
  have hf2 : Wt.okN xs p L = true ∧ A p ∧ 2 ≤ p ∧ p < m ∧ ∀ k, k < 8 → Wj.Wf xs m A L (Wn.pat (Wt.nd xs p) k) := by
    rcases hf with h | h
    · exact absurd h hp0
    · exact h
  obtain ⟨ho, -, h2, hpm, hk⟩ := hf2
  obtain ⟨hr1, hr2, hlev⟩ := okN_read ho
  have HR := Wc.hid (wread_any v p xs · · hr1 hr2)
  obtain ⟨n, hn⟩ : ∃ n, Wt.nd xs p = n := ⟨_, rfl⟩
  rw [hn] at hlev hW hk HR
  obtain ⟨q, hq⟩ : ∃ q : Nat, p = (q : Int) := ⟨p.toNat, by omega⟩
  have hqm : q < m := by omega
  have hfl : (q != 0 && !decide ((q : Int) ∈ T)) = true := by
    rw [← hq, decide_eq_false hpT]
    simp; omega
  have hled : Wj.led T (q : Int) = T ++ [(q : Int)] := Wj.led_yes (by omega)
  rw [hq] at hW HR ⊢
  have HW := Wc.hid hW
  have HK := Wc.hid hk
  have HFL := Wc.hid hfl
  have HLED := Wc.hid hled
  have HB := Wc.hid hb
  have HC := Wc.hid hC
  have HV := Wc.hid hv
  have HM := Wc.hid hM
  have HLEV := Wc.hid hlev
  have HT := Wc.hid hT
  have hTl : T.length ≤ 1000000 := by omega
  clear hf hT hb hC hp0 hpT hW hk ho h2 hpm hr1 hr2 hlev hn hq hfl hled hv hM
  go_enter Tryz.func31, Tryz.ntmps31
  go_wp2_with fail
  refine (lead_any g m T q _ HC.out hTl hqm).mono ?_
  rintro e w1 ⟨rfl, hb1, hc1⟩
  rw [HFL.out]
  have HB1 := Wc.hid (HB.out.trans (hb1.1.mono hg))
  have HC1 := Wc.hid hc1
  have HBT := Wc.hid (Bt.but hb1)
  clear hb1 hc1
  go_wp2_with fail
  refine (HR.out _ (HV.out.keep HB1.out)).mono ?_
  rintro e w2 ⟨rfl, hb2⟩
  have HB2 := Wc.hid (Wc.step HB1.out (Nat.le_refl _) hb2)
  have HC2 := Wc.hid (row_keep HC1.out hb2)
  have HBT2 := Wc.hid ((HBT.out.trans (Bt.below hb2)).trans (Bt.below ((Below.refl w2.heap.size w2).alloc (Nat.le_refl _) (.cells #[.int .i64 n.level, .int .i64 n.p0, .int .i64 n.p1, .int .i64 n.p2, .int .i64 n.p3, .int .i64 n.p4, .int .i64 n.p5, .int .i64 n.p6, .int .i64 n.p7] 69))))
  clear hb2 HBT
  have N2 := Wc.hid (Nh.new w2 n)
  have HB3 := Wc.hid (HB2.out.alloc HB2.out.size (.cells #[.int .i64 n.level, .int .i64 n.p0, .int .i64 n.p1, .int .i64 n.p2, .int .i64 n.p3, .int .i64 n.p4, .int .i64 n.p5, .int .i64 n.p6, .int .i64 n.p7] 69))
  have HC3 := Wc.hid (row_keep HC2.out ((Below.refl _ _).alloc (Nat.le_refl _) (.cells #[.int .i64 n.level, .int .i64 n.p0, .int .i64 n.p1, .int .i64 n.p2, .int .i64 n.p3, .int .i64 n.p4, .int .i64 n.p5, .int .i64 n.p6, .int .i64 n.p7] 69)))
  have HG3 := Wc.hid (World.rowIs.lt HC2.out)
  have ⟨d, d0, d1, d2, d3, d4, d5, d6, d7⟩ := N2.out.nc
  unfold nv
  go_wp2_with fail
  clear d d0 d1 d2 d3 d4 d5 d6 d7
  obtain ⟨W, hW⟩ : ∃ W, w2.alloc (.cells #[.int .i64 n.level, .int .i64 n.p0, .int .i64 n.p1, .int .i64 n.p2, .int .i64 n.p3, .int .i64 n.p4, .int .i64 n.p5, .int .i64 n.p6, .int .i64 n.p7] 69) = W := ⟨_, rfl⟩
  rw [hW] at N2 HB3 HC3 HBT2 ⊢
  clear hW
  obtain ⟨B, hB⟩ : ∃ B, w2.heap.size = B := ⟨_, rfl⟩
  rw [hB] at N2 HG3 ⊢
  clear hB HB1 HB2 HC1 HC2 HR HB HC
  go_loopw [18] (fun i wr => ∃ k : Nat, i = .int .i64 k ∧ k ≤ 8 ∧ Hid (Wj.Cn wr g m (Wj.wgo (Wj.wlk xs L) n k (T ++ [(q : Int)]))) ∧ Hid (Below w0.heap.size w0 wr) ∧ Hid (Bt g w wr) ∧ Hid (Nh wr B n)) (fun i _ => 8 - (intOf i).toNat)
  case atStart => exact ⟨0, rfl, by omega, Wc.hid (by rw [← HLED.out]; exact HC3.out), HB3, HBT2, N2⟩
  case round =>
    obtain ⟨k, rfl, hk, CK, BK, TK, NK⟩ := hrel
    by_cases hlt : k < 8
    · have hi := idx8 n hlt
      have ⟨d, d0, d1, d2, d3, d4, d5, d6, d7⟩ := NK.out.nc
      have HF := Wc.hid (HK.out k hlt)
      have HNG : Hid (¬ B = g) := Wc.hid (by have := HG3.out; omega)
      have HNL := Wc.hid NK.out.lt
      have hlen : (Wj.wgo (Wj.wlk xs L) n k (T ++ [(q : Int)])).length + Wj.big L ≤ 1000000 := by
        have h1 := Wj.wgo_len xs L n k (T ++ [(q : Int)])
        have h2 := HT.out
        simp only [Wj.big, List.length_append, List.length_cons, List.length_nil] at h1 h2
        have h3 : k * Wj.big L ≤ 7 * Wj.big L := Nat.mul_le_mul_right _ (by omega)
        omega
      cases L with
      | zero =>
        obtain ⟨y, hy⟩ : ∃ y, Wn.pat n k = y := ⟨_, rfl⟩
        have HY := Wc.hid hy
        rw [hy] at hi HF
        obtain ⟨f1, f2, -⟩ := HF.out
        obtain ⟨z, rfl⟩ : ∃ z : Nat, y = (z : Int) := ⟨y.toNat, by omega⟩
        have hz : z < m := by omega
        have hlen' : (Wj.wgo (Wj.wlk xs 0) n k (T ++ [(q : Int)])).length ≤ 1000000 := by omega
        have hl0 : n.level = 0 := HLEV.out
        have HS : Hid (Wj.wgo (Wj.wlk xs 0) n (k + 1) (T ++ [(q : Int)]) = Wj.led (Wj.wgo (Wj.wlk xs 0) n k (T ++ [(q : Int)])) (z : Int)) := Wc.hid (by
          show Wj.led _ (Wn.pat n k) = _
          rw [HY.out])
        rw [hl0] at d
        clear hl0 hy f1 f2 hlen
        go_wp2_with fail
        refine (lead_any g m _ z _ CK.out hlen' hz).mono ?_
        rintro e w1 ⟨rfl, hb1, hc1⟩
        have BK1 := Wc.hid (BK.out.trans (hb1.1.mono hg))
        have TK1 := Wc.hid (TK.out.trans (Bt.but hb1))
        have NK1 : Hid (Nh w1 B n) := Wc.hid ((hb1.2 B HNG.out).trans NK.out)
        have CK1 : Hid (Wj.Cn w1 g m (Wj.wgo (Wj.wlk xs 0) n (k + 1) (T ++ [(q : Int)]))) := Wc.hid (by rw [HS.out]; exact hc1)
        clear hb1 hc1
        go_wp2_with fail
        go_roundw
        case rel => exact ⟨k + 1, by go_num, by omega, CK1, BK1, TK1, NK1⟩
        case measure => simp [intOf]; omega
      | succ K =>
        have hl0 : (n.level == 0) = false := by
          have := HLEV.out
          simp; omega
        obtain ⟨y, hy⟩ : ∃ y, Wn.pat n k = y := ⟨_, rfl⟩
        have HS : Hid (Wj.wgo (Wj.wlk xs (K + 1)) n (k + 1) (T ++ [(q : Int)]) = Wj.wlk xs (K + 1) y (Wj.wgo (Wj.wlk xs (K + 1)) n k (T ++ [(q : Int)]))) := Wc.hid (by
          show Wj.wlk xs (K + 1) (Wn.pat n k) _ = _
          rw [hy])
        rw [hy] at hi HF
        have HLEN := Wc.hid hlen
        clear hy hlen
        go_wp2_with fail
        refine (HM.out K rfl y _ _ HF.out HLEN.out BK.out CK.out).mono ?_
        rintro e w1 ⟨rfl, hb1, ht1, hc1⟩
        have BK1 := Wc.hid hb1
        have TK1 := Wc.hid (TK.out.trans ht1)
        have NK1 : Hid (Nh w1 B n) := Wc.hid ((ht1.2 B HNL.out HNG.out).trans NK.out)
        have CK1 : Hid (Wj.Cn w1 g m (Wj.wgo (Wj.wlk xs (K + 1)) n (k + 1) (T ++ [(q : Int)]))) := Wc.hid (by rw [HS.out]; exact hc1)
        clear hb1 hc1 ht1
        go_wp2_with fail
        go_roundw
        case rel => exact ⟨k + 1, by go_num, by omega, CK1, BK1, TK1, NK1⟩
        case measure => simp [intOf]; omega
    · obtain rfl : k = 8 := by omega
      go_wp2_with fail
      refine bodyPost_end (results_none rfl _ _ _) rfl ?_
      exact ⟨rfl, BK.out, TK.out, by rw [HW.out]; exact CK.out⟩

theorem wtree_of (xs : List Int) (v : Value) (w0 : World) (g m : Nat) (A : Int → Prop) (hv : Wc.Bs w0 v xs) (hg : w0.heap.size ≤ g) (hm : 2 ≤ m) : ∀ L, WtreeOk xs v w0 g m A L
  | 0 => by
    intro p T w hf hT hb hC
    by_cases h : p = 0 ∨ p ∈ T
    · exact wtree_no xs v w0 g m A 0 hg hm p T w hf hT hb hC h
    · exact wtree_yes xs v w0 g m A 0 hv hg (fun K h => by cases h) p T w hf hT hb hC (fun e => h (.inl e)) (fun e => h (.inr e))
  | L + 1 => by
    intro p T w hf hT hb hC
    by_cases h : p = 0 ∨ p ∈ T
    · exact wtree_no xs v w0 g m A (L + 1) hg hm p T w hf hT hb hC h
    · exact wtree_yes xs v w0 g m A (L + 1) hv hg (fun K hK => by cases hK; exact wtree_of xs v w0 g m A hv hg hm L) p T w hf hT hb hC (fun e => h (.inl e)) (fun e => h (.inr e))
end Go.Proofs.YtiobegoiehjfiaaGreat
