/-
  What build.Needs and build.Tree return, for every device, root, map and free list.
-/
import Derived.Test.YtafpjnofccfmlaaCj
import Derived.Test.YtafpjnofccfmlaaCg
namespace Wb
open Wt Wn
/-- Blocks of no device. -/
def nw : List Int := List.replicate 4096 4096
theorem nw_at {k : Nat} (h : k < 4096) : nw.getD k 2 = 4096 := by
  unfold nw; rw [List.getD_eq_getElem?_getD, List.getElem?_replicate, if_pos h]; rfl
theorem nw_ne (k : Nat) : ¬ nw.getD k 2 = 0 := by
  unfold nw
  rw [List.getD_eq_getElem?_getD, List.getElem?_replicate]
  split <;> decide
theorem two_ne {F : List Int} (h : ∀ f ∈ F, 2 ≤ f) (k : Nat) : ¬ F.getD k 2 = 0 := by
  by_cases hk : k < F.length
  · rw [List.getD_eq_getElem?_getD, List.getElem?_eq_getElem hk]
    have := h _ (List.getElem_mem hk)
    show ¬ F[k] = 0
    omega
  · rw [List.getD_eq_getElem?_getD, List.getElem?_eq_none (by omega)]; decide
theorem nil_ne (k : Nat) : ¬ ([] : List Int).getD k 2 = 0 := two_ne (by simp) k
theorem take_same {F : List Int} {n k : Nat} (h : k < n) : (F.take n).getD k 2 = F.getD k 2 := by
  rw [List.getD_eq_getElem?_getD, List.getD_eq_getElem?_getD, List.getElem?_take, if_pos h]
/-- How many nodes a new tree needs. -/
def needN (xs : List Int) (r : Int) (m : List Int) : Nat := need xs r m (treS xs r) []
theorem need_nw {xs : List Int} {r : Int} {m : List Int} : need xs r m (treS xs r) nw = needN xs r m := need_alike nw_ne nil_ne
theorem need_two {xs : List Int} {r : Int} {m F : List Int} (h : ∀ f ∈ F, 2 ≤ f) : need xs r m (treS xs r) F = needN xs r m := need_alike (two_ne h) nil_ne
theorem needN_most (xs : List Int) (r : Int) (m : List Int) : needN xs r m ≤ 73 := need_most _ _ _ _ _
/-- What may not be used. -/
def treN' (xs : List Int) (r : Int) (m : List Int) : List Int := treN xs r ++ treS xs r ++ m
/-- Why there is no new tree. -/
def treE' (xs : List Int) (r : Int) (m F : List Int) : Int :=
  if begE xs r m = 0 then (if usB F (treN' xs r m) (xs.length / 64) = true then (if needN xs r m ≤ F.length then 0 else 9) else 1) else begE xs r m
end Wb
namespace Go.Proofs.Ytafpjnofccfmlaa
open Go.RowKit

theorem rows_sh {f : Nat → Value} {w : World} {xs : List Int} {r : Int} (h : ∀ i, i < 4 → Wd.In w (f i) (Wb.rw xs r (3 - i))) : ∃ a0 n0 c0 a1 n1 c1 a2 n2 c2 a3 n3 c3, f 0 = .slice a0 n0 c0 ∧ f 1 = .slice a1 n1 c1 ∧ f 2 = .slice a2 n2 c2 ∧ f 3 = .slice a3 n3 c3 := by
  obtain ⟨a0, n0, c0, e0, -⟩ := h 0 (by omega)
  obtain ⟨a1, n1, c1, e1, -⟩ := h 1 (by omega)
  obtain ⟨a2, n2, c2, e2, -⟩ := h 2 (by omega)
  obtain ⟨a3, n3, c3, e3, -⟩ := h 3 (by omega)
  exact ⟨a0, n0, c0, a1, n1, c1, a2, n2, c2, a3, n3, c3, e0, e1, e2, e3⟩

/-- grow where the new nodes are counted alone, beside a right old tree and a right map. -/
theorem grow_count (f : Nat → Value) (am : Option Addr) (nm cm : Nat) (xs m : List Int) (r : Int) (w : World) (h0 : Wb.begE xs r m = 0)
   (hwas : ∀ i, i < 4 → Wd.In w (f i) (Wb.rw xs r (3 - i))) (hm : Wd.In w (.slice am nm cm) m) :
    Calls Try.prog 28 #[.agg #[f 0, f 1, f 2, f 3], .slice am nm cm, .func (.func 29) #[] #[]] w fun e w' => ∃ a c z, e = .returned (.tuple #[.slice a (Wb.needN xs r m) c, .int .i64 z]) ∧ Below w.heap.size w w' := by
  obtain ⟨ht, hme⟩ := Wb.begE_zero h0
  obtain ⟨hd, t, htr, hs, hn⟩ := Wb.treE_zero ht
  obtain ⟨hl, hmr⟩ := Wb.mapE_zero hme
  have hb := Wd.devB_iff.1 hd
  have hold := (Wb.Ld_of_tre htr).1
  refine (grow_nowhere f am nm cm xs m t.sec Wb.nw r w hwas hm hl hold Wb.nw_ne (fun j hj q hq i => ?_) (fun k w' hk _ => ?_)).mono ?_
  · rw [Wb.nw_at (Nat.lt_of_lt_of_le hj (Nat.le_trans (Wb.need_most _ _ _ _ _) (by decide)))]
    have := Wb.rw_in htr q (by omega) i
    omega
  · rw [Wb.nw_at (Nat.lt_of_lt_of_le hk (Nat.le_trans (Wb.need_most _ _ _ _ _) (by decide)))]
    exact nowhere_any _ _
  · rintro e w' ⟨a, n, c, rfl, hN, hb⟩
    have h1 := Wb.ns_len hN.ns
    have h2 : (Wb.new xs r m t.sec Wb.nw).length = Wb.needN xs r m := by
      rw [← Wb.need_nw, hs]; rfl
    rw [h2] at h1
    subst h1
    exact ⟨a, c, _, rfl, hb⟩

/-- What Needs returns. -/
def NeedPost (xs : List Int) (r : Int) (m : List Int) (w : World) : Ending → World → Prop := fun e w' =>
  Below w.heap.size w w' ∧ (Wb.begE xs r m = 0 → e = .returned (.tuple #[.int .i64 ((Wb.needN xs r m : Nat) : Int), .int .i64 0])) ∧ (¬ Wb.begE xs r m = 0 → e = .returned (.tuple #[.int .i64 0, .int .i64 (Wb.begE xs r m)]))

set_option maxRecDepth 100000 in
set_option maxHeartbeats 6400000 in
theorem needs_any (v : Value) (r : Int) (am : Option Addr) (nm cm : Nat) (xs m : List Int) (w : World) (hv : Wc.Bs w v xs) (hm : Wd.In w (.slice am nm cm) m) :
    Calls Try.prog 10 #[v, .int .i64 r, .slice am nm cm] w (NeedPost xs r m w) := by
  unfold NeedPost
  have HV := Wc.hid hv
  have HM := Wc.hid hm
  clear hv hm
  by_cases h0 : Wb.begE xs r m = 0
  · have H0 := Wc.hid h0
    clear h0
    go_enter Try.func10, Try.ntmps10
    go_wp2_with fail
    refine (begin_any v r am nm cm xs m _ HV.out HM.out).mono ?_
    rintro e w1 ⟨hb1, hy, -⟩
    obtain ⟨f, rfl, hf⟩ := hy H0.out
    obtain ⟨a0, n0, c0, a1, n1, c1, a2, n2, c2, a3, n3, c3, e0, e1, e2, e3⟩ := rows_sh hf
    have hA := (Below.refl w1.heap.size w1).alloc (Nat.le_refl _) (.cells #[f 0, f 1, f 2, f 3] 63)
    have T1 : Tb (w1.alloc (.cells #[f 0, f 1, f 2, f 3] 63)) w1.heap.size f := by show (w1.heap.push _)[_]? = _; simp
    have HGC := Wc.hid (grow_count f am nm cm xs m r _ H0.out (fun i hi => (hf i hi).keep hA) ((HM.out.keep hb1).keep hA))
    have HB := Wc.hid (Wc.step hb1 (Nat.le_refl _) hA)
    rw [e0, e1, e2, e3] at HGC HB ⊢
    clear hb1 hy hA T1 hf
    go_wp2_with fail
    refine HGC.out.mono ?_
    rintro e w2 ⟨a, c, z, rfl, hb2⟩
    have HB2 := Wc.hid (Wc.step HB.out (Nat.le_refl _) hb2)
    obtain ⟨K, hK⟩ : ∃ K, Wb.needN xs r m = K := ⟨_, rfl⟩
    rw [hK]
    have HK := Wc.hid hK
    clear hb2 hK
    go_wp2_with fail
    go_ret2
    exact ⟨HB2.out, fun _ => by rw [HK.out]; rfl, fun h => absurd H0.out h⟩
  · obtain ⟨E, hE⟩ : ∃ E, Wb.begE xs r m = E := ⟨_, rfl⟩
    have H0 := Wc.hid h0
    rw [hE] at h0
    have hne : (E != 0) = true := by rw [bne_iff_ne]; exact h0
    have HE := Wc.hid hE
    clear h0 hE
    go_enter Try.func10, Try.ntmps10
    go_wp2_with fail
    refine (begin_any v r am nm cm xs m _ HV.out HM.out).mono ?_
    rintro e w1 ⟨hb1, -, hy⟩
    obtain rfl := hy H0.out
    rw [HE.out]
    have HB := Wc.hid hb1
    clear hb1 hy
    go_wp2_with fail
    go_ret2
    exact ⟨HB.out.alloc HB.out.size _, fun h => absurd h H0.out, fun _ => by rw [HE.out]; rfl⟩

theorem free_two {xs m F : List Int} {r : Int} (hu : Wb.usB F (Wb.treN' xs r m) (xs.length / 64) = true) : ∀ f ∈ F, 2 ≤ f := fun f hf => ((Wb.usB_rises hu).2 f hf).1

/-- All new nodes are right. -/
theorem laid_right {xs m F : List Int} {r : Int} (h0 : Wb.begE xs r m = 0) (hu : Wb.usB F (Wb.treN' xs r m) (xs.length / 64) = true) (hk : Wb.needN xs r m ≤ F.length) : ∀ n ∈ Wb.new xs r m (Wt.treS xs r) F, Wn.nodB n = true := by
  obtain ⟨ht, hme⟩ := Wb.begE_zero h0
  obtain ⟨hd, t, htr, hs, hn⟩ := Wb.treE_zero ht
  obtain ⟨hl, hmr⟩ := Wb.mapE_zero hme
  have hb := Wd.devB_iff.1 hd
  have h3 := Wb.new_right (xs := xs) (r := r) (m := m) (was := Wt.treS xs r) (F := F) (fun j hj => ?_) (fun i => ?_) (fun q hq i => ?_) 3 (Nat.le_refl _)
  · rw [Wb.lv_three] at h3; exact h3
  · rw [Wb.need_two (free_two hu)] at hj
    have hj2 : j < F.length := by omega
    have := (Wb.usB_rises hu).2 _ (List.getElem_mem hj2)
    rw [List.getD_eq_getElem?_getD, List.getElem?_eq_getElem hj2]
    show 2 ≤ F[j] ∧ F[j] < 4096
    omega
  · have := hmr i; omega
  · have := Wb.rw_in htr q (by omega) i; omega

/-- grow where the new nodes stand on the first free blocks. -/
theorem grow_laid (f : Nat → Value) (am : Option Addr) (nm cm : Nat) (xs m F : List Int) (r : Int) (T g : Nat) (w : World) (h0 : Wb.begE xs r m = 0) (hu : Wb.usB F (Wb.treN' xs r m) (xs.length / 64) = true) (hk : Wb.needN xs r m ≤ F.length)
   (hwas : ∀ i, i < 4 → Wd.In w (f i) (Wb.rw xs r (3 - i))) (hm : Wd.In w (.slice am nm cm) m)
   (hc : w.cell? ⟨T, 0, none⟩ = some (.slice (some ⟨g, 0, none⟩) (Wb.needN xs r m) (Wb.needN xs r m))) (hT : Wd.In w (.slice (some ⟨g, 0, none⟩) (Wb.needN xs r m) (Wb.needN xs r m)) (F.take (Wb.needN xs r m))) :
    Calls Try.prog 28 #[.agg #[f 0, f 1, f 2, f 3], .slice am nm cm, .func (.func 33) #[] #[.pointer (some ⟨T, 0, none⟩)]] w fun e w' => ∃ a c, e = .returned (.tuple #[.slice a (Wb.needN xs r m) c, .int .i64 (Wb.root xs r m (Wt.treS xs r) F)]) ∧ Wb.No 83 w.heap.size w' (.slice a (Wb.needN xs r m) c) (Wb.new xs r m (Wt.treS xs r) F) ∧ Below w.heap.size w w' := by
  obtain ⟨ht, hme⟩ := Wb.begE_zero h0
  obtain ⟨hd, t, htr, hs, hn⟩ := Wb.treE_zero ht
  obtain ⟨hl, hmr⟩ := Wb.mapE_zero hme
  have hb := Wd.devB_iff.1 hd
  have hold := (Wb.Ld_of_tre htr).1
  have h2 : ∀ x ∈ F.take (Wb.needN xs r m), 2 ≤ x := fun x hx => free_two hu x (List.mem_of_mem_take hx)
  have hn' : Wb.need xs r m t.sec (F.take (Wb.needN xs r m)) = Wb.needN xs r m := by rw [← hs]; exact Wb.need_two h2
  obtain ⟨c1, c2⟩ := Wb.new_congr (xs := xs) (r := r) (m := m) (was := t.sec) (F := F.take (Wb.needN xs r m)) (G := F) (fun j hj => Wb.take_same (by rw [hn'] at hj; exact hj))
  refine (grow_taken (.pointer (some ⟨T, 0, none⟩)) f am nm cm xs m t.sec (F.take (Wb.needN xs r m)) r w hwas hm hl hold (Wb.two_ne h2) (fun j hj q hq i e => ?_) (fun k w' hk2 hbw => ?_)).mono ?_
  · rw [hn'] at hj
    rw [Wb.take_same hj] at e
    have hj2 : j < F.length := by omega
    rw [List.getD_eq_getElem?_getD, List.getElem?_eq_getElem hj2] at e
    have e : F[j] = (Wb.rw xs r q).getD i 0 := e
    have h3 := (Wb.usB_rises hu).2 _ (List.getElem_mem hj2)
    by_cases hi : i < (Wb.rw xs r q).length
    · have h4 := (Wb.rw_nodes htr (x := F[j]) (by omega)).1 ⟨q, by omega, by rw [e]; exact Wb.getD_in hi⟩
      refine h3.2.2 ?_
      unfold Wb.treN'
      rw [hn]
      exact List.mem_append_left _ (List.mem_append_left _ h4)
    · rw [Wb.getD_out hi] at e; omega
  · rw [hn'] at hk2
    exact taken_any T g _ _ k _ w' ((hbw.cell (p := ⟨T, 0, none⟩) (Wc.cell_lt hc)).trans hc) (hT.keep hbw) hk2
  · rintro e w' ⟨a, n, c, rfl, hN, hb⟩
    rw [c1] at hN
    rw [c2]
    have h1 := Wb.ns_len hN.ns
    have h3 : (Wb.new xs r m t.sec F).length = Wb.needN xs r m := by rw [← c1]; exact hn'
    rw [h3] at h1
    subst h1
    rw [hs]
    exact ⟨a, c, rfl, hN, hb⟩
end Go.Proofs.Ytafpjnofccfmlaa
