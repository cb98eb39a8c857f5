/-
  What build.held and build.usable return: which blocks are taken already, and whether new nodes may stand on all of a list of blocks.
-/
import Derived.Test.YtafpjnofccfmlaaCe
import Derived.ArgAppend
namespace Wb
/-- The rows that are taken, one behind the other: of the old tree from the sectors up, then the map. -/
def hrow (xs : List Int) (r : Int) (m : List Int) (j : Nat) : List Int := if j < 4 then rw xs r (3 - j) else m
def hall (xs : List Int) (r : Int) (m : List Int) (j : Nat) : List Int := (List.range j).flatMap (hrow xs r m)
theorem hall_succ (xs : List Int) (r : Int) (m : List Int) (j : Nat) : hall xs r m (j + 1) = hall xs r m j ++ hrow xs r m j := by
  unfold hall; rw [List.range_succ, List.flatMap_append, List.flatMap_cons, List.flatMap_nil, List.append_nil]
theorem hall_mem {xs : List Int} {r : Int} {m : List Int} {x : Int} : x ∈ hall xs r m 5 ↔ (∃ j, j < 4 ∧ x ∈ rw xs r j) ∨ x ∈ m := by
  unfold hall
  rw [List.mem_flatMap]
  constructor
  · rintro ⟨j, hj, hx⟩
    have hj := List.mem_range.1 hj
    unfold hrow at hx
    by_cases h : j < 4
    · rw [if_pos h] at hx; exact .inl ⟨3 - j, by omega, hx⟩
    · rw [if_neg h] at hx; exact .inr hx
  · rintro (⟨j, hj, hx⟩ | hx)
    · refine ⟨3 - j, List.mem_range.2 (by omega), ?_⟩
      unfold hrow
      rw [if_pos (by omega), show 3 - (3 - j) = j by omega]; exact hx
    · refine ⟨4, List.mem_range.2 (by omega), ?_⟩
      unfold hrow
      rw [if_neg (by omega)]; exact hx

/-- The one ahead of a place, 1 ahead of the first. -/
def pre (F : List Int) (j : Nat) : Int := if j = 0 then 1 else F.getD (j - 1) 0
def usj (F l : List Int) (n : Nat) (j : Nat) : Bool := decide (pre F j < F.getD j 0) && decide (F.getD j 0 < (n : Int)) && !decide (F.getD j 0 ∈ l)
/-- May new nodes stand on all of F? -/
def usB (F l : List Int) (n : Nat) : Bool := (List.range F.length).all (usj F l n)
theorem usj_low {F l : List Int} {n : Nat} : ∀ k, (∀ j, j < k → usj F l n j = true) → 1 ≤ pre F k
  | 0, _ => by unfold pre; rw [if_pos rfl]; exact Int.le_refl _
  | k + 1, h => by
    have h1 := usj_low k fun j hj => h j (by omega)
    have h2 := h k (by omega)
    have h3 : pre F k < F.getD k 0 := by
      unfold usj at h2
      rw [Bool.and_eq_true, Bool.and_eq_true] at h2
      exact of_decide_eq_true h2.1.1
    unfold pre
    rw [if_neg (by omega), Nat.add_sub_cancel]
    omega
theorem usB_at {F l : List Int} {n : Nat} : usB F l n = true ↔ ∀ j, j < F.length → pre F j < F.getD j 0 ∧ F.getD j 0 < (n : Int) ∧ ¬ F.getD j 0 ∈ l := by
  simp [usB, usj, List.all_eq_true, and_assoc]
theorem usB_no {F l : List Int} {n j : Nat} (hj : j < F.length) (h : usj F l n j = false) : usB F l n = false := by
  rw [Bool.eq_false_iff]
  intro e
  have := List.all_eq_true.1 e j (List.mem_range.2 hj)
  rw [h] at this; cases this
theorem usB_all {F l : List Int} {n : Nat} (h : ∀ j, j < F.length → usj F l n j = true) : usB F l n = true := List.all_eq_true.2 fun j hj => h j (List.mem_range.1 hj)
theorem usB_rises {F l : List Int} {n : Nat} (h : usB F l n = true) : F.Pairwise (· < ·) ∧ ∀ f ∈ F, 2 ≤ f ∧ f < (n : Int) ∧ ¬ f ∈ l := by
  have hh := usB_at.1 h
  have hg : ∀ j (hj : j < F.length), F.getD j 0 = F[j] := fun j hj => by rw [List.getD_eq_getElem?_getD, List.getElem?_eq_getElem hj]; rfl
  have hmono : ∀ d i, i + d + 1 < F.length → F.getD i 0 < F.getD (i + d + 1) 0 := by
    intro d
    induction d with
    | zero => intro i hi; have := (hh (i + 1) hi).1; unfold pre at this; rwa [if_neg (by omega), show i + 1 - 1 = i by omega] at this
    | succ d ih =>
      intro i hi
      have h1 := ih i (by omega)
      have h2 := (hh (i + (d + 1) + 1) hi).1
      unfold pre at h2
      rw [if_neg (by omega), show i + (d + 1) + 1 - 1 = i + d + 1 by omega] at h2
      omega
  have hlow : ∀ j, j < F.length → 2 ≤ F.getD j 0 := by
    intro j hj
    have h0 := (hh 0 (by omega)).1
    unfold pre at h0
    rw [if_pos rfl] at h0
    by_cases hj0 : j = 0
    · subst hj0; omega
    · have := hmono (j - 1) 0 (by omega)
      rw [show 0 + (j - 1) + 1 = j by omega] at this
      omega
  refine ⟨List.pairwise_iff_getElem.2 fun i j hi hj hij => ?_, fun f hf => ?_⟩
  · have := hmono (j - i - 1) i (by omega)
    rw [show i + (j - i - 1) + 1 = j by omega, hg i hi, hg j hj] at this
    exact this
  · obtain ⟨j, hj, rfl⟩ := List.mem_iff_getElem.1 hf
    rw [← hg j hj]
    exact ⟨hlow j hj, (hh j hj).2.1, (hh j hj).2.2⟩
end Wb
namespace Go.Proofs.Ytafpjnofccfmlaa
open Go.RowKit

theorem Try.infoLs : (Try.prog.info? 23).map (fun i => (i.zero, i.size, i.bytes)) = some (some (.slice none 0 0), 1, 24) := by kernel_rfl

/-- A list is put behind four others that have no room. -/
theorem lists_five (w : World) (B G : Nat) (f : Nat → Value) (v : Value) (hT : Tb w B f) (hv : ∃ a n c, v = .slice a n c) (hg : w.cell? ⟨G, 0, none⟩ = some v) :
    ∃ g c w', Sem.run Try.prog (Builtin.append_ #[99, 99] 99 #[.slice (some ⟨B, 0, none⟩) 4 4, .slice (some ⟨G, 0, none⟩) 1 1]) w = .ok (.slice (some ⟨g, 0, none⟩) 5 c) w' ∧ g < w'.heap.size ∧ w.heap.size ≤ g ∧ (∀ i, i < 5 → w'.cell? ⟨g, i, none⟩ = some (if i < 4 then f i else v)) ∧ Below w.heap.size w w' := by
  obtain ⟨i0, hi, hz0, hz1, hz2⟩ := info_parts Try.infoLs
  obtain ⟨a, n, c, rfl⟩ := hv
  obtain ⟨v', w', h1, h2, h3⟩ := run_append_arg_grows (P := Try.prog) w 99 99 23 i0 (.slice none 0 0) 1 24 Try.underlying99 hi hz0 hz1 hz2 rfl (by decide) ⟨B, 0, none⟩ 4 4 [f 0, f 1, f 2, f 3] rfl (by
      intro j u hj
      have hj4 : j < 4 := by have := (List.getElem?_eq_some_iff.1 hj).1; simpa using this
      rw [Wc.add_none, Nat.zero_add, hT.cell hj4]
      rcases (by omega : j = 0 ∨ j = 1 ∨ j = 2 ∨ j = 3) with rfl | rfl | rfl | rfl <;> simpa using hj) ⟨G, 0, none⟩ 1 1 [.slice a n c] rfl (by
      intro j u hj
      have hj1 : j = 0 := by have := (List.getElem?_eq_some_iff.1 hj).1; simpa using this
      subst hj1
      rw [Wc.add_none, hg]; simpa using hj) (by decide) (by unfold maxLen; decide) (by decide)
  have hbl := (Below.refl w.heap.size w).grown h3 (Nat.le_refl _) (fun g hg => by cases hg)
  have h2' := h2
  rcases h2.2 with ⟨_, h0⟩ | ⟨g, cap, cur, rfl, hbg, hgg, k1, k2, k3, k4⟩
  · cases h0
  · refine ⟨g, cap, w', h1, (Array.getElem?_eq_some_iff.1 hgg).1, hbg, fun i hi => ?_, hbl⟩
    have := h2'.cells (g := g) rfl i (if i < 4 then f i else .slice a n c) (by
      rcases (by omega : i = 0 ∨ i = 1 ∨ i = 2 ∨ i = 3 ∨ i = 4) with rfl | rfl | rfl | rfl | rfl <;> simp)
    rwa [Wc.add_none, Nat.zero_add] at this

set_option maxRecDepth 100000 in
set_option maxHeartbeats 6400000 in
theorem held_any (f : Nat → Value) (am : Option Addr) (nm cm n : Nat) (xs m : List Int) (r : Int) (w : World)
   (hwas : ∀ i, i < 4 → Wd.In w (f i) (Wb.rw xs r (3 - i))) (hm : Wd.In w (.slice am nm cm) m) (hn : n ≤ 4096) (hr : ∀ i x, x ∈ Wb.hrow xs r m i → 0 ≤ x ∧ x < (n : Int)) :
    Calls Try.prog 31 #[.agg #[f 0, f 1, f 2, f 3], .slice am nm cm, .int .i64 n] w fun e w' => ∃ g, e = .returned (.slice (some ⟨g, 0, none⟩) n n) ∧ Marks w' g n (Wb.hall xs r m 5) ∧ Below w.heap.size w w' := by
  have hmk := run_make_row' (P := Try.prog) 71 4 (.bool false) 1 Try.underlying71 Try.infoB rfl .i64 .i64 n (by omega) (by omega)
  have hsh : ∀ i, i < 4 → ∃ a n c, f i = .slice a n c := fun i hi => by
    obtain ⟨a, n, c, e, -⟩ := hwas i hi
    exact ⟨a, n, c, e⟩
  have T0 : Tb (w.alloc (.cells #[f 0, f 1, f 2, f 3] 63)) w.heap.size f := by show (w.heap.push _)[_]? = _; simp
  have b0 := (Below.refl w.heap.size w).alloc (Nat.le_refl _) (.cells #[f 0, f 1, f 2, f 3] 63)
  obtain ⟨a0, n0, c0, e0⟩ := hsh 0 (by omega)
  obtain ⟨a1, n1, c1, e1⟩ := hsh 1 (by omega)
  obtain ⟨a2, n2, c2, e2⟩ := hsh 2 (by omega)
  obtain ⟨a3, n3, c3, e3⟩ := hsh 3 (by omega)
  have HSH := Wc.hid hsh
  have HWAS := Wc.hid hwas
  have HM := Wc.hid hm
  have HR := Wc.hid hr
  rw [e0, e1, e2, e3] at T0 b0 ⊢
  obtain ⟨wA, hwA⟩ : ∃ wA, w.alloc (.cells #[.slice a0 n0 c0, .slice a1 n1 c1, .slice a2 n2 c2, .slice a3 n3 c3] 63) = wA := ⟨_, rfl⟩
  have sA : wA.heap.size = w.heap.size + 1 := by rw [← hwA]; simp
  rw [hwA] at T0 b0
  have b1 := (Below.refl wA.heap.size wA).alloc (Nat.le_refl _) (.cells (madeCells #[.bool false] n) 4)
  have M1 := Marks.new wA n
  rw [sA] at M1
  obtain ⟨wB, hwB⟩ : ∃ wB, wA.alloc (.cells (madeCells #[.bool false] n) 4) = wB := ⟨_, rfl⟩
  have sB : wB.heap.size = w.heap.size + 1 + 1 := by rw [← hwB]; simp [sA]
  rw [hwB] at b1 M1
  have b2 := (Below.refl wB.heap.size wB).alloc (Nat.le_refl _) (.cells #[.slice am nm cm] 23)
  have hgc : (wB.alloc (.cells #[.slice am nm cm] 23)).cell? ⟨w.heap.size + 1 + 1, 0, none⟩ = some (.slice am nm cm) := by
    rw [← sB]; exact (One.new wB (.slice am nm cm) 23).cell
  have T2 := (T0.keep b1 (by omega)).keep b2 (by omega)
  have M2 : Marks (wB.alloc (.cells #[.slice am nm cm] 23)) (w.heap.size + 1) n [] := M1.of_block (b2.block _ (by omega))
  obtain ⟨g, c, w3, hrun, hg3, hgl, hcells, hb3⟩ := lists_five (wB.alloc (.cells #[.slice am nm cm] 23)) w.heap.size (w.heap.size + 1 + 1) f (.slice am nm cm) T2 ⟨_, _, _, rfl⟩ hgc
  have hs2 : (wB.alloc (.cells #[.slice am nm cm] 23)).heap.size = w.heap.size + 1 + 1 + 1 := by simp [sB]
  rw [hs2] at hgl
  have M3 : Marks w3 (w.heap.size + 1) n [] := M2.of_block (hb3.block _ (by omega))
  have B3 := Wc.step (Wc.step (Wc.step b0 (Nat.le_refl _) b1) (by omega) b2) (by omega) hb3
  subst hwB hwA
  have HRUN := Wc.hid hrun
  have HG := Wc.hid (show w.heap.size + 1 < g by omega)
  have HG3 := Wc.hid hg3
  have HC := Wc.hid hcells
  have HM3 := Wc.hid M3
  have HB3 := Wc.hid B3
  clear hrun hg3 hgl hcells hb3 M3 B3 M2 T2 hgc b2 b1 b0 T0 M1 sA sB hs2 hsh hwas hm hr e0 e1 e2 e3
  go_enter Try.func31, Try.ntmps31
  go_wp2_with (at_builtin; refine Wv.wp_append HRUN.out rfl rfl rfl rfl ?_)
  go_loopw [19] (fun u wr => ∃ j : Nat, u = .int .i64 j ∧ j ≤ 5 ∧ Hid (Marks wr (w.heap.size + 1) n (Wb.hall xs r m j)) ∧ Hid (g < wr.heap.size ∧ ∀ i, i < 5 → wr.cell? ⟨g, i, none⟩ = some (if i < 4 then f i else .slice am nm cm)) ∧ Hid (Below w.heap.size w wr)) (fun u _ => 5 - (intOf u).toNat)
  case atStart => exact ⟨0, rfl, by omega, HM3, Wc.hid ⟨HG3.out, HC.out⟩, HB3⟩
  case round =>
    obtain ⟨j, rfl, hj5, RM, RC, RB⟩ := hrel
    by_cases hj : j < 5
    · have hIn : Wd.In w (if j < 4 then f j else .slice am nm cm) (Wb.hrow xs r m j) := by
        unfold Wb.hrow
        by_cases h4 : j < 4
        · rw [if_pos h4, if_pos h4]; exact HWAS.out j h4
        · rw [if_neg h4, if_neg h4]; exact HM.out
      have hcj := RC.out.2 j hj
      have hrj := HR.out j
      have hnext := Wb.hall_succ xs r m j
      obtain ⟨vj, hvj⟩ : ∃ vj, (if j < 4 then f j else Value.slice am nm cm) = vj := ⟨_, rfl⟩
      rw [hvj] at hIn hcj
      obtain ⟨lst, hlst⟩ : ∃ lst, Wb.hrow xs r m j = lst := ⟨_, rfl⟩
      rw [hlst] at hIn hrj hnext
      obtain ⟨prv, hprv⟩ : ∃ prv, Wb.hall xs r m j = prv := ⟨_, rfl⟩
      rw [hprv] at RM hnext
      obtain ⟨aj, nj, cj, rfl⟩ : ∃ a n c, vj = .slice a n c := by obtain ⟨a, n, c, e, -⟩ := hIn; exact ⟨a, n, c, e⟩
      have hlen : lst.length = nj := Wv.rv_len hIn
      have HIN := Wc.hid hIn
      have HRJ := Wc.hid hrj
      have HLEN := Wc.hid hlen
      have HNEXT := Wc.hid hnext
      have hnj : nj ≤ 17592186044416 := by obtain ⟨_, _, _, h1, _, _, _, h5, _⟩ := hIn; cases h1; exact h5
      clear hIn hrj hlen hnext hvj hlst hprv
      go_wp2_with fail
      clear hcj
      go_loopw [25] (fun u wr => ∃ k : Nat, u = .int .i64 k ∧ k ≤ nj ∧ Hid (Marks wr (w.heap.size + 1) n (prv ++ lst.take k)) ∧ Hid (g < wr.heap.size ∧ ∀ i, i < 5 → wr.cell? ⟨g, i, none⟩ = some (if i < 4 then f i else .slice am nm cm)) ∧ Hid (Below w.heap.size w wr)) (fun u _ => nj - (intOf u).toNat)
      case atStart => exact ⟨0, rfl, Nat.zero_le _, by rw [List.take_zero, List.append_nil]; exact RM, RC, RB⟩
      case round =>
        obtain ⟨k, rfl, hk, SM, SC, SB⟩ := hrel
        by_cases hlt : k < nj
        · obtain ⟨q, hq⟩ : ∃ q : Nat, lst.getD k 0 = q := by
            have := (HRJ.out _ (mem_getD (show k < lst.length by rw [HLEN.out]; exact hlt))).1
            exact ⟨(lst.getD k 0).toNat, by omega⟩
          have hqn : q < n := by
            have := (HRJ.out _ (mem_getD (show k < lst.length by rw [HLEN.out]; exact hlt))).2
            omega
          obtain ⟨b, off, cap, he, hbl, hcells⟩ := in_open HIN.out (by rw [HLEN.out]; omega)
          rw [HLEN.out] at he hcells
          cases he
          have h1 : wr.cell? ⟨b, off + k, none⟩ = some (.int .i64 (q : Int)) := by
            rw [SB.out.cell (p := ⟨b, off + k, none⟩) hbl, hcells k hlt, hq]
          have h3 := SM.out.cell hqn
          have h4 := SM.out.frozen q
          have hS1 : Hid (Marks (wr.setCell ⟨w.heap.size + 1, q, none⟩ (.bool true)) (w.heap.size + 1) n (prv ++ lst.take (k + 1))) := Wc.hid (by
            rw [take_snoc lst k (by rw [HLEN.out]; exact hlt), hq, ← List.append_assoc]
            exact SM.out.set q)
          have hC1 : Hid (g < (wr.setCell ⟨w.heap.size + 1, q, none⟩ (.bool true)).heap.size ∧ ∀ i, i < 5 → (wr.setCell ⟨w.heap.size + 1, q, none⟩ (.bool true)).cell? ⟨g, i, none⟩ = some (if i < 4 then f i else .slice am nm cm)) := Wc.hid ⟨by simpa using SC.out.1, fun i hi => by
            rw [← SC.out.2 i hi]
            unfold World.cell?
            rw [heap_setCell_other _ _ _ _ (show g ≠ w.heap.size + 1 by have := HG.out; omega)]⟩
          have hB1 := Wc.hid (SB.out.setCell (p := ⟨w.heap.size + 1, q, none⟩) (show w.heap.size ≤ w.heap.size + 1 by omega) (.bool true))
          clear hq hbl hcells
          go_wp2_with fail
          go_roundw
          case rel => exact ⟨k + 1, by go_num, by omega, hS1, hC1, hB1⟩
          case measure => simp [intOf]; omega
        · obtain rfl : k = nj := by omega
          have hall : lst.take k = lst := List.take_of_length_le (by rw [HLEN.out]; exact Nat.le_refl _)
          rw [hall] at SM
          clear hall
          go_wp2_with fail
          go_roundw
          case rel => exact ⟨j + 1, by go_num, by omega, by rw [HNEXT.out]; exact SM, SC, SB⟩
          case measure => simp [intOf]; omega
    · obtain rfl : j = 5 := by omega
      go_wp2_with fail
      go_ret
      exact ⟨_, rfl, RM.out, RB.out⟩

set_option maxRecDepth 100000 in
set_option maxHeartbeats 6400000 in
theorem usable_any (a : Option Addr) (nf cf g n : Nat) (F l : List Int) (w : World) (hv : Wd.In w (.slice a nf cf) F) (hM : Marks w g n l) :
    Calls Try.prog 30 #[.slice a nf cf, .slice (some ⟨g, 0, none⟩) n n] w fun e w' => e = .returned (.bool (Wb.usB F l n)) ∧ w = w' := by
  have HV := Wc.hid hv
  have HL := Wc.hid (Wv.rv_len hv)
  have HM := Wc.hid hM
  have hnf : nf ≤ 17592186044416 := by obtain ⟨_, _, _, h1, _, _, _, h5, _⟩ := hv; cases h1; exact h5
  clear hv hM
  go_enter Try.func30, Try.ntmps30
  go_wp2_with fail
  go_loopw [5, 10] (fun z u wr => ∃ k : Nat, u = .int .i64 k ∧ z = .int .i64 (Wb.pre F k) ∧ k ≤ nf ∧ Hid (∀ j, j < k → Wb.usj F l n j = true) ∧ w = wr) (fun _ u _ => nf - (intOf u).toNat)
  case atStart => exact ⟨0, rfl, rfl, Nat.zero_le _, fun j h => by omega, rfl⟩
  case round =>
    obtain ⟨k, rfl, rfl, hk, HZ, rfl⟩ := hrel
    by_cases hlt : k < nf
    · obtain ⟨b, off, cap, he, hbl, hcells⟩ := in_open HV.out (by rw [HL.out]; omega)
      rw [HL.out] at he hcells
      cases he
      have h1 := hcells k hlt
      have hj : Wb.usj F l n k = (decide (Wb.pre F k < F.getD k 0) && decide (F.getD k 0 < (n : Int)) && !decide (F.getD k 0 ∈ l)) := rfl
      have hp : Wb.pre F (k + 1) = F.getD k 0 := by unfold Wb.pre; rw [if_neg (by omega), Nat.add_sub_cancel]
      have hlow : ∀ x, Wb.pre F k < x → 0 ≤ x := by
        intro x hx
        have := Wb.usj_low k HZ.out
        omega
      obtain ⟨x, hx⟩ : ∃ x, F.getD k 0 = x := ⟨_, rfl⟩
      obtain ⟨z, hz⟩ : ∃ z, Wb.pre F k = z := ⟨_, rfl⟩
      rw [hx, hz] at hj
      rw [hx] at h1 hp
      rw [hz] at hlow ⊢
      have HP := Wc.hid hp
      have HJ := Wc.hid hj
      clear hx hz hcells hp hj
      by_cases c1 : x ≤ z
      · have hno := Wc.hid (Wb.usB_no (by rw [HL.out]; exact hlt) (HJ.out.trans (by rw [decide_eq_false (by omega)]; rfl)))
        clear hlow
        go_wp2_with fail
        go_ret
        exact ⟨by rw [hno.out]; rfl, rfl⟩
      · by_cases c2 : (n : Int) ≤ x
        · have hno := Wc.hid (Wb.usB_no (by rw [HL.out]; exact hlt) (HJ.out.trans (by rw [decide_eq_false (show ¬ x < (n : Int) by omega), Bool.and_false]; rfl)))
          clear hlow
          go_wp2_with fail
          go_ret
          exact ⟨by rw [hno.out]; rfl, rfl⟩
        · obtain ⟨q, rfl⟩ : ∃ q : Nat, x = q := ⟨x.toNat, by have := hlow x (by omega); omega⟩
          have hqn : q < n := by omega
          have h3 := HM.out.cell hqn
          cases hd : decide ((q : Int) ∈ l)
          · rw [hd] at h3
            have hyes : Hid (Wb.usj F l n k = true) := Wc.hid (HJ.out.trans (by simp [show z < (q : Int) by omega, hqn, of_decide_eq_false hd]))
            clear hlow hd
            go_wp2_with fail
            go_roundw
            case rel => exact ⟨k + 1, by go_num, by rw [HP.out], by omega, fun j hj => by
              by_cases hjk : j = k
              · subst hjk; exact hyes.out
              · exact HZ.out j (by omega), trivial⟩
            case measure => simp [intOf]; omega
          · rw [hd] at h3
            have hno := Wc.hid (Wb.usB_no (by rw [HL.out]; exact hlt) (HJ.out.trans (by rw [hd]; simp)))
            clear hlow hd
            go_wp2_with fail
            go_ret
            exact ⟨by rw [hno.out]; rfl, rfl⟩
    · obtain rfl : k = nf := by omega
      have hyes := Wc.hid (Wb.usB_all (F := F) (l := l) (n := n) fun j hj => HZ.out j (by rw [HL.out] at hj; exact hj))
      go_wp2_with fail
      go_ret
      exact ⟨by rw [hyes.out]; rfl, rfl⟩
end Go.Proofs.Ytafpjnofccfmlaa
