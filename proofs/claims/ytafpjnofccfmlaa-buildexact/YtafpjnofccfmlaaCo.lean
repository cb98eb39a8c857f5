/-
  What the statements' own Some and has return.
-/
import Derived.Test.YtafpjnofccfmlaaCn
namespace Wb
open Go Go.RowKit
/-- The slice value v holds pairs of ints. -/
def Pr (w : World) (v : Value) (l : List (Int × Int)) : Prop :=
  ∃ a n cap, v = .slice a n cap ∧ l.length = n ∧ n ≤ cap ∧ cap ≤ 9223372036854775807 ∧ n ≤ 1099511627776 ∧
    (0 < n → ∃ b off, a = some ⟨b, off, none⟩ ∧ b < w.heap.size ∧ ∀ i, i < n → w.cell? ⟨b, off + i * 2, none⟩ = some (.int .i64 (l.getD i (0, 0)).1) ∧ w.cell? ⟨b, off + i * 2 + 1, none⟩ = some (.int .i64 (l.getD i (0, 0)).2))
theorem Pr.keep {w w' : World} {v : Value} {l : List (Int × Int)} (h : Pr w v l) (hb : Below w.heap.size w w') : Pr w' v l := by
  obtain ⟨a, n, cap, h1, h2, h3, h4, h5, h6⟩ := h
  refine ⟨a, n, cap, h1, h2, h3, h4, h5, fun hn => ?_⟩
  obtain ⟨b, off, k1, k2, k3⟩ := h6 hn
  exact ⟨b, off, k1, Nat.lt_of_lt_of_le k2 hb.size, fun i hi => ⟨(hb.cell (p := ⟨b, off + i * 2, none⟩) k2).trans (k3 i hi).1, (hb.cell (p := ⟨b, off + i * 2 + 1, none⟩) k2).trans (k3 i hi).2⟩⟩
theorem pr_len {w : World} {a : Option Addr} {n cap : Nat} {l : List (Int × Int)} (h : Pr w (.slice a n cap) l) : l.length = n := by
  obtain ⟨_, _, _, h1, h2, _⟩ := h; cases h1; exact h2
/-- A map of which nothing is known but what it may be. -/
def Mp (m : List Int) (lo hi : Int) : Prop := m.length = 512 ∧ ∀ i, m.getD i 0 = 0 ∨ lo ≤ m.getD i 0 ∧ m.getD i 0 < hi
theorem Mp.zeros (lo hi : Int) : Mp (List.replicate 512 0) lo hi := ⟨List.length_replicate, fun i => by
  left; rw [List.getD_eq_getElem?_getD, List.getElem?_replicate]; split <;> rfl⟩
theorem Mp.set {m : List Int} {lo hi : Int} (h : Mp m lo hi) (A : Nat) {y : Int} (hy : y = 0 ∨ lo ≤ y ∧ y < hi) : Mp (m.set A y) lo hi := by
  refine ⟨by rw [List.length_set]; exact h.1, fun i => ?_⟩
  by_cases e : A = i
  · subst e
    by_cases hA : A < m.length
    · rw [List.getD_eq_getElem?_getD, List.getElem?_set_self hA]; exact hy
    · left; exact getD_out (by rw [List.length_set]; exact hA)
  · rw [List.getD_eq_getElem?_getD, List.getElem?_set_ne e, ← List.getD_eq_getElem?_getD]; exact h.2 i
theorem Mp.wide {m : List Int} {lo hi lo' hi' : Int} (h : Mp m lo hi) (h1 : lo' ≤ lo) (h2 : hi ≤ hi') : Mp m lo' hi' := ⟨h.1, fun i => by have := h.2 i; omega⟩
/-- A map whose first places have been turned already. -/
def Mj (j : Nat) (m : List Int) (lo hi lo' hi' : Int) : Prop := m.length = 512 ∧ (∀ i, i < j → m.getD i 0 = 0 ∨ lo' ≤ m.getD i 0 ∧ m.getD i 0 < hi') ∧ ∀ i, j ≤ i → m.getD i 0 = 0 ∨ lo ≤ m.getD i 0 ∧ m.getD i 0 < hi
theorem Mj.zero {m : List Int} {lo hi lo' hi' : Int} (h : Mp m lo hi) : Mj 0 m lo hi lo' hi' := ⟨h.1, fun i hi => by omega, fun i _ => h.2 i⟩
theorem Mj.done {m : List Int} {lo hi lo' hi' : Int} (h : Mj 512 m lo hi lo' hi') : Mp m lo' hi' := ⟨h.1, fun i => by
  by_cases hi : i < 512
  · exact h.2.1 i hi
  · left; exact getD_out (by rw [h.1]; exact hi)⟩
theorem Mj.skip {j : Nat} {m : List Int} {lo hi lo' hi' : Int} (h : Mj j m lo hi lo' hi') (h0 : m.getD j 0 = 0) : Mj (j + 1) m lo hi lo' hi' := ⟨h.1, fun i hi => by
  by_cases e : i = j
  · subst e; exact .inl h0
  · exact h.2.1 i (by omega), fun i hi => h.2.2 i (by omega)⟩
theorem Mj.step {j : Nat} {m : List Int} {lo hi lo' hi' : Int} (h : Mj j m lo hi lo' hi') {y : Int} (hy : lo' ≤ y ∧ y < hi') : Mj (j + 1) (m.set j y) lo hi lo' hi' := by
  have e : ∀ i, ¬ i = j → (m.set j y).getD i 0 = m.getD i 0 := fun i hi => by
    rw [List.getD_eq_getElem?_getD, List.getElem?_set_ne (by omega), ← List.getD_eq_getElem?_getD]
  refine ⟨by rw [List.length_set]; exact h.1, fun i hi => ?_, fun i hi => by rw [e i (by omega)]; exact h.2.2 i (by omega)⟩
  by_cases e2 : i = j
  · subst e2
    by_cases hA : i < m.length
    · rw [List.getD_eq_getElem?_getD, List.getElem?_set_self hA]; exact .inr hy
    · left; exact getD_out (by rw [List.length_set]; exact hA)
  · rw [e i e2]; exact h.2.1 i (by omega)
end Wb
namespace Go.Proofs.Ytafpjnofccfmlaa
open Go.RowKit

theorem wrap_wrap (z : Int) : IntKind.i64.wrap z = wrap64 z := by rw [IntKind.wrap_i64]; unfold wrap64; omega
theorem made_ov (k : Nat) (hk : k ≤ 17592186044416) (w : World) : Wv.Ov (Value.int .i64) 3 w.heap.size (w.alloc (.cells (madeCells #[.int .i64 0] k) 3)) (.slice (some ⟨w.heap.size, 0, none⟩) k k) (List.replicate k 0) := by
  refine ⟨⟨by simp, .inr ⟨w.heap.size, k, madeCells #[Value.int .i64 0] k, by simp, Nat.le_refl _, (by show (w.heap.push _)[_]? = _; simp), by simp, by unfold maxLen; omega, ?_, ?_⟩⟩, by simpa using hk⟩
  · rw [← Array.length_toList, made_ints]; simp
  · rw [made_ints]; simp
theorem makeI (k : Nat) (hk : k ≤ 17592186044416) (w : World) : (Instr.makeSlice 23 (.int .i64 (k : Int)) (.int .i64 (k : Int))).run Try.prog w = .ok (.slice (some ⟨w.heap.size, 0, none⟩) k k) (w.alloc (.cells (madeCells #[.int .i64 0] k) 3)) :=
  run_make_row' (P := Try.prog) 23 3 (.int .i64 0) 8 Try.underlying23 Try.infoI rfl .i64 .i64 k (by omega) (by omega) w
theorem ov_cell {base g n k : Nat} {w : World} {xs : List Int} (h : Wv.Ov (Value.int .i64) 3 base w (.slice (some ⟨g, 0, none⟩) n k) xs) {i : Nat} (hi : i < n) : w.cell? ⟨g, i, none⟩ = some (.int .i64 (xs.getD i 0)) := by
  have := (Wv.rv_cells (h.rv (d := (0 : Int))) (by omega)).2 i hi
  rwa [Nat.zero_add] at this

set_option maxRecDepth 100000 in
set_option maxHeartbeats 3200000 in
theorem has_any (a : Option Addr) (n cap : Nat) (l : List Int) (x : Int) (w : World) (hv : Wd.In w (.slice a n cap) l) :
    Calls Try.prog 25 #[.slice a n cap, .int .i64 x] w fun e w' => e = .returned (.bool (decide (x ∈ l))) ∧ w = w' := by
  have HV := Wc.hid hv
  have HL := Wc.hid (Wv.rv_len hv)
  have hn : n ≤ 17592186044416 := by obtain ⟨_, _, _, h1, _, _, _, h5, _⟩ := hv; cases h1; exact h5
  clear hv
  go_enter Try.func25, Try.ntmps25
  go_wp2_with fail
  go_loop [5] (fun i => ∃ k : Nat, i = .int .i64 k ∧ k ≤ n ∧ Hid (∀ j, j < k → ¬ l.getD j 0 = x)) (fun i => n - (intOf i).toNat)
  case atStart => exact ⟨0, rfl, by omega, fun j h => by omega⟩
  case round =>
    obtain ⟨k, rfl, hk, HZ⟩ := hrel
    by_cases hlt : k < n
    · obtain ⟨b, off, cap', he, hbl, hcells⟩ := in_open HV.out (by rw [HL.out]; omega)
      rw [HL.out] at he hcells
      cases he
      have h1 := hcells k hlt
      have hmem : l.getD k 0 ∈ l := Wb.getD_in (by rw [HL.out]; exact hlt)
      obtain ⟨y, hy⟩ : ∃ y, l.getD k 0 = y := ⟨_, rfl⟩
      rw [hy] at h1 hmem
      have HY := Wc.hid hy
      have HM := Wc.hid hmem
      clear hcells hy hmem
      by_cases he : y = x
      · have hq : (y == x) = true := by simpa using he
        have HE := Wc.hid he
        clear he
        go_wp2_with fail
        go_ret
        refine ⟨ret_bool ?_, rfl⟩
        rw [← HE.out]
        exact (decide_eq_true HM.out).symm
      · have hq : (y == x) = false := by simpa using he
        have HE := Wc.hid he
        clear he
        go_wp2_with fail
        go_round
        case rel => exact ⟨k + 1, by go_num, by omega, fun j hj => by
          by_cases hjk : j = k
          · subst hjk; rw [HY.out]; exact HE.out
          · exact HZ.out j (by omega)⟩
        case measure => simp [intOf]; omega
    · obtain rfl : k = n := by omega
      go_wp2_with fail
      go_ret
      refine ⟨ret_bool ?_, rfl⟩
      symm
      rw [decide_eq_false_iff_not]
      intro h
      obtain ⟨j, hj, e⟩ := Wb.in_getD h
      rw [HL.out] at hj
      exact HZ.out j hj e

set_option maxRecDepth 100000 in
set_option maxHeartbeats 6400000 in
theorem some_any (a : Option Addr) (n cap B : Nat) (l : List (Int × Int)) (w : World) (hv : Wb.Pr w (.slice a n cap) l) (hB : 3 ≤ B ∧ B ≤ 4096) :
    Calls Try.prog 21 #[.slice a n cap, .int .i64 B] w fun e w' => ∃ g m, e = .returned (.slice (some ⟨g, 0, none⟩) 512 512) ∧ Wv.Ov (Value.int .i64) 3 w.heap.size w' (.slice (some ⟨g, 0, none⟩) 512 512) m ∧ Wb.Mp m 2 B ∧ w.heap.size ≤ g ∧ Below w.heap.size w w' := by
  have HV := Wc.hid hv
  have hmk : ∀ w : World, (Instr.makeSlice 23 (.int .i64 512) (.int .i64 512)).run Try.prog w = .ok (.slice (some ⟨w.heap.size, 0, none⟩) 512 512) (w.alloc (.cells (madeCells #[.int .i64 0] 512) 3)) := fun w => makeI 512 (by omega) w
  have HO := Wc.hid (made_ov 512 (by omega) w)
  have HB := Wc.hid ((Below.refl w.heap.size w).alloc (Nat.le_refl _) (.cells (madeCells #[.int .i64 0] 512) 3))
  have hn : n ≤ 1099511627776 := by obtain ⟨_, _, _, h1, _, _, _, h5, _⟩ := hv; cases h1; exact h5
  clear hv
  go_enter Try.func21, Try.ntmps21
  go_wp2_with fail
  go_loopw [6] (fun u wr => ∃ (k : Nat) (m : List Int), u = .int .i64 k ∧ k ≤ n ∧ Hid (Wv.Ov (Value.int .i64) 3 w.heap.size wr (.slice (some ⟨w.heap.size, 0, none⟩) 512 512) m) ∧ Hid (Wb.Mp m 2 B) ∧ Hid (Below w.heap.size w wr)) (fun u _ => n - (intOf u).toNat)
  case atStart => exact ⟨0, _, rfl, Nat.zero_le _, HO, Wc.hid (Wb.Mp.zeros _ _), HB⟩
  case round =>
    obtain ⟨k, m, rfl, hk, RO, RM, RB⟩ := hrel
    have hB2 : (2 : Int) < (B : Int) := by omega
    by_cases hlt : k < n
    · obtain ⟨_, _, _, he, -, hnc, hcc, -, hpos⟩ := HV.out
      cases he
      obtain ⟨b, off, rfl, hbl, hcells⟩ := hpos (by omega)
      obtain ⟨h1, h2⟩ := hcells k hlt
      obtain ⟨x, hx⟩ : ∃ x, (l.getD k (0, 0)).1 = x := ⟨_, rfl⟩
      obtain ⟨y, hy⟩ : ∃ y, (l.getD k (0, 0)).2 = y := ⟨_, rfl⟩
      rw [hx, ← RB.out.cell (p := ⟨b, off + k * 2, none⟩) hbl] at h1
      rw [hy, ← RB.out.cell (p := ⟨b, off + k * 2 + 1, none⟩) hbl] at h2
      obtain ⟨A, hA, eA⟩ := lowN x 512 (by omega) (by omega)
      obtain ⟨C, hC, eC⟩ := lowN y (B - 2) (by omega) (by omega)
      have hcA := ov_cell RO.out hA
      have hfA := ov_frozen A RO.out
      have HO2 := Wc.hid (ov_set A RO.out ((2 : Int) + C))
      have HM2 := Wc.hid (RM.out.set A (y := (2 : Int) + C) (.inr ⟨by omega, by omega⟩))
      have HB2 := Wc.hid (RB.out.setCell (p := ⟨w.heap.size, A, none⟩) (Nat.le_refl _) (.int .i64 ((2 : Int) + C)))
      clear hpos hcells hx hy
      have eC : wrap64 ((IntKind.u64.wrap y).tmod ((B : Int) - 2)) = (C : Int) := by rw [← eC]; congr 2; omega
      have hw1 : IntKind.u64.wrap ((B : Int) - 2) = (B : Int) - 2 := by rw [IntKind.wrap_u64]; omega
      have hne : ¬ ((B : Int) - 2) = 0 := by omega
      have eA2 : IntKind.i64.wrap ((IntKind.u64.wrap x).tmod 512) = (A : Int) := (wrap_wrap _).trans eA
      have eC2 : IntKind.i64.wrap ((IntKind.u64.wrap y).tmod ((B : Int) - 2)) = (C : Int) := (wrap_wrap _).trans eC
      go_wp2_with fail
      go_region
      all_goals (
        go_wp2_with fail
        go_roundw
        case rel => exact ⟨k + 1, _, by go_num, by omega, Wc.hid (HO2.out.keep (show_drew (Below.refl _ _))), HM2, Wc.hid (show_drew HB2.out)⟩
        case measure => simp [intOf]; omega)
    · obtain rfl : k = n := by omega
      go_wp2_with fail
      go_ret
      exact ⟨_, m, rfl, RO.out, RM.out, Nat.le_refl _, RB.out⟩
end Go.Proofs.Ytafpjnofccfmlaa
