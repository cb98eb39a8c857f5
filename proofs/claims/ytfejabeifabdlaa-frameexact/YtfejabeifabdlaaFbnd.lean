/-
  FrameBounds returns true, for all numbers.
-/
import Derived.Test.YtfejabeifabdlaaFwake
import Derived.Deep.Cut
namespace Go.Proofs.Ytfejabeifabdlaa
open Go.RowKit

theorem check9_is (c : Wk.Cmd) (n : Nat) (e : Int) (a : Option Addr) (cap : Nat) (w : World) (hn : c.data.length = n) (hl : n ≤ 140737488355328) (hc : Wk.Held c) (he : Wk.cmdE c = e) :
    Calls Try.prog 18 #[cv c (.slice a n cap)] w fun r w' => r = .returned (.int .i64 e) ∧ Below w.heap.size w w' := by
  subst hn he
  exact check9_any c a cap w hl hc

theorem chAt {w : World} {c : Wk.Cmd} {v : Value} (g : Nat) (hg : g = w.heap.size) : Wk.Ch (w.alloc (.cells #[.int .i64 c.kind, .int .i64 c.id, .int .i64 c.parent, .int .i64 c.size, .int .i64 c.start, .int .i64 c.count, .int .i64 c.source, .int .i64 c.digest, v] 24)) g c v := by
  subst hg; exact Wk.Ch.new w c v

theorem chAl {w : World} {R : Nat} {c : Wk.Cmd} {v : Value} (h : Wk.Ch w R c v) (o : Obj) : Wk.Ch (w.alloc o) R c v := h.keep ((Below.refl _ _).alloc (Nat.le_refl _) o)

theorem makeN (k : Nat) (hk : k ≤ 140737488355328) (w : World) : (Instr.makeSlice 22 (.int .i64 (k : Int)) (.int .i64 (k : Int))).run Try.prog w = .ok (.slice (some ⟨w.heap.size, 0, none⟩) k k) (w.alloc (.cells (madeCells #[.int .u8 0] k) 5)) :=
  run_make_row' (P := Try.prog) 22 5 (.int .u8 0) 1 Try.underlying22 Try.infoU8 rfl .i64 .i64 k (by omega) (by omega) w

theorem held_of (c : Wk.Cmd) (h : (0 ≤ c.kind ∧ c.kind ≤ 600) ∧ (0 ≤ c.id ∧ c.id ≤ 600) ∧ (0 ≤ c.parent ∧ c.parent ≤ 600) ∧ (0 ≤ c.size ∧ c.size ≤ 600) ∧ (0 ≤ c.start ∧ c.start ≤ 600) ∧ (0 ≤ c.count ∧ c.count ≤ 600) ∧ (0 ≤ c.source ∧ c.source ≤ 600) ∧ (0 ≤ c.digest ∧ c.digest ≤ 600)) : Wk.Held c := by
  unfold Wk.Held Wk.I64; omega

theorem cmd_is {c : Wk.Cmd} (h : Wk.Right c) : Wk.cmdE c = 0 := Wk.cmdE_yes (Wk.cmdB_iff.2 h)
theorem cmd_no {c : Wk.Cmd} (h : ¬ Wk.Right c) : Wk.cmdE c = 1 := Wk.cmdE_no (by rw [Bool.eq_false_iff]; exact fun h' => h (Wk.cmdB_iff.1 h'))

set_option maxHeartbeats 1600000 in
theorem bounds_core (f g : Int) (w : World) (A M e1 e3 : Int) (K J : Nat) (mb : Bool) (hA : 0 ≤ A ∧ A < 513) (hM : 0 ≤ M ∧ M < 20) (eA : wrap64 ((IntKind.u64.wrap f).tmod 513) = A) (eM : wrap64 ((IntKind.u64.wrap g).tmod 20) = M)
   (hK : M * 64 = (K : Int)) (hJ : (K : Int) + 1 = (J : Int)) (hcase : (mb = false ∧ (M = 0 ∨ 512 < A + M) ∧ e1 = 1 ∧ e3 = 1) ∨ (mb = true ∧ 1 ≤ M ∧ A + M ≤ 512 ∧ M ≤ 8 ∧ e1 = 0 ∧ e3 = 0) ∨ (mb = true ∧ 1 ≤ M ∧ A + M ≤ 512 ∧ 8 < M ∧ e1 = 0 ∧ e3 = 1)) :
    Calls Try.prog 6 #[.int .i64 f, .int .i64 g] w fun e w' => e = .returned (.bool true) ∧ Below w.heap.size w w' := by
  have E1 : Hid (Wk.cmdE ⟨3, 0, 0, 0, A, M, 0, 0, []⟩ = e1) := Wc.hid (by
    rcases hcase with h | h | h
    · rw [h.2.2.1]; exact cmd_no (by simp [Wk.Right]; omega)
    · rw [h.2.2.2.2.1]; exact cmd_is (by simp [Wk.Right]; omega)
    · rw [h.2.2.2.2.1]; exact cmd_is (by simp [Wk.Right]; omega))
  have E2 : Hid (Wk.cmdE ⟨4, 0, 0, 0, 0, M, A, 0, []⟩ = e1) := Wc.hid (by
    rcases hcase with h | h | h
    · rw [h.2.2.1]; exact cmd_no (by simp [Wk.Right]; omega)
    · rw [h.2.2.2.2.1]; exact cmd_is (by simp [Wk.Right]; omega)
    · rw [h.2.2.2.2.1]; exact cmd_is (by simp [Wk.Right]; omega))
  have E3 : Hid (Wk.cmdE ⟨2, 0, 0, 0, A, 0, 0, 0, (List.replicate K 0)⟩ = e3) := Wc.hid (by
    rcases hcase with h | h | h
    · rw [h.2.2.2]; exact cmd_no (by simp [Wk.Right]; omega)
    · rw [h.2.2.2.2.2]; exact cmd_is (by simp [Wk.Right]; omega)
    · rw [h.2.2.2.2.2]; exact cmd_no (by simp [Wk.Right]; omega))
  have E4 : Hid (Wk.cmdE ⟨2, 0, 0, 0, 0, 0, 0, 0, (List.replicate J 0)⟩ = 1) := Wc.hid (cmd_no (by simp [Wk.Right]; omega))
  have E5 : Hid (Wk.cmdE ⟨5, 0, 0, A, 0, 1, 0, 0, []⟩ = 1) := Wc.hid (cmd_no (by simp [Wk.Right]))
  have E6 : Hid (Wk.cmdE ⟨5, 0, 0, A, 0, 0, 0, 0, []⟩ = 0) := Wc.hid (cmd_is (by simp [Wk.Right]; omega))
  have E7 : Hid (Wk.cmdE ⟨5, 0, 0, (513 + M), 0, 0, 0, 0, []⟩ = 1) := Wc.hid (cmd_no (by simp [Wk.Right]; omega))
  have L1 : Hid (Wk.Held ⟨3, 0, 0, 0, A, M, 0, 0, []⟩) := Wc.hid (held_of _ (by simp; omega))
  have L2 : Hid (Wk.Held ⟨4, 0, 0, 0, 0, M, A, 0, []⟩) := Wc.hid (held_of _ (by simp; omega))
  have L3 : Hid (Wk.Held ⟨2, 0, 0, 0, A, 0, 0, 0, (List.replicate K 0)⟩) := Wc.hid (held_of _ (by simp; omega))
  have L4 : Hid (Wk.Held ⟨2, 0, 0, 0, 0, 0, 0, 0, (List.replicate J 0)⟩) := Wc.hid (held_of _ (by simp))
  have L5 : Hid (Wk.Held ⟨5, 0, 0, A, 0, 1, 0, 0, []⟩) := Wc.hid (held_of _ (by simp; omega))
  have L6 : Hid (Wk.Held ⟨5, 0, 0, A, 0, 0, 0, 0, []⟩) := Wc.hid (held_of _ (by simp; omega))
  have L7 : Hid (Wk.Held ⟨5, 0, 0, (513 + M), 0, 0, 0, 0, []⟩) := Wc.hid (held_of _ (by simp; omega))
  have HKL : Hid (K ≤ 140737488355328 ∧ J ≤ 140737488355328) := Wc.hid (by omega)
  have mk1 := makeN K HKL.out.1
  have mk2 := makeN J HKL.out.2
  have hmb : (decide (1 ≤ M) && decide (A + M ≤ 512)) = mb := by
    rcases hcase with h | h | h
    · rw [h.1, Bool.eq_false_iff]; simp; omega
    · rw [h.1]; simp; omega
    · rw [h.1]; simp; omega
  have C1 : Hid (Wk.Ch (((((((w.alloc (.cells #[.int .i64 3, .int .i64 0, .int .i64 0, .int .i64 0, .int .i64 A, .int .i64 M, .int .i64 0, .int .i64 0, .slice none 0 0] 24)).alloc (.cells #[.int .i64 4, .int .i64 0, .int .i64 0, .int .i64 0, .int .i64 0, .int .i64 M, .int .i64 A, .int .i64 0, .slice none 0 0] 24)).alloc (.cells (madeCells #[.int .u8 0] K) 5)).alloc (.cells #[.int .i64 2, .int .i64 0, .int .i64 0, .int .i64 0, .int .i64 A, .int .i64 0, .int .i64 0, .int .i64 0, .slice (some ⟨w.heap.size + 1 + 1, 0, none⟩) K K] 24)).alloc (.cells (madeCells #[.int .u8 0] J) 5)).alloc (.cells #[.int .i64 2, .int .i64 0, .int .i64 0, .int .i64 0, .int .i64 0, .int .i64 0, .int .i64 0, .int .i64 0, .slice (some ⟨w.heap.size + 1 + 1 + 1 + 1, 0, none⟩) J J] 24)).alloc (.cells #[.int .i64 5, .int .i64 0, .int .i64 0, .int .i64 A, .int .i64 0, .int .i64 1, .int .i64 0, .int .i64 0, .slice none 0 0] 24)) w.heap.size ⟨3, 0, 0, 0, A, M, 0, 0, []⟩ (.slice none 0 0)) := Wc.hid (by
    refine chAl ?_ _
    refine chAl ?_ _
    refine chAl ?_ _
    refine chAl ?_ _
    refine chAl ?_ _
    refine chAl ?_ _
    exact chAt (c := ⟨3, 0, 0, 0, A, M, 0, 0, []⟩) (v := .slice none 0 0) _ rfl)
  have C2 : Hid (Wk.Ch (((((((w.alloc (.cells #[.int .i64 3, .int .i64 0, .int .i64 0, .int .i64 0, .int .i64 A, .int .i64 M, .int .i64 0, .int .i64 0, .slice none 0 0] 24)).alloc (.cells #[.int .i64 4, .int .i64 0, .int .i64 0, .int .i64 0, .int .i64 0, .int .i64 M, .int .i64 A, .int .i64 0, .slice none 0 0] 24)).alloc (.cells (madeCells #[.int .u8 0] K) 5)).alloc (.cells #[.int .i64 2, .int .i64 0, .int .i64 0, .int .i64 0, .int .i64 A, .int .i64 0, .int .i64 0, .int .i64 0, .slice (some ⟨w.heap.size + 1 + 1, 0, none⟩) K K] 24)).alloc (.cells (madeCells #[.int .u8 0] J) 5)).alloc (.cells #[.int .i64 2, .int .i64 0, .int .i64 0, .int .i64 0, .int .i64 0, .int .i64 0, .int .i64 0, .int .i64 0, .slice (some ⟨w.heap.size + 1 + 1 + 1 + 1, 0, none⟩) J J] 24)).alloc (.cells #[.int .i64 5, .int .i64 0, .int .i64 0, .int .i64 A, .int .i64 0, .int .i64 1, .int .i64 0, .int .i64 0, .slice none 0 0] 24)) (w.heap.size + 1) ⟨4, 0, 0, 0, 0, M, A, 0, []⟩ (.slice none 0 0)) := Wc.hid (by
    refine chAl ?_ _
    refine chAl ?_ _
    refine chAl ?_ _
    refine chAl ?_ _
    refine chAl ?_ _
    exact chAt (c := ⟨4, 0, 0, 0, 0, M, A, 0, []⟩) (v := .slice none 0 0) _ (by simp))
  have C3 : Hid (Wk.Ch (((((((w.alloc (.cells #[.int .i64 3, .int .i64 0, .int .i64 0, .int .i64 0, .int .i64 A, .int .i64 M, .int .i64 0, .int .i64 0, .slice none 0 0] 24)).alloc (.cells #[.int .i64 4, .int .i64 0, .int .i64 0, .int .i64 0, .int .i64 0, .int .i64 M, .int .i64 A, .int .i64 0, .slice none 0 0] 24)).alloc (.cells (madeCells #[.int .u8 0] K) 5)).alloc (.cells #[.int .i64 2, .int .i64 0, .int .i64 0, .int .i64 0, .int .i64 A, .int .i64 0, .int .i64 0, .int .i64 0, .slice (some ⟨w.heap.size + 1 + 1, 0, none⟩) K K] 24)).alloc (.cells (madeCells #[.int .u8 0] J) 5)).alloc (.cells #[.int .i64 2, .int .i64 0, .int .i64 0, .int .i64 0, .int .i64 0, .int .i64 0, .int .i64 0, .int .i64 0, .slice (some ⟨w.heap.size + 1 + 1 + 1 + 1, 0, none⟩) J J] 24)).alloc (.cells #[.int .i64 5, .int .i64 0, .int .i64 0, .int .i64 A, .int .i64 0, .int .i64 1, .int .i64 0, .int .i64 0, .slice none 0 0] 24)) (w.heap.size + 1 + 1 + 1) ⟨2, 0, 0, 0, A, 0, 0, 0, (List.replicate K 0)⟩ (.slice (some ⟨w.heap.size + 1 + 1, 0, none⟩) K K)) := Wc.hid (by
    refine chAl ?_ _
    refine chAl ?_ _
    refine chAl ?_ _
    exact chAt (c := ⟨2, 0, 0, 0, A, 0, 0, 0, (List.replicate K 0)⟩) (v := .slice (some ⟨w.heap.size + 1 + 1, 0, none⟩) K K) _ (by simp))
  have C4 : Hid (Wk.Ch (((((((w.alloc (.cells #[.int .i64 3, .int .i64 0, .int .i64 0, .int .i64 0, .int .i64 A, .int .i64 M, .int .i64 0, .int .i64 0, .slice none 0 0] 24)).alloc (.cells #[.int .i64 4, .int .i64 0, .int .i64 0, .int .i64 0, .int .i64 0, .int .i64 M, .int .i64 A, .int .i64 0, .slice none 0 0] 24)).alloc (.cells (madeCells #[.int .u8 0] K) 5)).alloc (.cells #[.int .i64 2, .int .i64 0, .int .i64 0, .int .i64 0, .int .i64 A, .int .i64 0, .int .i64 0, .int .i64 0, .slice (some ⟨w.heap.size + 1 + 1, 0, none⟩) K K] 24)).alloc (.cells (madeCells #[.int .u8 0] J) 5)).alloc (.cells #[.int .i64 2, .int .i64 0, .int .i64 0, .int .i64 0, .int .i64 0, .int .i64 0, .int .i64 0, .int .i64 0, .slice (some ⟨w.heap.size + 1 + 1 + 1 + 1, 0, none⟩) J J] 24)).alloc (.cells #[.int .i64 5, .int .i64 0, .int .i64 0, .int .i64 A, .int .i64 0, .int .i64 1, .int .i64 0, .int .i64 0, .slice none 0 0] 24)) (w.heap.size + 1 + 1 + 1 + 1 + 1) ⟨2, 0, 0, 0, 0, 0, 0, 0, (List.replicate J 0)⟩ (.slice (some ⟨w.heap.size + 1 + 1 + 1 + 1, 0, none⟩) J J)) := Wc.hid (by
    refine chAl ?_ _
    exact chAt (c := ⟨2, 0, 0, 0, 0, 0, 0, 0, (List.replicate J 0)⟩) (v := .slice (some ⟨w.heap.size + 1 + 1 + 1 + 1, 0, none⟩) J J) _ (by simp))
  have C5 : Hid (Wk.Ch (((((((w.alloc (.cells #[.int .i64 3, .int .i64 0, .int .i64 0, .int .i64 0, .int .i64 A, .int .i64 M, .int .i64 0, .int .i64 0, .slice none 0 0] 24)).alloc (.cells #[.int .i64 4, .int .i64 0, .int .i64 0, .int .i64 0, .int .i64 0, .int .i64 M, .int .i64 A, .int .i64 0, .slice none 0 0] 24)).alloc (.cells (madeCells #[.int .u8 0] K) 5)).alloc (.cells #[.int .i64 2, .int .i64 0, .int .i64 0, .int .i64 0, .int .i64 A, .int .i64 0, .int .i64 0, .int .i64 0, .slice (some ⟨w.heap.size + 1 + 1, 0, none⟩) K K] 24)).alloc (.cells (madeCells #[.int .u8 0] J) 5)).alloc (.cells #[.int .i64 2, .int .i64 0, .int .i64 0, .int .i64 0, .int .i64 0, .int .i64 0, .int .i64 0, .int .i64 0, .slice (some ⟨w.heap.size + 1 + 1 + 1 + 1, 0, none⟩) J J] 24)).alloc (.cells #[.int .i64 5, .int .i64 0, .int .i64 0, .int .i64 A, .int .i64 0, .int .i64 1, .int .i64 0, .int .i64 0, .slice none 0 0] 24)) (w.heap.size + 1 + 1 + 1 + 1 + 1 + 1) ⟨5, 0, 0, A, 0, 1, 0, 0, []⟩ (.slice none 0 0)) := Wc.hid (by
    exact chAt (c := ⟨5, 0, 0, A, 0, 1, 0, 0, []⟩) (v := .slice none 0 0) _ (by simp))
  have B0 : Hid (Below w.heap.size w (((((((w.alloc (.cells #[.int .i64 3, .int .i64 0, .int .i64 0, .int .i64 0, .int .i64 A, .int .i64 M, .int .i64 0, .int .i64 0, .slice none 0 0] 24)).alloc (.cells #[.int .i64 4, .int .i64 0, .int .i64 0, .int .i64 0, .int .i64 0, .int .i64 M, .int .i64 A, .int .i64 0, .slice none 0 0] 24)).alloc (.cells (madeCells #[.int .u8 0] K) 5)).alloc (.cells #[.int .i64 2, .int .i64 0, .int .i64 0, .int .i64 0, .int .i64 A, .int .i64 0, .int .i64 0, .int .i64 0, .slice (some ⟨w.heap.size + 1 + 1, 0, none⟩) K K] 24)).alloc (.cells (madeCells #[.int .u8 0] J) 5)).alloc (.cells #[.int .i64 2, .int .i64 0, .int .i64 0, .int .i64 0, .int .i64 0, .int .i64 0, .int .i64 0, .int .i64 0, .slice (some ⟨w.heap.size + 1 + 1 + 1 + 1, 0, none⟩) J J] 24)).alloc (.cells #[.int .i64 5, .int .i64 0, .int .i64 0, .int .i64 A, .int .i64 0, .int .i64 1, .int .i64 0, .int .i64 0, .slice none 0 0] 24))) := Wc.hid (((((((((Below.refl w.heap.size w).alloc (Nat.le_refl _) _).alloc (by simp) _).alloc (by simp; omega) _).alloc (by simp; omega) _).alloc (by simp; omega) _).alloc (by simp; omega) _).alloc (by simp; omega) _))
  go_enter Try.func6, Try.ntmps6
  go_upto_region 2 with fail
  rw [eA, eM]
  clear eA eM
  rcases hcase with ⟨rfl, h1, rfl, rfl⟩ | ⟨rfl, h1, h2, h3, rfl, rfl⟩ | ⟨rfl, h1, h2, h3, rfl, rfl⟩
  · by_cases h2 : 1 ≤ M
    · have h3 : ¬ A + M ≤ 512 := by omega
      clear h1 hmb
      go_wp2_with fail
      obtain ⟨W7, hW7⟩ : ∃ W7, (((((((w.alloc (.cells #[.int .i64 3, .int .i64 0, .int .i64 0, .int .i64 0, .int .i64 A, .int .i64 M, .int .i64 0, .int .i64 0, .slice none 0 0] 24)).alloc (.cells #[.int .i64 4, .int .i64 0, .int .i64 0, .int .i64 0, .int .i64 0, .int .i64 M, .int .i64 A, .int .i64 0, .slice none 0 0] 24)).alloc (.cells (madeCells #[.int .u8 0] K) 5)).alloc (.cells #[.int .i64 2, .int .i64 0, .int .i64 0, .int .i64 0, .int .i64 A, .int .i64 0, .int .i64 0, .int .i64 0, .slice (some ⟨w.heap.size + 1 + 1, 0, none⟩) K K] 24)).alloc (.cells (madeCells #[.int .u8 0] J) 5)).alloc (.cells #[.int .i64 2, .int .i64 0, .int .i64 0, .int .i64 0, .int .i64 0, .int .i64 0, .int .i64 0, .int .i64 0, .slice (some ⟨w.heap.size + 1 + 1 + 1 + 1, 0, none⟩) J J] 24)).alloc (.cells #[.int .i64 5, .int .i64 0, .int .i64 0, .int .i64 A, .int .i64 0, .int .i64 1, .int .i64 0, .int .i64 0, .slice none 0 0] 24)) = W7 := ⟨_, rfl⟩
      rw [hW7] at C1 C2 C3 C4 C5 B0 ⊢
      clear hW7 mk1 mk2
      refine (check9_is ⟨3, 0, 0, 0, A, M, 0, 0, []⟩ 0 _ none 0 _ rfl (by omega) L1.out E1.out).mono ?_
      rintro e w0 ⟨rfl, hb⟩
      have B1 := Wc.hid (Wc.step B0.out (Nat.le_refl _) hb)
      have C2' := Wc.hid (C2.out.keep hb)
      have C3' := Wc.hid (C3.out.keep hb)
      have C4' := Wc.hid (C4.out.keep hb)
      have C5' := Wc.hid (C5.out.keep hb)
      clear hb C2 C3 C4 C5 C1
      have C2 := C2'
      have C3 := C3'
      have C4 := C4'
      have C5 := C5'
      clear C2' C3' C4' C5'
      have ⟨d0, d1, d2, d3, d4, d5, d6, d7, d8⟩ := C2.out.cc
      go_wp2_with fail
      clear d0 d1 d2 d3 d4 d5 d6 d7 d8
      refine (check9_is ⟨4, 0, 0, 0, 0, M, A, 0, []⟩ 0 _ none 0 _ rfl (by omega) L2.out E2.out).mono ?_
      rintro e w1 ⟨rfl, hb⟩
      have B2 := Wc.hid (Wc.step B1.out (Nat.le_refl _) hb)
      have C3' := Wc.hid (C3.out.keep hb)
      have C4' := Wc.hid (C4.out.keep hb)
      have C5' := Wc.hid (C5.out.keep hb)
      clear hb C3 C4 C5 C2
      have C3 := C3'
      have C4 := C4'
      have C5 := C5'
      clear C3' C4' C5'
      have ⟨d0, d1, d2, d3, d4, d5, d6, d7, d8⟩ := C3.out.cc
      go_wp2_with fail
      clear d0 d1 d2 d3 d4 d5 d6 d7 d8
      refine (check9_is ⟨2, 0, 0, 0, A, 0, 0, 0, (List.replicate K 0)⟩ K _ (some ⟨w.heap.size + 1 + 1, 0, none⟩) K _ List.length_replicate HKL.out.1 L3.out E3.out).mono ?_
      rintro e w2 ⟨rfl, hb⟩
      have B3 := Wc.hid (Wc.step B2.out (Nat.le_refl _) hb)
      have C4' := Wc.hid (C4.out.keep hb)
      have C5' := Wc.hid (C5.out.keep hb)
      clear hb C4 C5 C3
      have C4 := C4'
      have C5 := C5'
      clear C4' C5'
      have ⟨d0, d1, d2, d3, d4, d5, d6, d7, d8⟩ := C4.out.cc
      go_wp2_with fail
      clear d0 d1 d2 d3 d4 d5 d6 d7 d8
      refine (check9_is ⟨2, 0, 0, 0, 0, 0, 0, 0, (List.replicate J 0)⟩ J _ (some ⟨w.heap.size + 1 + 1 + 1 + 1, 0, none⟩) J _ List.length_replicate HKL.out.2 L4.out E4.out).mono ?_
      rintro e w3 ⟨rfl, hb⟩
      have B4 := Wc.hid (Wc.step B3.out (Nat.le_refl _) hb)
      have C5' := Wc.hid (C5.out.keep hb)
      clear hb C5 C4
      have C5 := C5'
      clear C5'
      have ⟨d0, d1, d2, d3, d4, d5, d6, d7, d8⟩ := C5.out.cc
      go_wp2_with fail
      clear d0 d1 d2 d3 d4 d5 d6 d7 d8
      refine (check9_is ⟨5, 0, 0, A, 0, 1, 0, 0, []⟩ 0 _ none 0 _ rfl (by omega) L5.out E5.out).mono ?_
      rintro e w4 ⟨rfl, hb⟩
      have B5 := Wc.hid (Wc.step B4.out (Nat.le_refl _) hb)
      clear hb C5
      go_wp2_with fail
      refine (check9_is ⟨5, 0, 0, A, 0, 0, 0, 0, []⟩ 0 _ none 0 _ rfl (by omega) L6.out E6.out).mono ?_
      rintro e w5 ⟨rfl, hb⟩
      have B6 := Wc.hid (Wc.step B5.out (Nat.le_refl _) hb)
      clear hb
      go_wp2_with fail
      refine (check9_is ⟨5, 0, 0, (513 + M), 0, 0, 0, 0, []⟩ 0 _ none 0 _ rfl (by omega) L7.out E7.out).mono ?_
      rintro e w6 ⟨rfl, hb⟩
      have B7 := Wc.hid (Wc.step B6.out (Nat.le_refl _) hb)
      clear hb
      go_wp2_with fail
      refine (wakes_any _).mono ?_
      rintro e wz ⟨rfl, hbz⟩
      go_wp2_with fail
      go_ret
      exact ⟨rfl, Wc.step B7.out (Nat.le_refl _) hbz⟩
    · clear h1 hmb
      go_wp2_with fail
      obtain ⟨W7, hW7⟩ : ∃ W7, (((((((w.alloc (.cells #[.int .i64 3, .int .i64 0, .int .i64 0, .int .i64 0, .int .i64 A, .int .i64 M, .int .i64 0, .int .i64 0, .slice none 0 0] 24)).alloc (.cells #[.int .i64 4, .int .i64 0, .int .i64 0, .int .i64 0, .int .i64 0, .int .i64 M, .int .i64 A, .int .i64 0, .slice none 0 0] 24)).alloc (.cells (madeCells #[.int .u8 0] K) 5)).alloc (.cells #[.int .i64 2, .int .i64 0, .int .i64 0, .int .i64 0, .int .i64 A, .int .i64 0, .int .i64 0, .int .i64 0, .slice (some ⟨w.heap.size + 1 + 1, 0, none⟩) K K] 24)).alloc (.cells (madeCells #[.int .u8 0] J) 5)).alloc (.cells #[.int .i64 2, .int .i64 0, .int .i64 0, .int .i64 0, .int .i64 0, .int .i64 0, .int .i64 0, .int .i64 0, .slice (some ⟨w.heap.size + 1 + 1 + 1 + 1, 0, none⟩) J J] 24)).alloc (.cells #[.int .i64 5, .int .i64 0, .int .i64 0, .int .i64 A, .int .i64 0, .int .i64 1, .int .i64 0, .int .i64 0, .slice none 0 0] 24)) = W7 := ⟨_, rfl⟩
      rw [hW7] at C1 C2 C3 C4 C5 B0 ⊢
      clear hW7 mk1 mk2
      refine (check9_is ⟨3, 0, 0, 0, A, M, 0, 0, []⟩ 0 _ none 0 _ rfl (by omega) L1.out E1.out).mono ?_
      rintro e w0 ⟨rfl, hb⟩
      have B1 := Wc.hid (Wc.step B0.out (Nat.le_refl _) hb)
      have C2' := Wc.hid (C2.out.keep hb)
      have C3' := Wc.hid (C3.out.keep hb)
      have C4' := Wc.hid (C4.out.keep hb)
      have C5' := Wc.hid (C5.out.keep hb)
      clear hb C2 C3 C4 C5 C1
      have C2 := C2'
      have C3 := C3'
      have C4 := C4'
      have C5 := C5'
      clear C2' C3' C4' C5'
      have ⟨d0, d1, d2, d3, d4, d5, d6, d7, d8⟩ := C2.out.cc
      go_wp2_with fail
      clear d0 d1 d2 d3 d4 d5 d6 d7 d8
      refine (check9_is ⟨4, 0, 0, 0, 0, M, A, 0, []⟩ 0 _ none 0 _ rfl (by omega) L2.out E2.out).mono ?_
      rintro e w1 ⟨rfl, hb⟩
      have B2 := Wc.hid (Wc.step B1.out (Nat.le_refl _) hb)
      have C3' := Wc.hid (C3.out.keep hb)
      have C4' := Wc.hid (C4.out.keep hb)
      have C5' := Wc.hid (C5.out.keep hb)
      clear hb C3 C4 C5 C2
      have C3 := C3'
      have C4 := C4'
      have C5 := C5'
      clear C3' C4' C5'
      have ⟨d0, d1, d2, d3, d4, d5, d6, d7, d8⟩ := C3.out.cc
      go_wp2_with fail
      clear d0 d1 d2 d3 d4 d5 d6 d7 d8
      refine (check9_is ⟨2, 0, 0, 0, A, 0, 0, 0, (List.replicate K 0)⟩ K _ (some ⟨w.heap.size + 1 + 1, 0, none⟩) K _ List.length_replicate HKL.out.1 L3.out E3.out).mono ?_
      rintro e w2 ⟨rfl, hb⟩
      have B3 := Wc.hid (Wc.step B2.out (Nat.le_refl _) hb)
      have C4' := Wc.hid (C4.out.keep hb)
      have C5' := Wc.hid (C5.out.keep hb)
      clear hb C4 C5 C3
      have C4 := C4'
      have C5 := C5'
      clear C4' C5'
      have ⟨d0, d1, d2, d3, d4, d5, d6, d7, d8⟩ := C4.out.cc
      go_wp2_with fail
      clear d0 d1 d2 d3 d4 d5 d6 d7 d8
      refine (check9_is ⟨2, 0, 0, 0, 0, 0, 0, 0, (List.replicate J 0)⟩ J _ (some ⟨w.heap.size + 1 + 1 + 1 + 1, 0, none⟩) J _ List.length_replicate HKL.out.2 L4.out E4.out).mono ?_
      rintro e w3 ⟨rfl, hb⟩
      have B4 := Wc.hid (Wc.step B3.out (Nat.le_refl _) hb)
      have C5' := Wc.hid (C5.out.keep hb)
      clear hb C5 C4
      have C5 := C5'
      clear C5'
      have ⟨d0, d1, d2, d3, d4, d5, d6, d7, d8⟩ := C5.out.cc
      go_wp2_with fail
      clear d0 d1 d2 d3 d4 d5 d6 d7 d8
      refine (check9_is ⟨5, 0, 0, A, 0, 1, 0, 0, []⟩ 0 _ none 0 _ rfl (by omega) L5.out E5.out).mono ?_
      rintro e w4 ⟨rfl, hb⟩
      have B5 := Wc.hid (Wc.step B4.out (Nat.le_refl _) hb)
      clear hb C5
      go_wp2_with fail
      refine (check9_is ⟨5, 0, 0, A, 0, 0, 0, 0, []⟩ 0 _ none 0 _ rfl (by omega) L6.out E6.out).mono ?_
      rintro e w5 ⟨rfl, hb⟩
      have B6 := Wc.hid (Wc.step B5.out (Nat.le_refl _) hb)
      clear hb
      go_wp2_with fail
      refine (check9_is ⟨5, 0, 0, (513 + M), 0, 0, 0, 0, []⟩ 0 _ none 0 _ rfl (by omega) L7.out E7.out).mono ?_
      rintro e w6 ⟨rfl, hb⟩
      have B7 := Wc.hid (Wc.step B6.out (Nat.le_refl _) hb)
      clear hb
      go_wp2_with fail
      refine (wakes_any _).mono ?_
      rintro e wz ⟨rfl, hbz⟩
      go_wp2_with fail
      go_ret
      exact ⟨rfl, Wc.step B7.out (Nat.le_refl _) hbz⟩
  · clear hmb
    go_wp2_with fail
    obtain ⟨W7, hW7⟩ : ∃ W7, (((((((w.alloc (.cells #[.int .i64 3, .int .i64 0, .int .i64 0, .int .i64 0, .int .i64 A, .int .i64 M, .int .i64 0, .int .i64 0, .slice none 0 0] 24)).alloc (.cells #[.int .i64 4, .int .i64 0, .int .i64 0, .int .i64 0, .int .i64 0, .int .i64 M, .int .i64 A, .int .i64 0, .slice none 0 0] 24)).alloc (.cells (madeCells #[.int .u8 0] K) 5)).alloc (.cells #[.int .i64 2, .int .i64 0, .int .i64 0, .int .i64 0, .int .i64 A, .int .i64 0, .int .i64 0, .int .i64 0, .slice (some ⟨w.heap.size + 1 + 1, 0, none⟩) K K] 24)).alloc (.cells (madeCells #[.int .u8 0] J) 5)).alloc (.cells #[.int .i64 2, .int .i64 0, .int .i64 0, .int .i64 0, .int .i64 0, .int .i64 0, .int .i64 0, .int .i64 0, .slice (some ⟨w.heap.size + 1 + 1 + 1 + 1, 0, none⟩) J J] 24)).alloc (.cells #[.int .i64 5, .int .i64 0, .int .i64 0, .int .i64 A, .int .i64 0, .int .i64 1, .int .i64 0, .int .i64 0, .slice none 0 0] 24)) = W7 := ⟨_, rfl⟩
    rw [hW7] at C1 C2 C3 C4 C5 B0 ⊢
    clear hW7 mk1 mk2
    refine (check9_is ⟨3, 0, 0, 0, A, M, 0, 0, []⟩ 0 _ none 0 _ rfl (by omega) L1.out E1.out).mono ?_
    rintro e w0 ⟨rfl, hb⟩
    have B1 := Wc.hid (Wc.step B0.out (Nat.le_refl _) hb)
    have C2' := Wc.hid (C2.out.keep hb)
    have C3' := Wc.hid (C3.out.keep hb)
    have C4' := Wc.hid (C4.out.keep hb)
    have C5' := Wc.hid (C5.out.keep hb)
    clear hb C2 C3 C4 C5 C1
    have C2 := C2'
    have C3 := C3'
    have C4 := C4'
    have C5 := C5'
    clear C2' C3' C4' C5'
    have ⟨d0, d1, d2, d3, d4, d5, d6, d7, d8⟩ := C2.out.cc
    go_wp2_with fail
    clear d0 d1 d2 d3 d4 d5 d6 d7 d8
    refine (check9_is ⟨4, 0, 0, 0, 0, M, A, 0, []⟩ 0 _ none 0 _ rfl (by omega) L2.out E2.out).mono ?_
    rintro e w1 ⟨rfl, hb⟩
    have B2 := Wc.hid (Wc.step B1.out (Nat.le_refl _) hb)
    have C3' := Wc.hid (C3.out.keep hb)
    have C4' := Wc.hid (C4.out.keep hb)
    have C5' := Wc.hid (C5.out.keep hb)
    clear hb C3 C4 C5 C2
    have C3 := C3'
    have C4 := C4'
    have C5 := C5'
    clear C3' C4' C5'
    have ⟨d0, d1, d2, d3, d4, d5, d6, d7, d8⟩ := C3.out.cc
    go_wp2_with fail
    clear d0 d1 d2 d3 d4 d5 d6 d7 d8
    refine (check9_is ⟨2, 0, 0, 0, A, 0, 0, 0, (List.replicate K 0)⟩ K _ (some ⟨w.heap.size + 1 + 1, 0, none⟩) K _ List.length_replicate HKL.out.1 L3.out E3.out).mono ?_
    rintro e w2 ⟨rfl, hb⟩
    have B3 := Wc.hid (Wc.step B2.out (Nat.le_refl _) hb)
    have C4' := Wc.hid (C4.out.keep hb)
    have C5' := Wc.hid (C5.out.keep hb)
    clear hb C4 C5 C3
    have C4 := C4'
    have C5 := C5'
    clear C4' C5'
    have ⟨d0, d1, d2, d3, d4, d5, d6, d7, d8⟩ := C4.out.cc
    go_wp2_with fail
    clear d0 d1 d2 d3 d4 d5 d6 d7 d8
    refine (check9_is ⟨2, 0, 0, 0, 0, 0, 0, 0, (List.replicate J 0)⟩ J _ (some ⟨w.heap.size + 1 + 1 + 1 + 1, 0, none⟩) J _ List.length_replicate HKL.out.2 L4.out E4.out).mono ?_
    rintro e w3 ⟨rfl, hb⟩
    have B4 := Wc.hid (Wc.step B3.out (Nat.le_refl _) hb)
    have C5' := Wc.hid (C5.out.keep hb)
    clear hb C5 C4
    have C5 := C5'
    clear C5'
    have ⟨d0, d1, d2, d3, d4, d5, d6, d7, d8⟩ := C5.out.cc
    go_wp2_with fail
    clear d0 d1 d2 d3 d4 d5 d6 d7 d8
    refine (check9_is ⟨5, 0, 0, A, 0, 1, 0, 0, []⟩ 0 _ none 0 _ rfl (by omega) L5.out E5.out).mono ?_
    rintro e w4 ⟨rfl, hb⟩
    have B5 := Wc.hid (Wc.step B4.out (Nat.le_refl _) hb)
    clear hb C5
    go_wp2_with fail
    refine (check9_is ⟨5, 0, 0, A, 0, 0, 0, 0, []⟩ 0 _ none 0 _ rfl (by omega) L6.out E6.out).mono ?_
    rintro e w5 ⟨rfl, hb⟩
    have B6 := Wc.hid (Wc.step B5.out (Nat.le_refl _) hb)
    clear hb
    go_wp2_with fail
    refine (check9_is ⟨5, 0, 0, (513 + M), 0, 0, 0, 0, []⟩ 0 _ none 0 _ rfl (by omega) L7.out E7.out).mono ?_
    rintro e w6 ⟨rfl, hb⟩
    have B7 := Wc.hid (Wc.step B6.out (Nat.le_refl _) hb)
    clear hb
    go_wp2_with fail
    refine (wakes_any _).mono ?_
    rintro e wz ⟨rfl, hbz⟩
    go_wp2_with fail
    go_ret
    exact ⟨rfl, Wc.step B7.out (Nat.le_refl _) hbz⟩
  · have h4 : decide (M ≤ 8) = false := by simp; omega
    clear hmb
    go_wp2_with fail
    obtain ⟨W7, hW7⟩ : ∃ W7, (((((((w.alloc (.cells #[.int .i64 3, .int .i64 0, .int .i64 0, .int .i64 0, .int .i64 A, .int .i64 M, .int .i64 0, .int .i64 0, .slice none 0 0] 24)).alloc (.cells #[.int .i64 4, .int .i64 0, .int .i64 0, .int .i64 0, .int .i64 0, .int .i64 M, .int .i64 A, .int .i64 0, .slice none 0 0] 24)).alloc (.cells (madeCells #[.int .u8 0] K) 5)).alloc (.cells #[.int .i64 2, .int .i64 0, .int .i64 0, .int .i64 0, .int .i64 A, .int .i64 0, .int .i64 0, .int .i64 0, .slice (some ⟨w.heap.size + 1 + 1, 0, none⟩) K K] 24)).alloc (.cells (madeCells #[.int .u8 0] J) 5)).alloc (.cells #[.int .i64 2, .int .i64 0, .int .i64 0, .int .i64 0, .int .i64 0, .int .i64 0, .int .i64 0, .int .i64 0, .slice (some ⟨w.heap.size + 1 + 1 + 1 + 1, 0, none⟩) J J] 24)).alloc (.cells #[.int .i64 5, .int .i64 0, .int .i64 0, .int .i64 A, .int .i64 0, .int .i64 1, .int .i64 0, .int .i64 0, .slice none 0 0] 24)) = W7 := ⟨_, rfl⟩
    rw [hW7] at C1 C2 C3 C4 C5 B0 ⊢
    clear hW7 mk1 mk2
    refine (check9_is ⟨3, 0, 0, 0, A, M, 0, 0, []⟩ 0 _ none 0 _ rfl (by omega) L1.out E1.out).mono ?_
    rintro e w0 ⟨rfl, hb⟩
    have B1 := Wc.hid (Wc.step B0.out (Nat.le_refl _) hb)
    have C2' := Wc.hid (C2.out.keep hb)
    have C3' := Wc.hid (C3.out.keep hb)
    have C4' := Wc.hid (C4.out.keep hb)
    have C5' := Wc.hid (C5.out.keep hb)
    clear hb C2 C3 C4 C5 C1
    have C2 := C2'
    have C3 := C3'
    have C4 := C4'
    have C5 := C5'
    clear C2' C3' C4' C5'
    have ⟨d0, d1, d2, d3, d4, d5, d6, d7, d8⟩ := C2.out.cc
    go_wp2_with fail
    clear d0 d1 d2 d3 d4 d5 d6 d7 d8
    refine (check9_is ⟨4, 0, 0, 0, 0, M, A, 0, []⟩ 0 _ none 0 _ rfl (by omega) L2.out E2.out).mono ?_
    rintro e w1 ⟨rfl, hb⟩
    have B2 := Wc.hid (Wc.step B1.out (Nat.le_refl _) hb)
    have C3' := Wc.hid (C3.out.keep hb)
    have C4' := Wc.hid (C4.out.keep hb)
    have C5' := Wc.hid (C5.out.keep hb)
    clear hb C3 C4 C5 C2
    have C3 := C3'
    have C4 := C4'
    have C5 := C5'
    clear C3' C4' C5'
    have ⟨d0, d1, d2, d3, d4, d5, d6, d7, d8⟩ := C3.out.cc
    go_wp2_with fail
    clear d0 d1 d2 d3 d4 d5 d6 d7 d8
    refine (check9_is ⟨2, 0, 0, 0, A, 0, 0, 0, (List.replicate K 0)⟩ K _ (some ⟨w.heap.size + 1 + 1, 0, none⟩) K _ List.length_replicate HKL.out.1 L3.out E3.out).mono ?_
    rintro e w2 ⟨rfl, hb⟩
    have B3 := Wc.hid (Wc.step B2.out (Nat.le_refl _) hb)
    have C4' := Wc.hid (C4.out.keep hb)
    have C5' := Wc.hid (C5.out.keep hb)
    clear hb C4 C5 C3
    have C4 := C4'
    have C5 := C5'
    clear C4' C5'
    have ⟨d0, d1, d2, d3, d4, d5, d6, d7, d8⟩ := C4.out.cc
    go_wp2_with fail
    clear d0 d1 d2 d3 d4 d5 d6 d7 d8
    refine (check9_is ⟨2, 0, 0, 0, 0, 0, 0, 0, (List.replicate J 0)⟩ J _ (some ⟨w.heap.size + 1 + 1 + 1 + 1, 0, none⟩) J _ List.length_replicate HKL.out.2 L4.out E4.out).mono ?_
    rintro e w3 ⟨rfl, hb⟩
    have B4 := Wc.hid (Wc.step B3.out (Nat.le_refl _) hb)
    have C5' := Wc.hid (C5.out.keep hb)
    clear hb C5 C4
    have C5 := C5'
    clear C5'
    have ⟨d0, d1, d2, d3, d4, d5, d6, d7, d8⟩ := C5.out.cc
    go_wp2_with fail
    clear d0 d1 d2 d3 d4 d5 d6 d7 d8
    refine (check9_is ⟨5, 0, 0, A, 0, 1, 0, 0, []⟩ 0 _ none 0 _ rfl (by omega) L5.out E5.out).mono ?_
    rintro e w4 ⟨rfl, hb⟩
    have B5 := Wc.hid (Wc.step B4.out (Nat.le_refl _) hb)
    clear hb C5
    go_wp2_with fail
    refine (check9_is ⟨5, 0, 0, A, 0, 0, 0, 0, []⟩ 0 _ none 0 _ rfl (by omega) L6.out E6.out).mono ?_
    rintro e w5 ⟨rfl, hb⟩
    have B6 := Wc.hid (Wc.step B5.out (Nat.le_refl _) hb)
    clear hb
    go_wp2_with fail
    refine (check9_is ⟨5, 0, 0, (513 + M), 0, 0, 0, 0, []⟩ 0 _ none 0 _ rfl (by omega) L7.out E7.out).mono ?_
    rintro e w6 ⟨rfl, hb⟩
    have B7 := Wc.hid (Wc.step B6.out (Nat.le_refl _) hb)
    clear hb
    go_wp2_with fail
    refine (wakes_any _).mono ?_
    rintro e wz ⟨rfl, hbz⟩
    go_wp2_with fail
    go_ret
    exact ⟨rfl, Wc.step B7.out (Nat.le_refl _) hbz⟩

theorem bounds_any (f g : Int) (w : World) :
    Calls Try.prog 6 #[.int .i64 f, .int .i64 g] w fun e w' => e = .returned (.bool true) ∧ Below w.heap.size w w' := by
  obtain ⟨A, hA, eA⟩ := Wc.low 513 f (by omega) (by omega)
  obtain ⟨M, hM, eM⟩ := Wc.low 20 g (by omega) (by omega)
  obtain ⟨m, rfl⟩ := Int.eq_ofNat_of_zero_le hM.1
  by_cases h1 : 1 ≤ m ∧ A + m ≤ 512
  · by_cases h2 : m ≤ 8
    · exact bounds_core f g w A m 0 0 (m * 64) (m * 64 + 1) true hA hM eA eM (by omega) (by omega) (by right; left; exact ⟨rfl, by omega, by omega, by omega, rfl, rfl⟩)
    · exact bounds_core f g w A m 0 1 (m * 64) (m * 64 + 1) true hA hM eA eM (by omega) (by omega) (by right; right; exact ⟨rfl, by omega, by omega, by omega, rfl, rfl⟩)
  · exact bounds_core f g w A m 1 1 (m * 64) (m * 64 + 1) false hA hM eA eM (by omega) (by omega) (by left; exact ⟨rfl, by omega, rfl, rfl⟩)

end Go.Proofs.Ytfejabeifabdlaa
