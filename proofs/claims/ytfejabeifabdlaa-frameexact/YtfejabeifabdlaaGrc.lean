/-
  What the page's Command returns, for every command.
-/
import Derived.Test.YtfejabeifabdlaaGrc1
import Derived.Test.YtfejabeifabdlaaGrc2
import Derived.Test.YtfejabeifabdlaaGrc3
import Derived.Test.YtfejabeifabdlaaGrc4
import Derived.Test.YtfejabeifabdlaaGrc5
import Derived.Test.YtfejabeifabdlaaGrc6
namespace Go.Proofs.Ytfejabeifabdlaa
open Go.RowKit

set_option maxRecDepth 100000 in
set_option maxHeartbeats 800000 in
theorem refCmd_0 (k i p z f n s d : Int) (D : List Int) (a : Option Addr) (cap : Nat) (w : World) (h : ¬ k = 1 ∧ ¬ k = 2 ∧ ¬ k = 3 ∧ ¬ k = 4 ∧ ¬ k = 5 ∧ ¬ k = 6) :
    Calls Try.prog 17 #[cv ⟨k, i, p, z, f, n, s, d, D⟩ (.slice a D.length cap)] w fun e w' => e = .returned (.bool (Wk.cmdB ⟨k, i, p, z, f, n, s, d, D⟩)) ∧ Below w.heap.size w w' := by
  have E : Hid (Wk.cmdB ⟨k, i, p, z, f, n, s, d, D⟩ = false) := Wc.hid (by unfold Wk.cmdB; rw [Wk.fld0 (c := ⟨k, i, p, z, f, n, s, d, D⟩) h]; rfl)
  obtain ⟨h1, h2, h3, h4, h5, h6⟩ := h
  unfold cv
  go_enter Try.func17, Try.ntmps17
  go_wp2_with fail
  go_ret
  exact ⟨ret_bool E.out.symm, ((Below.refl w.heap.size w).alloc (Nat.le_refl _) _).alloc (by simp) _⟩

theorem refCmd_any (c : Wk.Cmd) (a : Option Addr) (cap : Nat) (w : World) (hl : c.data.length ≤ 140737488355328) (hc : Wk.Held c) :
    Calls Try.prog 17 #[cv c (.slice a c.data.length cap)] w fun e w' => e = .returned (.bool (Wk.cmdB c)) ∧ Below w.heap.size w w' := by
  obtain ⟨k, i, p, z, f, n, s, d, D⟩ := c
  obtain ⟨-, -, -, -, hf, hn, hs, -⟩ := hc
  unfold Wk.I64 at hf hn hs
  by_cases h1 : k = 1
  · subst h1; exact refCmd_1 i p z f n s d D a cap w hl
  by_cases h2 : k = 2
  · subst h2; exact refCmd_2 i p z f n s d D a cap w hl hf
  by_cases h3 : k = 3
  · subst h3; exact refCmd_3 i p z f n s d D a cap w hl hf hn
  by_cases h4 : k = 4
  · subst h4; exact refCmd_4 i p z f n s d D a cap w hl hf hn hs
  by_cases h5 : k = 5
  · subst h5; exact refCmd_5 i p z f n s d D a cap w hl
  by_cases h6 : k = 6
  · subst h6; exact refCmd_6 i p z f n s d D a cap w hl
  exact refCmd_0 k i p z f n s d D a cap w ⟨h1, h2, h3, h4, h5, h6⟩

end Go.Proofs.Ytfejabeifabdlaa
