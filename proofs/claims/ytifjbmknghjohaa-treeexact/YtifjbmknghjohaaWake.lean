/-
  keep.Twin for every input; the statements' own wakes returns true.
-/
import Derived.Test.YtifjbmknghjohaaRef
import Derived.Test.YtifjbmknghjohaaGet
import Derived.Test.YtifjbmknghjohaaPut
namespace Go.Proofs.Ytifjbmknghjohaa
open Go.RowKit

set_option maxHeartbeats 400000 in
theorem twin_some (ad : Addr) (n cap : Nat) (xs : List Int) (w : World) (hn : n ≤ 140737488355328) (hl : xs.length = n) (hx : ∀ x ∈ xs, 0 ≤ x ∧ x < 256)
   (hc : ∀ i, i < n → w.cell? (ad.add i) = some (.int .u8 (xs.getD i 0))) :
    Calls Try.prog 8 #[.slice (some ad) n cap] w fun e w' => ∃ v, e = .returned v ∧ Wc.Bs w' v xs ∧ Below w.heap.size w w' := by
  obtain ⟨i0, hi, hz0, hz1, hz2⟩ := info_parts Try.infoU8
  go_enter Try.func8, Try.ntmps8
  go_wp2_with (first | (at_builtin; refine wpList_append_own _ rfl _ _ 22 rfl w.heap.size 5 i0 (.int .u8 0) 1 1 Try.underlying22 hi hz0 hz1 hz2 rfl (by decide) _ _ _ rfl (World.ownsRow_nil _ _ _ _) ad n cap (xs.map (Value.int .u8)) rfl (by simpa using hl) ?c1 ?c2 ?c3 ?c4 ?c5 ?_))
  case c1 =>
    intro j u hj
    have hjn : j < n := by have := (List.getElem?_eq_some_iff.1 hj).1; simpa [hl] using this
    rw [hc j hjn]; simpa [hl, hjn] using hj
  case c2 => intro u hu; obtain ⟨x, _, rfl⟩ := List.mem_map.1 hu; rfl
  case c3 => unfold maxLen; omega
  case c4 => omega
  case c5 => exact Nat.le_refl _
  · intro v' w1 hown' hgrow _
    have hb1 : Below w.heap.size w w1 := (Below.refl _ _).grown hgrow (Nat.le_refl _) (fun g hg => by simp [Value.ownBlock] at hg)
    have HB := Wc.hid (Wc.Bs.own (xs := xs) (by simpa using hown') (by omega) hx)
    clear hown' hgrow
    go_wp2
    go_ret
    exact ⟨_, rfl, HB.out, hb1⟩

set_option maxHeartbeats 400000 in
theorem twin_none (w : World) :
    Calls Try.prog 8 #[.slice none 0 0] w fun e w' => ∃ v, e = .returned v ∧ Wc.Bs w' v [] ∧ Below w.heap.size w w' := by
  obtain ⟨i0, hi, hz0, hz1, hz2⟩ := info_parts Try.infoU8
  have hrun := run_append_owned_none (P := Try.prog) w w.heap.size 22 22 5 i0 1 Try.underlying22 hi _ 0 [] (World.ownsRow_nil w w.heap.size 5 1)
  go_enter Try.func8, Try.ntmps8
  go_wp2
  go_ret
  exact ⟨_, rfl, Wc.Bs.nil _, Below.refl _ _⟩

theorem wake_a : Wc.putR [9, 9, 9] 1 2 258 = ([9, 2, 1], 0) := by decide
theorem wake_b : Wc.getR [9, 2, 1] 1 2 = (258, 0) := by decide
theorem wake_c : Wc.putR [] 0 3 1 = ([], 1) := by decide
theorem wake_e : (([9, 2, 1] : List Int) == [9, 2, 1]) = true := by decide
theorem wake_d : Wc.zerosB [9, 2, 1] 0 3 = false := by decide

theorem twin_any (v : Value) (xs : List Int) (w : World) (hv : Wc.Bs w v xs) (h0 : v = .slice none 0 0 ∨ ∃ ad n cap, v = .slice (some ad) n cap) :
    Calls Try.prog 8 #[v] w fun e w' => ∃ v, e = .returned v ∧ Wc.Bs w' v xs ∧ Below w.heap.size w w' := by
  rcases h0 with rfl | ⟨ad, n, cap, rfl⟩
  · obtain ⟨a, n, cap, h, hl, -⟩ := hv
    cases h
    obtain rfl := List.eq_nil_of_length_eq_zero hl
    exact twin_none w
  · obtain ⟨a, n', cap', h, hl, _, _, hn, hx, hpos⟩ := hv
    cases h
    refine twin_some ad n cap xs w hn hl hx fun i hi => ?_
    obtain ⟨b, off, h, _, hc⟩ := hpos (by omega)
    cases h
    rw [Wc.add_none]; exact hc i hi
end Go.Proofs.Ytifjbmknghjohaa
