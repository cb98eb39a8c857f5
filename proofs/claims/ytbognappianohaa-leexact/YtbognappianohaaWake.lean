/-
  keep.Twin for every input; the statements' own wakes returns true.
-/
import Derived.Test.YtbognappianohaaRef
import Derived.Test.YtbognappianohaaGet
import Derived.Test.YtbognappianohaaPut
namespace Go.Proofs.Ytbognappianohaa
open Go.RowKit

set_option maxHeartbeats 400000 in
theorem twin_some (ad : Addr) (n cap : Nat) (xs : List Int) (w : World) (hn : n ≤ 140737488355328) (hl : xs.length = n) (hx : ∀ x ∈ xs, 0 ≤ x ∧ x < 256)
   (hc : ∀ i, i < n → w.cell? (ad.add i) = some (.int .u8 (xs.getD i 0))) :
    Calls Try.prog 8 #[.slice (some ad) n cap] w fun e w' => ∃ v, e = .returned v ∧ Wc.Bs w' v xs ∧ Below w.heap.size w w' := by
  obtain ⟨i0, hi, hz0, hz1, hz2⟩ := info_parts Try.info5
  go_enter Try.func8, Try.ntmps8
  go_wp2_with (first | (at_builtin; refine wpList_append_own _ rfl _ _ 22 rfl w.heap.size 5 i0 (.int .u8 0) 1 1 Try.underlying22 hi hz0 hz1 hz2 rfl (by decide) _ _ _ rfl (World.ownsRow_nil _ _ _ _) ad n cap (xs.map (Value.int .u8)) rfl (by simpa using hl) ?c1 ?c2 ?c3 ?c4 ?c5 ?_))
  case c1 =>
    intro j u hj
    have hjn : j < n := by have := (List.getElem?_eq_some_iff.1 hj).1; simpa [hl] using this
    rw [hc j hjn]; simpa [hl, hjn] using hj
  case c2 => intro u hu; obtain ⟨x, _, rfl⟩ := List.mem_map.1 hu; rfl
  case c3 => unfold maxLen; omega
  case c4 => omega
  case c5 => exact Nat.le_refl _
  · intro v' w1 hown' hgrow _
    have hb1 : Below w.heap.size w w1 := (Below.refl _ _).grown hgrow (Nat.le_refl _) (fun g hg => by simp [Value.ownBlock] at hg)
    have HB := Wc.hid (Wc.Bs.own (xs := xs) (by simpa using hown') (by omega) hx)
    clear hown' hgrow
    go_wp2
    go_ret
    exact ⟨_, rfl, HB.out, hb1⟩

set_option maxHeartbeats 400000 in
theorem twin_none (w : World) :
    Calls Try.prog 8 #[.slice none 0 0] w fun e w' => ∃ v, e = .returned v ∧ Wc.Bs w' v [] ∧ Below w.heap.size w w' := by
  obtain ⟨i0, hi, hz0, hz1, hz2⟩ := info_parts Try.info5
  have hrun := run_append_owned_none (P := Try.prog) w w.heap.size 22 22 5 i0 1 Try.underlying22 hi _ 0 [] (World.ownsRow_nil w w.heap.size 5 1)
  go_enter Try.func8, Try.ntmps8
  go_wp2
  go_ret
  exact ⟨_, rfl, Wc.Bs.nil _, Below.refl _ _⟩

theorem wake_a : Wc.putR [9, 9, 9] 1 2 258 = ([9, 2, 1], 0) := by decide
theorem wake_b : Wc.getR [9, 2, 1] 1 2 = (258, 0) := by decide
theorem wake_c : Wc.putR [] 0 3 1 = ([], 1) := by decide
theorem wake_e : (([9, 2, 1] : List Int) == [9, 2, 1]) = true := by decide
theorem wake_d : Wc.zerosB [9, 2, 1] 0 3 = false := by decide

set_option maxHeartbeats 400000 in
theorem wakes_any (w : World) :
    Calls Try.prog 15 #[] w fun e w' => e = .returned (.bool true) ∧ Below w.heap.size w w' := by
  go_enter Try.func15, Try.ntmps15
  go_wp2_with fail
  refine (put_any _ [9, 9, 9] 1 2 258 _ (Wc.Bs.lit w _ 5 3 [9, 9, 9] rfl (by omega) rfl (by decide))).mono ?_
  rintro e w1 ⟨x, rfl, hx, hb1⟩
  rw [wake_a] at hx
  rw [wake_a]
  have hb1' := Wc.step ((Below.refl w.heap.size w).alloc (Nat.le_refl _) _) (Nat.le_refl _) hb1
  clear hb1
  go_wp2_with fail
  refine (get_any _ [9, 2, 1] 1 2 _ hx).mono ?_
  rintro e w2 ⟨rfl, rfl⟩
  rw [wake_b]
  go_wp2_with fail
  refine (put_any _ [] 0 3 1 _ (Wc.Bs.nil _)).mono ?_
  rintro e w3 ⟨y, rfl, hy, hb3⟩
  rw [wake_c]
  have hx3 := hx.keep hb3
  have hb3' := Wc.step hb1' (Nat.le_refl _) hb3
  clear hb3 hb1' hy hx
  go_wp2_with fail
  have hx4 := hx3.keep ((Below.refl w3.heap.size w3).alloc (Nat.le_refl _) (.cells #[.int .u8 9, .int .u8 2, .int .u8 1] 5))
  refine (bytes_any _ _ [9, 2, 1] [9, 2, 1] _ hx4 (Wc.Bs.lit w3 _ 5 3 [9, 2, 1] rfl (by omega) rfl (by decide))).mono ?_
  rintro e w4 ⟨rfl, hb4⟩
  rw [wake_e]
  have hx5 := hx4.keep hb4
  have hb4' := Wc.step (hb3'.alloc hb3'.size _) (Nat.le_refl _) hb4
  clear hb4 hb3' hx4 hx3
  go_wp2_with fail
  refine (zeros_any _ [9, 2, 1] 0 3 _ hx5 (by omega)).mono ?_
  rintro e w5 ⟨rfl, rfl⟩
  rw [wake_d]
  go_wp2_with fail
  go_ret
  exact ⟨rfl, hb4'⟩

theorem twin_any (v : Value) (xs : List Int) (w : World) (hv : Wc.Bs w v xs) (h0 : v = .slice none 0 0 ∨ ∃ ad n cap, v = .slice (some ad) n cap) :
    Calls Try.prog 8 #[v] w fun e w' => ∃ v, e = .returned v ∧ Wc.Bs w' v xs ∧ Below w.heap.size w w' := by
  rcases h0 with rfl | ⟨ad, n, cap, rfl⟩
  · obtain ⟨a, n, cap, h, hl, -⟩ := hv
    cases h
    obtain rfl := List.eq_nil_of_length_eq_zero hl
    exact twin_none w
  · obtain ⟨a, n', cap', h, hl, _, _, hn, hx, hpos⟩ := hv
    cases h
    refine twin_some ad n cap xs w hn hl hx fun i hi => ?_
    obtain ⟨b, off, h, _, hc⟩ := hpos (by omega)
    cases h
    rw [Wc.add_none]; exact hc i hi
#print axioms wakes_any
#print axioms twin_any
end Go.Proofs.Ytbognappianohaa
