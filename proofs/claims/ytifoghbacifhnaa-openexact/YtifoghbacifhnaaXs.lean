/-
  OpenExact, where nothing is played: a device of more than 300 blocks, a new image of more than 300 and no more than 4096, a state of more than 100 records.
-/
import Derived.Test.YtifoghbacifhnaaXo
namespace Go.Proofs.Ytifoghbacifhnaa
open Go.RowKit
set_option maxRecDepth 100000 in
set_option maxHeartbeats 3200000 in
theorem exact_heavy (ai : Option Addr) (ni ci : Nat) (first id z : Int) (s : Ws.Sup) (t : Int) (a : Option Addr) (n c : Nat) (w : World) (h : 19200 < ni) :
    Calls Try.prog 3 #[.slice ai ni ci, .int .i64 first, .int .i64 z, .int .i64 id, stv s t (.slice a n c)] w fun e w' => e = .returned (.bool true) ∧ Below w.heap.size w w' := by
  have hh : Wd.heavyB ni [] = true := by rw [hvy_nil]; simp; omega
  have hb : Below w.heap.size w (w.alloc (.cells #[.int .i64 s.gen, .int .i64 s.blocks, .int .i64 s.root, .int .i64 s.size, .int .i64 s.first, .int .i64 t, .slice a n c] 27)) := (Below.refl _ _).alloc (Nat.le_refl _) _
  have ⟨z0, z1, z2, z3, z4, z5, z6⟩ := (Zh.new w s t (.slice a n c)).zc
  have B := Wc.hid hb
  clear hb
  unfold stv
  go_enter Try.func3, Try.ntmps3
  go_wp2_with fail
  refine (heavy_raw _ _ _ _ _ _ [] _ (rw_nil _)).mono ?_
  rintro e w1 ⟨rfl, rfl⟩
  rw [hh]
  go_wp2_with fail
  go_ret
  exact ⟨rfl, B.out⟩

set_option maxRecDepth 100000 in
set_option maxHeartbeats 3200000 in
theorem exact_wide (ai : Option Addr) (ni ci : Nat) (first id z : Int) (s : Ws.Sup) (t : Int) (a : Option Addr) (n c : Nat) (w : World) (h : ni ≤ 19200) (hz : 300 < z ∧ z ≤ 4096) :
    Calls Try.prog 3 #[.slice ai ni ci, .int .i64 first, .int .i64 z, .int .i64 id, stv s t (.slice a n c)] w fun e w' => e = .returned (.bool true) ∧ Below w.heap.size w w' := by
  have hh : Wd.heavyB ni [] = false := by rw [hvy_nil]; simp; omega
  obtain ⟨hz1, hz2⟩ := hz
  have hb : Below w.heap.size w (w.alloc (.cells #[.int .i64 s.gen, .int .i64 s.blocks, .int .i64 s.root, .int .i64 s.size, .int .i64 s.first, .int .i64 t, .slice a n c] 27)) := (Below.refl _ _).alloc (Nat.le_refl _) _
  have ⟨z0, z1, z2, z3, z4, z5, z6⟩ := (Zh.new w s t (.slice a n c)).zc
  have B := Wc.hid hb
  clear hb
  unfold stv
  go_enter Try.func3, Try.ntmps3
  go_wp2_with fail
  refine (heavy_raw _ _ _ _ _ _ [] _ (rw_nil _)).mono ?_
  rintro e w1 ⟨rfl, rfl⟩
  rw [hh]
  go_wp2_with fail
  go_ret
  exact ⟨rfl, B.out⟩

set_option maxRecDepth 100000 in
set_option maxHeartbeats 3200000 in
theorem exact_long (ai : Option Addr) (ni ci : Nat) (first id z : Int) (s : Ws.Sup) (t : Int) (a : Option Addr) (n c : Nat) (w : World) (h : ni ≤ 19200) (hz : ¬ (300 < z ∧ z ≤ 4096)) (hn : 100 < n) :
    Calls Try.prog 3 #[.slice ai ni ci, .int .i64 first, .int .i64 z, .int .i64 id, stv s t (.slice a n c)] w fun e w' => e = .returned (.bool true) ∧ Below w.heap.size w w' := by
  have hh : Wd.heavyB ni [] = false := by rw [hvy_nil]; simp; omega
  by_cases h3 : 300 < z
  · have h4 : 4096 < z := by omega
    clear hz
    have hb : Below w.heap.size w (w.alloc (.cells #[.int .i64 s.gen, .int .i64 s.blocks, .int .i64 s.root, .int .i64 s.size, .int .i64 s.first, .int .i64 t, .slice a n c] 27)) := (Below.refl _ _).alloc (Nat.le_refl _) _
    have ⟨z0, z1, z2, z3, z4, z5, z6⟩ := (Zh.new w s t (.slice a n c)).zc
    have B := Wc.hid hb
    clear hb
    unfold stv
    go_enter Try.func3, Try.ntmps3
    go_wp2_with fail
    refine (heavy_raw _ _ _ _ _ _ [] _ (rw_nil _)).mono ?_
    rintro e w1 ⟨rfl, rfl⟩
    rw [hh]
    go_wp2_with fail
    go_ret
    exact ⟨rfl, B.out⟩
  · clear hz
    have hb : Below w.heap.size w (w.alloc (.cells #[.int .i64 s.gen, .int .i64 s.blocks, .int .i64 s.root, .int .i64 s.size, .int .i64 s.first, .int .i64 t, .slice a n c] 27)) := (Below.refl _ _).alloc (Nat.le_refl _) _
    have ⟨z0, z1, z2, z3, z4, z5, z6⟩ := (Zh.new w s t (.slice a n c)).zc
    have B := Wc.hid hb
    clear hb
    unfold stv
    go_enter Try.func3, Try.ntmps3
    go_wp2_with fail
    refine (heavy_raw _ _ _ _ _ _ [] _ (rw_nil _)).mono ?_
    rintro e w1 ⟨rfl, rfl⟩
    rw [hh]
    go_wp2_with fail
    go_ret
    exact ⟨rfl, B.out⟩

end Go.Proofs.Ytifoghbacifhnaa
