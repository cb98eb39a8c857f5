/-
  CommitExact: too much at once, or too long.
-/
import Derived.Test.YtfflhiajbioheaaGreatFb
import Derived.Test.YtfflhiajbioheaaGreatXo
import Derived.Deep.RegionHeld3
namespace Wd
open Go Go.RowKit
theorem Raw.keep15 {w w' : World} {a : Option Addr} {n cap : Nat} {l : List Io} (h : Raw w a n cap l) (hb : Below w.heap.size w w') : Raw w' a n cap l := by
  obtain ⟨h1, h2, h3, h4⟩ := h
  refine ⟨h1, h2, h3, fun h0 => ?_⟩
  obtain ⟨b, off, ha, hlt, hc⟩ := h4 h0
  refine ⟨b, off, ha, Nat.lt_of_lt_of_le hlt hb.size, fun i hi => ?_⟩
  obtain ⟨a', c', c0, c1, c2, r1, r2, r3, r4, r5, r6⟩ := hc i hi
  refine ⟨a', c', (hb.cell (p := ⟨b, off + i * 3, none⟩) hlt).trans c0, (hb.cell (p := ⟨b, off + i * 3 + 1, none⟩) hlt).trans c1, (hb.cell (p := ⟨b, off + i * 3 + 2, none⟩) hlt).trans c2, r1, r2, r3, r4, r5, fun h0 => ?_⟩
  obtain ⟨b2, o2, ha2, hlt2, hc2⟩ := r6 h0
  exact ⟨b2, o2, ha2, Nat.lt_of_lt_of_le hlt2 hb.size, fun j hj => (hb.cell (p := ⟨b2, o2 + j, none⟩) hlt2).trans (hc2 j hj)⟩
end Wd
namespace Go.Proofs.YtfflhiajbioheaaGreat
open Go.RowKit

set_option maxRecDepth 100000 in
set_option maxHeartbeats 12800000 in
theorem exact_heavy (s : Ws.Sup) (t : Int) (ar : Option Addr) (nr cr : Nat) (a : Option Addr) (n cap : Nat) (l : List Wd.Io) (root size first : Int) (ab : Option Addr) (nb cb : Nat) (k : Int) (af : Option Addr) (nf cf : Nat) (w : World)
    (hI : Wd.Raw w a n cap l) (hh : Wd.heavyB 0 l = true) :
    Calls Tryz.prog 3 #[stv s t (.slice ar nr cr), .slice a n cap, .int .i64 root, .int .i64 size, .int .i64 first, .slice ab nb cb, .int .i64 k, .slice af nf cf] w fun e w' => e = .returned (.bool true) ∧ Below w.heap.size w w' := by
  have bA := (Below.refl w.heap.size w).alloc (Nat.le_refl _) (.cells #[.int .i64 s.gen, .int .i64 s.blocks, .int .i64 s.root, .int .i64 s.size, .int .i64 s.first, .int .i64 t, .slice ar nr cr] 26)
  have I1 := Wc.hid (hI.keep15 bA)
  have Z1 := Zh.new w s t (.slice ar nr cr)
  have HH := Wc.hid hh
  have BA := Wc.hid bA
  obtain ⟨W1, hW1⟩ : ∃ W1, w.alloc (.cells #[.int .i64 s.gen, .int .i64 s.blocks, .int .i64 s.root, .int .i64 s.size, .int .i64 s.first, .int .i64 t, .slice ar nr cr] 26) = W1 := ⟨_, rfl⟩
  rw [hW1] at BA Z1 I1
  obtain ⟨bx, hbx⟩ : ∃ bx, w.heap.size = bx := ⟨_, rfl⟩
  have HW1 := Wc.hid hW1
  have HBX := Wc.hid hbx
  rw [hbx] at Z1
  have HZ1 := Wc.hid Z1
  clear hW1 bA Z1 hI hbx hh
  unfold stv
  go_enter Tryz.func3, Tryz.ntmps3
  go_wp2_with fail
  rw [HW1.out, HBX.out]
  refine (heavy_raw none 0 0 a n cap l _ I1.out).mono ?_
  rintro e w' ⟨rfl, rfl⟩
  rw [HH.out]
  go_wp2_with fail
  go_ret
  exact ⟨rfl, BA.out⟩

set_option maxRecDepth 100000 in
set_option maxHeartbeats 25600000 in
theorem exact_long (s : Ws.Sup) (t : Int) (ar : Option Addr) (nr cr : Nat) (a : Option Addr) (n cap : Nat) (l : List Wd.Io) (root size first : Int) (ab : Option Addr) (nb cb : Nat) (k : Int) (af : Option Addr) (nf cf : Nat) (w : World)
    (hI : Wd.Raw w a n cap l) (hh : Wd.heavyB 0 l = false) (hlong : ¬ (nr ≤ 70 ∧ nb ≤ 80 ∧ nf ≤ 100)) :
    Calls Tryz.prog 3 #[stv s t (.slice ar nr cr), .slice a n cap, .int .i64 root, .int .i64 size, .int .i64 first, .slice ab nb cb, .int .i64 k, .slice af nf cf] w fun e w' => e = .returned (.bool true) ∧ Below w.heap.size w w' := by
  have bA := (Below.refl w.heap.size w).alloc (Nat.le_refl _) (.cells #[.int .i64 s.gen, .int .i64 s.blocks, .int .i64 s.root, .int .i64 s.size, .int .i64 s.first, .int .i64 t, .slice ar nr cr] 26)
  have I1 := Wc.hid (hI.keep15 bA)
  have Z1 := Zh.new w s t (.slice ar nr cr)
  have HH := Wc.hid hh
  have BA := Wc.hid bA
  obtain ⟨W1, hW1⟩ : ∃ W1, w.alloc (.cells #[.int .i64 s.gen, .int .i64 s.blocks, .int .i64 s.root, .int .i64 s.size, .int .i64 s.first, .int .i64 t, .slice ar nr cr] 26) = W1 := ⟨_, rfl⟩
  rw [hW1] at BA Z1 I1
  obtain ⟨bx, hbx⟩ : ∃ bx, w.heap.size = bx := ⟨_, rfl⟩
  have HW1 := Wc.hid hW1
  have HBX := Wc.hid hbx
  rw [hbx] at Z1
  have HZ1 := Wc.hid Z1
  have HL := Wc.hid hlong
  clear hW1 bA Z1 hI hbx hh hlong
  unfold stv
  go_enter Tryz.func3, Tryz.ntmps3
  go_wp2_with fail
  rw [HW1.out, HBX.out]
  have ⟨z0, z1, z2, z3, z4, z5, z6⟩ := HZ1.out.zc
  refine (heavy_raw none 0 0 a n cap l _ I1.out).mono ?_
  rintro e w' ⟨rfl, rfl⟩
  rw [HH.out]
  by_cases g70 : (70 : Int) < (nr : Int)
  · go_wp2_with fail
    go_ret
    exact ⟨rfl, BA.out⟩
  · by_cases g80 : (80 : Int) < (nb : Int)
    · go_wp2_with fail
      go_ret
      exact ⟨rfl, BA.out⟩
    · have g100 : (100 : Int) < (nf : Int) := by have := HL.out; omega
      go_wp2_with fail
      go_ret
      exact ⟨rfl, BA.out⟩
end Go.Proofs.YtfflhiajbioheaaGreat
