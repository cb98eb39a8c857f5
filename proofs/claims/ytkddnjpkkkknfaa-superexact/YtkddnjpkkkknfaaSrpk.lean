/-
  What the page's Pick returns, for every right device.
-/
import Derived.Test.YtkddnjpkkkknfaaSrp
import Derived.Test.YtkddnjpkkkknfaaSpick
namespace Go.Proofs.Ytkddnjpkkkknfaa
open Go.RowKit

/-- What the page's Pick tells. -/
def rpk (one two : Bool) (a b : Ws.Sup) : Ws.Sup × Int × Bool :=
  if (one && (!two || decide (b.gen ≤ a.gen))) = true then (a, 0, true) else if two = true then (b, 1, true) else (Ws.s0, 0, false)

def onB (n : Int) (xs : List Int) : Bool := (Ws.parE xs == 0) && ((Ws.par xs).blocks == n)

theorem onB_slot (n : Int) (xs : List Int) : Ws.slotS n xs = (if onB n xs = true then Ws.par xs else Ws.s0) ∧ (onB n xs = true → 1 ≤ (Ws.par xs).gen) := by
  unfold onB
  by_cases h1 : Ws.parE xs = 0
  · by_cases h2 : (Ws.par xs).blocks = n
    · have hy := Ws.slot_yes (n := n) (b := xs) ⟨h1, h2⟩
      rw [hy.1] at hy
      refine ⟨?_, fun _ => hy.2⟩
      rw [hy.1, h1, h2]
      have hyn := (Ws.slot_yes (n := n) (b := xs) ⟨h1, h2⟩).1
      simpa using hyn
    · refine ⟨?_, fun h => ?_⟩
      · rw [Ws.slot_no (fun e => h2 e.2), if_neg (by simp [h2])]
      · simp [h2] at h
  · refine ⟨?_, fun h => ?_⟩
    · rw [Ws.slot_no (fun e => h1 e.1), if_neg (by simp [h1])]
    · simp [h1] at h

theorem rpk_picks (n : Int) (X Y : List Int) : Ws.picks (Ws.slotS n X) (Ws.slotS n Y) = ((rpk (onB n X) (onB n Y) (Ws.par X) (Ws.par Y)).1, (rpk (onB n X) (onB n Y) (Ws.par X) (Ws.par Y)).2.1, if (rpk (onB n X) (onB n Y) (Ws.par X) (Ws.par Y)).2.2 = true then 0 else 8) := by
  have hX := onB_slot n X
  have hY := onB_slot n Y
  rw [hX.1, hY.1]
  have z : Ws.s0.gen = 0 := rfl
  cases h1 : onB n X <;> cases h2 : onB n Y
  · simp [rpk, Ws.picks, z]
  · have g2 := hY.2 h2
    have : 0 < (Ws.par Y).gen := by omega
    simp [rpk, Ws.picks, z, this]
  · have g1 := hX.2 h1
    have : 0 < (Ws.par X).gen := by omega
    have h3 : ¬ (Ws.par X).gen < 0 := by omega
    simp [rpk, Ws.picks, z, this, h3]
  · have g1 := hX.2 h1
    have : 0 < (Ws.par X).gen := by omega
    by_cases h3 : (Ws.par X).gen < (Ws.par Y).gen
    · have h4 : ¬ (Ws.par Y).gen ≤ (Ws.par X).gen := by omega
      simp [rpk, Ws.picks, this, h3, h4]
    · have h4 : (Ws.par Y).gen ≤ (Ws.par X).gen := by omega
      simp [rpk, Ws.picks, this, h3, h4]

set_option maxHeartbeats 6400000 in
theorem refPick_any (ai : Option Addr) (ni ci : Nat) (xs X Y : List Int) (m : Int) (w : World) (hv : Wc.Bs w (.slice ai ni ci) xs) (hd : Wd.devB ni = true) (hm : ((ni / 64 : Nat) : Int) = m) (hX : (xs.drop (0 * 64)).take 64 = X) (hY : (xs.drop (1 * 64)).take 64 = Y) :
    Calls Try.prog 19 #[.slice ai ni ci] w fun e w' => e = .returned (.tuple #[sv (rpk (onB m X) (onB m Y) (Ws.par X) (Ws.par Y)).1, .int .i64 (rpk (onB m X) (onB m Y) (Ws.par X) (Ws.par Y)).2.1, .bool (rpk (onB m X) (onB m Y) (Ws.par X) (Ws.par Y)).2.2]) ∧ Below w.heap.size w w' := by
  have hni : ni ≤ 140737488355328 := by obtain ⟨_, _, _, h1, _, _, _, h5, _⟩ := hv; cases h1; exact h5
  have HV := Wc.hid hv
  have HD := Wc.hid (Wd.devB_iff.1 hd)
  have HX := Wc.hid hX
  have HY := Wc.hid hY
  have HM := Wc.hid hm
  clear hv hd hX hY hm
  have A0 := Wc.hid (Sh.new w Ws.s0)
  have B0 := Wc.hid ((Below.refl w.heap.size w).alloc (Nat.le_refl _) (.cells #[.int .i64 0, .int .i64 0, .int .i64 0, .int .i64 0, .int .i64 0] 23))
  have V0 := Wc.hid (HV.out.alloc (.cells #[.int .i64 0, .int .i64 0, .int .i64 0, .int .i64 0, .int .i64 0] 23))
  clear HV
  go_enter Try.func19, Try.ntmps19
  go_wp2_with fail
  refine (blocks_any _ _ _ _ hni).mono ?_
  rintro e w0 ⟨rfl, rfl⟩
  rw [HM.out]
  go_wp2_with fail
  refine (block_any _ _ _ 0 xs _ V0.out (by have := HD.out; omega)).mono ?_
  rintro e w0 ⟨ax, cx, rfl, hx, rfl⟩
  rw [HX.out] at hx
  have HBX := Wc.hid hx
  clear hx
  go_wp2_with fail
  refine (refParse_any _ X _ HBX.out).mono ?_
  rintro e w1 ⟨rfl, hb1⟩
  have A1 := Wc.hid (A0.out.keep hb1)
  have B1 := Wc.hid (Wc.step B0.out (Nat.le_refl _) hb1)
  have V1 := Wc.hid (V0.out.keep hb1)
  clear hb1 HBX A0 B0 V0
  have hon : ∀ n, onB n X = ((Ws.parE X == 0) && ((Ws.par X).blocks == n)) := fun _ => rfl
  have hon2 : ∀ n, onB n Y = ((Ws.parE Y == 0) && ((Ws.par Y).blocks == n)) := fun _ => rfl
  obtain ⟨s, hs⟩ : ∃ s, Ws.par X = s := ⟨_, rfl⟩
  obtain ⟨E, hE⟩ : ∃ E, Ws.parE X = E := ⟨_, rfl⟩
  rw [hs, hE] at hon
  have HON := Wc.hid (hon m)
  have HS := Wc.hid hs
  rw [hs, hE]
  clear hs hE hon
  unfold sv
  have A2 := Wc.hid (A1.out.keep ((Below.refl w1.heap.size w1).alloc (Nat.le_refl _) (.cells #[.int .i64 s.gen, .int .i64 s.blocks, .int .i64 s.root, .int .i64 s.size, .int .i64 s.first] 23)))
  have B2 := Wc.hid (B1.out.alloc B1.out.size (.cells #[.int .i64 s.gen, .int .i64 s.blocks, .int .i64 s.root, .int .i64 s.size, .int .i64 s.first] 23))
  have V2 := Wc.hid (V1.out.keep ((Below.refl w1.heap.size w1).alloc (Nat.le_refl _) (.cells #[.int .i64 s.gen, .int .i64 s.blocks, .int .i64 s.root, .int .i64 s.size, .int .i64 s.first] 23)))
  have C2 := Wc.hid (Sh.new w1 s)
  clear A1 B1 V1
  go_wp2_with fail
  obtain ⟨W2, hW2⟩ : ∃ W2, w1.alloc (.cells #[.int .i64 s.gen, .int .i64 s.blocks, .int .i64 s.root, .int .i64 s.size, .int .i64 s.first] 23) = W2 := ⟨_, rfl⟩
  rw [hW2] at A2 B2 V2 C2 ⊢
  clear hW2
  refine (block_any _ _ _ 1 xs _ V2.out (by have := HD.out; omega)).mono ?_
  rintro e w0 ⟨ay, cy, rfl, hy, rfl⟩
  rw [HY.out] at hy
  have HBY := Wc.hid hy
  clear hy
  go_wp2_with fail
  refine (refParse_any _ Y _ HBY.out).mono ?_
  rintro e w3 ⟨rfl, hb3⟩
  obtain ⟨t, ht⟩ : ∃ t, Ws.par Y = t := ⟨_, rfl⟩
  obtain ⟨F, hF⟩ : ∃ F, Ws.parE Y = F := ⟨_, rfl⟩
  rw [ht, hF] at hon2
  have HON2 := Wc.hid (hon2 m)
  have HT := Wc.hid ht
  rw [ht, hF]
  clear ht hF hon2
  unfold sv
  have HAL := Wc.hid ((Below.refl w3.heap.size w3).alloc (Nat.le_refl _) (.cells #[.int .i64 t.gen, .int .i64 t.blocks, .int .i64 t.root, .int .i64 t.size, .int .i64 t.first] 23))
  have A4 := Wc.hid ((A2.out.keep hb3).keep HAL.out)
  have B4 := Wc.hid (Wc.step (Wc.step B2.out (Nat.le_refl _) hb3) (Nat.le_refl _) HAL.out)
  have C4 := Wc.hid ((C2.out.keep hb3).keep HAL.out)
  have D4 := Wc.hid (Sh.new w3 t)
  clear hb3 HAL A2 B2 V2 C2 HBY
  go_wp2_with fail
  obtain ⟨W4, hW4⟩ : ∃ W4, w3.alloc (.cells #[.int .i64 t.gen, .int .i64 t.blocks, .int .i64 t.root, .int .i64 t.size, .int .i64 t.first] 23) = W4 := ⟨_, rfl⟩
  rw [hW4] at A4 B4 C4 D4 ⊢
  clear hW4
  have ⟨a0, a1, a2, a3, a4⟩ := A4.out.sc
  have ⟨c0, c1, c2, c3, c4⟩ := C4.out.sc
  have ⟨d0, d1, d2, d3, d4⟩ := D4.out.sc
  cases k1 : (E == 0)
  · cases k2 : (F == 0)
    · have HR : Hid (rpk (onB m X) (onB m Y) (Ws.par X) (Ws.par Y) = (Ws.s0, 0, false)) := Wc.hid (by rw [HON.out, HON2.out, HS.out, HT.out, k1, k2]; simp [rpk])
      go_quiet (fail)
      have A5 : Hid (Sh (W4.drewN nq) w.heap.size Ws.s0) := A4
      have C5 : Hid (Sh (W4.drewN nq) w1.heap.size s) := C4
      have D5 : Hid (Sh (W4.drewN nq) w3.heap.size t) := D4
      have B5 := Wc.hid (below_drewN B4.out nq)
      obtain ⟨W5, hW5⟩ : ∃ W5, W4.drewN nq = W5 := ⟨_, rfl⟩
      rw [hW5] at A5 B5 C5 D5 ⊢
      clear hW5 a0 a1 a2 a3 a4 c0 c1 c2 c3 c4 d0 d1 d2 d3 d4 A4 B4 C4 D4
      have ⟨a0, a1, a2, a3, a4⟩ := A5.out.sc
      have ⟨c0, c1, c2, c3, c4⟩ := C5.out.sc
      have ⟨d0, d1, d2, d3, d4⟩ := D5.out.sc
      have f0 := A5.out.frozen 0
      have f1 := A5.out.frozen 1
      have f2 := A5.out.frozen 2
      have f3 := A5.out.frozen 3
      have f4 := A5.out.frozen 4
      go_wp2_with fail
      rw [HR.out]
      exact bodyPost_ret (ret_cell3 rfl rfl rfl rfl (A5.out.set Ws.s0).sc) rfl ⟨rfl, below5 B5.out (Nat.le_refl _) Ws.s0⟩
    · cases l2 : (t.blocks == m)
      · have HR : Hid (rpk (onB m X) (onB m Y) (Ws.par X) (Ws.par Y) = (Ws.s0, 0, false)) := Wc.hid (by rw [HON.out, HON2.out, HS.out, HT.out, k1, k2, l2]; simp [rpk])
        go_quiet (fail)
        have A5 : Hid (Sh (W4.drewN nq) w.heap.size Ws.s0) := A4
        have C5 : Hid (Sh (W4.drewN nq) w1.heap.size s) := C4
        have D5 : Hid (Sh (W4.drewN nq) w3.heap.size t) := D4
        have B5 := Wc.hid (below_drewN B4.out nq)
        obtain ⟨W5, hW5⟩ : ∃ W5, W4.drewN nq = W5 := ⟨_, rfl⟩
        rw [hW5] at A5 B5 C5 D5 ⊢
        clear hW5 a0 a1 a2 a3 a4 c0 c1 c2 c3 c4 d0 d1 d2 d3 d4 A4 B4 C4 D4
        have ⟨a0, a1, a2, a3, a4⟩ := A5.out.sc
        have ⟨c0, c1, c2, c3, c4⟩ := C5.out.sc
        have ⟨d0, d1, d2, d3, d4⟩ := D5.out.sc
        have f0 := A5.out.frozen 0
        have f1 := A5.out.frozen 1
        have f2 := A5.out.frozen 2
        have f3 := A5.out.frozen 3
        have f4 := A5.out.frozen 4
        go_wp2_with fail
        rw [HR.out]
        exact bodyPost_ret (ret_cell3 rfl rfl rfl rfl (A5.out.set Ws.s0).sc) rfl ⟨rfl, below5 B5.out (Nat.le_refl _) Ws.s0⟩
      · have HR : Hid (rpk (onB m X) (onB m Y) (Ws.par X) (Ws.par Y) = (t, 1, true)) := Wc.hid (by rw [HON.out, HON2.out, HS.out, HT.out, k1, k2, l2]; simp [rpk])
        go_quiet (fail)
        have A5 : Hid (Sh (W4.drewN nq) w.heap.size Ws.s0) := A4
        have C5 : Hid (Sh (W4.drewN nq) w1.heap.size s) := C4
        have D5 : Hid (Sh (W4.drewN nq) w3.heap.size t) := D4
        have B5 := Wc.hid (below_drewN B4.out nq)
        obtain ⟨W5, hW5⟩ : ∃ W5, W4.drewN nq = W5 := ⟨_, rfl⟩
        rw [hW5] at A5 B5 C5 D5 ⊢
        clear hW5 a0 a1 a2 a3 a4 c0 c1 c2 c3 c4 d0 d1 d2 d3 d4 A4 B4 C4 D4
        have ⟨a0, a1, a2, a3, a4⟩ := A5.out.sc
        have ⟨c0, c1, c2, c3, c4⟩ := C5.out.sc
        have ⟨d0, d1, d2, d3, d4⟩ := D5.out.sc
        have f0 := A5.out.frozen 0
        have f1 := A5.out.frozen 1
        have f2 := A5.out.frozen 2
        have f3 := A5.out.frozen 3
        have f4 := A5.out.frozen 4
        go_wp2_with fail
        rw [HR.out]
        exact bodyPost_ret (ret_cell3 rfl rfl rfl rfl (A5.out.set t).sc) rfl ⟨rfl, below5 B5.out (Nat.le_refl _) t⟩
  · cases l1 : (s.blocks == m)
    · cases k2 : (F == 0)
      · have HR : Hid (rpk (onB m X) (onB m Y) (Ws.par X) (Ws.par Y) = (Ws.s0, 0, false)) := Wc.hid (by rw [HON.out, HON2.out, HS.out, HT.out, k1, l1, k2]; simp [rpk])
        go_quiet (fail)
        have A5 : Hid (Sh (W4.drewN nq) w.heap.size Ws.s0) := A4
        have C5 : Hid (Sh (W4.drewN nq) w1.heap.size s) := C4
        have D5 : Hid (Sh (W4.drewN nq) w3.heap.size t) := D4
        have B5 := Wc.hid (below_drewN B4.out nq)
        obtain ⟨W5, hW5⟩ : ∃ W5, W4.drewN nq = W5 := ⟨_, rfl⟩
        rw [hW5] at A5 B5 C5 D5 ⊢
        clear hW5 a0 a1 a2 a3 a4 c0 c1 c2 c3 c4 d0 d1 d2 d3 d4 A4 B4 C4 D4
        have ⟨a0, a1, a2, a3, a4⟩ := A5.out.sc
        have ⟨c0, c1, c2, c3, c4⟩ := C5.out.sc
        have ⟨d0, d1, d2, d3, d4⟩ := D5.out.sc
        have f0 := A5.out.frozen 0
        have f1 := A5.out.frozen 1
        have f2 := A5.out.frozen 2
        have f3 := A5.out.frozen 3
        have f4 := A5.out.frozen 4
        go_wp2_with fail
        rw [HR.out]
        exact bodyPost_ret (ret_cell3 rfl rfl rfl rfl (A5.out.set Ws.s0).sc) rfl ⟨rfl, below5 B5.out (Nat.le_refl _) Ws.s0⟩
      · cases l2 : (t.blocks == m)
        · have HR : Hid (rpk (onB m X) (onB m Y) (Ws.par X) (Ws.par Y) = (Ws.s0, 0, false)) := Wc.hid (by rw [HON.out, HON2.out, HS.out, HT.out, k1, l1, k2, l2]; simp [rpk])
          go_quiet (fail)
          have A5 : Hid (Sh (W4.drewN nq) w.heap.size Ws.s0) := A4
          have C5 : Hid (Sh (W4.drewN nq) w1.heap.size s) := C4
          have D5 : Hid (Sh (W4.drewN nq) w3.heap.size t) := D4
          have B5 := Wc.hid (below_drewN B4.out nq)
          obtain ⟨W5, hW5⟩ : ∃ W5, W4.drewN nq = W5 := ⟨_, rfl⟩
          rw [hW5] at A5 B5 C5 D5 ⊢
          clear hW5 a0 a1 a2 a3 a4 c0 c1 c2 c3 c4 d0 d1 d2 d3 d4 A4 B4 C4 D4
          have ⟨a0, a1, a2, a3, a4⟩ := A5.out.sc
          have ⟨c0, c1, c2, c3, c4⟩ := C5.out.sc
          have ⟨d0, d1, d2, d3, d4⟩ := D5.out.sc
          have f0 := A5.out.frozen 0
          have f1 := A5.out.frozen 1
          have f2 := A5.out.frozen 2
          have f3 := A5.out.frozen 3
          have f4 := A5.out.frozen 4
          go_wp2_with fail
          rw [HR.out]
          exact bodyPost_ret (ret_cell3 rfl rfl rfl rfl (A5.out.set Ws.s0).sc) rfl ⟨rfl, below5 B5.out (Nat.le_refl _) Ws.s0⟩
        · have HR : Hid (rpk (onB m X) (onB m Y) (Ws.par X) (Ws.par Y) = (t, 1, true)) := Wc.hid (by rw [HON.out, HON2.out, HS.out, HT.out, k1, l1, k2, l2]; simp [rpk])
          go_quiet (fail)
          have A5 : Hid (Sh (W4.drewN nq) w.heap.size Ws.s0) := A4
          have C5 : Hid (Sh (W4.drewN nq) w1.heap.size s) := C4
          have D5 : Hid (Sh (W4.drewN nq) w3.heap.size t) := D4
          have B5 := Wc.hid (below_drewN B4.out nq)
          obtain ⟨W5, hW5⟩ : ∃ W5, W4.drewN nq = W5 := ⟨_, rfl⟩
          rw [hW5] at A5 B5 C5 D5 ⊢
          clear hW5 a0 a1 a2 a3 a4 c0 c1 c2 c3 c4 d0 d1 d2 d3 d4 A4 B4 C4 D4
          have ⟨a0, a1, a2, a3, a4⟩ := A5.out.sc
          have ⟨c0, c1, c2, c3, c4⟩ := C5.out.sc
          have ⟨d0, d1, d2, d3, d4⟩ := D5.out.sc
          have f0 := A5.out.frozen 0
          have f1 := A5.out.frozen 1
          have f2 := A5.out.frozen 2
          have f3 := A5.out.frozen 3
          have f4 := A5.out.frozen 4
          go_wp2_with fail
          rw [HR.out]
          exact bodyPost_ret (ret_cell3 rfl rfl rfl rfl (A5.out.set t).sc) rfl ⟨rfl, below5 B5.out (Nat.le_refl _) t⟩
    · cases k2 : (F == 0)
      · have HR : Hid (rpk (onB m X) (onB m Y) (Ws.par X) (Ws.par Y) = (s, 0, true)) := Wc.hid (by rw [HON.out, HON2.out, HS.out, HT.out, k1, l1, k2]; simp [rpk])
        go_quiet (fail)
        have A5 : Hid (Sh (W4.drewN nq) w.heap.size Ws.s0) := A4
        have C5 : Hid (Sh (W4.drewN nq) w1.heap.size s) := C4
        have D5 : Hid (Sh (W4.drewN nq) w3.heap.size t) := D4
        have B5 := Wc.hid (below_drewN B4.out nq)
        obtain ⟨W5, hW5⟩ : ∃ W5, W4.drewN nq = W5 := ⟨_, rfl⟩
        rw [hW5] at A5 B5 C5 D5 ⊢
        clear hW5 a0 a1 a2 a3 a4 c0 c1 c2 c3 c4 d0 d1 d2 d3 d4 A4 B4 C4 D4
        have ⟨a0, a1, a2, a3, a4⟩ := A5.out.sc
        have ⟨c0, c1, c2, c3, c4⟩ := C5.out.sc
        have ⟨d0, d1, d2, d3, d4⟩ := D5.out.sc
        have f0 := A5.out.frozen 0
        have f1 := A5.out.frozen 1
        have f2 := A5.out.frozen 2
        have f3 := A5.out.frozen 3
        have f4 := A5.out.frozen 4
        go_wp2_with fail
        rw [HR.out]
        exact bodyPost_ret (ret_cell3 rfl rfl rfl rfl (A5.out.set s).sc) rfl ⟨rfl, below5 B5.out (Nat.le_refl _) s⟩
      · cases l2 : (t.blocks == m)
        · have HR : Hid (rpk (onB m X) (onB m Y) (Ws.par X) (Ws.par Y) = (s, 0, true)) := Wc.hid (by rw [HON.out, HON2.out, HS.out, HT.out, k1, l1, k2, l2]; simp [rpk])
          go_quiet (fail)
          have A5 : Hid (Sh (W4.drewN nq) w.heap.size Ws.s0) := A4
          have C5 : Hid (Sh (W4.drewN nq) w1.heap.size s) := C4
          have D5 : Hid (Sh (W4.drewN nq) w3.heap.size t) := D4
          have B5 := Wc.hid (below_drewN B4.out nq)
          obtain ⟨W5, hW5⟩ : ∃ W5, W4.drewN nq = W5 := ⟨_, rfl⟩
          rw [hW5] at A5 B5 C5 D5 ⊢
          clear hW5 a0 a1 a2 a3 a4 c0 c1 c2 c3 c4 d0 d1 d2 d3 d4 A4 B4 C4 D4
          have ⟨a0, a1, a2, a3, a4⟩ := A5.out.sc
          have ⟨c0, c1, c2, c3, c4⟩ := C5.out.sc
          have ⟨d0, d1, d2, d3, d4⟩ := D5.out.sc
          have f0 := A5.out.frozen 0
          have f1 := A5.out.frozen 1
          have f2 := A5.out.frozen 2
          have f3 := A5.out.frozen 3
          have f4 := A5.out.frozen 4
          go_wp2_with fail
          rw [HR.out]
          exact bodyPost_ret (ret_cell3 rfl rfl rfl rfl (A5.out.set s).sc) rfl ⟨rfl, below5 B5.out (Nat.le_refl _) s⟩
        · by_cases hge : t.gen ≤ s.gen
          · have HR : Hid (rpk (onB m X) (onB m Y) (Ws.par X) (Ws.par Y) = (s, 0, true)) := Wc.hid (by rw [HON.out, HON2.out, HS.out, HT.out, k1, l1, k2, l2]; simp [rpk, hge])
            go_quiet (fail)
            have A5 : Hid (Sh (W4.drewN nq) w.heap.size Ws.s0) := A4
            have C5 : Hid (Sh (W4.drewN nq) w1.heap.size s) := C4
            have D5 : Hid (Sh (W4.drewN nq) w3.heap.size t) := D4
            have B5 := Wc.hid (below_drewN B4.out nq)
            obtain ⟨W5, hW5⟩ : ∃ W5, W4.drewN nq = W5 := ⟨_, rfl⟩
            rw [hW5] at A5 B5 C5 D5 ⊢
            clear hW5 a0 a1 a2 a3 a4 c0 c1 c2 c3 c4 d0 d1 d2 d3 d4 A4 B4 C4 D4
            have ⟨a0, a1, a2, a3, a4⟩ := A5.out.sc
            have ⟨c0, c1, c2, c3, c4⟩ := C5.out.sc
            have ⟨d0, d1, d2, d3, d4⟩ := D5.out.sc
            have f0 := A5.out.frozen 0
            have f1 := A5.out.frozen 1
            have f2 := A5.out.frozen 2
            have f3 := A5.out.frozen 3
            have f4 := A5.out.frozen 4
            go_wp2_with fail
            rw [HR.out]
            exact bodyPost_ret (ret_cell3 rfl rfl rfl rfl (A5.out.set s).sc) rfl ⟨rfl, below5 B5.out (Nat.le_refl _) s⟩
          · have HR : Hid (rpk (onB m X) (onB m Y) (Ws.par X) (Ws.par Y) = (t, 1, true)) := Wc.hid (by rw [HON.out, HON2.out, HS.out, HT.out, k1, l1, k2, l2]; simp [rpk, hge])
            go_quiet (fail)
            have A5 : Hid (Sh (W4.drewN nq) w.heap.size Ws.s0) := A4
            have C5 : Hid (Sh (W4.drewN nq) w1.heap.size s) := C4
            have D5 : Hid (Sh (W4.drewN nq) w3.heap.size t) := D4
            have B5 := Wc.hid (below_drewN B4.out nq)
            obtain ⟨W5, hW5⟩ : ∃ W5, W4.drewN nq = W5 := ⟨_, rfl⟩
            rw [hW5] at A5 B5 C5 D5 ⊢
            clear hW5 a0 a1 a2 a3 a4 c0 c1 c2 c3 c4 d0 d1 d2 d3 d4 A4 B4 C4 D4
            have ⟨a0, a1, a2, a3, a4⟩ := A5.out.sc
            have ⟨c0, c1, c2, c3, c4⟩ := C5.out.sc
            have ⟨d0, d1, d2, d3, d4⟩ := D5.out.sc
            have f0 := A5.out.frozen 0
            have f1 := A5.out.frozen 1
            have f2 := A5.out.frozen 2
            have f3 := A5.out.frozen 3
            have f4 := A5.out.frozen 4
            go_wp2_with fail
            rw [HR.out]
            exact bodyPost_ret (ret_cell3 rfl rfl rfl rfl (A5.out.set t).sc) rfl ⟨rfl, below5 B5.out (Nat.le_refl _) t⟩

end Go.Proofs.Ytkddnjpkkkknfaa
