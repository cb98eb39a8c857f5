/-
  The statements' own wakes returns true.
-/
import Derived.Test.YtkddnjpkkkknfaaSpick
namespace Go.Proofs.Ytkddnjpkkkknfaa
open Go.RowKit

def wk : Ws.Sup := ⟨5, 4, 0, 3, 0⟩
theorem wk_sup : Ws.supB wk = true := by decide
theorem wk_par : Ws.par (Ws.blk wk) = ⟨5, 4, 0, 3, 0⟩ ∧ Ws.parE (Ws.blk wk) = 0 := ⟨(Ws.par_blk wk_sup).2, (Ws.par_blk wk_sup).1⟩
theorem s0_no : Ws.supE Ws.s0 = 1 := by decide

theorem zeros_slot (n : Int) : Ws.slotS n (List.replicate 64 0) = Ws.s0 := by
  have h := (Ws.par_name (xs := List.replicate 64 0) (by simp) (by decide)).1
  exact Ws.slot_no (fun e => by omega)

theorem zeros_pick (n : Nat) (hn : n = 256) : pickA (List.replicate n 0) = (Ws.s0, 0, 8) := by
  have e1 : (List.replicate n (0 : Int)).take 64 = List.replicate 64 0 := by rw [List.take_replicate, show min 64 n = 64 by omega]
  have e2 : ((List.replicate n (0 : Int)).drop 64).take 64 = List.replicate 64 0 := by rw [List.drop_replicate, List.take_replicate, show min 64 (n - 64) = 64 by omega]
  rw [pickA, List.length_replicate, if_pos (Wd.devB_iff.2 (by omega))]
  unfold Ws.pickR
  rw [e1, e2, zeros_slot]
  rfl

/-- Noughts, made. -/
theorem made (n : Nat) (hn : n ≤ 140737488355328) : ∃ (xs : List Int) (Z : Array Value), xs = List.replicate n 0 ∧ (∀ w : World, (Instr.makeSlice 24 (.int .i64 n) (.int .i64 n)).run Try.prog w = .ok (.slice (some ⟨w.heap.size, 0, none⟩) n n) (w.alloc (.cells Z 5))) ∧
    ∀ (w : World) (g : Nat), g = w.heap.size → Wc.Bs (w.alloc (.cells Z 5)) (.slice (some ⟨g, 0, none⟩) n n) xs :=
  ⟨_, _, rfl, fun w => run_make_row' (P := Try.prog) 24 5 (.int .u8 0) 1 Try.underlying24 Try.infoU8 rfl .i64 .i64 n (by omega) (by omega) w,
    fun w g hg => Wc.Bs.litAt w _ 5 n g hg _ (by simp) hn (Wc.made_zero n) (by intro x hx; rw [List.mem_replicate] at hx; omega)⟩

theorem made256 : ∃ (xs : List Int) (Z : Array Value), pickA xs = (Ws.s0, 0, 8) ∧ (∀ w : World, (Instr.makeSlice 24 (.int .i64 256) (.int .i64 256)).run Try.prog w = .ok (.slice (some ⟨w.heap.size, 0, none⟩) 256 256) (w.alloc (.cells Z 5))) ∧
    ∀ (w : World) (g : Nat), g = w.heap.size → Wc.Bs (w.alloc (.cells Z 5)) (.slice (some ⟨g, 0, none⟩) 256 256) xs := by
  obtain ⟨xs, Z, hx, hm, hb⟩ := made 256 (by omega)
  exact ⟨xs, Z, by rw [hx]; exact zeros_pick 256 rfl, hm, hb⟩

theorem bytes6_wk (w : World) :
    Calls Try.prog 9 #[.agg #[.int .i64 5, .int .i64 4, .int .i64 0, .int .i64 3, .int .i64 0]] w fun e w' => ∃ g X, e = .returned (.tuple #[.slice (some ⟨g, 0, none⟩) 64 64, .int .i64 0]) ∧ Wc.Bs w' (.slice (some ⟨g, 0, none⟩) 64 64) X ∧ (Ws.par X = ⟨5, 4, 0, 3, 0⟩ ∧ Ws.parE X = 0) ∧ Below w.heap.size w w' := by
  refine (bytes6_ok wk w wk_sup).mono ?_
  rintro e w1 ⟨g, rfl, hg, hr, hb⟩
  exact ⟨g, _, rfl, hr.bs (Ws.blk_length _) (Ws.blk_bd _), wk_par, hb⟩

set_option maxHeartbeats 1600000 in
theorem wakes_any (w : World) :
    Calls Try.prog 18 #[] w fun e w' => e = .returned (.bool true) ∧ Below w.heap.size w w' := by
  go_enter Try.func18, Try.ntmps18
  go_wp2_with fail
  refine (bytes6_wk _).mono ?_
  rintro e w1 ⟨g, X, rfl, hX, hp, hb1⟩
  have A1 := Wc.hid ((Sh.new w ⟨5, 4, 0, 3, 0⟩).keep hb1)
  have HB1 := Wc.hid (Wc.step ((Below.refl w.heap.size w).alloc (Nat.le_refl _) _) (Nat.le_refl _) hb1)
  have HX := Wc.hid hX
  have HP := Wc.hid hp
  clear hX hp hb1
  go_wp2_with fail
  refine (parse_any _ _ _ HX.out).mono ?_
  rintro e w2 ⟨rfl, hb2⟩
  rw [HP.out.1, HP.out.2]
  unfold sv
  have A2 := Wc.hid ((A1.out.keep hb2).keep ((Below.refl _ _).alloc (Nat.le_refl _) (.cells #[.int .i64 5, .int .i64 4, .int .i64 0, .int .i64 3, .int .i64 0] 23)))
  have A3 := Wc.hid (Sh.new w2 ⟨5, 4, 0, 3, 0⟩)
  have HB2 := Wc.hid ((Wc.step HB1.out (Nat.le_refl _) hb2).alloc (Wc.step HB1.out (Nat.le_refl _) hb2).size (.cells #[.int .i64 5, .int .i64 4, .int .i64 0, .int .i64 3, .int .i64 0] 23))
  clear hb2
  obtain ⟨xs, Z, hz, hmk, hzb⟩ := made256
  have HZB := Wc.hid hzb
  have HZ := Wc.hid hz
  clear hz hzb
  go_wp2_with fail
  clear hmk
  refine (pick_any _ _ _ _ _ (HZB.out _ _ (by simp))).mono ?_
  rintro e w3 ⟨rfl, hb3⟩
  rw [HZ.out]
  have A4 := Wc.hid ((A2.out.keep ((Below.refl _ _).alloc (Nat.le_refl _) _)).keep hb3)
  have A5 := Wc.hid ((A3.out.keep ((Below.refl _ _).alloc (Nat.le_refl _) _)).keep hb3)
  have HB4 := Wc.hid (Wc.step (HB2.out.alloc HB2.out.size (.cells Z 5)) (Nat.le_refl _) hb3)
  have A6 := Wc.hid (A4.out.keep ((Below.refl _ _).alloc (Nat.le_refl _) (.cells #[.int .i64 Ws.s0.gen, .int .i64 Ws.s0.blocks, .int .i64 Ws.s0.root, .int .i64 Ws.s0.size, .int .i64 Ws.s0.first] 23)))
  have A7 := Wc.hid (A5.out.keep ((Below.refl _ _).alloc (Nat.le_refl _) (.cells #[.int .i64 Ws.s0.gen, .int .i64 Ws.s0.blocks, .int .i64 Ws.s0.root, .int .i64 Ws.s0.size, .int .i64 Ws.s0.first] 23)))
  have ⟨c0, c1, c2, c3, c4⟩ := A6.out.sc
  have ⟨d0, d1, d2, d3, d4⟩ := A7.out.sc
  clear hb3
  unfold sv
  go_wp2_with fail
  refine (check6_any Ws.s0 _).mono ?_
  rintro e w4 ⟨rfl, hb4⟩
  rw [s0_no]
  go_wp2_with fail
  go_ret
  exact ⟨rfl, Wc.step (HB4.out.alloc HB4.out.size _) (Nat.le_refl _) hb4⟩

end Go.Proofs.Ytkddnjpkkkknfaa
