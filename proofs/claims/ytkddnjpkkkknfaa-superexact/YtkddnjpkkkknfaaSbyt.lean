/-
  What super.Bytes returns, for every superblock: its block in memory of its own, or the error.
-/
import Derived.Test.YtkddnjpkkkknfaaSchk
import Derived.Lib.BufferWrite
namespace Go.Proofs.Ytkddnjpkkkknfaa
open Go.RowKit

/-- At the block b lies the superblock s. -/
def Sc (w : World) (b : Nat) (s : Ws.Sup) : Prop :=
  w.cell? ⟨b, 0, none⟩ = some (.int .i64 s.gen) ∧ w.cell? ⟨b, 1, none⟩ = some (.int .i64 s.blocks) ∧ w.cell? ⟨b, 2, none⟩ = some (.int .i64 s.root) ∧ w.cell? ⟨b, 3, none⟩ = some (.int .i64 s.size) ∧ w.cell? ⟨b, 4, none⟩ = some (.int .i64 s.first)

theorem Sc.keep {w w' : World} {b : Nat} {s : Ws.Sup} (h : Sc w b s) (hb : Below w.heap.size w w') : Sc w' b s := by
  have hlt := Wc.cell_lt h.1
  exact ⟨(hb.cell (p := ⟨b, 0, none⟩) hlt).trans h.1, (hb.cell (p := ⟨b, 1, none⟩) hlt).trans h.2.1, (hb.cell (p := ⟨b, 2, none⟩) hlt).trans h.2.2.1, (hb.cell (p := ⟨b, 3, none⟩) hlt).trans h.2.2.2.1, (hb.cell (p := ⟨b, 4, none⟩) hlt).trans h.2.2.2.2⟩

theorem Sc.new (w : World) (s : Ws.Sup) (t : TypeId) : Sc (w.alloc (.cells #[.int .i64 s.gen, .int .i64 s.blocks, .int .i64 s.root, .int .i64 s.size, .int .i64 s.first] t)) w.heap.size s := by
  refine ⟨?_, ?_, ?_, ?_, ?_⟩ <;> simp

theorem supE_yes {s : Ws.Sup} (h : Ws.supB s = true) : Ws.supE s = 0 := by simp [Ws.supE, h]
theorem supE_no {s : Ws.Sup} (h : Ws.supB s = false) : Ws.supE s = 1 := by simp [Ws.supE, h]

/-- A row of bytes. -/
def Rb (w : World) (g : Nat) (xs : List Int) : Prop := w.rowIs g 5 64 (fun j => .int .u8 (xs.getD j 0))

theorem Rb.bs {w : World} {g : Nat} {xs : List Int} (h : Rb w g xs) (hl : xs.length = 64) (hx : ∀ x ∈ xs, 0 ≤ x ∧ x < 256) : Wc.Bs w (.slice (some ⟨g, 0, none⟩) 64 64) xs := Wc.Bs.row hl (by omega) hx h

theorem Rb.keep {w w' : World} {g : Nat} {xs : List Int} (h : Rb w g xs) (hb : Below w.heap.size w w') : Rb w' g xs := by
  obtain ⟨c, h1, h2, h3⟩ := h
  exact ⟨c, by rw [hb.block g (Array.getElem?_eq_some_iff.1 h1).1]; exact h1, h2, h3⟩

theorem make64 (w : World) : (Instr.makeSlice 24 (.int .i64 64) (.int .i64 64)).run Try.prog w = .ok (.slice (some ⟨w.heap.size, 0, none⟩) 64 64) (w.alloc (.cells (madeCells #[.int .u8 0] 64) 5)) :=
  run_make_row' (P := Try.prog) 24 5 (.int .u8 0) 1 Try.underlying24 Try.infoU8 rfl .i64 .i64 64 (by omega) (by omega) w

/-- copy(b, "WCUT"), b made just ahead of it. -/
theorem named (w : World) : ∃ w2, Sem.run Try.prog (Builtin.copy_ #[24, 9] 3 #[.slice (some ⟨w.heap.size, 0, none⟩) 64 64, .string ⟨#[87, 67, 85, 84]⟩]) (w.alloc (.cells (madeCells #[.int .u8 0] 64) 5)) = .ok (.int .i64 4) w2 ∧
    Rb w2 w.heap.size Ws.p0 ∧ Below w.heap.size w w2 := by
  have hg := made_heap w (.int .u8 0) 64 5
  have hrun := Lib.run_copy_row_string (P := Try.prog) (w.alloc (.cells (madeCells #[.int .u8 0] 64) 5)) 24 9 3 5 w.heap.size 0 64 64 ⟨#[87, 67, 85, 84]⟩ _ 5 Try.underlying24 Try.sizeU8 hg (by decide) (by decide)
  refine ⟨_, hrun, ⟨_, setRow_heap _ _ _ _ 5 _ hg, by decide, fun i hi => ?_⟩, below_setRow ((Below.refl _ _).alloc (Nat.le_refl _) _) (Nat.le_refl _) _⟩
  have hl : i < Ws.p0.length := hi
  have hc : (Ws.p0.map (Value.int .u8)).toArray[i]? = some (.int .u8 (Ws.p0.getD i 0)) := by simp [hl]
  exact hc

set_option maxHeartbeats 400000 in
theorem put6_lay (g : Nat) (xs ys : List Int) (p t m : Int) (w : World) (hl : xs.length = 64) (hs : Wc.rsB t = true) (hf : Wc.fitB m t = true) (hp : Wc.inB 64 p t = true) (hr : Rb w g xs) (he : Wc.putL xs p.toNat t.toNat m = ys) :
    Calls Try.prog 21 #[.slice (some ⟨g, 0, none⟩) 64 64, .int .i64 p, .int .i64 t, .int .i64 m] w fun e w' => ∃ g', e = .returned (.slice (some ⟨g', 0, none⟩) 64 64) ∧ w.heap.size ≤ g' ∧ Rb w' g' ys ∧ Below w.heap.size w w' := by
  refine (put6_row g 0 64 64 xs p t m w hs hf hp (by omega) hl hr.lt (fun i hi => by rw [Nat.zero_add]; exact hr.cell hi)).mono ?_
  rintro e w' ⟨g', rfl, hg, hr', hb⟩
  rw [he] at hr'
  exact ⟨g', rfl, hg, hr', hb⟩

theorem fit8 {n : Int} (h : 0 ≤ n ∧ n ≤ 1099511627776) : Wc.fitB n 8 = true := (Wc.fitB_iff (by decide)).2 ⟨h.1, by omega, by rw [show (8 : Int).toNat = 8 from rfl]; omega⟩
theorem fit4 {n : Int} (h : 0 ≤ n ∧ n < 4294967296) : Wc.fitB n 4 = true := (Wc.fitB_iff (by decide)).2 ⟨h.1, by omega, by rw [show (4 : Int).toNat = 4 from rfl]; omega⟩

set_option maxHeartbeats 1600000 in
theorem bytes6_ok (s : Ws.Sup) (w : World) (hs : Ws.supB s = true) :
    Calls Try.prog 9 #[sv s] w fun e w' => ∃ g, e = .returned (.tuple #[.slice (some ⟨g, 0, none⟩) 64 64, .int .i64 0]) ∧ w.heap.size ≤ g ∧ Rb w' g (Ws.blk s) ∧ Below w.heap.size w w' := by
  have HS := Wc.hid (Ws.supB_iff.1 hs)
  have HE := Wc.hid (supE_yes hs)
  have HL := Wc.hid (Ws.p_length s)
  clear hs
  unfold sv
  go_enter Try.func9, Try.ntmps9
  go_wp2_with fail
  refine (check6_any s _).mono ?_
  rintro e w1 ⟨rfl, hb1⟩
  rw [HE.out]
  have SC1 := Wc.hid ((Sc.new w s 23).keep hb1)
  have HB1 := Wc.hid (Wc.step ((Below.refl w.heap.size w).alloc (Nat.le_refl _) _) (Nat.le_refl _) hb1)
  clear hb1
  obtain ⟨w2, hcp, hr2, hb2⟩ := named w1
  have hmk := make64
  have SC2 := Wc.hid (SC1.out.keep hb2)
  have HR2 := Wc.hid hr2
  have HB2 := Wc.hid (Wc.step HB1.out (Nat.le_refl _) hb2)
  clear hr2 hb2
  have ⟨c0, c1, c2, c3, c4⟩ := SC2.out
  go_wp2_with fail
  clear hmk hcp c0 c1 c2 c3 c4
  refine (put6_lay _ Ws.p0 (Ws.p1 s) 4 8 s.gen _ HL.out.1 (by decide) (fit8 (by have := HS.out; omega)) (by decide) HR2.out (Ws.put1 s)).mono ?_
  rintro e w3 ⟨g3, rfl, hg3, hr3, hb3⟩
  have SC3 := Wc.hid (SC2.out.keep hb3)
  have HR3 := Wc.hid hr3
  have HB3 := Wc.hid (Wc.step HB2.out (Nat.le_refl _) hb3)
  clear hg3 hr3 hb3
  have ⟨c0, c1, c2, c3, c4⟩ := SC3.out
  go_wp2_with fail
  clear c0 c1 c2 c3 c4
  refine (put6_lay _ (Ws.p1 s) (Ws.p2 s) 12 4 s.blocks _ HL.out.2.1 (by decide) (fit4 (by have := HS.out; omega)) (by decide) HR3.out (Ws.put2 s)).mono ?_
  rintro e w4 ⟨g4, rfl, hg4, hr4, hb4⟩
  have SC4 := Wc.hid (SC3.out.keep hb4)
  have HR4 := Wc.hid hr4
  have HB4 := Wc.hid (Wc.step HB3.out (Nat.le_refl _) hb4)
  clear hg4 hr4 hb4
  have ⟨c0, c1, c2, c3, c4⟩ := SC4.out
  go_wp2_with fail
  clear c0 c1 c2 c3 c4
  refine (put6_lay _ (Ws.p2 s) (Ws.p3 s) 16 4 s.root _ HL.out.2.2.1 (by decide) (fit4 (by have := HS.out; omega)) (by decide) HR4.out (Ws.put3 s)).mono ?_
  rintro e w5 ⟨g5, rfl, hg5, hr5, hb5⟩
  have SC5 := Wc.hid (SC4.out.keep hb5)
  have HR5 := Wc.hid hr5
  have HB5 := Wc.hid (Wc.step HB4.out (Nat.le_refl _) hb5)
  clear hg5 hr5 hb5
  have ⟨c0, c1, c2, c3, c4⟩ := SC5.out
  go_wp2_with fail
  clear c0 c1 c2 c3 c4
  refine (put6_lay _ (Ws.p3 s) (Ws.p4 s) 20 4 s.size _ HL.out.2.2.2.1 (by decide) (fit4 (by have := HS.out; omega)) (by decide) HR5.out (Ws.put4 s)).mono ?_
  rintro e w6 ⟨g6, rfl, hg6, hr6, hb6⟩
  have SC6 := Wc.hid (SC5.out.keep hb6)
  have HR6 := Wc.hid hr6
  have HB6 := Wc.hid (Wc.step HB5.out (Nat.le_refl _) hb6)
  clear hg6 hr6 hb6
  have ⟨c0, c1, c2, c3, c4⟩ := SC6.out
  go_wp2_with fail
  clear c0 c1 c2 c3 c4
  refine (put6_lay _ (Ws.p4 s) (Ws.p5 s) 24 4 s.first _ HL.out.2.2.2.2.1 (by decide) (fit4 (by have := HS.out; omega)) (by decide) HR6.out (Ws.put5 s)).mono ?_
  rintro e w7 ⟨g7, rfl, hg7, hr7, hb7⟩
  have HR7 := Wc.hid hr7
  have HB7 := Wc.hid (Wc.step HB6.out (Nat.le_refl _) hb7)
  clear hg7 hr7 hb7
  have HV := Wc.hid (HR7.out.bs HL.out.2.2.2.2.2 (by rw [Ws.p5_head]; intro x hx; rw [List.mem_append] at hx; rcases hx with h | h; exact Ws.head_bd s x h; rw [List.mem_replicate] at h; omega))
  go_wp2_with fail
  refine (sum_any _ _ _ (Wc.bs_take HV.out 60 (by omega))).mono ?_
  rintro e w8 ⟨rfl, rfl⟩
  rw [Ws.p5_take]
  have hm := Wc.more_range 0 (Ws.head s) (Ws.head_bd s)
  have HM := Wc.hid hm
  clear hm
  go_wp2_with fail
  refine (put6_lay _ (Ws.p5 s) (Ws.blk s) 60 4 (Wc.more 0 (Ws.head s)) _ HL.out.2.2.2.2.2 (by decide) (fit4 HM.out) (by decide) HR7.out (Ws.put6 s)).mono ?_
  rintro e w9 ⟨g9, rfl, hg9, hr9, hb9⟩
  go_wp2_with fail
  go_ret2
  exact ⟨g9, rfl, Nat.le_trans HB7.out.size hg9, hr9, Wc.step HB7.out (Nat.le_refl _) hb9⟩

set_option maxHeartbeats 1600000 in
theorem bytes6_bad (s : Ws.Sup) (w : World) (hs : Ws.supB s = false) :
    Calls Try.prog 9 #[sv s] w fun e w' => e = .returned (.tuple #[.slice none 0 0, .int .i64 1]) ∧ Below w.heap.size w w' := by
  have HE := Wc.hid (supE_no hs)
  clear hs
  unfold sv
  go_enter Try.func9, Try.ntmps9
  go_wp2_with fail
  refine (check6_any s _).mono ?_
  rintro e w1 ⟨rfl, hb1⟩
  rw [HE.out]
  go_wp2_with fail
  go_ret2
  exact ⟨rfl, Wc.step ((Below.refl w.heap.size w).alloc (Nat.le_refl _) _) (Nat.le_refl _) hb1⟩

end Go.Proofs.Ytkddnjpkkkknfaa
