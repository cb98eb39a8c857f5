/-
  What record.Bytes returns, for every record: its block in memory of its own, or the error.
-/
import Derived.Test.YtblbldoeknihaaaRchk2
import Derived.Test.YtblbldoeknihaaaRput
import Derived.Lib.BufferWrite
namespace Go.Proofs.Ytblbldoeknihaaa
open Go.RowKit

/-- copy(b, "SNAP"), b made just ahead of it. -/
theorem named8 (w : World) : ∃ w2, Sem.run Try.prog (Builtin.copy_ #[24, 9] 3 #[.slice (some ⟨w.heap.size, 0, none⟩) 64 64, .string ⟨#[83, 78, 65, 80]⟩]) (w.alloc (.cells (madeCells #[.int .u8 0] 64) 5)) = .ok (.int .i64 4) w2 ∧
    Rb w2 w.heap.size Wr.p0 ∧ Below w.heap.size w w2 := by
  have hg := made_heap w (.int .u8 0) 64 5
  have hrun := Lib.run_copy_row_string (P := Try.prog) (w.alloc (.cells (madeCells #[.int .u8 0] 64) 5)) 24 9 3 5 w.heap.size 0 64 64 ⟨#[83, 78, 65, 80]⟩ _ 5 Try.underlying24 Try.sizeU8 hg (by decide) (by decide)
  refine ⟨_, hrun, ⟨_, setRow_heap _ _ _ _ 5 _ hg, by decide, fun i hi => ?_⟩, below_setRow ((Below.refl _ _).alloc (Nat.le_refl _) _) (Nat.le_refl _) _⟩
  have hl : i < Wr.p0.length := hi
  have hc : (Wr.p0.map (Value.int .u8)).toArray[i]? = some (.int .u8 (Wr.p0.getD i 0)) := by simp [hl]
  exact hc

set_option maxHeartbeats 3200000 in
theorem bytes8_ok (r : Wr.Rec) (w : World) (hs : Wr.recB r = true) :
    Calls Try.prog 7 #[rv r] w fun e w' => ∃ g, e = .returned (.tuple #[.slice (some ⟨g, 0, none⟩) 64 64, .int .i64 0]) ∧ w.heap.size ≤ g ∧ Rb w' g (Wr.blk r) ∧ Below w.heap.size w w' := by
  have HS := Wc.hid (Wr.recB_fit hs)
  have HE := Wc.hid (Wr.recE_yes hs)
  clear hs
  unfold rv
  go_enter Try.func7, Try.ntmps7
  go_wp2_with fail
  refine (check8_any r _).mono ?_
  rintro e w1 ⟨rfl, hb1⟩
  rw [HE.out]
  have A1 := Wc.hid ((Rh.new w r).keep hb1)
  have HB1 := Wc.hid (Wc.step ((Below.refl w.heap.size w).alloc (Nat.le_refl _) _) (Nat.le_refl _) hb1)
  clear hb1
  obtain ⟨w2, hcp, hr2, hb2⟩ := named8 w1
  have hmk := make64
  have A2 := Wc.hid (A1.out.keep hb2)
  have HR2 := Wc.hid hr2
  have HB2 := Wc.hid (Wc.step HB1.out (Nat.le_refl _) hb2)
  clear hr2 hb2
  have ⟨c0, c1, c2, c3, c4, c5, c6, c7⟩ := A2.out.rc
  go_wp2_with fail
  clear hmk hcp c0 c1 c2 c3 c4 c5 c6 c7
  refine (put8_lay _ Wr.p0 (Wr.p1 r) 4 4 r.next _ Wr.p0_length (by decide) (fit4 HS.out.1) (by decide) HR2.out (Wr.put1 r)).mono ?_
  rintro e w3 ⟨g3, rfl, hg, hr, hb⟩
  have HR3 := Wc.hid hr
  have HB3 := Wc.hid (Wc.step HB2.out (Nat.le_refl _) hb)
  have A3 := Wc.hid (A2.out.keep hb)
  clear hg hr hb
  have ⟨c0, c1, c2, c3, c4, c5, c6, c7⟩ := A3.out.rc
  go_wp2_with fail
  clear c0 c1 c2 c3 c4 c5 c6 c7
  refine (put8_lay _ (Wr.p1 r) (Wr.p2 r) 8 8 r.id _ (Wr.p1_length r) (by decide) (fit8i HS.out.2.1) (by decide) HR3.out (Wr.put2 r)).mono ?_
  rintro e w4 ⟨g4, rfl, hg, hr, hb⟩
  have HR4 := Wc.hid hr
  have HB4 := Wc.hid (Wc.step HB3.out (Nat.le_refl _) hb)
  have A4 := Wc.hid (A3.out.keep hb)
  clear hg hr hb
  have ⟨c0, c1, c2, c3, c4, c5, c6, c7⟩ := A4.out.rc
  go_wp2_with fail
  clear c0 c1 c2 c3 c4 c5 c6 c7
  refine (put8_lay _ (Wr.p2 r) (Wr.p3 r) 16 8 r.parent _ (Wr.p2_length r) (by decide) (fit8i HS.out.2.2.1) (by decide) HR4.out (Wr.put3 r)).mono ?_
  rintro e w5 ⟨g5, rfl, hg, hr, hb⟩
  have HR5 := Wc.hid hr
  have HB5 := Wc.hid (Wc.step HB4.out (Nat.le_refl _) hb)
  have A5 := Wc.hid (A4.out.keep hb)
  clear hg hr hb
  have ⟨c0, c1, c2, c3, c4, c5, c6, c7⟩ := A5.out.rc
  go_wp2_with fail
  clear c0 c1 c2 c3 c4 c5 c6 c7
  refine (put8_lay _ (Wr.p3 r) (Wr.p4 r) 24 4 r.root _ (Wr.p3_length r) (by decide) (fit4 HS.out.2.2.2.1) (by decide) HR5.out (Wr.put4 r)).mono ?_
  rintro e w6 ⟨g6, rfl, hg, hr, hb⟩
  have HR6 := Wc.hid hr
  have HB6 := Wc.hid (Wc.step HB5.out (Nat.le_refl _) hb)
  have A6 := Wc.hid (A5.out.keep hb)
  clear hg hr hb
  have ⟨c0, c1, c2, c3, c4, c5, c6, c7⟩ := A6.out.rc
  go_wp2_with fail
  clear c0 c1 c2 c3 c4 c5 c6 c7
  refine (put8_lay _ (Wr.p4 r) (Wr.p5 r) 28 4 r.size _ (Wr.p4_length r) (by decide) (fit4 HS.out.2.2.2.2.1) (by decide) HR6.out (Wr.put5 r)).mono ?_
  rintro e w7 ⟨g7, rfl, hg, hr, hb⟩
  have HR7 := Wc.hid hr
  have HB7 := Wc.hid (Wc.step HB6.out (Nat.le_refl _) hb)
  have A7 := Wc.hid (A6.out.keep hb)
  clear hg hr hb
  have ⟨c0, c1, c2, c3, c4, c5, c6, c7⟩ := A7.out.rc
  go_wp2_with fail
  clear c0 c1 c2 c3 c4 c5 c6 c7
  refine (put8_lay _ (Wr.p5 r) (Wr.p6 r) 32 4 r.kind _ (Wr.p5_length r) (by decide) (fit4 HS.out.2.2.2.2.2.1) (by decide) HR7.out (Wr.put6 r)).mono ?_
  rintro e w8 ⟨g8, rfl, hg, hr, hb⟩
  have HR8 := Wc.hid hr
  have HB8 := Wc.hid (Wc.step HB7.out (Nat.le_refl _) hb)
  have A8 := Wc.hid (A7.out.keep hb)
  clear hg hr hb
  have ⟨c0, c1, c2, c3, c4, c5, c6, c7⟩ := A8.out.rc
  go_wp2_with fail
  clear c0 c1 c2 c3 c4 c5 c6 c7
  refine (put8_lay _ (Wr.p6 r) (Wr.p7 r) 36 4 r.frames _ (Wr.p6_length r) (by decide) (fit4 HS.out.2.2.2.2.2.2.1) (by decide) HR8.out (Wr.put7 r)).mono ?_
  rintro e w9 ⟨g9, rfl, hg, hr, hb⟩
  have HR9 := Wc.hid hr
  have HB9 := Wc.hid (Wc.step HB8.out (Nat.le_refl _) hb)
  have A9 := Wc.hid (A8.out.keep hb)
  clear hg hr hb
  have ⟨c0, c1, c2, c3, c4, c5, c6, c7⟩ := A9.out.rc
  go_wp2_with fail
  clear c0 c1 c2 c3 c4 c5 c6 c7
  refine (put8_lay _ (Wr.p7 r) (Wr.p8 r) 40 4 r.digest _ (Wr.p7_length r) (by decide) (fit4 HS.out.2.2.2.2.2.2.2) (by decide) HR9.out (Wr.put8 r)).mono ?_
  rintro e w10 ⟨g10, rfl, hg, hr, hb⟩
  have HR10 := Wc.hid hr
  have HB10 := Wc.hid (Wc.step HB9.out (Nat.le_refl _) hb)
  clear hg hr hb
  have HV := Wc.hid (HR10.out.bs (Wr.p8_length r) (Wr.p8_bd r))
  go_wp2_with fail
  refine (sum_any _ _ _ (Wc.bs_take HV.out 60 (by omega))).mono ?_
  rintro e w11 ⟨rfl, rfl⟩
  rw [Wr.p8_take]
  have HM := Wc.hid (Wc.more_range 0 (Wr.head r) (Wr.head_bd r))
  go_wp2_with fail
  refine (put8_lay _ (Wr.p8 r) (Wr.blk r) 60 4 (Wc.more 0 (Wr.head r)) _ (Wr.p8_length r) (by decide) (fit4 HM.out) (by decide) HR10.out (Wr.put9 r)).mono ?_
  rintro e w12 ⟨g12, rfl, hg, hr, hb⟩
  go_wp2_with fail
  go_ret2
  exact ⟨g12, rfl, Nat.le_trans HB10.out.size hg, hr, Wc.step HB10.out (Nat.le_refl _) hb⟩

set_option maxHeartbeats 1600000 in
theorem bytes8_bad (r : Wr.Rec) (w : World) (hs : Wr.recB r = false) :
    Calls Try.prog 7 #[rv r] w fun e w' => e = .returned (.tuple #[.slice none 0 0, .int .i64 1]) ∧ Below w.heap.size w w' := by
  have HE := Wc.hid (Wr.recE_no hs)
  clear hs
  unfold rv
  go_enter Try.func7, Try.ntmps7
  go_wp2_with fail
  refine (check8_any r _).mono ?_
  rintro e w1 ⟨rfl, hb1⟩
  rw [HE.out]
  go_wp2_with fail
  go_ret2
  exact ⟨rfl, Wc.step ((Below.refl w.heap.size w).alloc (Nat.le_refl _) _) (Nat.le_refl _) hb1⟩

end Go.Proofs.Ytblbldoeknihaaa
