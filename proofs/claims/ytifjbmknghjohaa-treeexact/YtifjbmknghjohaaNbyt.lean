/-
  What node.Bytes returns, for every node: its block in memory of its own, or the error.
-/
import Derived.Test.YtifjbmknghjohaaNchk
namespace Go.Proofs.Ytifjbmknghjohaa
open Go.RowKit

/-- copy(b, "NODE"), b made just ahead of it. -/
theorem named7 (w : World) : ∃ w2, Sem.run Try.prog (Builtin.copy_ #[22, 9] 3 #[.slice (some ⟨w.heap.size, 0, none⟩) 64 64, .string ⟨#[78, 79, 68, 69]⟩]) (w.alloc (.cells (madeCells #[.int .u8 0] 64) 5)) = .ok (.int .i64 4) w2 ∧
    Rb w2 w.heap.size Wn.q0 ∧ Below w.heap.size w w2 := by
  have hg := made_heap w (.int .u8 0) 64 5
  have hrun := Lib.run_copy_row_string (P := Try.prog) (w.alloc (.cells (madeCells #[.int .u8 0] 64) 5)) 22 9 3 5 w.heap.size 0 64 64 ⟨#[78, 79, 68, 69]⟩ _ 5 Try.underlying22 Try.sizeU8 hg (by decide) (by decide)
  refine ⟨_, hrun, ⟨_, setRow_heap _ _ _ _ 5 _ hg, by decide, fun i hi => ?_⟩, below_setRow ((Below.refl _ _).alloc (Nat.le_refl _) _) (Nat.le_refl _) _⟩
  have hl : i < Wn.q0.length := hi
  have hc : (Wn.q0.map (Value.int .u8)).toArray[i]? = some (.int .u8 (Wn.q0.getD i 0)) := by simp [hl]
  exact hc

set_option maxHeartbeats 1600000 in
theorem bytes7_ok (n : Wn.Nod) (w : World) (hs : Wn.nodB n = true) :
    Calls Try.prog 21 #[nv n] w fun e w' => ∃ g, e = .returned (.tuple #[.slice (some ⟨g, 0, none⟩) 64 64, .int .i64 0]) ∧ w.heap.size ≤ g ∧ Rb w' g (Wn.blk n) ∧ Below w.heap.size w w' := by
  have HS := Wc.hid (Wn.nodB_iff.1 hs).1
  have HK : Hid (∀ k, k < 8 → 0 ≤ Wn.pat n k ∧ Wn.pat n k < 4096) := Wc.hid fun k hk => Wn.nodB_pat hs hk
  have HE := Wc.hid (nodE_yes hs)
  clear hs
  unfold nv
  go_enter Try.func21, Try.ntmps21
  go_wp2_with fail
  refine (check7_any n _).mono ?_
  rintro e w1 ⟨rfl, hb1⟩
  rw [HE.out]
  have A1 := Wc.hid ((Nh.new w n).keep hb1)
  have HB1 := Wc.hid (Wc.step ((Below.refl w.heap.size w).alloc (Nat.le_refl _) _) (Nat.le_refl _) hb1)
  clear hb1
  obtain ⟨w2, hcp, hr2, hb2⟩ := named7 w1
  have hmk := make64
  have A2 := Wc.hid (A1.out.keep hb2)
  have HR2 := Wc.hid hr2
  have HB2 := Wc.hid (Wc.step HB1.out (Nat.le_refl _) hb2)
  clear hr2 hb2
  have ⟨c, c0, c1, c2, c3, c4, c5, c6, c7⟩ := A2.out.nc
  go_wp2_with fail
  clear hmk hcp c c0 c1 c2 c3 c4 c5 c6 c7
  refine (put7_lay _ Wn.q0 (Wn.part n 0) 4 n.level _ Wn.q0_length (fit4 (by have := HS.out; omega)) (by decide) HR2.out (Wn.put0 n)).mono ?_
  rintro e w3 ⟨g3, rfl, hg3, hr3, hb3⟩
  have A3 := Wc.hid (A2.out.keep hb3)
  have HR3 := Wc.hid hr3
  have HB3 := Wc.hid (Wc.step HB2.out (Nat.le_refl _) hb3)
  clear hg3 hr3 hb3 A2 HR2 HB2 A1 HB1
  have ⟨c, c0, c1, c2, c3, c4, c5, c6, c7⟩ := A3.out.nc
  go_wp2_with fail
  clear c c0 c1 c2 c3 c4 c5 c6 c7
  go_loopw [5, 22] (fun u i wr => ∃ k g, u = .slice (some ⟨g, 0, none⟩) 64 64 ∧ i = .int .i64 (k : Nat) ∧ k ≤ 8 ∧ Hid (Rb wr g (Wn.part n k)) ∧ Hid (Below w.heap.size w wr)) (fun _ i _ => 8 - (intOf i).toNat)
  case atStart => exact ⟨0, g3, rfl, rfl, by omega, HR3, HB3⟩
  case round =>
    obtain ⟨k, g, rfl, rfl, hk, HR, HB⟩ := hrel
    by_cases hlt : k < 8
    · have hidx := fun w => idx8 n hlt w
      have hpk : ((8 : Int) + (k : Int) * 4).toNat = 8 + 4 * k := by omega
      go_wp2_with fail
      clear hidx
      refine (put7_lay g (Wn.part n k) (Wn.part n (k + 1)) (8 + (k : Int) * 4) (Wn.pat n k) _ (Wn.part_length n k hk) (fit4 (by have := HK.out k hlt; omega)) (Wc.inB_iff.2 (by omega)) HR.out (by rw [hpk]; exact Wn.putk n k hlt)).mono ?_
      rintro e w4 ⟨g4, rfl, hg4, hr4, hb4⟩
      have HR4 := Wc.hid hr4
      have HB4 := Wc.hid (Wc.step HB.out (Nat.le_refl _) hb4)
      clear hg4 hr4 hb4
      go_wp2
      go_roundw
      case rel => exact ⟨k + 1, g4, rfl, by go_num, by omega, HR4, HB4⟩
      case measure => simp [intOf]; omega
    · obtain rfl : k = 8 := by omega
      have HV := Wc.hid (HR.out.bs (Wn.part_length n 8 (by omega)) (Wn.part_bd n))
      go_wp2_with fail
      refine (sum_any _ _ _ (Wc.bs_take HV.out 60 (by omega))).mono ?_
      rintro e w8 ⟨rfl, rfl⟩
      rw [Wn.part_take]
      have HM := Wc.hid (Wc.more_range 0 (Wn.head n) (Wn.head_bd n))
      go_wp2_with fail
      refine (put7_lay _ (Wn.part n 8) (Wn.blk n) 60 (Wc.more 0 (Wn.head n)) _ (Wn.part_length n 8 (by omega)) (fit4 HM.out) (by decide) HR.out (Wn.put_sum n)).mono ?_
      rintro e w9 ⟨g9, rfl, hg9, hr9, hb9⟩
      go_wp2_with fail
      go_ret2
      exact ⟨g9, rfl, Nat.le_trans HB.out.size hg9, hr9, Wc.step HB.out (Nat.le_refl _) hb9⟩

set_option maxHeartbeats 1600000 in
theorem bytes7_bad (n : Wn.Nod) (w : World) (hs : Wn.nodB n = false) :
    Calls Try.prog 21 #[nv n] w fun e w' => e = .returned (.tuple #[.slice none 0 0, .int .i64 1]) ∧ Below w.heap.size w w' := by
  have HE := Wc.hid (nodE_no hs)
  clear hs
  unfold nv
  go_enter Try.func21, Try.ntmps21
  go_wp2_with fail
  refine (check7_any n _).mono ?_
  rintro e w1 ⟨rfl, hb1⟩
  rw [HE.out]
  go_wp2_with fail
  go_ret2
  exact ⟨rfl, Wc.step ((Below.refl w.heap.size w).alloc (Nat.le_refl _) _) (Nat.le_refl _) hb1⟩

end Go.Proofs.Ytifjbmknghjohaa
