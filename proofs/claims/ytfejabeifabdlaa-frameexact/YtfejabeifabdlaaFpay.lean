/-
  What frame.add and frame.Payload return.
-/
import Derived.Test.YtfejabeifabdlaaFchk
import Derived.Deep.RegionWith
namespace Go.Proofs.Ytfejabeifabdlaa
open Go.RowKit

theorem make4 (w : World) : (Instr.makeSlice 22 (.int .i64 4) (.int .i64 4)).run Try.prog w = .ok (.slice (some ⟨w.heap.size, 0, none⟩) 4 4) (w.alloc (.cells (madeCells #[.int .u8 0] 4) 5)) :=
  run_make_row' (P := Try.prog) 22 5 (.int .u8 0) 1 Try.underlying22 Try.infoU8 rfl .i64 .i64 4 (by omega) (by omega) w

theorem putR_new4 (n : Int) (hf : Wc.fitB n 4 = true) : Wc.putR (List.replicate 4 0) 0 4 n = (Wc.enc 4 n, 0) := by
  have h := (Wc.fitB_iff (by decide)).1 hf
  rw [Wc.putR_ok _ 0 4 n (by decide) h (by decide)]
  have e : Wc.putL (List.replicate 4 0) (0 : Int).toNat (4 : Int).toNat n = Wc.enc 4 n := by
    unfold Wc.putL
    simp
  rw [e]

theorem bs_new4 (w : World) : Wc.Bs (w.alloc (.cells (madeCells #[.int .u8 0] 4) 5)) (.slice (some ⟨w.heap.size, 0, none⟩) 4 4) (List.replicate 4 0) :=
  Wc.Bs.lit w _ 5 4 _ (by simp) (by omega) (Wc.made_zero 4) (by intro x hx; rw [List.mem_replicate] at hx; omega)

set_option maxHeartbeats 1600000 in
theorem add_own4 (base : Nat) (vb : Value) (xs : List Int) (n : Int) (w : World) (hO : Wc.Ob 5 base w vb xs) (hb : base ≤ w.heap.size) (hf : Wc.fitB n 4 = true) (hl : xs.length + 4 ≤ 140737488355328) :
    Calls Try.prog 24 #[vb, .int .i64 4, .int .i64 n] w fun e w' => ∃ v, e = .returned v ∧ Wc.Ob 5 base w' v (xs ++ Wc.enc 4 n) ∧ Below base w w' := by
  obtain ⟨i0, hi, hz0, hz1, hz2⟩ := info_parts Try.infoU8
  have hmk := make4 w
  have HV := Wc.hid (bs_new4 w)
  have HR := Wc.hid (putR_new4 n hf)
  have HAL := Wc.hid ((Below.refl w.heap.size w).alloc (Nat.le_refl _) (.cells (madeCells #[.int .u8 0] 4) 5))
  have HO := Wc.hid hO
  clear hO
  go_enter Try.func24, Try.ntmps24
  go_wp2_with fail
  refine (put_any _ _ 0 4 n _ HV.out).mono ?_
  rintro e w1 ⟨x, rfl, hx, hb1⟩
  rw [HR.out] at hx ⊢
  have hB1 := Wc.step HAL.out (Nat.le_refl _) hb1
  have hO1 := HO.out.keep hB1
  obtain ⟨q, o, k, rfl⟩ := Wc.bs_shape hx (by rw [Wc.enc_length]; omega)
  obtain ⟨v', w', hrun, hO', hb'⟩ := Wc.append_run (P := Try.prog) (ty := 22) Try.underlying22 hi hz0 hz1 hz2 hO1 hx (.inr ⟨_, _, _, rfl⟩) (by rw [Wc.enc_length]; omega) (Nat.le_trans hb hB1.size)
  have HO' := Wc.hid hO'
  have HB' := Wc.hid ((hB1.mono hb).trans hb')
  clear hx hb1 hB1 hO1 hO' hb' hmk HV HR HAL HO
  go_wp2_with (at_builtin; refine Wc.wp_append hrun rfl rfl rfl rfl ?_)
  go_ret
  exact ⟨_, rfl, HO'.out, HB'.out⟩

theorem make8 (w : World) : (Instr.makeSlice 22 (.int .i64 8) (.int .i64 8)).run Try.prog w = .ok (.slice (some ⟨w.heap.size, 0, none⟩) 8 8) (w.alloc (.cells (madeCells #[.int .u8 0] 8) 5)) :=
  run_make_row' (P := Try.prog) 22 5 (.int .u8 0) 1 Try.underlying22 Try.infoU8 rfl .i64 .i64 8 (by omega) (by omega) w

theorem putR_new8 (n : Int) (hf : Wc.fitB n 8 = true) : Wc.putR (List.replicate 8 0) 0 8 n = (Wc.enc 8 n, 0) := by
  have h := (Wc.fitB_iff (by decide)).1 hf
  rw [Wc.putR_ok _ 0 8 n (by decide) h (by decide)]
  have e : Wc.putL (List.replicate 8 0) (0 : Int).toNat (8 : Int).toNat n = Wc.enc 8 n := by
    unfold Wc.putL
    simp
  rw [e]

theorem bs_new8 (w : World) : Wc.Bs (w.alloc (.cells (madeCells #[.int .u8 0] 8) 5)) (.slice (some ⟨w.heap.size, 0, none⟩) 8 8) (List.replicate 8 0) :=
  Wc.Bs.lit w _ 5 8 _ (by simp) (by omega) (Wc.made_zero 8) (by intro x hx; rw [List.mem_replicate] at hx; omega)

set_option maxHeartbeats 1600000 in
theorem add_own8 (base : Nat) (vb : Value) (xs : List Int) (n : Int) (w : World) (hO : Wc.Ob 5 base w vb xs) (hb : base ≤ w.heap.size) (hf : Wc.fitB n 8 = true) (hl : xs.length + 8 ≤ 140737488355328) :
    Calls Try.prog 24 #[vb, .int .i64 8, .int .i64 n] w fun e w' => ∃ v, e = .returned v ∧ Wc.Ob 5 base w' v (xs ++ Wc.enc 8 n) ∧ Below base w w' := by
  obtain ⟨i0, hi, hz0, hz1, hz2⟩ := info_parts Try.infoU8
  have hmk := make8 w
  have HV := Wc.hid (bs_new8 w)
  have HR := Wc.hid (putR_new8 n hf)
  have HAL := Wc.hid ((Below.refl w.heap.size w).alloc (Nat.le_refl _) (.cells (madeCells #[.int .u8 0] 8) 5))
  have HO := Wc.hid hO
  clear hO
  go_enter Try.func24, Try.ntmps24
  go_wp2_with fail
  refine (put_any _ _ 0 8 n _ HV.out).mono ?_
  rintro e w1 ⟨x, rfl, hx, hb1⟩
  rw [HR.out] at hx ⊢
  have hB1 := Wc.step HAL.out (Nat.le_refl _) hb1
  have hO1 := HO.out.keep hB1
  obtain ⟨q, o, k, rfl⟩ := Wc.bs_shape hx (by rw [Wc.enc_length]; omega)
  obtain ⟨v', w', hrun, hO', hb'⟩ := Wc.append_run (P := Try.prog) (ty := 22) Try.underlying22 hi hz0 hz1 hz2 hO1 hx (.inr ⟨_, _, _, rfl⟩) (by rw [Wc.enc_length]; omega) (Nat.le_trans hb hB1.size)
  have HO' := Wc.hid hO'
  have HB' := Wc.hid ((hB1.mono hb).trans hb')
  clear hx hb1 hB1 hO1 hO' hb' hmk HV HR HAL HO
  go_wp2_with (at_builtin; refine Wc.wp_append hrun rfl rfl rfl rfl ?_)
  go_ret
  exact ⟨_, rfl, HO'.out, HB'.out⟩

theorem add_own (base : Nat) (vb : Value) (xs : List Int) (z n : Int) (w : World) (hO : Wc.Ob 5 base w vb xs) (hb : base ≤ w.heap.size) (hz : z = 4 ∨ z = 8) (hf : Wc.fitB n z = true) (hl : xs.length + 8 ≤ 140737488355328) :
    Calls Try.prog 24 #[vb, .int .i64 z, .int .i64 n] w fun e w' => ∃ v, e = .returned v ∧ Wc.Ob 5 base w' v (xs ++ Wc.enc z.toNat n) ∧ Below base w w' := by
  rcases hz with rfl | rfl
  · exact add_own4 base vb xs n w hO hb hf (by omega)
  · exact add_own8 base vb xs n w hO hb hf (by omega)

set_option maxHeartbeats 1600000 in
theorem add_grow (ad : Addr) (m cap : Nat) (xs : List Int) (n : Int) (w : World) (hv : Wc.Bs w (.slice (some ad) m cap) xs) (hc : cap < m + 4) (hf : Wc.fitB n 4 = true) (hl : xs.length + 4 ≤ 140737488355328) :
    Calls Try.prog 24 #[.slice (some ad) m cap, .int .i64 4, .int .i64 n] w fun e w' => ∃ v, e = .returned v ∧ Wc.Ob 5 w.heap.size w' v (xs ++ Wc.enc 4 n) ∧ Below w.heap.size w w' := by
  obtain ⟨i0, hi, hz0, hz1, hz2⟩ := info_parts Try.infoU8
  have hmk := make4 w
  have HV := Wc.hid (bs_new4 w)
  have HR := Wc.hid (putR_new4 n hf)
  have HAL := Wc.hid ((Below.refl w.heap.size w).alloc (Nat.le_refl _) (.cells (madeCells #[.int .u8 0] 4) 5))
  have HO := Wc.hid hv
  clear hv
  go_enter Try.func24, Try.ntmps24
  go_wp2_with fail
  refine (put_any _ _ 0 4 n _ HV.out).mono ?_
  rintro e w1 ⟨x, rfl, hx, hb1⟩
  rw [HR.out] at hx ⊢
  have hB1 := Wc.step HAL.out (Nat.le_refl _) hb1
  have hO1 := HO.out.keep hB1
  obtain ⟨q, o, k, rfl⟩ := Wc.bs_shape hx (by rw [Wc.enc_length]; omega)
  obtain ⟨v', w', hrun, hO', hb'⟩ := Wc.grow_run (P := Try.prog) (ty := 22) Try.underlying22 hi hz0 hz1 hz2 hO1 hx (by rw [Wc.enc_length]; omega) (by rw [Wc.enc_length]; omega) (by rw [Wc.enc_length]; omega)
  have HO' := Wc.hid (hO'.base hB1.size)
  have HB' := Wc.hid (Wc.step hB1 (Nat.le_refl _) hb')
  clear hx hb1 hB1 hO1 hO' hb' hmk HV HR HAL HO
  go_wp2_with (at_builtin; refine Wc.wp_append hrun rfl rfl rfl rfl ?_)
  go_ret
  exact ⟨_, rfl, HO'.out, HB'.out⟩

set_option maxHeartbeats 1600000 in
theorem payload_bad (c : Wk.Cmd) (a : Option Addr) (cap : Nat) (w : World) (hl : c.data.length ≤ 140737488355328) (hc : Wk.Held c) (hb : Wk.cmdB c = false) :
    Calls Try.prog 11 #[cv c (.slice a c.data.length cap)] w fun e w' => e = .returned (.tuple #[.slice none 0 0, .int .i64 1]) ∧ Below w.heap.size w w' := by
  have HE := Wc.hid (Wk.cmdE_no hb)
  have HC := Wc.hid (check9_any c a cap)
  clear hb
  have HB := Wc.hid ((Below.refl w.heap.size w).alloc (Nat.le_refl _) (.cells #[.int .i64 c.kind, .int .i64 c.id, .int .i64 c.parent, .int .i64 c.size, .int .i64 c.start, .int .i64 c.count, .int .i64 c.source, .int .i64 c.digest, .slice a c.data.length cap] 24))
  unfold cv
  go_enter Try.func11, Try.ntmps11
  go_wp2_with fail
  refine (HC.out _ hl hc).mono ?_
  rintro e w1 ⟨rfl, hb1⟩
  rw [HE.out]
  go_wp2_with fail
  go_ret2
  exact ⟨rfl, Wc.step HB.out (Nat.le_refl _) hb1⟩

end Go.Proofs.Ytfejabeifabdlaa
