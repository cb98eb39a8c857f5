/-
  What the page's FrameBytes returns, for every right command and sequence number.
-/
import Derived.Test.YtfejabeifabdlaaGpy
namespace Go.Proofs.Ytfejabeifabdlaa
open Go.RowKit

set_option maxHeartbeats 3200000 in
theorem refFrame_any (q : Int) (c : Wk.Cmd) (a : Option Addr) (cap : Nat) (w : World) (hv : Wc.Bs w (.slice a c.data.length cap) c.data) (hsh : Wc.Shaped (.slice a c.data.length cap)) (hb : Wk.cmdB c = true) (hq : 0 ≤ q ∧ q ≤ 4294967295) :
    Calls Try.prog 21 #[.int .i64 q, cv c (.slice a c.data.length cap)] w fun e w' => ∃ v, e = .returned v ∧ Wc.Bs w' v (Wk.frame q c) ∧ Below w.heap.size w w' := by
  obtain ⟨i0, hi, hz0, hz1, hz2⟩ := info_parts Try.infoU8
  have HI : Hid (Try.prog.info? 5 = some i0 ∧ i0.zero = some (.int .u8 0) ∧ i0.size = 1 ∧ i0.bytes = 1) := Wc.hid ⟨hi, hz0, hz1, hz2⟩
  clear hi hz0 hz1 hz2
  have HB := Wc.hid ((Below.refl w.heap.size w).alloc (Nat.le_refl _) (.cells #[.int .i64 c.kind, .int .i64 c.id, .int .i64 c.parent, .int .i64 c.size, .int .i64 c.start, .int .i64 c.count, .int .i64 c.source, .int .i64 c.digest, .slice a c.data.length cap] 24))
  have HD := Wc.hid (Wk.Ch.new w c (.slice a c.data.length cap))
  have HBB := Wc.hid hb
  have HPL := Wc.hid (Wk.pay_len hb)
  have HK := Wc.hid (Wk.cmdB_kind hb)
  have HV := Wc.hid (hv.alloc (.cells #[.int .i64 c.kind, .int .i64 c.id, .int .i64 c.parent, .int .i64 c.size, .int .i64 c.start, .int .i64 c.count, .int .i64 c.source, .int .i64 c.digest, .slice a c.data.length cap] 24))
  have HSH := Wc.hid hsh
  have HQ2 := Wc.hid hq
  have HFR : Hid (Wk.frame q c = (Wk.name ++ Wc.enc 4 q ++ Wc.enc 4 c.kind ++ Wc.enc 4 ((Wk.pay c).length : Int) ++ Wk.pay c) ++ Wc.enc 4 (Wc.more 0 (Wk.name ++ Wc.enc 4 q ++ Wc.enc 4 c.kind ++ Wc.enc 4 ((Wk.pay c).length : Int) ++ Wk.pay c))) := Wc.hid (by
    unfold Wk.frame Wk.head; simp only [List.append_assoc])
  have HMR : Hid (0 ≤ Wc.more 0 (Wk.name ++ Wc.enc 4 q ++ Wc.enc 4 c.kind ++ Wc.enc 4 ((Wk.pay c).length : Int) ++ Wk.pay c) ∧ Wc.more 0 (Wk.name ++ Wc.enc 4 q ++ Wc.enc 4 c.kind ++ Wc.enc 4 ((Wk.pay c).length : Int) ++ Wk.pay c) < 4294967296) := Wc.hid (Wc.more_range 0 _ (by
    have := Wk.head_bd q c (Wc.bs_bytes hv)
    unfold Wk.head at this
    simpa only [List.append_assoc] using this))
  clear hb hv hsh hq
  unfold cv
  go_enter Try.func21, Try.ntmps21
  go_wp2_with fail
  refine (refPay_any c a cap _ HBB.out HV.out HSH.out).mono ?_
  rintro e w1 ⟨v1, rfl, hO1, hb1⟩
  have B1 := Wc.hid (Wc.step HB.out (Nat.le_refl _) hb1)
  have D1 := Wc.hid (HD.out.keep hb1)
  obtain ⟨g1, k1, rfl⟩ := Wc.ob_form hO1 (by have := HPL.out; omega)
  have V1 := Wc.hid hO1.bs
  generalize Wk.pay c = PY at *
  clear hO1 hb1 HB HD
  have kc := Joins.run_convert_bytes_const_at (P := Try.prog) w1 22 5 #[.int .u8 70, .int .u8 82, .int .u8 65, .int .u8 77] 4 4 w1.heap.size (by simp) Try.underlying22 Try.underlying5
  have L1 : Hid (Wc.Bs (w1.alloc (.cells #[.int .u8 70, .int .u8 82, .int .u8 65, .int .u8 77] 5 (4, 5))) (.slice (some ⟨w1.heap.size, 0, none⟩) 4 4) Wk.name) := Wc.hid (by
    have := Wc.Bs.litF w1 #[.int .u8 70, .int .u8 82, .int .u8 65, .int .u8 77] 5 4 (4, 5) Wk.name rfl (by omega) rfl (by decide)
    simpa using this)
  have A1 := Wc.hid ((Below.refl w1.heap.size w1).alloc (Nat.le_refl _) (.cells #[.int .u8 70, .int .u8 82, .int .u8 65, .int .u8 77] 5 (4, 5)))
  go_wp2_with fail
  obtain ⟨W1, hW1⟩ : ∃ W1, w1.alloc (.cells #[.int .u8 70, .int .u8 82, .int .u8 65, .int .u8 77] 5 (4, 5)) = W1 := ⟨_, rfl⟩
  rw [hW1] at A1 L1 ⊢
  clear hW1 kc
  refine (refBytes_ob 4 q _ (by omega) HQ2.out.1 (by have := HQ2.out; omega)).mono ?_
  rintro e w2 ⟨u2, rfl, hu2, hb2⟩
  obtain ⟨gu2, ku2, rfl⟩ := Wc.ob_form hu2 (by rw [Wc.enc_length]; omega)
  obtain ⟨hi, hz0, hz1, hz2⟩ := HI.out
  obtain ⟨v3, w3, hrun, hO3, hb3⟩ := Wc.grow_run (P := Try.prog) (ty := 22) Try.underlying22 hi hz0 hz1 hz2 (L1.out.keep hb2) hu2.bs (by rw [Wc.enc_length]; omega) (by rw [Wc.enc_length]; omega) (by rw [Wc.enc_length]; decide)
  have A3 := Wc.hid (Wc.step (Wc.step A1.out (Nat.le_refl _) hb2) (Nat.le_refl _) hb3)
  have O3 := Wc.hid (hO3.base (Nat.le_trans A1.out.size hb2.size))
  have D3 := Wc.hid (D1.out.keep A3.out)
  clear hu2 hb2 hO3 hb3 L1 A1
  have ⟨d0, d1, d2, d3, d4, d5, d6, d7, d8⟩ := D3.out.cc
  go_wp2_with (at_builtin; refine Wc.wp_append hrun rfl rfl rfl rfl ?_)
  clear hrun d0 d1 d2 d3 d4 d5 d6 d7 d8
  refine (refBytes_ob 4 c.kind _ (by omega) (by have := HK.out; omega) (by have := HK.out; omega)).mono ?_
  rintro e w4 ⟨u4, rfl, hu, hb⟩
  obtain ⟨gu4, ku4, rfl⟩ := Wc.ob_form hu (by rw [Wc.enc_length]; omega)
  obtain ⟨v5, w5, hrun, hO, hb'⟩ := Wc.append_run (P := Try.prog) (ty := 22) Try.underlying22 hi hz0 hz1 hz2 (O3.out.keep hb) hu.bs (.inr ⟨_, _, _, rfl⟩) (by simp [Wk.name, Wc.enc_length]) (Nat.le_trans A3.out.size hb.size)
  have A5 := Wc.hid ((Wc.step A3.out (Nat.le_refl _) hb).trans hb')
  have O5 := Wc.hid hO
  clear hu hb hO hb'
  go_wp2_with (at_builtin; refine Wc.wp_append hrun rfl rfl rfl rfl ?_)
  clear hrun
  refine (refBytes_ob 4 (PY.length : Int) _ (by omega) (by omega) (by have := HPL.out; omega)).mono ?_
  rintro e w6 ⟨u6, rfl, hu, hb⟩
  obtain ⟨gu6, ku6, rfl⟩ := Wc.ob_form hu (by rw [Wc.enc_length]; omega)
  obtain ⟨v7, w7, hrun, hO, hb'⟩ := Wc.append_run (P := Try.prog) (ty := 22) Try.underlying22 hi hz0 hz1 hz2 (O5.out.keep hb) hu.bs (.inr ⟨_, _, _, rfl⟩) (by simp [Wk.name, Wc.enc_length]) (Nat.le_trans A5.out.size hb.size)
  have A7 := Wc.hid ((Wc.step A5.out (Nat.le_refl _) hb).trans hb')
  have O7 := Wc.hid hO
  clear hu hb hO hb'
  obtain ⟨v8, w8, hrun2, hO8, hb8⟩ := Wc.append_run (P := Try.prog) (ty := 22) Try.underlying22 hi hz0 hz1 hz2 O7.out (V1.out.keep A7.out) (.inr ⟨_, _, _, rfl⟩) (by have := HPL.out; simp [Wk.name, Wc.enc_length]; omega) A7.out.size
  have A8 := Wc.hid (A7.out.trans hb8)
  have O8 := Wc.hid hO8
  clear hO8 hb8
  go_wp2_with (at_builtin; first | refine Wc.wp_append hrun rfl rfl rfl rfl ?_ | refine Wc.wp_append hrun2 rfl rfl rfl rfl ?_)
  clear hrun hrun2
  refine (refSum_any _ _ _ O8.out.bs).mono ?_
  rintro e w9 ⟨rfl, rfl⟩
  go_wp2_with fail
  refine (refBytes_ob 4 _ _ (by omega) HMR.out.1 (by have := HMR.out; omega)).mono ?_
  rintro e w10 ⟨u10, rfl, hu, hb⟩
  obtain ⟨gu10, ku10, rfl⟩ := Wc.ob_form hu (by rw [Wc.enc_length]; omega)
  obtain ⟨v11, w11, hrun, hO, hb'⟩ := Wc.append_run (P := Try.prog) (ty := 22) Try.underlying22 hi hz0 hz1 hz2 (O8.out.keep hb) hu.bs (.inr ⟨_, _, _, rfl⟩) (by have := HPL.out; simp [Wk.name, Wc.enc_length]; omega) (Nat.le_trans A8.out.size hb.size)
  have A11 := Wc.hid ((Wc.step A8.out (Nat.le_refl _) hb).trans hb')
  have O11 := Wc.hid hO
  have B11 := Wc.hid (B1.out.trans (A11.out.mono B1.out.size))
  clear hu hb hO hb'
  go_wp2_with (at_builtin; refine Wc.wp_append hrun rfl rfl rfl rfl ?_)
  go_ret
  exact ⟨v11, rfl, by rw [HFR.out]; exact O11.out.bs, B11.out⟩

end Go.Proofs.Ytfejabeifabdlaa
