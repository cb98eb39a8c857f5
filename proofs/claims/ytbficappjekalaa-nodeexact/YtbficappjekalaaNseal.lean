/-
  What the page's NodeBytes returns, for every right node.
-/
import Derived.Test.YtbficappjekalaaNpar
namespace Go.Proofs.Ytbficappjekalaa
open Go.RowKit

/-- What NodeBytes has put together behind k pointers. -/
def pre (n : Wn.Nod) (k : Nat) : List Int := Wn.name ++ (Wc.enc 4 n.level ++ Wn.encs ((Wn.ptr n).take k))

theorem pre_length (n : Wn.Nod) {k : Nat} (hk : k ≤ 8) : (pre n k).length = 8 + 4 * k := by
  simp [pre, Wn.name, Wc.enc_length, Wn.encs_length, Wn.ptr_length]; omega
theorem pre_zero (n : Wn.Nod) : pre n 0 = Wn.name ++ Wc.enc 4 n.level := by simp [pre, Wn.encs]
theorem pre_next (n : Wn.Nod) {k : Nat} (hk : k < 8) : pre n k ++ Wc.enc 4 (Wn.pat n k) = pre n (k + 1) := by
  unfold pre
  rw [Wn.encs_next _ k (by rw [Wn.ptr_length]; exact hk)]
  simp only [List.append_assoc]
  rfl
theorem pre_head (n : Wn.Nod) : pre n 8 ++ List.replicate (60 - (pre n 8).length) 0 = Wn.head n := by
  rw [pre_length n (Nat.le_refl 8)]
  have h : (Wn.ptr n).take 8 = Wn.ptr n := rfl
  unfold pre Wn.head
  rw [h]
  simp only [List.append_assoc]

set_option maxHeartbeats 3200000 in
theorem refNodeBytes_any (n : Wn.Nod) (w : World) (hs : Wn.nodB n = true) :
    Calls Try.prog 16 #[nv n] w fun e w' => ∃ v, e = .returned v ∧ Wc.Bs w' v (Wn.blk n) ∧ Below w.heap.size w w' := by
  obtain ⟨i0, hi, hz0, hz1, hz2⟩ := info_parts Try.infoU8
  have HS := Wc.hid (Wn.nodB_iff.1 hs).1
  have HK : Hid (∀ k, k < 8 → 0 ≤ Wn.pat n k ∧ Wn.pat n k < 4096) := Wc.hid fun k hk => Wn.nodB_pat hs hk
  clear hs
  have kc := Joins.run_convert_bytes_const_at (P := Try.prog) (w.alloc (.cells #[.int .i64 n.level, .int .i64 n.p0, .int .i64 n.p1, .int .i64 n.p2, .int .i64 n.p3, .int .i64 n.p4, .int .i64 n.p5, .int .i64 n.p6, .int .i64 n.p7] 24)) 25 5 #[.int .u8 78, .int .u8 79, .int .u8 68, .int .u8 69] 4 4 (w.heap.size + 1) (by simp) Try.underlying25 Try.underlying5
  have A0 := Wc.hid ((Nh.new w n).keep ((Below.refl _ _).alloc (Nat.le_refl _) (.cells #[.int .u8 78, .int .u8 79, .int .u8 68, .int .u8 69] 5 (4, 5))))
  have B0 := Wc.hid (((Below.refl w.heap.size w).alloc (Nat.le_refl _) (.cells #[.int .i64 n.level, .int .i64 n.p0, .int .i64 n.p1, .int .i64 n.p2, .int .i64 n.p3, .int .i64 n.p4, .int .i64 n.p5, .int .i64 n.p6, .int .i64 n.p7] 24)).alloc (by simp) (.cells #[.int .u8 78, .int .u8 79, .int .u8 68, .int .u8 69] 5 (4, 5)))
  have V0 : Hid (Wc.Bs ((w.alloc (.cells #[.int .i64 n.level, .int .i64 n.p0, .int .i64 n.p1, .int .i64 n.p2, .int .i64 n.p3, .int .i64 n.p4, .int .i64 n.p5, .int .i64 n.p6, .int .i64 n.p7] 24)).alloc (.cells #[.int .u8 78, .int .u8 79, .int .u8 68, .int .u8 69] 5 (4, 5))) (.slice (some ⟨w.heap.size + 1, 0, none⟩) 4 4) Wn.name) := Wc.hid (by
    have := Wc.Bs.litF (w.alloc (.cells #[.int .i64 n.level, .int .i64 n.p0, .int .i64 n.p1, .int .i64 n.p2, .int .i64 n.p3, .int .i64 n.p4, .int .i64 n.p5, .int .i64 n.p6, .int .i64 n.p7] 24)) #[.int .u8 78, .int .u8 79, .int .u8 68, .int .u8 69] 5 4 (4, 5) Wn.name rfl (by omega) rfl (by decide)
    simpa using this)
  have ⟨c, c0, c1, c2, c3, c4, c5, c6, c7⟩ := A0.out.nc
  unfold nv
  go_enter Try.func16, Try.ntmps16
  go_wp2_with fail
  obtain ⟨W1, hW1⟩ : ∃ W1, (w.alloc (.cells #[.int .i64 n.level, .int .i64 n.p0, .int .i64 n.p1, .int .i64 n.p2, .int .i64 n.p3, .int .i64 n.p4, .int .i64 n.p5, .int .i64 n.p6, .int .i64 n.p7] 24)).alloc (.cells #[.int .u8 78, .int .u8 79, .int .u8 68, .int .u8 69] 5 (4, 5)) = W1 := ⟨_, rfl⟩
  rw [hW1] at A0 B0 V0 ⊢
  clear hW1 kc c c0 c1 c2 c3 c4 c5 c6 c7
  refine (refBytes_any 4 n.level _ (by omega) (by have := HS.out; omega) (by have := HS.out; omega)).mono ?_
  rintro e w2 ⟨u2, rfl, hu2, hb2⟩
  obtain ⟨q2, o2, k2, rfl⟩ := Wc.bs_shape hu2 (by rw [Wc.enc_length]; omega)
  have A2 := Wc.hid (A0.out.keep hb2)
  have B2 := Wc.hid (Wc.step B0.out (Nat.le_refl _) hb2)
  obtain ⟨v3, w3, hrun, hO3, hb3⟩ := Wc.grow_run (P := Try.prog) (ty := 25) Try.underlying25 hi hz0 hz1 hz2 (V0.out.keep hb2) hu2 (by rw [Wc.enc_length]; omega) (by rw [Wc.enc_length]; omega) (by rw [Wc.enc_length]; decide)
  have HLT : Hid (w.heap.size < w2.heap.size) := Wc.hid (by have := A2.out.lt; omega)
  have A3 := Wc.hid (A2.out.keep hb3)
  rw [← pre_zero] at hO3
  have O3 := Wc.hid hO3
  have B3 := Wc.hid (Wc.step B2.out (Nat.le_refl _) hb3)
  have BB3 := Wc.hid hb3.size
  clear hu2 hb2 hO3 hb3
  obtain ⟨g3, k3, rfl⟩ := Wc.ob_form O3.out (by rw [pre_length n (by omega)]; omega)
  rw [pre_length n (by omega)] at hrun O3
  go_wp2_with (at_builtin; refine Wc.wp_append hrun rfl rfl rfl rfl ?_)
  clear hrun A0 B0 V0 A2 B2
  go_loopw [3, 4] (fun u i wr => ∃ k g c : Nat, u = .slice (some ⟨g, 0, none⟩) (8 + 4 * k) c ∧ i = .int .i64 k ∧ k ≤ 8 ∧ Hid (Wc.Ob 5 w2.heap.size wr (.slice (some ⟨g, 0, none⟩) (8 + 4 * k) c) (pre n k)) ∧ Hid (Nh wr w.heap.size n) ∧ Hid (w2.heap.size ≤ wr.heap.size) ∧ Hid (Below w.heap.size w wr)) (fun _ i _ => 8 - (intOf i).toNat)
  case atStart => exact ⟨0, g3, k3, rfl, rfl, by omega, O3, A3, BB3, B3⟩
  case round =>
    obtain ⟨k, g, c, rfl, rfl, hk, O, A, HW, HB⟩ := hrel
    by_cases hlt : k < 8
    · have hcell := A.out.pat hlt
      go_wp2_with fail
      refine (refBytes_any 4 (Wn.pat n k) _ (by omega) (HK.out k hlt).1 (by have := HK.out k hlt; omega)).mono ?_
      rintro e w4 ⟨u4, rfl, hu, hb⟩
      obtain ⟨q4, o4, k4, rfl⟩ := Wc.bs_shape hu (by rw [Wc.enc_length]; omega)
      have A4 := Wc.hid (A.out.keep hb)
      have B4 := Wc.hid (Wc.step HB.out (Nat.le_refl _) hb)
      have hsz : w2.heap.size ≤ w4.heap.size := Nat.le_trans HW.out hb.size
      obtain ⟨v5, w5, hrun, hO, hb'⟩ := Wc.append_run (P := Try.prog) (ty := 25) (ys := Wc.enc 4 (Wn.pat n k)) Try.underlying25 hi hz0 hz1 hz2 (O.out.keep hb) hu (.inr ⟨_, _, _, rfl⟩) (by rw [pre_length n hk, Wc.enc_length]; omega) hsz
      rw [pre_next n hlt] at hO
      have A5 := Wc.hid (A4.out.below hb' HLT.out)
      have O5 := Wc.hid hO
      have W5 : Hid (w2.heap.size ≤ w5.heap.size) := Wc.hid (Nat.le_trans hsz hb'.size)
      have B5 := Wc.hid (B4.out.trans (hb'.mono (by have := HLT.out; omega)))
      clear hu hb hO hb' hsz hcell A4 B4 O A HW HB
      obtain ⟨g5, c5, rfl⟩ := Wc.ob_form O5.out (by rw [pre_length n (by omega)]; omega)
      rw [pre_length n (by omega)] at hrun O5
      go_wp2_with (at_builtin; refine Wc.wp_append hrun rfl rfl rfl rfl ?_)
      clear hrun
      go_roundw
      case rel => exact ⟨k + 1, g5, c5, rfl, by go_num, by omega, O5, A5, W5, B5⟩
      case measure => simp [intOf]; omega
    · obtain rfl : k = 8 := by omega
      go_wp2_with fail
      refine (seal_any w2.heap.size _ (pre n 8) _ O.out (by rw [pre_length n (by omega)]; omega) (by rw [pre_length n (by omega)]; omega) HW.out).mono ?_
      rintro e w12 ⟨vz, rfl, hz, hbz⟩
      have HZ := Wc.hid hz
      have BZ := Wc.hid (HB.out.trans (hbz.mono (by have := HLT.out; omega)))
      clear hz hbz
      go_wp2_with fail
      go_ret
      refine ⟨vz, rfl, ?_, BZ.out⟩
      have := HZ.out
      rw [pre_head] at this
      exact this

end Go.Proofs.Ytbficappjekalaa
