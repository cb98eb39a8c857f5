/-
  What the page's Payload returns, for every right command.
-/
import Derived.Test.YtfejabeifabdlaaFcom
import Derived.Deep.RegionHeld3
import Derived.Deep.RegionWith
namespace Go.Proofs.Ytfejabeifabdlaa
open Go.RowKit

set_option maxHeartbeats 400000 in
theorem refBytes_ob (s : Nat) (m : Int) (w : World) (hs : s ≤ 8) (h0 : 0 ≤ m) (h1 : m ≤ 4611686018427387903) :
    Calls Try.prog 39 #[.int .i64 s, .int .i64 m] w fun e w' => ∃ v, e = .returned v ∧ Wc.Ob 5 w.heap.size w' v (Wc.enc s m) ∧ Below w.heap.size w w' := by
  obtain ⟨i0, hi, hz0, hz1, hz2⟩ := info_parts Try.infoU8'
  go_enter Try.func39, Try.ntmps39
  go_wp2
  go_loopw [1, 5, 6] (fun x v i wr => ∃ (k : Nat) (y : Int), k ≤ s ∧ i = .int .i64 k ∧ x = .int .i64 y ∧ 0 ≤ y ∧ y ≤ 4611686018427387903 ∧ Hid (y = m / 256 ^ k) ∧ wr.ownsRow w.heap.size 5 1 v k ((Wc.enc k m).map (Value.int .u8)) ∧ Below w.heap.size w wr) (fun _ _ i _ => s - (intOf i).toNat)
  case atStart => exact ⟨0, m, by omega, rfl, rfl, h0, h1, Wc.hid (by simp), World.ownsRow_nil _ _ _ _, Below.refl _ _⟩
  case round =>
    obtain ⟨k, y, hk, rfl, rfl, hy0, hy1, HE, hown, hbr⟩ := hrel
    by_cases hlt : k < s
    · go_wp2_with (first
        | (at_builtin; refine wpList_append_own _ rfl _ _ 22 rfl w.heap.size 5 i0 (.int .u8 0) 1 1 Try.underlying22 hi hz0 hz1 hz2 rfl (by decide) _ _ _ rfl (hown.alloc _) ⟨wr.heap.size, 0, none⟩ 1 1 [.int .u8 (y % 256)] rfl rfl ?c1 ?c2 ?c3 ?c4 ?c5 ?_))
      case c1 => exact cell_one_new _ _ _
      case c2 => intro u hu; simp at hu; subst hu; rfl
      case c3 => unfold maxLen; omega
      case c4 => omega
      case c5 => have := hbr.size; simp; omega
      · intro v' w1 hown' hgrow _
        have hb1 : Below w.heap.size w w1 := (hbr.alloc hbr.size _).grown hgrow (by have := hbr.size; simp; omega) (fun g hg => (hown.lt g hg).1)
        have HO : Hid (w1.ownsRow w.heap.size 5 1 v' (k + 1) ((Wc.enc (k + 1) m).map (Value.int .u8))) := by
          show World.ownsRow _ _ _ _ _ _ _
          rw [Wc.enc_snoc, List.map_append, ← HE.out]; exact hown'
        clear hown' hgrow hown hbr
        go_wp2
        go_roundw
        case rel => exact ⟨k + 1, y / 256, by omega, by go_num, rfl, by omega, by omega, Wc.hid (by rw [HE.out, Int.ediv_ediv_of_nonneg (Int.pow_nonneg (by omega)), Int.pow_succ]), HO.out, hb1⟩
        case measure => simp [intOf]; omega
    · obtain rfl : k = s := by omega
      go_wp2
      go_ret
      exact ⟨_, rfl, ⟨by rw [Wc.enc_length]; exact hown, by rw [Wc.enc_length]; omega, Wc.enc_bd _ _⟩, hbr⟩

set_option maxRecDepth 100000 in
set_option maxHeartbeats 1600000 in
theorem refPay_1 (i p z f n s d : Int) (D : List Int) (a : Option Addr) (cap : Nat) (w : World) (hb : Wk.cmdB ⟨1, i, p, z, f, n, s, d, D⟩ = true) :
    Calls Try.prog 20 #[cv ⟨1, i, p, z, f, n, s, d, D⟩ (.slice a D.length cap)] w fun e w' => ∃ v, e = .returned v ∧ Wc.Ob 5 w.heap.size w' v (Wk.pay ⟨1, i, p, z, f, n, s, d, D⟩) ∧ Below w.heap.size w w' := by
  obtain ⟨i0, hi, hz0, hz1, hz2⟩ := info_parts Try.infoU8
  have HI : Hid (Try.prog.info? 5 = some i0 ∧ i0.zero = some (.int .u8 0) ∧ i0.size = 1 ∧ i0.bytes = 1) := Wc.hid ⟨hi, hz0, hz1, hz2⟩
  clear hi hz0 hz1 hz2
  have HR := Wk.cmdB_iff.1 hb
  simp [Wk.Right] at HR
  have Hi : Hid (0 ≤ i ∧ i ≤ 4611686018427387903) := Wc.hid (by omega)
  have Hp : Hid (0 ≤ p ∧ p ≤ 4611686018427387903) := Wc.hid (by omega)
  have Hz : Hid (0 ≤ z ∧ z ≤ 4611686018427387903) := Wc.hid (by omega)
  have Hn : Hid (0 ≤ n ∧ n ≤ 4611686018427387903) := Wc.hid (by omega)
  have HPY := Wc.hid (Wk.pay1 (c := ⟨1, i, p, z, f, n, s, d, D⟩) rfl (no_data hb (by simp)))
  generalize Wk.pay ⟨1, i, p, z, f, n, s, d, D⟩ = PY at HPY ⊢
  simp only at HPY
  have C0 := Wc.hid (Wk.Ch.new w ⟨1, i, p, z, f, n, s, d, D⟩ (.slice a D.length cap))
  have B0 := Wc.hid ((Below.refl w.heap.size w).alloc (Nat.le_refl _) (.cells #[.int .i64 1, .int .i64 i, .int .i64 p, .int .i64 z, .int .i64 f, .int .i64 n, .int .i64 s, .int .i64 d, .slice a D.length cap] 24))
  clear HR hb
  unfold cv
  go_enter Try.func20, Try.ntmps20
  go_wp2_with fail
  obtain ⟨W, hW⟩ : ∃ W, w.alloc (.cells #[.int .i64 1, .int .i64 i, .int .i64 p, .int .i64 z, .int .i64 f, .int .i64 n, .int .i64 s, .int .i64 d, .slice a D.length cap] 24) = W := ⟨_, rfl⟩
  rw [hW] at C0 B0 ⊢
  clear hW
  have CD := Wc.hid (C0.out.keep (show_drew (Below.refl _ _)))
  have z1 := C0.out.cc.2.1
  have z2 := C0.out.cc.2.2.1
  go_region_held3 (fun w' => w'.cell? ⟨w.heap.size, 1, none⟩ = some (.int .i64 i) ∧ w'.cell? ⟨w.heap.size, 2, none⟩ = some (.int .i64 p)) (go_keep) (first | (refine step_append_ob W.heap.size rfl rfl rfl rfl (by exact hO1.keep hb2) (by exact hO2.bs) hO2.shaped (by rw [Wc.enc_length, Wc.enc_length]; omega) (by exact Nat.le_trans hb1.size hb2.size) ?_; intro v3 w3 hO3 hb3; have C3 := C2.below hb3 C0.out.lt; have m3x := C3.cc.2.1; have m3y := C3.cc.2.2.1) | (go_at_call_of 39 (Value.int IntKind.i64 i); refine (refBytes_ob 8 i _ (by omega) Hi.out.1 Hi.out.2).mono ?_; rintro e w1 ⟨v1, rfl, hO1, hb1⟩; have C1 := CD.out.keep hb1; have m1x := C1.cc.2.1; have m1y := C1.cc.2.2.1) | (go_at_call_of 39 (Value.int IntKind.i64 p); refine (refBytes_ob 8 p _ (by omega) Hp.out.1 Hp.out.2).mono ?_; rintro e w2 ⟨v2, rfl, hO2, hb2⟩; have C2 := C1.keep hb2; have m2x := C2.cc.2.1; have m2y := C2.cc.2.2.1) | fail)
  have hB3 := B0.out.trans ((((show_drew (Below.refl W.heap.size W)).trans hb1).trans (hb2.mono hb1.size)).trans hb3 |>.mono B0.out.size)
  have O3 := Wc.hid hO3
  have S3 : Hid (W.heap.size ≤ w3.heap.size) := Wc.hid (Nat.le_trans hb1.size (Nat.le_trans hb2.size hb3.size))
  have HCL := Wc.hid C0.out.lt
  have B3 := Wc.hid hB3
  have HC3 := Wc.hid C3
  clear hO3 hb3 C3 m3x m3y hO2 hb2 C2 m2x m2y hO1 hb1 C1 m1x m1y hB3 z1 z2 CD
  have ⟨d0, d1, d2, d3, d4, d5, d6, d7, d8⟩ := HC3.out.cc
  go_wp2_with fail
  clear d0 d1 d2 d3 d4 d5 d6 d7 d8
  refine (refBytes_ob 4 z _ (by omega) Hz.out.1 Hz.out.2).mono ?_
  rintro e w4 ⟨v4, rfl, hO4, hb4⟩
  obtain ⟨hi, hz0, hz1, hz2⟩ := HI.out
  obtain ⟨v5, w5, hrun, hO5, hb5⟩ := Wc.append_run (P := Try.prog) (ty := 22) Try.underlying22 hi hz0 hz1 hz2 (O3.out.keep hb4) hO4.bs hO4.shaped (by simp [Wc.enc_length]) (Nat.le_trans S3.out hb4.size)
  have O5 := Wc.hid hO5
  have B5 := Wc.hid ((Wc.step B3.out (Nat.le_refl _) hb4).trans (hb5.mono B0.out.size))
  have S5 : Hid (W.heap.size ≤ w5.heap.size) := Wc.hid (Nat.le_trans S3.out (Nat.le_trans hb4.size hb5.size))
  have HC5 := Wc.hid ((HC3.out.keep hb4).below hb5 HCL.out)
  clear hO4 hb4 hO5 hb5 hi hz0 hz1 hz2
  have ⟨d0, d1, d2, d3, d4, d5, d6, d7, d8⟩ := HC5.out.cc
  go_wp2_with (at_builtin; refine Wc.wp_append hrun rfl rfl rfl rfl ?_)
  clear hrun
  clear d0 d1 d2 d3 d4 d5 d6 d7 d8
  refine (refBytes_ob 4 n _ (by omega) Hn.out.1 Hn.out.2).mono ?_
  rintro e w6 ⟨v6, rfl, hO6, hb6⟩
  obtain ⟨hi, hz0, hz1, hz2⟩ := HI.out
  obtain ⟨v7, w7, hrun, hO7, hb7⟩ := Wc.append_run (P := Try.prog) (ty := 22) Try.underlying22 hi hz0 hz1 hz2 (O5.out.keep hb6) hO6.bs hO6.shaped (by simp [Wc.enc_length]) (Nat.le_trans S5.out hb6.size)
  have O7 := Wc.hid hO7
  have B7 := Wc.hid ((Wc.step B5.out (Nat.le_refl _) hb6).trans (hb7.mono B0.out.size))
  have S7 : Hid (W.heap.size ≤ w7.heap.size) := Wc.hid (Nat.le_trans S5.out (Nat.le_trans hb6.size hb7.size))
  clear hO6 hb6 hO7 hb7 hi hz0 hz1 hz2
  go_wp2_with (at_builtin; refine Wc.wp_append hrun rfl rfl rfl rfl ?_)
  clear hrun
  go_ret
  refine ⟨v7, rfl, ?_, B7.out⟩
  have := O7.out.base B0.out.size
  rw [HPY.out]
  simpa only [List.append_assoc] using this

set_option maxRecDepth 100000 in
set_option maxHeartbeats 1600000 in
theorem refPay_2 (i p z f n s d : Int) (D : List Int) (a : Option Addr) (cap : Nat) (w : World) (hb : Wk.cmdB ⟨2, i, p, z, f, n, s, d, D⟩ = true) (hv : Wc.Bs w (.slice a D.length cap) D) (hsh : Wc.Shaped (.slice a D.length cap)) :
    Calls Try.prog 20 #[cv ⟨2, i, p, z, f, n, s, d, D⟩ (.slice a D.length cap)] w fun e w' => ∃ v, e = .returned v ∧ Wc.Ob 5 w.heap.size w' v (Wk.pay ⟨2, i, p, z, f, n, s, d, D⟩) ∧ Below w.heap.size w w' := by
  obtain ⟨i0, hi, hz0, hz1, hz2⟩ := info_parts Try.infoU8
  have HI : Hid (Try.prog.info? 5 = some i0 ∧ i0.zero = some (.int .u8 0) ∧ i0.size = 1 ∧ i0.bytes = 1) := Wc.hid ⟨hi, hz0, hz1, hz2⟩
  clear hi hz0 hz1 hz2
  have HR := Wk.cmdB_iff.1 hb
  simp [Wk.Right] at HR
  have Hf : Hid (0 ≤ f ∧ f ≤ 4611686018427387903) := Wc.hid (by omega)
  have HL : Hid (0 ≤ ((D.length : Int) / 64) ∧ ((D.length : Int) / 64) ≤ 4611686018427387903) := Wc.hid (by omega)
  have HPY := Wc.hid (Wk.pay2 (c := ⟨2, i, p, z, f, n, s, d, D⟩) rfl)
  have HDL : Hid (D.length ≤ 600) := Wc.hid (by omega)
  have HV := Wc.hid hv
  have HSH := Wc.hid hsh
  have hqd : (D.length : Int).tdiv 64 = (D.length : Int) / 64 := by rw [Int.tdiv_eq_ediv_of_nonneg (by omega)]
  have HWQ : Hid (IntKind.i64.wrap ((D.length : Int) / 64) = (D.length : Int) / 64) := Wc.hid (by rw [IntKind.wrap_i64]; omega)
  clear hv hsh
  generalize Wk.pay ⟨2, i, p, z, f, n, s, d, D⟩ = PY at HPY ⊢
  simp only at HPY
  have C0 := Wc.hid (Wk.Ch.new w ⟨2, i, p, z, f, n, s, d, D⟩ (.slice a D.length cap))
  have B0 := Wc.hid ((Below.refl w.heap.size w).alloc (Nat.le_refl _) (.cells #[.int .i64 2, .int .i64 i, .int .i64 p, .int .i64 z, .int .i64 f, .int .i64 n, .int .i64 s, .int .i64 d, .slice a D.length cap] 24))
  clear HR hb
  unfold cv
  go_enter Try.func20, Try.ntmps20
  go_wp2_with fail
  obtain ⟨W, hW⟩ : ∃ W, w.alloc (.cells #[.int .i64 2, .int .i64 i, .int .i64 p, .int .i64 z, .int .i64 f, .int .i64 n, .int .i64 s, .int .i64 d, .slice a D.length cap] 24) = W := ⟨_, rfl⟩
  rw [hW] at C0 B0 ⊢
  clear hW
  have CD := Wc.hid (C0.out.keep (show_drew (Below.refl _ _)))
  have z1 := C0.out.cc.2.2.2.2.1
  have z2 := C0.out.cc.2.2.2.2.2.2.2.2
  go_region_held3 (fun w' => w'.cell? ⟨w.heap.size, 4, none⟩ = some (.int .i64 f) ∧ w'.cell? ⟨w.heap.size, 8, none⟩ = some (.slice a D.length cap)) (go_keep) (first | (refine step_append_ob W.heap.size rfl rfl rfl rfl (by exact hO1.keep hb2) (by exact hO2.bs) hO2.shaped (by rw [Wc.enc_length, Wc.enc_length]; omega) (by exact Nat.le_trans hb1.size hb2.size) ?_; intro v3 w3 hO3 hb3; have C3 := C2.below hb3 C0.out.lt; have m3x := C3.cc.2.2.2.2.1; have m3y := C3.cc.2.2.2.2.2.2.2.2) | (go_at_call_of 39 (Value.int IntKind.i64 f); refine (refBytes_ob 4 f _ (by omega) Hf.out.1 Hf.out.2).mono ?_; rintro e w1 ⟨v1, rfl, hO1, hb1⟩; have C1 := CD.out.keep hb1; have m1x := C1.cc.2.2.2.2.1; have m1y := C1.cc.2.2.2.2.2.2.2.2) | (go_at_call 39; rw [HWQ.out]; refine (refBytes_ob 4 ((D.length : Int) / 64) _ (by omega) HL.out.1 HL.out.2).mono ?_; rintro e w2 ⟨v2, rfl, hO2, hb2⟩; have C2 := C1.keep hb2; have m2x := C2.cc.2.2.2.2.1; have m2y := C2.cc.2.2.2.2.2.2.2.2) | fail)
  have hB3 := B0.out.trans ((((show_drew (Below.refl W.heap.size W)).trans hb1).trans (hb2.mono hb1.size)).trans hb3 |>.mono B0.out.size)
  have O3 := Wc.hid hO3
  have S3 : Hid (W.heap.size ≤ w3.heap.size) := Wc.hid (Nat.le_trans hb1.size (Nat.le_trans hb2.size hb3.size))
  have HCL := Wc.hid C0.out.lt
  have B3 := Wc.hid hB3
  have HC3 := Wc.hid C3
  clear hO3 hb3 C3 m3x m3y hO2 hb2 C2 m2x m2y hO1 hb1 C1 m1x m1y hB3 z1 z2 CD
  have ⟨d0, d1, d2, d3, d4, d5, d6, d7, d8⟩ := HC3.out.cc
  obtain ⟨hi, hz0, hz1, hz2⟩ := HI.out
  obtain ⟨v5, w5, hrun, hO5, hb5⟩ := Wc.append_run (P := Try.prog) (ty := 22) Try.underlying22 hi hz0 hz1 hz2 O3.out (HV.out.keep B3.out) HSH.out (by have := HDL.out; simp [Wc.enc_length]; omega) S3.out
  have O5 := Wc.hid hO5
  have B5 := Wc.hid (B3.out.trans (hb5.mono B0.out.size))
  clear hO5 hb5 hi hz0 hz1 hz2
  go_wp2_with (at_builtin; refine Wc.wp_append hrun rfl rfl rfl rfl ?_)
  clear hrun
  go_ret
  refine ⟨v5, rfl, ?_, B5.out⟩
  have := O5.out.base B0.out.size
  rw [HPY.out, show ((D.length / 64 : Nat) : Int) = (D.length : Int) / 64 by omega]
  simpa only [List.append_assoc] using this

set_option maxRecDepth 100000 in
set_option maxHeartbeats 1600000 in
theorem refPay_3 (i p z f n s d : Int) (D : List Int) (a : Option Addr) (cap : Nat) (w : World) (hb : Wk.cmdB ⟨3, i, p, z, f, n, s, d, D⟩ = true) :
    Calls Try.prog 20 #[cv ⟨3, i, p, z, f, n, s, d, D⟩ (.slice a D.length cap)] w fun e w' => ∃ v, e = .returned v ∧ Wc.Ob 5 w.heap.size w' v (Wk.pay ⟨3, i, p, z, f, n, s, d, D⟩) ∧ Below w.heap.size w w' := by
  obtain ⟨i0, hi, hz0, hz1, hz2⟩ := info_parts Try.infoU8
  have HI : Hid (Try.prog.info? 5 = some i0 ∧ i0.zero = some (.int .u8 0) ∧ i0.size = 1 ∧ i0.bytes = 1) := Wc.hid ⟨hi, hz0, hz1, hz2⟩
  clear hi hz0 hz1 hz2
  have HR := Wk.cmdB_iff.1 hb
  simp [Wk.Right] at HR
  have Hf : Hid (0 ≤ f ∧ f ≤ 4611686018427387903) := Wc.hid (by omega)
  have Hn : Hid (0 ≤ n ∧ n ≤ 4611686018427387903) := Wc.hid (by omega)
  have HPY := Wc.hid (Wk.pay3 (c := ⟨3, i, p, z, f, n, s, d, D⟩) rfl (no_data hb (by simp)))
  generalize Wk.pay ⟨3, i, p, z, f, n, s, d, D⟩ = PY at HPY ⊢
  simp only at HPY
  have C0 := Wc.hid (Wk.Ch.new w ⟨3, i, p, z, f, n, s, d, D⟩ (.slice a D.length cap))
  have B0 := Wc.hid ((Below.refl w.heap.size w).alloc (Nat.le_refl _) (.cells #[.int .i64 3, .int .i64 i, .int .i64 p, .int .i64 z, .int .i64 f, .int .i64 n, .int .i64 s, .int .i64 d, .slice a D.length cap] 24))
  clear HR hb
  unfold cv
  go_enter Try.func20, Try.ntmps20
  go_wp2_with fail
  obtain ⟨W, hW⟩ : ∃ W, w.alloc (.cells #[.int .i64 3, .int .i64 i, .int .i64 p, .int .i64 z, .int .i64 f, .int .i64 n, .int .i64 s, .int .i64 d, .slice a D.length cap] 24) = W := ⟨_, rfl⟩
  rw [hW] at C0 B0 ⊢
  clear hW
  have CD := Wc.hid (C0.out.keep (show_drew (Below.refl _ _)))
  have z1 := C0.out.cc.2.2.2.2.1
  have z2 := C0.out.cc.2.2.2.2.2.1
  go_region_held3 (fun w' => w'.cell? ⟨w.heap.size, 4, none⟩ = some (.int .i64 f) ∧ w'.cell? ⟨w.heap.size, 5, none⟩ = some (.int .i64 n)) (go_keep) (first | (refine step_append_ob W.heap.size rfl rfl rfl rfl (by exact hO1.keep hb2) (by exact hO2.bs) hO2.shaped (by rw [Wc.enc_length, Wc.enc_length]; omega) (by exact Nat.le_trans hb1.size hb2.size) ?_; intro v3 w3 hO3 hb3; have C3 := C2.below hb3 C0.out.lt; have m3x := C3.cc.2.2.2.2.1; have m3y := C3.cc.2.2.2.2.2.1) | (go_at_call_of 39 (Value.int IntKind.i64 f); refine (refBytes_ob 4 f _ (by omega) Hf.out.1 Hf.out.2).mono ?_; rintro e w1 ⟨v1, rfl, hO1, hb1⟩; have C1 := CD.out.keep hb1; have m1x := C1.cc.2.2.2.2.1; have m1y := C1.cc.2.2.2.2.2.1) | (go_at_call_of 39 (Value.int IntKind.i64 n); refine (refBytes_ob 4 n _ (by omega) Hn.out.1 Hn.out.2).mono ?_; rintro e w2 ⟨v2, rfl, hO2, hb2⟩; have C2 := C1.keep hb2; have m2x := C2.cc.2.2.2.2.1; have m2y := C2.cc.2.2.2.2.2.1) | fail)
  have hB3 := B0.out.trans ((((show_drew (Below.refl W.heap.size W)).trans hb1).trans (hb2.mono hb1.size)).trans hb3 |>.mono B0.out.size)
  have O3 := Wc.hid hO3
  have S3 : Hid (W.heap.size ≤ w3.heap.size) := Wc.hid (Nat.le_trans hb1.size (Nat.le_trans hb2.size hb3.size))
  have HCL := Wc.hid C0.out.lt
  have B3 := Wc.hid hB3
  have HC3 := Wc.hid C3
  clear hO3 hb3 C3 m3x m3y hO2 hb2 C2 m2x m2y hO1 hb1 C1 m1x m1y hB3 z1 z2 CD
  go_wp2_with fail
  go_ret
  refine ⟨v3, rfl, ?_, B3.out⟩
  have := O3.out.base B0.out.size
  rw [HPY.out]
  simpa only [List.append_assoc] using this

set_option maxRecDepth 100000 in
set_option maxHeartbeats 1600000 in
theorem refPay_4 (i p z f n s d : Int) (D : List Int) (a : Option Addr) (cap : Nat) (w : World) (hb : Wk.cmdB ⟨4, i, p, z, f, n, s, d, D⟩ = true) :
    Calls Try.prog 20 #[cv ⟨4, i, p, z, f, n, s, d, D⟩ (.slice a D.length cap)] w fun e w' => ∃ v, e = .returned v ∧ Wc.Ob 5 w.heap.size w' v (Wk.pay ⟨4, i, p, z, f, n, s, d, D⟩) ∧ Below w.heap.size w w' := by
  obtain ⟨i0, hi, hz0, hz1, hz2⟩ := info_parts Try.infoU8
  have HI : Hid (Try.prog.info? 5 = some i0 ∧ i0.zero = some (.int .u8 0) ∧ i0.size = 1 ∧ i0.bytes = 1) := Wc.hid ⟨hi, hz0, hz1, hz2⟩
  clear hi hz0 hz1 hz2
  have HR := Wk.cmdB_iff.1 hb
  simp [Wk.Right] at HR
  have Hf : Hid (0 ≤ f ∧ f ≤ 4611686018427387903) := Wc.hid (by omega)
  have Hn : Hid (0 ≤ n ∧ n ≤ 4611686018427387903) := Wc.hid (by omega)
  have Hs : Hid (0 ≤ s ∧ s ≤ 4611686018427387903) := Wc.hid (by omega)
  have HPY := Wc.hid (Wk.pay4 (c := ⟨4, i, p, z, f, n, s, d, D⟩) rfl (no_data hb (by simp)))
  generalize Wk.pay ⟨4, i, p, z, f, n, s, d, D⟩ = PY at HPY ⊢
  simp only at HPY
  have C0 := Wc.hid (Wk.Ch.new w ⟨4, i, p, z, f, n, s, d, D⟩ (.slice a D.length cap))
  have B0 := Wc.hid ((Below.refl w.heap.size w).alloc (Nat.le_refl _) (.cells #[.int .i64 4, .int .i64 i, .int .i64 p, .int .i64 z, .int .i64 f, .int .i64 n, .int .i64 s, .int .i64 d, .slice a D.length cap] 24))
  clear HR hb
  unfold cv
  go_enter Try.func20, Try.ntmps20
  go_wp2_with fail
  obtain ⟨W, hW⟩ : ∃ W, w.alloc (.cells #[.int .i64 4, .int .i64 i, .int .i64 p, .int .i64 z, .int .i64 f, .int .i64 n, .int .i64 s, .int .i64 d, .slice a D.length cap] 24) = W := ⟨_, rfl⟩
  rw [hW] at C0 B0 ⊢
  clear hW
  have CD := Wc.hid (C0.out.keep (show_drew (Below.refl _ _)))
  have z1 := C0.out.cc.2.2.2.2.1
  have z2 := C0.out.cc.2.2.2.2.2.1
  go_region_held3 (fun w' => w'.cell? ⟨w.heap.size, 4, none⟩ = some (.int .i64 f) ∧ w'.cell? ⟨w.heap.size, 5, none⟩ = some (.int .i64 n)) (go_keep) (first | (refine step_append_ob W.heap.size rfl rfl rfl rfl (by exact hO1.keep hb2) (by exact hO2.bs) hO2.shaped (by rw [Wc.enc_length, Wc.enc_length]; omega) (by exact Nat.le_trans hb1.size hb2.size) ?_; intro v3 w3 hO3 hb3; have C3 := C2.below hb3 C0.out.lt; have m3x := C3.cc.2.2.2.2.1; have m3y := C3.cc.2.2.2.2.2.1) | (go_at_call_of 39 (Value.int IntKind.i64 f); refine (refBytes_ob 4 f _ (by omega) Hf.out.1 Hf.out.2).mono ?_; rintro e w1 ⟨v1, rfl, hO1, hb1⟩; have C1 := CD.out.keep hb1; have m1x := C1.cc.2.2.2.2.1; have m1y := C1.cc.2.2.2.2.2.1) | (go_at_call_of 39 (Value.int IntKind.i64 n); refine (refBytes_ob 4 n _ (by omega) Hn.out.1 Hn.out.2).mono ?_; rintro e w2 ⟨v2, rfl, hO2, hb2⟩; have C2 := C1.keep hb2; have m2x := C2.cc.2.2.2.2.1; have m2y := C2.cc.2.2.2.2.2.1) | fail)
  have hB3 := B0.out.trans ((((show_drew (Below.refl W.heap.size W)).trans hb1).trans (hb2.mono hb1.size)).trans hb3 |>.mono B0.out.size)
  have O3 := Wc.hid hO3
  have S3 : Hid (W.heap.size ≤ w3.heap.size) := Wc.hid (Nat.le_trans hb1.size (Nat.le_trans hb2.size hb3.size))
  have HCL := Wc.hid C0.out.lt
  have B3 := Wc.hid hB3
  have HC3 := Wc.hid C3
  clear hO3 hb3 C3 m3x m3y hO2 hb2 C2 m2x m2y hO1 hb1 C1 m1x m1y hB3 z1 z2 CD
  have ⟨d0, d1, d2, d3, d4, d5, d6, d7, d8⟩ := HC3.out.cc
  go_wp2_with fail
  clear d0 d1 d2 d3 d4 d5 d6 d7 d8
  refine (refBytes_ob 4 s _ (by omega) Hs.out.1 Hs.out.2).mono ?_
  rintro e w4 ⟨v4, rfl, hO4, hb4⟩
  obtain ⟨hi, hz0, hz1, hz2⟩ := HI.out
  obtain ⟨v5, w5, hrun, hO5, hb5⟩ := Wc.append_run (P := Try.prog) (ty := 22) Try.underlying22 hi hz0 hz1 hz2 (O3.out.keep hb4) hO4.bs hO4.shaped (by simp [Wc.enc_length]) (Nat.le_trans S3.out hb4.size)
  have O5 := Wc.hid hO5
  have B5 := Wc.hid ((Wc.step B3.out (Nat.le_refl _) hb4).trans (hb5.mono B0.out.size))
  have S5 : Hid (W.heap.size ≤ w5.heap.size) := Wc.hid (Nat.le_trans S3.out (Nat.le_trans hb4.size hb5.size))
  clear hO4 hb4 hO5 hb5 hi hz0 hz1 hz2
  go_wp2_with (at_builtin; refine Wc.wp_append hrun rfl rfl rfl rfl ?_)
  clear hrun
  go_ret
  refine ⟨v5, rfl, ?_, B5.out⟩
  have := O5.out.base B0.out.size
  rw [HPY.out]
  simpa only [List.append_assoc] using this

set_option maxRecDepth 100000 in
set_option maxHeartbeats 1600000 in
theorem refPay_5 (i p z f n s d : Int) (D : List Int) (a : Option Addr) (cap : Nat) (w : World) (hb : Wk.cmdB ⟨5, i, p, z, f, n, s, d, D⟩ = true) :
    Calls Try.prog 20 #[cv ⟨5, i, p, z, f, n, s, d, D⟩ (.slice a D.length cap)] w fun e w' => ∃ v, e = .returned v ∧ Wc.Ob 5 w.heap.size w' v (Wk.pay ⟨5, i, p, z, f, n, s, d, D⟩) ∧ Below w.heap.size w w' := by
  obtain ⟨i0, hi, hz0, hz1, hz2⟩ := info_parts Try.infoU8
  have HI : Hid (Try.prog.info? 5 = some i0 ∧ i0.zero = some (.int .u8 0) ∧ i0.size = 1 ∧ i0.bytes = 1) := Wc.hid ⟨hi, hz0, hz1, hz2⟩
  clear hi hz0 hz1 hz2
  have HR := Wk.cmdB_iff.1 hb
  simp [Wk.Right] at HR
  have Hz : Hid (0 ≤ z ∧ z ≤ 4611686018427387903) := Wc.hid (by omega)
  have HPY := Wc.hid (Wk.pay5 (c := ⟨5, i, p, z, f, n, s, d, D⟩) rfl (no_data hb (by simp)))
  generalize Wk.pay ⟨5, i, p, z, f, n, s, d, D⟩ = PY at HPY ⊢
  simp only at HPY
  have C0 := Wc.hid (Wk.Ch.new w ⟨5, i, p, z, f, n, s, d, D⟩ (.slice a D.length cap))
  have B0 := Wc.hid ((Below.refl w.heap.size w).alloc (Nat.le_refl _) (.cells #[.int .i64 5, .int .i64 i, .int .i64 p, .int .i64 z, .int .i64 f, .int .i64 n, .int .i64 s, .int .i64 d, .slice a D.length cap] 24))
  clear HR hb
  unfold cv
  go_enter Try.func20, Try.ntmps20
  go_wp2_with fail
  refine (refBytes_ob 4 z _ (by omega) Hz.out.1 Hz.out.2).mono ?_
  rintro e w1 ⟨v1, rfl, hO1, hb1⟩
  have O1 := Wc.hid (hO1.base B0.out.size)
  have B1 := Wc.hid (Wc.step B0.out (Nat.le_refl _) hb1)
  clear hO1 hb1
  go_wp2_with fail
  go_ret
  exact ⟨_, rfl, by rw [HPY.out]; exact O1.out, B1.out⟩

set_option maxRecDepth 100000 in
set_option maxHeartbeats 1600000 in
theorem refPay_6 (i p z f n s d : Int) (D : List Int) (a : Option Addr) (cap : Nat) (w : World) (hb : Wk.cmdB ⟨6, i, p, z, f, n, s, d, D⟩ = true) :
    Calls Try.prog 20 #[cv ⟨6, i, p, z, f, n, s, d, D⟩ (.slice a D.length cap)] w fun e w' => ∃ v, e = .returned v ∧ Wc.Ob 5 w.heap.size w' v (Wk.pay ⟨6, i, p, z, f, n, s, d, D⟩) ∧ Below w.heap.size w w' := by
  obtain ⟨i0, hi, hz0, hz1, hz2⟩ := info_parts Try.infoU8
  have HI : Hid (Try.prog.info? 5 = some i0 ∧ i0.zero = some (.int .u8 0) ∧ i0.size = 1 ∧ i0.bytes = 1) := Wc.hid ⟨hi, hz0, hz1, hz2⟩
  clear hi hz0 hz1 hz2
  have HR := Wk.cmdB_iff.1 hb
  simp [Wk.Right] at HR
  have Hn : Hid (0 ≤ n ∧ n ≤ 4611686018427387903) := Wc.hid (by omega)
  have Hd : Hid (0 ≤ d ∧ d ≤ 4611686018427387903) := Wc.hid (by omega)
  have HPY := Wc.hid (Wk.pay6 (c := ⟨6, i, p, z, f, n, s, d, D⟩) rfl (no_data hb (by simp)))
  generalize Wk.pay ⟨6, i, p, z, f, n, s, d, D⟩ = PY at HPY ⊢
  simp only at HPY
  have C0 := Wc.hid (Wk.Ch.new w ⟨6, i, p, z, f, n, s, d, D⟩ (.slice a D.length cap))
  have B0 := Wc.hid ((Below.refl w.heap.size w).alloc (Nat.le_refl _) (.cells #[.int .i64 6, .int .i64 i, .int .i64 p, .int .i64 z, .int .i64 f, .int .i64 n, .int .i64 s, .int .i64 d, .slice a D.length cap] 24))
  clear HR hb
  unfold cv
  go_enter Try.func20, Try.ntmps20
  go_wp2_with fail
  obtain ⟨W, hW⟩ : ∃ W, w.alloc (.cells #[.int .i64 6, .int .i64 i, .int .i64 p, .int .i64 z, .int .i64 f, .int .i64 n, .int .i64 s, .int .i64 d, .slice a D.length cap] 24) = W := ⟨_, rfl⟩
  rw [hW] at C0 B0 ⊢
  clear hW
  have CD := Wc.hid (C0.out.keep (show_drew (Below.refl _ _)))
  have z1 := C0.out.cc.2.2.2.2.2.1
  have z2 := C0.out.cc.2.2.2.2.2.2.2.1
  go_region_held3 (fun w' => w'.cell? ⟨w.heap.size, 5, none⟩ = some (.int .i64 n) ∧ w'.cell? ⟨w.heap.size, 7, none⟩ = some (.int .i64 d)) (go_keep) (first | (refine step_append_ob W.heap.size rfl rfl rfl rfl (by exact hO1.keep hb2) (by exact hO2.bs) hO2.shaped (by rw [Wc.enc_length, Wc.enc_length]; omega) (by exact Nat.le_trans hb1.size hb2.size) ?_; intro v3 w3 hO3 hb3; have C3 := C2.below hb3 C0.out.lt; have m3x := C3.cc.2.2.2.2.2.1; have m3y := C3.cc.2.2.2.2.2.2.2.1) | (go_at_call_of 39 (Value.int IntKind.i64 n); refine (refBytes_ob 4 n _ (by omega) Hn.out.1 Hn.out.2).mono ?_; rintro e w1 ⟨v1, rfl, hO1, hb1⟩; have C1 := CD.out.keep hb1; have m1x := C1.cc.2.2.2.2.2.1; have m1y := C1.cc.2.2.2.2.2.2.2.1) | (go_at_call_of 39 (Value.int IntKind.i64 d); refine (refBytes_ob 4 d _ (by omega) Hd.out.1 Hd.out.2).mono ?_; rintro e w2 ⟨v2, rfl, hO2, hb2⟩; have C2 := C1.keep hb2; have m2x := C2.cc.2.2.2.2.2.1; have m2y := C2.cc.2.2.2.2.2.2.2.1) | fail)
  have hB3 := B0.out.trans ((((show_drew (Below.refl W.heap.size W)).trans hb1).trans (hb2.mono hb1.size)).trans hb3 |>.mono B0.out.size)
  have O3 := Wc.hid hO3
  have S3 : Hid (W.heap.size ≤ w3.heap.size) := Wc.hid (Nat.le_trans hb1.size (Nat.le_trans hb2.size hb3.size))
  have HCL := Wc.hid C0.out.lt
  have B3 := Wc.hid hB3
  have HC3 := Wc.hid C3
  clear hO3 hb3 C3 m3x m3y hO2 hb2 C2 m2x m2y hO1 hb1 C1 m1x m1y hB3 z1 z2 CD
  go_wp2_with fail
  go_ret
  refine ⟨v3, rfl, ?_, B3.out⟩
  have := O3.out.base B0.out.size
  rw [HPY.out]
  simpa only [List.append_assoc] using this

theorem refPay_any (c : Wk.Cmd) (a : Option Addr) (cap : Nat) (w : World) (hb : Wk.cmdB c = true) (hv : Wc.Bs w (.slice a c.data.length cap) c.data) (hsh : Wc.Shaped (.slice a c.data.length cap)) :
    Calls Try.prog 20 #[cv c (.slice a c.data.length cap)] w fun e w' => ∃ v, e = .returned v ∧ Wc.Ob 5 w.heap.size w' v (Wk.pay c) ∧ Below w.heap.size w w' := by
  have hk := Wk.cmdB_kind hb
  obtain ⟨k, i, p, z, f, n, s, d, D⟩ := c
  simp only at hk
  obtain rfl | rfl | rfl | rfl | rfl | rfl : k = 1 ∨ k = 2 ∨ k = 3 ∨ k = 4 ∨ k = 5 ∨ k = 6 := by omega
  · exact refPay_1 i p z f n s d D a cap w hb
  · exact refPay_2 i p z f n s d D a cap w hb hv hsh
  · exact refPay_3 i p z f n s d D a cap w hb
  · exact refPay_4 i p z f n s d D a cap w hb
  · exact refPay_5 i p z f n s d D a cap w hb
  · exact refPay_6 i p z f n s d D a cap w hb

end Go.Proofs.Ytfejabeifabdlaa
