/-
  What Chain returns.
-/
import Derived.Test.YtifjbmknghjohaaVx
namespace Go.Proofs.Ytifjbmknghjohaa
open Go.RowKit

theorem makeN (k : Nat) (hk : k ≤ 140737488355328) (w : World) : (Instr.makeSlice 22 (.int .i64 (k : Int)) (.int .i64 (k : Int))).run Try.prog w = .ok (.slice (some ⟨w.heap.size, 0, none⟩) k k) (w.alloc (.cells (madeCells #[.int .u8 0] k) 5)) :=
  run_make_row' (P := Try.prog) 22 5 (.int .u8 0) 1 Try.underlying22 Try.infoU8 rfl .i64 .i64 k (by omega) (by omega) w

theorem made_ob (k : Nat) (hk : k ≤ 140737488355328) (w : World) : Wc.Ob 5 w.heap.size (w.alloc (.cells (madeCells #[.int .u8 0] k) 5)) (.slice (some ⟨w.heap.size, 0, none⟩) k k) (List.replicate k 0) := by
  refine ⟨⟨by simp, .inr ⟨w.heap.size, k, madeCells #[Value.int .u8 0] k, by simp, Nat.le_refl _, (by show (w.heap.push _)[_]? = _; simp), by simp, by unfold maxLen; omega, ?_, ?_⟩⟩, by simpa using hk, by intro x hx; rw [List.mem_replicate] at hx; omega⟩
  · rw [← Array.length_toList, Wc.made_zero]; simp
  · rw [Wc.made_zero]; simp

theorem ob_nh {base : Nat} {w : World} {v : Value} {xs : List Int} {B : Nat} {n : Wn.Nod} (h : Wc.Ob 5 base w v xs) (hB : Nh w B n) (o : Nat) (u : Value) : Wc.Ob 5 base (w.setCell ⟨B, o, none⟩ u) v xs := by
  refine ⟨⟨h.1.1, ?_⟩, h.2⟩
  rcases h.1.2 with hn | ⟨g, cap, cur, hv, hbg, hg, rest⟩
  · exact .inl hn
  · refine .inr ⟨g, cap, cur, hv, hbg, ?_, rest⟩
    rw [heap_setCell_other _ _ _ _ (by
      show g ≠ B
      rintro rfl
      unfold Nh at hB
      rw [hg] at hB
      injection hB with hB
      injection hB with _ h2
      exact absurd h2 (by decide))]
    exact hg

set_option maxRecDepth 100000 in
set_option maxHeartbeats 3200000 in
theorem chain_any (b a s d N : Nat) (w : World) (ha : 2 ≤ a) (hb : a + 3 ≤ b) (hb2 : b ≤ 4096) (hs : s < 512) (hd : 2 ≤ d) (hd2 : d < 4096) (hN : b * 64 = N) :
    Calls Try.prog 20 #[.int .i64 b, .int .i64 a, .int .i64 s, .int .i64 d] w fun e w' => ∃ g, e = .returned (.tuple #[.slice (some ⟨g, 0, none⟩) N N, .int .i64 ((a + 2 : Nat) : Int)]) ∧ Wc.Ob 5 w.heap.size w' (.slice (some ⟨g, 0, none⟩) N N) (Wt.ch b a s d 3) ∧ Below w.heap.size w w' := by
  have eN : (b : Int) * 64 = (N : Int) := by omega
  have mk := makeN N (by omega)
  have HO := Wc.hid (made_ob N (by omega) w)
  have HB := Wc.hid ((Below.refl w.heap.size w).alloc (Nat.le_refl _) (.cells (madeCells #[Value.int .u8 0] N) 5))
  go_enter Try.func20, Try.ntmps20
  go_wp2_with fail
  clear mk eN
  go_loopw [10, 11, 12] (fun v p lv wr => ∃ k : Nat, lv = .int .i64 k ∧ k ≤ 3 ∧ p = .int .i64 (Wt.pk a d k) ∧ (∃ g, v = .slice (some ⟨g, 0, none⟩) N N ∧ Hid (Wc.Ob 5 w.heap.size wr (.slice (some ⟨g, 0, none⟩) N N) (Wt.ch b a s d k))) ∧ Hid (Below w.heap.size w wr)) (fun _ _ lv _ => 3 - (intOf lv).toNat)
  case atStart => exact ⟨0, rfl, by omega, rfl, ⟨_, rfl, Wc.hid (by show Wc.Ob 5 _ _ _ (List.replicate (b * 64) 0); rw [hN]; exact HO.out)⟩, HB⟩
  case round =>
    obtain ⟨k, rfl, hk, rfl, ⟨g, rfl, RO⟩, RB⟩ := hrel
    have hk3 : k = 0 ∨ k = 1 ∨ k = 2 ∨ k = 3 := by omega
    rcases hk3 with rfl | rfl | rfl | rfl
    · obtain ⟨p, hp⟩ : ∃ p, Wt.pk a d 0 = p := ⟨_, rfl⟩
      have hpb := Wt.pk_bd ha hb hb2 hd hd2 0 (by omega)
      rw [hp] at hpb ⊢
      go_upto_region 8 with fail
      have al := (Below.refl wr.heap.size wr).alloc (Nat.le_refl _) (.cells #[.int .i64 0, .int .i64 0, .int .i64 0, .int .i64 0, .int .i64 0, .int .i64 0, .int .i64 0, .int .i64 0, .int .i64 0] 47)
      have al2 := (Below.refl (wr.alloc (.cells #[.int .i64 0, .int .i64 0, .int .i64 0, .int .i64 0, .int .i64 0, .int .i64 0, .int .i64 0, .int .i64 0, .int .i64 0] 47)).heap.size (wr.alloc (.cells #[.int .i64 0, .int .i64 0, .int .i64 0, .int .i64 0, .int .i64 0, .int .i64 0, .int .i64 0, .int .i64 0, .int .i64 0] 47))).alloc (Nat.le_refl _) (.cells #[.int .i64 1, .int .i64 8, .int .i64 64] 3)
      have A0 := (Nh.new wr ⟨0, 0, 0, 0, 0, 0, 0, 0, 0⟩).keep al2
      have B0 := Wc.hid (Wc.step (Wc.step RB.out (Nat.le_refl _) al) (Nat.le_refl _) al2)
      have O0 := Wc.hid ((RO.out.keep al).keep al2)
      have hlt : w.heap.size ≤ wr.heap.size := RB.out.size
      generalize ((wr.alloc (.cells #[.int .i64 0, .int .i64 0, .int .i64 0, .int .i64 0, .int .i64 0, .int .i64 0, .int .i64 0, .int .i64 0, .int .i64 0] 47)).alloc (.cells #[.int .i64 1, .int .i64 8, .int .i64 64] 3)) = W at *
      clear al al2 RB RO
      have hr : s / 8 ^ 0 % 8 = s % 8 := by simp
      have hr8 : s % 8 < 8 := by omega
      have cl := A0.pat hr8
      have fr := A0.frozen (1 + (s % 8))
      have HA := Wc.hid A0
      clear A0
      go_upto_region 9 with fail
      have A1 := HA.out.set hr8 p
      have O1 := Wc.hid (ob_nh O0.out HA.out (1 + (s % 8)) (.int .i64 p))
      have B1 : Hid (Below w.heap.size w (W.setCell ⟨wr.heap.size, 1 + (s % 8), none⟩ (.int .i64 p))) := Wc.hid (B0.out.setCell hlt _)
      clear HA O0 B0 cl fr
      generalize (W.setCell ⟨wr.heap.size, 1 + (s % 8), none⟩ (.int .i64 p)) = W1 at *
      have hnd : Wn.setP ⟨0, 0, 0, 0, 0, 0, 0, 0, 0⟩ (s % 8) p = Wt.nk a s d 0 := by unfold Wt.nk Wt.sol; rw [hr, hp]; rfl
      rw [hnd] at A1
      have HN := Wc.hid (Wt.nk_ok (s := s) ha hb hb2 hd hd2 0 (by omega))
      obtain ⟨n, hn⟩ : ∃ n, Wt.nk a s d 0 = n := ⟨_, rfl⟩
      rw [hn] at A1 HN
      have HNN := Wc.hid hn
      clear hnd hn
      have ⟨c, c0, c1, c2, c3, c4, c5, c6, c7⟩ := A1.nc
      clear A1
      go_wp2_with fail
      refine (bytes7_ok n _ HN.out).mono ?_
      rintro e w2 ⟨g2, rfl, hg2, hr2, hb2'⟩
      have HX := Wc.hid (hr2.bs (Wn.blk_length n) (Wn.blk_bd n))
      have O2 := Wc.hid (O1.out.keep hb2')
      have B2 := Wc.hid (Wc.step B1.out (Nat.le_refl _) hb2')
      clear hr2 hb2' O1 B1 c c0 c1 c2 c3 c4 c5 c6 c7 hg2
      go_wp2_with fail
      refine (apply_ob _ _ _ _ _ _ (Wt.ch b a s d 0) [⟨1, ((a + 0 : Nat) : Int), Wn.blk n⟩] _ (O2.out.bs.alloc _) (one_is w2 _ 64 52 _ _ HX.out (.inr ⟨_, _, _, rfl⟩) _ rfl) (one_step (by rw [← hN]; exact Wt.devB_b (by omega) hb2) (by omega) (Wn.blk_length n))).mono ?_
      rintro e w3 ⟨g3, rfl, hg3, hO3, hb3⟩
      have O3 : Hid (Wc.Ob 5 w.heap.size w3 (.slice (some ⟨g3, 0, none⟩) N N) (Wt.ch b a s d 1)) := Wc.hid (by
        have h1 := hO3.base (base' := w.heap.size) (by have := B2.out.size; simp; omega)
        rw [app_put, ← HNN.out] at h1
        exact h1)
      have B3 := Wc.hid (Wc.step (Wc.step B2.out (Nat.le_refl _) ((Below.refl w2.heap.size w2).alloc (Nat.le_refl _) _)) (Nat.le_refl _) hb3)
      clear hO3 hb3 hg3 O2 B2 HX
      go_wp2_with fail
      go_roundw
      case rel => exact ⟨1, by go_num, by omega, rfl, ⟨g3, rfl, O3⟩, B3⟩
      case measure => simp [intOf]
    · obtain ⟨p, hp⟩ : ∃ p, Wt.pk a d 1 = p := ⟨_, rfl⟩
      have hpb := Wt.pk_bd ha hb hb2 hd hd2 1 (by omega)
      rw [hp] at hpb ⊢
      go_upto_region 8 with fail
      have al := (Below.refl wr.heap.size wr).alloc (Nat.le_refl _) (.cells #[.int .i64 1, .int .i64 0, .int .i64 0, .int .i64 0, .int .i64 0, .int .i64 0, .int .i64 0, .int .i64 0, .int .i64 0] 47)
      have al2 := (Below.refl (wr.alloc (.cells #[.int .i64 1, .int .i64 0, .int .i64 0, .int .i64 0, .int .i64 0, .int .i64 0, .int .i64 0, .int .i64 0, .int .i64 0] 47)).heap.size (wr.alloc (.cells #[.int .i64 1, .int .i64 0, .int .i64 0, .int .i64 0, .int .i64 0, .int .i64 0, .int .i64 0, .int .i64 0, .int .i64 0] 47))).alloc (Nat.le_refl _) (.cells #[.int .i64 1, .int .i64 8, .int .i64 64] 3)
      have A0 := (Nh.new wr ⟨1, 0, 0, 0, 0, 0, 0, 0, 0⟩).keep al2
      have B0 := Wc.hid (Wc.step (Wc.step RB.out (Nat.le_refl _) al) (Nat.le_refl _) al2)
      have O0 := Wc.hid ((RO.out.keep al).keep al2)
      have hlt : w.heap.size ≤ wr.heap.size := RB.out.size
      generalize ((wr.alloc (.cells #[.int .i64 1, .int .i64 0, .int .i64 0, .int .i64 0, .int .i64 0, .int .i64 0, .int .i64 0, .int .i64 0, .int .i64 0] 47)).alloc (.cells #[.int .i64 1, .int .i64 8, .int .i64 64] 3)) = W at *
      clear al al2 RB RO
      obtain ⟨r, hr⟩ : ∃ r, s / 8 ^ 1 % 8 = r := ⟨_, rfl⟩
      have hr8 : r < 8 := by omega
      have er : ((s : Int).tdiv 8).tmod 8 = (r : Int) := by rw [Int.tdiv_eq_ediv_of_nonneg (by omega), Int.tmod_eq_emod_of_nonneg (by omega)]; omega
      have cl := A0.pat hr8
      have fr := A0.frozen (1 + r)
      have HA := Wc.hid A0
      clear A0
      go_upto_region 9 with fail
      have A1 := HA.out.set hr8 p
      have O1 := Wc.hid (ob_nh O0.out HA.out (1 + r) (.int .i64 p))
      have B1 : Hid (Below w.heap.size w (W.setCell ⟨wr.heap.size, 1 + r, none⟩ (.int .i64 p))) := Wc.hid (B0.out.setCell hlt _)
      clear HA O0 B0 cl fr er
      generalize (W.setCell ⟨wr.heap.size, 1 + r, none⟩ (.int .i64 p)) = W1 at *
      have hnd : Wn.setP ⟨1, 0, 0, 0, 0, 0, 0, 0, 0⟩ r p = Wt.nk a s d 1 := by unfold Wt.nk Wt.sol; rw [hr, hp]; rfl
      rw [hnd] at A1
      have HN := Wc.hid (Wt.nk_ok (s := s) ha hb hb2 hd hd2 1 (by omega))
      obtain ⟨n, hn⟩ : ∃ n, Wt.nk a s d 1 = n := ⟨_, rfl⟩
      rw [hn] at A1 HN
      have HNN := Wc.hid hn
      clear hnd hn
      have ⟨c, c0, c1, c2, c3, c4, c5, c6, c7⟩ := A1.nc
      clear A1
      go_wp2_with fail
      refine (bytes7_ok n _ HN.out).mono ?_
      rintro e w2 ⟨g2, rfl, hg2, hr2, hb2'⟩
      have HX := Wc.hid (hr2.bs (Wn.blk_length n) (Wn.blk_bd n))
      have O2 := Wc.hid (O1.out.keep hb2')
      have B2 := Wc.hid (Wc.step B1.out (Nat.le_refl _) hb2')
      clear hr2 hb2' O1 B1 c c0 c1 c2 c3 c4 c5 c6 c7 hg2
      go_wp2_with fail
      refine (apply_ob _ _ _ _ _ _ (Wt.ch b a s d 1) [⟨1, ((a + 1 : Nat) : Int), Wn.blk n⟩] _ (O2.out.bs.alloc _) (one_is w2 _ 64 52 _ _ HX.out (.inr ⟨_, _, _, rfl⟩) _ rfl) (one_step (by rw [← hN]; exact Wt.devB_b (by omega) hb2) (by omega) (Wn.blk_length n))).mono ?_
      rintro e w3 ⟨g3, rfl, hg3, hO3, hb3⟩
      have O3 : Hid (Wc.Ob 5 w.heap.size w3 (.slice (some ⟨g3, 0, none⟩) N N) (Wt.ch b a s d 2)) := Wc.hid (by
        have h1 := hO3.base (base' := w.heap.size) (by have := B2.out.size; simp; omega)
        rw [app_put, ← HNN.out] at h1
        exact h1)
      have B3 := Wc.hid (Wc.step (Wc.step B2.out (Nat.le_refl _) ((Below.refl w2.heap.size w2).alloc (Nat.le_refl _) _)) (Nat.le_refl _) hb3)
      clear hO3 hb3 hg3 O2 B2 HX
      go_wp2_with fail
      go_roundw
      case rel => exact ⟨2, by go_num, by omega, rfl, ⟨g3, rfl, O3⟩, B3⟩
      case measure => simp [intOf]
    · obtain ⟨p, hp⟩ : ∃ p, Wt.pk a d 2 = p := ⟨_, rfl⟩
      have hpb := Wt.pk_bd ha hb hb2 hd hd2 2 (by omega)
      rw [hp] at hpb ⊢
      go_upto_region 8 with fail
      have al := (Below.refl wr.heap.size wr).alloc (Nat.le_refl _) (.cells #[.int .i64 2, .int .i64 0, .int .i64 0, .int .i64 0, .int .i64 0, .int .i64 0, .int .i64 0, .int .i64 0, .int .i64 0] 47)
      have al2 := (Below.refl (wr.alloc (.cells #[.int .i64 2, .int .i64 0, .int .i64 0, .int .i64 0, .int .i64 0, .int .i64 0, .int .i64 0, .int .i64 0, .int .i64 0] 47)).heap.size (wr.alloc (.cells #[.int .i64 2, .int .i64 0, .int .i64 0, .int .i64 0, .int .i64 0, .int .i64 0, .int .i64 0, .int .i64 0, .int .i64 0] 47))).alloc (Nat.le_refl _) (.cells #[.int .i64 1, .int .i64 8, .int .i64 64] 3)
      have A0 := (Nh.new wr ⟨2, 0, 0, 0, 0, 0, 0, 0, 0⟩).keep al2
      have B0 := Wc.hid (Wc.step (Wc.step RB.out (Nat.le_refl _) al) (Nat.le_refl _) al2)
      have O0 := Wc.hid ((RO.out.keep al).keep al2)
      have hlt : w.heap.size ≤ wr.heap.size := RB.out.size
      generalize ((wr.alloc (.cells #[.int .i64 2, .int .i64 0, .int .i64 0, .int .i64 0, .int .i64 0, .int .i64 0, .int .i64 0, .int .i64 0, .int .i64 0] 47)).alloc (.cells #[.int .i64 1, .int .i64 8, .int .i64 64] 3)) = W at *
      clear al al2 RB RO
      obtain ⟨r, hr⟩ : ∃ r, s / 8 ^ 2 % 8 = r := ⟨_, rfl⟩
      have hr8 : r < 8 := by omega
      have er : ((s : Int).tdiv 64).tmod 8 = (r : Int) := by rw [Int.tdiv_eq_ediv_of_nonneg (by omega), Int.tmod_eq_emod_of_nonneg (by omega)]; omega
      have cl := A0.pat hr8
      have fr := A0.frozen (1 + r)
      have HA := Wc.hid A0
      clear A0
      go_upto_region 9 with fail
      have A1 := HA.out.set hr8 p
      have O1 := Wc.hid (ob_nh O0.out HA.out (1 + r) (.int .i64 p))
      have B1 : Hid (Below w.heap.size w (W.setCell ⟨wr.heap.size, 1 + r, none⟩ (.int .i64 p))) := Wc.hid (B0.out.setCell hlt _)
      clear HA O0 B0 cl fr er
      generalize (W.setCell ⟨wr.heap.size, 1 + r, none⟩ (.int .i64 p)) = W1 at *
      have hnd : Wn.setP ⟨2, 0, 0, 0, 0, 0, 0, 0, 0⟩ r p = Wt.nk a s d 2 := by unfold Wt.nk Wt.sol; rw [hr, hp]; rfl
      rw [hnd] at A1
      have HN := Wc.hid (Wt.nk_ok (s := s) ha hb hb2 hd hd2 2 (by omega))
      obtain ⟨n, hn⟩ : ∃ n, Wt.nk a s d 2 = n := ⟨_, rfl⟩
      rw [hn] at A1 HN
      have HNN := Wc.hid hn
      clear hnd hn
      have ⟨c, c0, c1, c2, c3, c4, c5, c6, c7⟩ := A1.nc
      clear A1
      go_wp2_with fail
      refine (bytes7_ok n _ HN.out).mono ?_
      rintro e w2 ⟨g2, rfl, hg2, hr2, hb2'⟩
      have HX := Wc.hid (hr2.bs (Wn.blk_length n) (Wn.blk_bd n))
      have O2 := Wc.hid (O1.out.keep hb2')
      have B2 := Wc.hid (Wc.step B1.out (Nat.le_refl _) hb2')
      clear hr2 hb2' O1 B1 c c0 c1 c2 c3 c4 c5 c6 c7 hg2
      go_wp2_with fail
      refine (apply_ob _ _ _ _ _ _ (Wt.ch b a s d 2) [⟨1, ((a + 2 : Nat) : Int), Wn.blk n⟩] _ (O2.out.bs.alloc _) (one_is w2 _ 64 52 _ _ HX.out (.inr ⟨_, _, _, rfl⟩) _ rfl) (one_step (by rw [← hN]; exact Wt.devB_b (by omega) hb2) (by omega) (Wn.blk_length n))).mono ?_
      rintro e w3 ⟨g3, rfl, hg3, hO3, hb3⟩
      have O3 : Hid (Wc.Ob 5 w.heap.size w3 (.slice (some ⟨g3, 0, none⟩) N N) (Wt.ch b a s d 3)) := Wc.hid (by
        have h1 := hO3.base (base' := w.heap.size) (by have := B2.out.size; simp; omega)
        rw [app_put, ← HNN.out] at h1
        exact h1)
      have B3 := Wc.hid (Wc.step (Wc.step B2.out (Nat.le_refl _) ((Below.refl w2.heap.size w2).alloc (Nat.le_refl _) _)) (Nat.le_refl _) hb3)
      clear hO3 hb3 hg3 O2 B2 HX
      go_wp2_with fail
      go_roundw
      case rel => exact ⟨3, by go_num, by omega, rfl, ⟨g3, rfl, O3⟩, B3⟩
      case measure => simp [intOf]
    · go_wp2_with fail
      go_ret2
      exact ⟨g, rfl, RO.out, RB.out⟩

end Go.Proofs.Ytifjbmknghjohaa
