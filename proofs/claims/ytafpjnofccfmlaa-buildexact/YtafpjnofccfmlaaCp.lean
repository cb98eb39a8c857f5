/-
  The statements' own wakes returns true.
-/
import Derived.Test.YtafpjnofccfmlaaCo
namespace Wb
open Wt Wn
/-- A map of one sector. -/
def mw : List Int := (List.replicate 512 0).set 9 8
theorem mw_mp : Mp mw 2 10 := (Mp.zeros 2 10).set 9 (.inr ⟨by decide, by decide⟩)
theorem mw_need (n : Nat) : need (List.replicate n 0) 0 mw s0.sec [] = 3 := by
  show need (List.replicate n 0) 0 mw (List.replicate 512 0) [] = 3
  unfold need new b2 b1 b0 od0 od1 kids
  rw [if_pos rfl]
  have e : (List.replicate 8 (0 : Int)).flatMap (fun p => if p = 0 then List.replicate 8 0 else ptr (nd (List.replicate n 0) p)) = List.replicate 64 0 := by rfl
  rw [e]
  decide +kernel
theorem laid_zeros {n : Nat} (hd : Wd.devB n = true) {m F : List Int} {lo hi : Int} (hm : Mp m lo hi) (hlo : 2 ≤ lo) (hhi : hi ≤ ((n / 64 : Nat) : Int)) (hF : F.Pairwise (· < ·)) (hFr : ∀ f ∈ F, 2 ≤ f ∧ f < ((n / 64 : Nat) : Int) ∧ ¬ f ∈ m) (hroom : needN (List.replicate n 0) 0 m ≤ F.length) : Laid (List.replicate n 0) 0 m F s0 := by
  refine laid (by rw [List.length_replicate]; exact hd) (zeros_tre n) hm.1 (fun i => by rw [List.length_replicate]; have := hm.2 i; omega) (fun i h => (by cases h)) hF (fun f hf => ?_) hroom
  obtain ⟨h1, h2, h3⟩ := hFr f hf
  refine ⟨h1, by rw [List.length_replicate]; exact h2, (fun h => by cases h), (fun h => ?_), h3⟩
  have := List.eq_of_mem_replicate (show f ∈ List.replicate 512 (0 : Int) from h)
  omega
end Wb
namespace Go.Proofs.Ytafpjnofccfmlaa
open Go.RowKit

theorem wake_laid : Wb.Laid (List.replicate 640 0) 0 Wb.mw [2, 3, 4, 5] Wt.s0 ∧ Wb.needN (List.replicate 640 0) 0 Wb.mw = 3 := by
  have hn : Wb.needN (List.replicate 640 0) 0 Wb.mw = 3 := by
    unfold Wb.needN
    rw [(Wt.tre_some (by rw [List.length_replicate]; decide) (Wb.zeros_tre 640)).2.2]
    exact Wb.mw_need 640
  refine ⟨Wb.laid_zeros (by decide) Wb.mw_mp (by decide) (by decide) (by decide) (fun f hf => ?_) (by rw [hn]; decide), hn⟩
  have hnm : ∀ x, x ∈ Wb.mw → x = 0 ∨ x = 8 := by decide +kernel
  have hf4 : f = 2 ∨ f = 3 ∨ f = 4 ∨ f = 5 := by simpa using hf
  refine ⟨by omega, by show f < 10; omega, fun h => ?_⟩
  have := hnm f h
  omega

theorem lay_ov (cs : Array Value) (xs : List Int) (k : Nat) (hk : xs.length = k) (hk2 : k ≤ 17592186044416) (hc : cs.toList = xs.map (Value.int .i64)) (w : World) : Wv.Ov (Value.int .i64) 3 w.heap.size (w.alloc (.cells cs 3)) (.slice (some ⟨w.heap.size, 0, none⟩) k k) xs := by
  have hs : cs.size = k := by rw [← Array.length_toList, hc, List.length_map, hk]
  refine ⟨⟨by simp, .inr ⟨w.heap.size, k, cs, by rw [hk], Nat.le_refl _, (by show (w.heap.push _)[_]? = _; simp), by rw [hk]; exact Nat.le_refl _, by unfold maxLen; omega, by rw [hs, Nat.mul_one], ?_⟩⟩, by rw [hk]; exact hk2⟩
  rw [hc, hk, Nat.mul_one, List.take_of_length_le (by rw [List.length_map, hk]; exact Nat.le_refl _)]
theorem ov_in {e base : Nat} {w : World} {v : Value} {xs : List Int} (h : Wv.Ov (Value.int .i64) e base w v xs) : Wd.In w v xs := h.rv

set_option maxRecDepth 100000 in
set_option maxHeartbeats 6400000 in
theorem wakes_any (w : World) : Calls Try.prog 17 #[] w fun e w' => e = .returned (.bool true) ∧ Below w.heap.size w w' := by
  obtain ⟨hl, hn⟩ := wake_laid
  have HLD := Wc.hid hl
  have HN := Wc.hid hn
  obtain ⟨Z, hZ⟩ : ∃ Z : List Int, List.replicate 640 0 = Z := ⟨_, rfl⟩
  have hZl : Z.length = 640 := by rw [← hZ]; exact List.length_replicate
  have hmk : ∀ w : World, (Instr.makeSlice 23 (.int .i64 512) (.int .i64 512)).run Try.prog w = .ok (.slice (some ⟨w.heap.size, 0, none⟩) 512 512) (w.alloc (.cells (madeCells #[.int .i64 0] 512) 3)) := fun w => makeI 512 (by omega) w
  have hmb : ∀ w : World, (Instr.makeSlice 22 (.int .i64 640) (.int .i64 640)).run Try.prog w = .ok (.slice (some ⟨w.heap.size, 0, none⟩) 640 640) (w.alloc (.cells (madeCells #[.int .u8 0] 640) 5)) := fun w => makeN 640 (by omega) w
  have hV0 := (made_ob 640 (by omega) w).bs
  rw [hZ] at hV0 HLD HN
  obtain ⟨wA, hwA⟩ : ∃ wA, w.alloc (.cells (madeCells #[.int .u8 0] 640) 5) = wA := ⟨_, rfl⟩
  have bA := (Below.refl w.heap.size w).alloc (Nat.le_refl _) (.cells (madeCells #[.int .u8 0] 640) 5)
  have sA : wA.heap.size = w.heap.size + 1 := by rw [← hwA]; simp
  rw [hwA] at hV0 bA
  have hM0 := made_ov 512 (by omega) wA
  rw [sA] at hM0
  have hc9 := ov_cell hM0 (show 9 < 512 by decide)
  have hf9 := ov_frozen 9 hM0
  have hM1 := lay_ov ((madeCells #[Value.int .i64 0] 512).setIfInBounds 9 (.int .i64 8)) Wb.mw 512 (by decide +kernel) (by decide) (by
    rw [Array.toList_setIfInBounds, made_ints]; rfl) wA
  have bC := (Below.refl wA.heap.size wA).alloc (Nat.le_refl _) (.cells ((madeCells #[Value.int .i64 0] 512).setIfInBounds 9 (.int .i64 8)) 3)
  rw [sA] at hM1
  have hV1 := hV0.keep bC
  have B3 := Wc.step bA (Nat.le_refl _) bC
  have hrt : Wb.root Z 0 Wb.mw (Wt.treS Z 0) [2, 3, 4, 5] = 4 := by
    have h2 : ∀ f ∈ ([2, 3, 4, 5] : List Int), 2 ≤ f := by decide
    have h3 := Wb.need_two (xs := Z) (r := 0) (m := Wb.mw) h2
    rw [HN.out] at h3
    rw [Wb.root_last (Wb.two_ne h2) (by rw [h3]; decide), h3]; rfl
  have HRT := Wc.hid hrt
  obtain ⟨M, hMM⟩ : ∃ M, Wb.mw = M := ⟨_, rfl⟩
  rw [hMM] at hM1 HLD HN HRT
  subst hwA
  have HV1 := Wc.hid hV1
  have HM1 := Wc.hid hM1
  have HB3 := Wc.hid B3
  have HZL := Wc.hid hZl
  clear hV0 bA sA hM0 hM1 hV1 bC B3 hl hn hZ hZl hrt hMM
  go_enter Try.func17, Try.ntmps17
  go_wp2_with fail
  refine (needs_any _ 0 _ _ _ Z M _ HV1.out (ov_in HM1.out)).mono ?_
  rintro e w4 ⟨hb4, hy, -⟩
  obtain rfl := hy HLD.out.beg
  rw [HN.out]
  have bF := (Below.refl w4.heap.size w4).alloc (Nat.le_refl _) (.cells #[.int .i64 2, .int .i64 3, .int .i64 4, .int .i64 5] 3)
  have bb := Wc.step hb4 (Nat.le_refl _) bF
  have HV5 := Wc.hid (HV1.out.keep bb)
  have HM5 := Wc.hid (HM1.out.keep bb)
  have HB5 := Wc.hid (Wc.step HB3.out (Nat.le_refl _) bb)
  have HF5 : Hid (Wd.In (w4.alloc (.cells #[.int .i64 2, .int .i64 3, .int .i64 4, .int .i64 5] 3)) (.slice (some ⟨w4.heap.size, 0, none⟩) 4 4) [2, 3, 4, 5]) := Wc.hid (Wv.Rv.lit w4 _ 3 4 [2, 3, 4, 5] rfl (by decide) rfl)
  clear hy hb4 bF bb hc9 hf9
  go_wp2_with fail
  refine (tree_any _ 0 _ _ _ _ _ _ Z M [2, 3, 4, 5] _ HV5.out (ov_in HM5.out) HF5.out).mono ?_
  rintro e w6 ⟨hb6, hy, -⟩
  obtain ⟨al, cl, ar, cr, rfl, hO, hP⟩ := hy HLD.out.err
  have e41 : ([2, 3, 4, 5] : List Int).length - 3 = 1 := rfl
  rw [HN.out] at hO hP ⊢
  rw [e41] at hP ⊢
  rw [HRT.out]
  have HV6 := Wc.hid (HV5.out.keep hb6)
  have HM6 := Wc.hid (HM5.out.keep hb6)
  have HB6 := Wc.hid (Wc.step HB5.out (Nat.le_refl _) hb6)
  have HP6 := Wc.hid hP
  have HO6 := Wc.hid hO
  have hst := HLD.out.steps
  rw [HN.out, HZL.out] at hst
  have HST := Wc.hid hst
  obtain ⟨u, u1, u2, -⟩ := HLD.out.is
  have hdv := HLD.out.dev
  rw [HN.out] at u1 hdv
  rw [HRT.out] at u1
  have HU1 := Wc.hid (Wt.tre_some hdv u1)
  have HU2 := Wc.hid u2
  clear hy hb6 hO hP hst e41 u1 u2 hdv
  go_wp2_with fail
  refine (apply_ob _ 640 640 al 3 cl Z _ w6 HV6.out HO6.out.is HST.out).mono ?_
  rintro e w7 ⟨g7, rfl, -, hO7, hb7⟩
  have HO7 := Wc.hid hO7.bs
  have HM7 := Wc.hid (HM6.out.keep hb7)
  have HP7 := Wc.hid (HP6.out.keep hb7)
  have HB7 := Wc.hid (Wc.step HB6.out (Nat.le_refl _) hb7)
  clear hO7 hb7
  go_wp2_with fail
  refine (map_any _ _ 4 w7 HO7.out).mono ?_
  rintro e w8 ⟨a8, n8, c8, rfl, hI8, hb8, -⟩
  rw [HU1.out.2.2, HU2.out] at hI8
  rw [HU1.out.1]
  have HM8 := Wc.hid (HM7.out.keep hb8)
  have HP8 := Wc.hid (HP7.out.keep hb8)
  have HB8 := Wc.hid (Wc.step HB7.out (Nat.le_refl _) hb8)
  have HI8 := Wc.hid hI8
  have bX := (Below.refl w8.heap.size w8).alloc (Nat.le_refl _) (.cells #[.int .i64 5] 3)
  have HX : Hid (Wd.In (w8.alloc (.cells #[.int .i64 5] 3)) (.slice (some ⟨w8.heap.size, 0, none⟩) 1 1) [5]) := Wc.hid (Wv.Rv.lit w8 _ 3 1 [5] rfl (by decide) rfl)
  have HPX := Wc.hid (HP8.out.keep bX)
  have HIX := Wc.hid (HI8.out.keep bX)
  have HMX := Wc.hid (HM8.out.keep bX)
  have HBX := Wc.hid (Wc.step HB8.out (Nat.le_refl _) bX)
  clear hI8 hb8 bX
  go_wp2_with fail
  refine (ints_any _ _ _ _ _ (ov_in HPX.out) HX.out).mono ?_
  rintro e w9 ⟨rfl, hb9⟩
  rw [show (([2, 3, 4, 5] : List Int).drop 3 == [5]) = true from rfl]
  have HIY := Wc.hid (HIX.out.keep hb9)
  have HMY := Wc.hid (HMX.out.keep hb9)
  have HBY := Wc.hid (Wc.step HBX.out (Nat.le_refl _) hb9)
  clear hb9
  go_wp2_with fail
  refine (ints_any _ _ _ _ _ HIY.out (ov_in HMY.out)).mono ?_
  rintro e w10 ⟨rfl, hb10⟩
  rw [show (M == M) = true by simp]
  have HBZ := Wc.hid (Wc.step HBY.out (Nat.le_refl _) hb10)
  clear hb10
  go_wp2_with fail
  go_ret
  exact ⟨rfl, HBZ.out⟩
end Go.Proofs.Ytafpjnofccfmlaa
