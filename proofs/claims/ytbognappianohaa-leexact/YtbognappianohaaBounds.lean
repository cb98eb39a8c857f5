/-
  The walk of the law LeBounds: for every two ints it returns true and turns nothing that was there.
-/
import Derived.Test.YtbognappianohaaParts
namespace Go.Proofs.Ytbognappianohaa
open Go.RowKit

theorem putR_arg (xs : List Int) (p s m : Int) (h : Wc.rsB s = false ∨ Wc.fitB m s = false) : Wc.putR xs p s m = ([], 1) := by
  unfold Wc.putR
  rcases h with h | h
  · rw [h]; simp
  · rw [h]; cases Wc.rsB s <;> simp
theorem putR_range (xs : List Int) (p s m : Int) (hs : Wc.rsB s = true) (hf : Wc.fitB m s = true) (hp : Wc.inB xs.length p s = false) : Wc.putR xs p s m = ([], 3) := by
  unfold Wc.putR; rw [hs, hf, hp]; simp
theorem getR_range (xs : List Int) (p s : Int) (hs : Wc.rsB s = true) (hp : Wc.inB xs.length p s = false) : Wc.getR xs p s = (0, 3) := by
  unfold Wc.getR; rw [hs, hp]; simp
theorem fit_zero (s : Int) (hs : Wc.rsB s = true) : Wc.fitB 0 s = true := by
  rcases Wc.rsB_cases hs with rfl | rfl | rfl | rfl <;> decide
theorem inB_no {len : Nat} {p s : Int} (h : ¬ (0 ≤ p ∧ p + s ≤ (len : Int))) : Wc.inB len p s = false := by
  rw [Bool.eq_false_iff]; intro h'; exact h (Wc.inB_iff.1 h')
theorem inB_yes {len : Nat} {p s : Int} (h : 0 ≤ p ∧ p + s ≤ (len : Int)) : Wc.inB len p s = true := Wc.inB_iff.2 h

theorem zeros_put (n t : Nat) (m : Int) : Wc.zerosB (Wc.putL (List.replicate (t + n) 0) n t m) 0 n = true :=
  Wc.zerosB_true fun j _ _ h => by
    rw [Wc.putL_getD _ _ _ _ (by simp; omega), if_pos (by omega)]
    simp only [List.getD_eq_getElem?_getD, List.getElem?_replicate]
    split <;> rfl

theorem rep_bd (n : Nat) : ∀ x ∈ List.replicate n (0 : Int), 0 ≤ x ∧ x < 256 := by
  intro x hx; have := List.eq_of_mem_replicate hx; omega

theorem get_put_in (xs : List Int) (q t : Nat) (m : Int) (hs : Wc.rsB t = true) (hf : 0 ≤ m ∧ m ≤ 4611686018427387903 ∧ m < 256 ^ t) (hl : q + t ≤ xs.length) : Wc.getR (Wc.putL xs q t m) q t = (m, 0) := by
  refine getR_ok _ _ _ _ hs (inB_yes ⟨by omega, by rw [Wc.putL_length _ _ _ _ hl]; omega⟩) ?_ hf.2.1
  rw [Int.toNat_natCast, Int.toNat_natCast, Wc.putL_mid _ _ _ _ hl, Wc.val_enc _ _ hf.1 hf.2.2]

theorem mkrow (L : Int) (n : Nat) (h : L = (n : Int)) (hn : n ≤ 1000) (w : World) :
    (Instr.makeSlice 22 (.int .i64 L) (.int .i64 L)).run Try.prog w = .ok (.slice (some ⟨w.heap.size, 0, none⟩) n n) (w.alloc (.cells (madeCells #[.int .u8 0] n) 5)) := by
  subst h; exact run_make_row' (P := Try.prog) 22 5 (.int .u8 0) 1 Try.underlying22 Try.info5 rfl .i64 .i64 n (by omega) (by omega) w

theorem put_keep (v : Value) (xs : List Int) (p s m : Int) (w : World) (hv : Wc.Bs w v xs) :
    Calls Try.prog 9 #[v, .int .i64 p, .int .i64 s, .int .i64 m] w fun e w' => ∃ x, e = .returned (.tuple #[x, .int .i64 (Wc.putR xs p s m).2]) ∧ Wc.Bs w' x (Wc.putR xs p s m).1 ∧ Wc.Bs w' v xs ∧ Below w.heap.size w w' :=
  (put_any v xs p s m w hv).mono fun _ _ ⟨x, h1, h2, h3⟩ => ⟨x, h1, h2, hv.keep h3, h3⟩

set_option maxHeartbeats 400000 in
theorem leBounds0 (how n : Int) (w : World) (q : Nat) (hq : q < 20)
    (hwn : wrap64 ((IntKind.u64.wrap n).tmod 20) = (q : Int)) (hwh : wrap64 ((IntKind.u64.wrap how).tmod 4) = 0) :
    Calls Try.prog 7 #[.int .i64 how, .int .i64 n] w fun e w' => e = .returned (.bool true) ∧ Below w.heap.size w w' := by
  have hmk := mkrow (1 + (q : Int)) (1 + q) (by omega) (by omega)
  have R1 := Wc.hid (putR_ok (List.replicate (1 + q) 0) q 1 255 (by decide) (by decide) (inB_yes ⟨by omega, by simp; omega⟩))
  have R2 := Wc.hid (putR_arg (List.replicate (1 + q) 0) q 1 256 (.inr (by decide)))
  have R3 := Wc.hid (putR_range (List.replicate (1 + q) 0) ((q : Int) + 1) 1 0 (by decide) (by decide) (inB_no (by simp; omega)))
  have R4 := Wc.hid (putR_range (List.replicate (1 + q) 0) (-1) 1 0 (by decide) (by decide) (inB_no (by omega)))
  have R5 := Wc.hid (getR_range (List.replicate (1 + q) 0) ((q : Int) + 1) 1 (by decide) (inB_no (by simp; omega)))
  have R6 := Wc.hid (putR_arg (List.replicate (1 + q) 0) 0 9 0 (.inl (by decide)))
  have R7 := Wc.hid (get_put_in (List.replicate (1 + q) 0) q 1 255 (by decide) (by decide) (by simp; omega))
  have R8 := Wc.hid (zeros_put q 1 255)
  go_enter Try.func7, Try.ntmps7
  go_wp2_with fail
  refine (put_keep _ (List.replicate (1 + q) 0) q 1 255 _ (Wc.Bs.litAt _ _ 5 _ _ (by simp) _ (by simp) (by omega) (made_zero _) (rep_bd _))).mono ?_
  rintro e w1 ⟨x, rfl, hx, hv1, hb1⟩
  rw [R1.out] at hx
  rw [R1.out]
  have HX1 : Hid (Wc.Bs w1 x (Wc.putL (List.replicate (1 + q) 0) q 1 255)) := hx
  have hb1' := Wc.step ((((Below.refl w.heap.size w).alloc (Nat.le_refl _) _).alloc (by simp) _).alloc (by simp; omega) _) (Nat.le_refl _) hb1
  clear hb1 hmk hx
  go_wp2_with fail
  refine (put_keep _ _ _ _ _ _ hv1).mono ?_
  rintro e w2 ⟨x2, rfl, -, hv2, hb2⟩
  rw [R2.out]
  have HX2 := Wc.hid (HX1.out.keep hb2)
  have hb2' := Wc.step hb1' (Nat.le_refl _) hb2
  clear hb1' hb2 hv1 HX1
  go_wp2_with fail
  refine (put_keep _ _ _ _ _ _ hv2).mono ?_
  rintro e w3 ⟨x3, rfl, -, hv3, hb3⟩
  rw [R3.out]
  have HX3 := Wc.hid (HX2.out.keep hb3)
  have hb3' := Wc.step hb2' (Nat.le_refl _) hb3
  clear hb2' hb3 hv2 HX2
  go_wp2_with fail
  refine (put_keep _ _ _ _ _ _ hv3).mono ?_
  rintro e w4 ⟨x4, rfl, -, hv4, hb4⟩
  rw [R4.out]
  have HX4 := Wc.hid (HX3.out.keep hb4)
  have hb4' := Wc.step hb3' (Nat.le_refl _) hb4
  clear hb3' hb4 hv3 HX3
  go_wp2_with fail
  refine (get_any _ _ _ _ _ hv4).mono ?_
  rintro e w5 ⟨rfl, rfl⟩
  rw [R5.out]
  go_wp2_with fail
  refine (put_keep _ _ _ _ _ _ hv4).mono ?_
  rintro e w6 ⟨x6, rfl, -, hv6, hb6⟩
  rw [R6.out]
  have HX6 := Wc.hid (HX4.out.keep hb6)
  have hb6' := Wc.step hb4' (Nat.le_refl _) hb6
  clear hb4' hb6 hv4 HX4 hv6
  go_wp2_with fail
  refine (get_any _ _ _ _ _ HX6.out).mono ?_
  rintro e w7 ⟨rfl, rfl⟩
  have e7 : Wc.getR (Wc.putL (List.replicate (1 + q) 0) q 1 255) q 1 = (255, 0) := R7.out
  rw [e7]
  clear e7
  go_wp2_with fail
  refine (zeros_any _ _ _ _ _ HX6.out (by omega)).mono ?_
  rintro e w8 ⟨rfl, rfl⟩
  rw [R8.out]
  go_wp2_with fail
  refine (wakes_any _).mono ?_
  rintro e w9 ⟨rfl, hb9⟩
  go_wp2_with fail
  go_ret
  exact ⟨rfl, Wc.step hb6' (Nat.le_refl _) hb9⟩

set_option maxHeartbeats 400000 in
theorem leBounds1 (how n : Int) (w : World) (q : Nat) (hq : q < 20)
    (hwn : wrap64 ((IntKind.u64.wrap n).tmod 20) = (q : Int)) (hwh : wrap64 ((IntKind.u64.wrap how).tmod 4) = 1) :
    Calls Try.prog 7 #[.int .i64 how, .int .i64 n] w fun e w' => e = .returned (.bool true) ∧ Below w.heap.size w w' := by
  have hmk := mkrow (2 + (q : Int)) (2 + q) (by omega) (by omega)
  have R1 := Wc.hid (putR_ok (List.replicate (2 + q) 0) q 2 65535 (by decide) (by decide) (inB_yes ⟨by omega, by simp; omega⟩))
  have R2 := Wc.hid (putR_arg (List.replicate (2 + q) 0) q 2 65536 (.inr (by decide)))
  have R3 := Wc.hid (putR_range (List.replicate (2 + q) 0) ((q : Int) + 1) 2 0 (by decide) (by decide) (inB_no (by simp; omega)))
  have R4 := Wc.hid (putR_range (List.replicate (2 + q) 0) (-1) 2 0 (by decide) (by decide) (inB_no (by omega)))
  have R5 := Wc.hid (getR_range (List.replicate (2 + q) 0) ((q : Int) + 1) 2 (by decide) (inB_no (by simp; omega)))
  have R6 := Wc.hid (putR_arg (List.replicate (2 + q) 0) 0 10 0 (.inl (by decide)))
  have R7 := Wc.hid (get_put_in (List.replicate (2 + q) 0) q 2 65535 (by decide) (by decide) (by simp; omega))
  have R8 := Wc.hid (zeros_put q 2 65535)
  go_enter Try.func7, Try.ntmps7
  go_wp2_with fail
  refine (put_keep _ (List.replicate (2 + q) 0) q 2 65535 _ (Wc.Bs.litAt _ _ 5 _ _ (by simp) _ (by simp) (by omega) (made_zero _) (rep_bd _))).mono ?_
  rintro e w1 ⟨x, rfl, hx, hv1, hb1⟩
  rw [R1.out] at hx
  rw [R1.out]
  have HX1 : Hid (Wc.Bs w1 x (Wc.putL (List.replicate (2 + q) 0) q 2 65535)) := hx
  have hb1' := Wc.step ((((Below.refl w.heap.size w).alloc (Nat.le_refl _) _).alloc (by simp) _).alloc (by simp; omega) _) (Nat.le_refl _) hb1
  clear hb1 hmk hx
  go_wp2_with fail
  refine (put_keep _ _ _ _ _ _ hv1).mono ?_
  rintro e w2 ⟨x2, rfl, -, hv2, hb2⟩
  rw [R2.out]
  have HX2 := Wc.hid (HX1.out.keep hb2)
  have hb2' := Wc.step hb1' (Nat.le_refl _) hb2
  clear hb1' hb2 hv1 HX1
  go_wp2_with fail
  refine (put_keep _ _ _ _ _ _ hv2).mono ?_
  rintro e w3 ⟨x3, rfl, -, hv3, hb3⟩
  rw [R3.out]
  have HX3 := Wc.hid (HX2.out.keep hb3)
  have hb3' := Wc.step hb2' (Nat.le_refl _) hb3
  clear hb2' hb3 hv2 HX2
  go_wp2_with fail
  refine (put_keep _ _ _ _ _ _ hv3).mono ?_
  rintro e w4 ⟨x4, rfl, -, hv4, hb4⟩
  rw [R4.out]
  have HX4 := Wc.hid (HX3.out.keep hb4)
  have hb4' := Wc.step hb3' (Nat.le_refl _) hb4
  clear hb3' hb4 hv3 HX3
  go_wp2_with fail
  refine (get_any _ _ _ _ _ hv4).mono ?_
  rintro e w5 ⟨rfl, rfl⟩
  rw [R5.out]
  go_wp2_with fail
  refine (put_keep _ _ _ _ _ _ hv4).mono ?_
  rintro e w6 ⟨x6, rfl, -, hv6, hb6⟩
  rw [R6.out]
  have HX6 := Wc.hid (HX4.out.keep hb6)
  have hb6' := Wc.step hb4' (Nat.le_refl _) hb6
  clear hb4' hb6 hv4 HX4 hv6
  go_wp2_with fail
  refine (get_any _ _ _ _ _ HX6.out).mono ?_
  rintro e w7 ⟨rfl, rfl⟩
  have e7 : Wc.getR (Wc.putL (List.replicate (2 + q) 0) q 2 65535) q 2 = (65535, 0) := R7.out
  rw [e7]
  clear e7
  go_wp2_with fail
  refine (zeros_any _ _ _ _ _ HX6.out (by omega)).mono ?_
  rintro e w8 ⟨rfl, rfl⟩
  rw [R8.out]
  go_wp2_with fail
  refine (wakes_any _).mono ?_
  rintro e w9 ⟨rfl, hb9⟩
  go_wp2_with fail
  go_ret
  exact ⟨rfl, Wc.step hb6' (Nat.le_refl _) hb9⟩

set_option maxHeartbeats 400000 in
theorem leBounds2 (how n : Int) (w : World) (q : Nat) (hq : q < 20)
    (hwn : wrap64 ((IntKind.u64.wrap n).tmod 20) = (q : Int)) (hwh : wrap64 ((IntKind.u64.wrap how).tmod 4) = 2) :
    Calls Try.prog 7 #[.int .i64 how, .int .i64 n] w fun e w' => e = .returned (.bool true) ∧ Below w.heap.size w w' := by
  have hmk := mkrow (4 + (q : Int)) (4 + q) (by omega) (by omega)
  have R1 := Wc.hid (putR_ok (List.replicate (4 + q) 0) q 4 4294967295 (by decide) (by decide) (inB_yes ⟨by omega, by simp; omega⟩))
  have R2 := Wc.hid (putR_arg (List.replicate (4 + q) 0) q 4 4294967296 (.inr (by decide)))
  have R3 := Wc.hid (putR_range (List.replicate (4 + q) 0) ((q : Int) + 1) 4 0 (by decide) (by decide) (inB_no (by simp; omega)))
  have R4 := Wc.hid (putR_range (List.replicate (4 + q) 0) (-1) 4 0 (by decide) (by decide) (inB_no (by omega)))
  have R5 := Wc.hid (getR_range (List.replicate (4 + q) 0) ((q : Int) + 1) 4 (by decide) (inB_no (by simp; omega)))
  have R6 := Wc.hid (putR_arg (List.replicate (4 + q) 0) 0 12 0 (.inl (by decide)))
  have R7 := Wc.hid (get_put_in (List.replicate (4 + q) 0) q 4 4294967295 (by decide) (by decide) (by simp; omega))
  have R8 := Wc.hid (zeros_put q 4 4294967295)
  go_enter Try.func7, Try.ntmps7
  go_wp2_with fail
  refine (put_keep _ (List.replicate (4 + q) 0) q 4 4294967295 _ (Wc.Bs.litAt _ _ 5 _ _ (by simp) _ (by simp) (by omega) (made_zero _) (rep_bd _))).mono ?_
  rintro e w1 ⟨x, rfl, hx, hv1, hb1⟩
  rw [R1.out] at hx
  rw [R1.out]
  have HX1 : Hid (Wc.Bs w1 x (Wc.putL (List.replicate (4 + q) 0) q 4 4294967295)) := hx
  have hb1' := Wc.step ((((Below.refl w.heap.size w).alloc (Nat.le_refl _) _).alloc (by simp) _).alloc (by simp; omega) _) (Nat.le_refl _) hb1
  clear hb1 hmk hx
  go_wp2_with fail
  refine (put_keep _ _ _ _ _ _ hv1).mono ?_
  rintro e w2 ⟨x2, rfl, -, hv2, hb2⟩
  rw [R2.out]
  have HX2 := Wc.hid (HX1.out.keep hb2)
  have hb2' := Wc.step hb1' (Nat.le_refl _) hb2
  clear hb1' hb2 hv1 HX1
  go_wp2_with fail
  refine (put_keep _ _ _ _ _ _ hv2).mono ?_
  rintro e w3 ⟨x3, rfl, -, hv3, hb3⟩
  rw [R3.out]
  have HX3 := Wc.hid (HX2.out.keep hb3)
  have hb3' := Wc.step hb2' (Nat.le_refl _) hb3
  clear hb2' hb3 hv2 HX2
  go_wp2_with fail
  refine (put_keep _ _ _ _ _ _ hv3).mono ?_
  rintro e w4 ⟨x4, rfl, -, hv4, hb4⟩
  rw [R4.out]
  have HX4 := Wc.hid (HX3.out.keep hb4)
  have hb4' := Wc.step hb3' (Nat.le_refl _) hb4
  clear hb3' hb4 hv3 HX3
  go_wp2_with fail
  refine (get_any _ _ _ _ _ hv4).mono ?_
  rintro e w5 ⟨rfl, rfl⟩
  rw [R5.out]
  go_wp2_with fail
  refine (put_keep _ _ _ _ _ _ hv4).mono ?_
  rintro e w6 ⟨x6, rfl, -, hv6, hb6⟩
  rw [R6.out]
  have HX6 := Wc.hid (HX4.out.keep hb6)
  have hb6' := Wc.step hb4' (Nat.le_refl _) hb6
  clear hb4' hb6 hv4 HX4 hv6
  go_wp2_with fail
  refine (get_any _ _ _ _ _ HX6.out).mono ?_
  rintro e w7 ⟨rfl, rfl⟩
  have e7 : Wc.getR (Wc.putL (List.replicate (4 + q) 0) q 4 4294967295) q 4 = (4294967295, 0) := R7.out
  rw [e7]
  clear e7
  go_wp2_with fail
  refine (zeros_any _ _ _ _ _ HX6.out (by omega)).mono ?_
  rintro e w8 ⟨rfl, rfl⟩
  rw [R8.out]
  go_wp2_with fail
  refine (wakes_any _).mono ?_
  rintro e w9 ⟨rfl, hb9⟩
  go_wp2_with fail
  go_ret
  exact ⟨rfl, Wc.step hb6' (Nat.le_refl _) hb9⟩

set_option maxHeartbeats 400000 in
theorem leBounds3 (how n : Int) (w : World) (q : Nat) (hq : q < 20)
    (hwn : wrap64 ((IntKind.u64.wrap n).tmod 20) = (q : Int)) (hwh : wrap64 ((IntKind.u64.wrap how).tmod 4) = 3) :
    Calls Try.prog 7 #[.int .i64 how, .int .i64 n] w fun e w' => e = .returned (.bool true) ∧ Below w.heap.size w w' := by
  have hmk := mkrow (8 + (q : Int)) (8 + q) (by omega) (by omega)
  have R1 := Wc.hid (putR_ok (List.replicate (8 + q) 0) q 8 4611686018427387903 (by decide) (by decide) (inB_yes ⟨by omega, by simp; omega⟩))
  have R2 := Wc.hid (putR_arg (List.replicate (8 + q) 0) q 8 4611686018427387904 (.inr (by decide)))
  have R3 := Wc.hid (putR_range (List.replicate (8 + q) 0) ((q : Int) + 1) 8 0 (by decide) (by decide) (inB_no (by simp; omega)))
  have R4 := Wc.hid (putR_range (List.replicate (8 + q) 0) (-1) 8 0 (by decide) (by decide) (inB_no (by omega)))
  have R5 := Wc.hid (getR_range (List.replicate (8 + q) 0) ((q : Int) + 1) 8 (by decide) (inB_no (by simp; omega)))
  have R6 := Wc.hid (putR_arg (List.replicate (8 + q) 0) 0 16 0 (.inl (by decide)))
  have R7 := Wc.hid (get_put_in (List.replicate (8 + q) 0) q 8 4611686018427387903 (by decide) (by decide) (by simp; omega))
  have R8 := Wc.hid (zeros_put q 8 4611686018427387903)
  go_enter Try.func7, Try.ntmps7
  go_wp2_with fail
  refine (put_keep _ (List.replicate (8 + q) 0) q 8 4611686018427387903 _ (Wc.Bs.litAt _ _ 5 _ _ (by simp) _ (by simp) (by omega) (made_zero _) (rep_bd _))).mono ?_
  rintro e w1 ⟨x, rfl, hx, hv1, hb1⟩
  rw [R1.out] at hx
  rw [R1.out]
  have HX1 : Hid (Wc.Bs w1 x (Wc.putL (List.replicate (8 + q) 0) q 8 4611686018427387903)) := hx
  have hb1' := Wc.step ((((Below.refl w.heap.size w).alloc (Nat.le_refl _) _).alloc (by simp) _).alloc (by simp; omega) _) (Nat.le_refl _) hb1
  clear hb1 hmk hx
  go_wp2_with fail
  refine (put_keep _ _ _ _ _ _ hv1).mono ?_
  rintro e w2 ⟨x2, rfl, -, hv2, hb2⟩
  rw [R2.out]
  have HX2 := Wc.hid (HX1.out.keep hb2)
  have hb2' := Wc.step hb1' (Nat.le_refl _) hb2
  clear hb1' hb2 hv1 HX1
  go_wp2_with fail
  refine (put_keep _ _ _ _ _ _ hv2).mono ?_
  rintro e w3 ⟨x3, rfl, -, hv3, hb3⟩
  rw [R3.out]
  have HX3 := Wc.hid (HX2.out.keep hb3)
  have hb3' := Wc.step hb2' (Nat.le_refl _) hb3
  clear hb2' hb3 hv2 HX2
  go_wp2_with fail
  refine (put_keep _ _ _ _ _ _ hv3).mono ?_
  rintro e w4 ⟨x4, rfl, -, hv4, hb4⟩
  rw [R4.out]
  have HX4 := Wc.hid (HX3.out.keep hb4)
  have hb4' := Wc.step hb3' (Nat.le_refl _) hb4
  clear hb3' hb4 hv3 HX3
  go_wp2_with fail
  refine (get_any _ _ _ _ _ hv4).mono ?_
  rintro e w5 ⟨rfl, rfl⟩
  rw [R5.out]
  go_wp2_with fail
  refine (put_keep _ _ _ _ _ _ hv4).mono ?_
  rintro e w6 ⟨x6, rfl, -, hv6, hb6⟩
  rw [R6.out]
  have HX6 := Wc.hid (HX4.out.keep hb6)
  have hb6' := Wc.step hb4' (Nat.le_refl _) hb6
  clear hb4' hb6 hv4 HX4 hv6
  go_wp2_with fail
  refine (get_any _ _ _ _ _ HX6.out).mono ?_
  rintro e w7 ⟨rfl, rfl⟩
  have e7 : Wc.getR (Wc.putL (List.replicate (8 + q) 0) q 8 4611686018427387903) q 8 = (4611686018427387903, 0) := R7.out
  rw [e7]
  clear e7
  go_wp2_with fail
  refine (zeros_any _ _ _ _ _ HX6.out (by omega)).mono ?_
  rintro e w8 ⟨rfl, rfl⟩
  rw [R8.out]
  go_wp2_with fail
  refine (wakes_any _).mono ?_
  rintro e w9 ⟨rfl, hb9⟩
  go_wp2_with fail
  go_ret
  exact ⟨rfl, Wc.step hb6' (Nat.le_refl _) hb9⟩

theorem leBounds_any (how n : Int) (w : World) :
    Calls Try.prog 7 #[.int .i64 how, .int .i64 n] w fun e w' => e = .returned (.bool true) ∧ Below w.heap.size w w' := by
  obtain ⟨N, hN, hn⟩ := low 20 n (by omega) (by omega)
  obtain ⟨q, rfl⟩ := Int.eq_ofNat_of_zero_le hN.1
  obtain ⟨K, hK, hk⟩ := low 4 how (by omega) (by omega)
  have : K = 0 ∨ K = 1 ∨ K = 2 ∨ K = 3 := by omega
  rcases this with rfl | rfl | rfl | rfl
  · exact leBounds0 how n w q (by omega) hn hk
  · exact leBounds1 how n w q (by omega) hn hk
  · exact leBounds2 how n w q (by omega) hn hk
  · exact leBounds3 how n w q (by omega) hn hk
#print axioms leBounds_any
end Go.Proofs.Ytbognappianohaa
