/-
  The walk of the law LeParts: for every three ints it returns true and turns nothing that was there.
-/
import Derived.Test.YtbognappianohaaOrder
namespace Go.Proofs.Ytbognappianohaa
open Go.RowKit

theorem putR_ok (xs : List Int) (p s m : Int) (hs : Wc.rsB s = true) (hf : 0 ≤ m ∧ m ≤ 4611686018427387903 ∧ m < 256 ^ s.toNat) (hp : Wc.inB xs.length p s = true) :
    Wc.putR xs p s m = (Wc.putL xs p.toNat s.toNat m, 0) := by
  have := (Wc.fitB_iff hs).2 hf
  unfold Wc.putR
  rw [hs, this, hp]; simp

theorem getR_ok (xs : List Int) (p s m : Int) (hs : Wc.rsB s = true) (hp : Wc.inB xs.length p s = true) (hm : Wc.val ((xs.drop p.toNat).take s.toNat) = m) (hle : m ≤ 4611686018427387903) :
    Wc.getR xs p s = (m, 0) := by
  unfold Wc.getR
  rw [hs, hp, hm]; simp [hle]

def parts (A B N : Int) : List Int := Wc.enc 4 A ++ (Wc.enc 4 B ++ Wc.enc 1 N)

theorem parts1 (A : Int) (h : 0 ≤ A ∧ A < 4294967296) : Wc.putR (List.replicate 9 0) 0 4 A = (Wc.enc 4 A ++ List.replicate 5 0, 0) :=
  putR_ok _ _ _ _ (by decide) ⟨h.1, by omega, by simpa using h.2⟩ (by decide)
theorem parts2 (A B : Int) (h : 0 ≤ B ∧ B < 1073741824) : Wc.putR (Wc.enc 4 A ++ List.replicate 5 0) 4 4 B = (Wc.enc 4 A ++ (Wc.enc 4 B ++ [0]), 0) :=
  putR_ok _ _ _ _ (by decide) ⟨h.1, by omega, by show B < 4294967296; omega⟩ (by rfl)
theorem parts3 (A B N : Int) (h : 0 ≤ N ∧ N < 256) : Wc.putR (Wc.enc 4 A ++ (Wc.enc 4 B ++ [0])) 8 1 N = (parts A B N, 0) :=
  putR_ok _ _ _ _ (by decide) ⟨h.1, by omega, by show N < 256; omega⟩ (by rfl)
theorem parts4 (A B : Int) (h : 0 ≤ A ∧ A < 4294967296) (h' : 0 ≤ B ∧ B < 1073741824) : Wc.putR (List.replicate 8 0) 0 8 (A + B * 4294967296) = (Wc.enc 4 A ++ Wc.enc 4 B, 0) := by
  rw [putR_ok _ _ _ _ (by decide) ⟨by omega, by omega, by show A + B * 4294967296 < 18446744073709551616; omega⟩ (by decide)]
  show (Wc.enc 8 (A + B * 4294967296) ++ [], (0 : Int)) = _
  rw [List.append_nil]
  congr 1
  simp only [Wc.enc, List.cons_append, List.nil_append, List.cons.injEq]
  refine ⟨?_, ?_, ?_, ?_, ?_, ?_, ?_, ?_, trivial⟩ <;> omega
theorem val_enc4 (A B : Int) (h : 0 ≤ A ∧ A < 4294967296) (h' : 0 ≤ B ∧ B < 1073741824) : Wc.val (Wc.enc 4 A ++ Wc.enc 4 B) = A + B * 4294967296 := by
  simp only [Wc.enc, List.cons_append, List.nil_append, Wc.val]; omega
theorem parts5 (A B N : Int) (h : 0 ≤ A ∧ A < 4294967296) (h' : 0 ≤ B ∧ B < 1073741824) : Wc.getR (parts A B N) 0 8 = (A + B * 4294967296, 0) :=
  getR_ok _ _ _ _ (by decide) (by rfl) (by rw [← val_enc4 A B h h']; rfl) (by omega)
theorem parts6 (A B N : Int) (h : 0 ≤ N ∧ N < 256) : Wc.getR (parts A B N) 8 1 = (N, 0) :=
  getR_ok _ _ _ _ (by decide) (by rfl) (by show N % 256 + 256 * 0 = N; omega) (by omega)
theorem parts_take (A B N : Int) : (parts A B N).take 8 = Wc.enc 4 A ++ Wc.enc 4 B := rfl
theorem parts_length (A B N : Int) : (parts A B N).length = 9 := rfl

theorem low (m i : Int) (h0 : 0 < m) (h : m ≤ 4294967296) : ∃ A : Int, (0 ≤ A ∧ A < m) ∧ wrap64 ((IntKind.u64.wrap i).tmod m) = A := by
  rw [IntKind.wrap_u64, Int.tmod_eq_emod_of_nonneg (by omega)]
  have h1 := Int.emod_nonneg (i % 18446744073709551616) (b := m) (by omega)
  have h2 := Int.emod_lt_of_pos (i % 18446744073709551616) (b := m) h0
  exact ⟨_, ⟨h1, h2⟩, IntWalk.wrap64_in _ (by omega)⟩

theorem bs_take {w : World} {b off n cap : Nat} {xs : List Int} (h : Wc.Bs w (.slice (some ⟨b, off, none⟩) n cap) xs) (k : Nat) (hk : k ≤ n) : Wc.Bs w (.slice (some ⟨b, off, none⟩) k cap) (xs.take k) := by
  obtain ⟨a, n', cap', h1, h2, h3, h4, h5, h6, h7⟩ := h
  cases h1
  refine ⟨_, k, cap, rfl, by simp; omega, by omega, h4, by omega, fun x hx => h6 x (List.mem_of_mem_take hx), fun h0 => ?_⟩
  obtain ⟨b', off', ha, hb, hc⟩ := h7 (by omega)
  cases ha
  exact ⟨b, off, rfl, hb, fun i hi => by rw [hc i (by omega)]; simp [hi]⟩

set_option maxHeartbeats 400000 in
theorem leParts_any (a b n : Int) (w : World) :
    Calls Try.prog 6 #[.int .i64 a, .int .i64 b, .int .i64 n] w fun e w' => e = .returned (.bool true) ∧ Below w.heap.size w w' := by
  have hmk9 : ∀ w : World, (Instr.makeSlice 22 (.int .i64 9) (.int .i64 9)).run Try.prog w = .ok (.slice (some ⟨w.heap.size, 0, none⟩) 9 9) (w.alloc (.cells (madeCells #[.int .u8 0] 9) 5)) := fun w => run_make_row' (P := Try.prog) 22 5 (.int .u8 0) 1 Try.underlying22 Try.info5 rfl .i64 .i64 9 (by omega) (by omega) w
  have hmk8 : ∀ w : World, (Instr.makeSlice 22 (.int .i64 8) (.int .i64 8)).run Try.prog w = .ok (.slice (some ⟨w.heap.size, 0, none⟩) 8 8) (w.alloc (.cells (madeCells #[.int .u8 0] 8) 5)) := fun w => run_make_row' (P := Try.prog) 22 5 (.int .u8 0) 1 Try.underlying22 Try.info5 rfl .i64 .i64 8 (by omega) (by omega) w
  obtain ⟨A, hA, ha⟩ := low 4294967296 a (by omega) (by omega)
  obtain ⟨B, hB, hb⟩ := low 1073741824 b (by omega) (by omega)
  obtain ⟨N, hN, hn⟩ := low 256 n (by omega) (by omega)
  go_enter Try.func6, Try.ntmps6
  go_wp2_with fail
  refine (put_any _ (List.replicate 9 0) 0 4 A _ (Wc.Bs.lit w _ 5 9 _ (by simp) (by omega) (made_zero 9) (by decide))).mono ?_
  rintro e w1 ⟨x1, rfl, hx1, hb1⟩
  rw [parts1 A hA] at hx1
  rw [parts1 A hA]
  have hb1' := Wc.step ((Below.refl w.heap.size w).alloc (Nat.le_refl _) _) (Nat.le_refl _) hb1
  clear hb1
  go_wp2_with fail
  refine (put_any _ _ 4 4 B _ hx1).mono ?_
  rintro e w2 ⟨x2, rfl, hx2, hb2⟩
  rw [parts2 A B hB] at hx2
  rw [parts2 A B hB]
  have hb2' := Wc.step hb1' (Nat.le_refl _) hb2
  clear hb2 hb1' hx1
  go_wp2_with fail
  refine (put_any _ _ 8 1 N _ hx2).mono ?_
  rintro e w3 ⟨x3, rfl, hx3, hb3⟩
  rw [parts3 A B N hN] at hx3
  rw [parts3 A B N hN]
  have hx3 : Wc.Bs w3 x3 (parts A B N) := hx3
  have hb3' := Wc.step hb2' (Nat.le_refl _) hb3
  clear hb3 hb2' hx2
  obtain ⟨d, off, n3, cap, rfl, hn3, hcap⟩ : ∃ d off n3 cap, x3 = .slice (some ⟨d, off, none⟩) n3 cap ∧ n3 = 9 ∧ 9 ≤ cap ∧ cap ≤ 9223372036854775807 := by
    rcases hx3.open with ⟨h, -⟩ | ⟨d, off, n3, cap, rfl, _, h, h1, h2, -⟩
    · have := parts_length A B N; rw [h] at this; simp at this
    · rw [parts_length] at h
      exact ⟨d, off, n3, cap, rfl, h.symm, by omega, h2⟩
  subst hn3
  obtain ⟨hcap1, hcap2⟩ := hcap
  have HX := Wc.hid hx3
  clear hx3
  go_wp2_with fail
  refine (put_any _ (List.replicate 8 0) 0 8 (A + B * 4294967296) _ (Wc.Bs.lit w3 _ 5 8 _ (by simp) (by omega) (made_zero 8) (by decide))).mono ?_
  rintro e w4 ⟨y, rfl, hy, hb4⟩
  rw [parts4 A B hA hB] at hy
  rw [parts4 A B hA hB]
  have HY := Wc.hid hy
  have HX4 := Wc.hid ((HX.out.alloc _).keep hb4)
  have hb4' := Wc.step (hb3'.alloc hb3'.size _) (Nat.le_refl _) hb4
  clear hb4 hb3' hy HX
  go_wp2_with fail
  refine (get_any _ _ 0 8 _ HX4.out).mono ?_
  rintro e w5 ⟨rfl, rfl⟩
  rw [parts5 A B N hA hB]
  go_wp2_with fail
  refine (get_any _ _ 8 1 _ HX4.out).mono ?_
  rintro e w5 ⟨rfl, rfl⟩
  rw [parts6 A B N hN]
  go_wp2_with fail
  refine (bytes_any _ _ _ _ _ (bs_take HX4.out 8 (by omega)) HY.out).mono ?_
  rintro e w6 ⟨rfl, hb6⟩
  rw [parts_take, beq_self_eq_true]
  go_wp2_with fail
  refine (wakes_any _).mono ?_
  rintro e w7 ⟨rfl, hb7⟩
  go_wp2_with fail
  go_ret
  exact ⟨rfl, Wc.step (Wc.step hb4' (Nat.le_refl _) hb6) (Nat.le_refl _) hb7⟩
#print axioms leParts_any
end Go.Proofs.Ytbognappianohaa
