/-
  What frame.Parse returns, for all bytes.
-/
import Derived.Test.YtfejabeifabdlaaFcom
namespace Go.Proofs.Ytfejabeifabdlaa
open Go.RowKit

theorem ret_cell9q {fn : Func} {tmps : Array Value} {w : World} {R : Nat} {c : Wk.Cmd} {u v x y : Value} (hr : fn.results = #[.cell 2 24, .tmp 3, .tmp 4, .tmp 5]) (hp : tmps.getD 2 undef = .pointer (some ⟨R, 0, none⟩)) (hv : tmps.getD 3 undef = v) (hx : tmps.getD 4 undef = x) (hy : tmps.getD 5 undef = y) (h : Wk.Cc w R c u) :
    (results fn tmps).run Try.prog w = .ok (.tuple #[cv c u, v, x, y]) w := by
  obtain ⟨c0, c1, c2, c3, c4, c5, c6, c7, c8⟩ := h
  have e : ∀ i, tmps.getD i undef = tmps[i]?.getD undef := fun i => by simp
  rw [e] at hp hv hx hy
  unfold results
  rw [hr]
  simp [go_sem, hp, hv, hx, hy, c0, c1, c2, c3, c4, c5, c6, c7, c8, cv]

set_option maxHeartbeats 1600000 in
theorem parse9_ext (v : Value) (xs : List Int) (w : World) (hv : Wc.Bs w v xs) (h : ¬ Wk.extE xs = 0) :
    Calls Try.prog 13 #[v] w fun e w' => e = .returned (.tuple #[cv Wk.c0 (.slice none 0 0), .int .i64 0, .int .i64 0, .int .i64 (Wk.extE xs)]) ∧ Below w.heap.size w w' := by
  have HV := Wc.hid (hv.alloc (.cells #[.int .i64 0, .int .i64 0, .int .i64 0, .int .i64 0, .int .i64 0, .int .i64 0, .int .i64 0, .int .i64 0, .slice none 0 0] 24))
  obtain ⟨X, hX⟩ : ∃ X, Wk.extE xs = X := ⟨_, rfl⟩
  rw [hX] at h ⊢
  have HX := Wc.hid hX
  have hne : (X != 0) = true := by simpa using h
  clear hX
  have R0 := Wc.hid (Wk.Ch.new w Wk.c0 (.slice none 0 0))
  have B0 := Wc.hid ((Below.refl w.heap.size w).alloc (Nat.le_refl _) (.cells #[.int .i64 0, .int .i64 0, .int .i64 0, .int .i64 0, .int .i64 0, .int .i64 0, .int .i64 0, .int .i64 0, .slice none 0 0] 24))
  clear hv h
  go_enter Try.func13, Try.ntmps13
  go_wp2_with fail
  refine (extent_any _ xs _ HV.out).mono ?_
  rintro e w1 ⟨rfl, hb1⟩
  have R1 := Wc.hid (R0.out.keep hb1)
  have B1 := Wc.hid (Wc.step B0.out (Nat.le_refl _) hb1)
  clear hb1
  rw [HX.out]
  generalize Wk.extN xs = Y
  have ⟨r0, r1, r2, r3, r4, r5, r6, r7, r8⟩ := R1.out.cc
  have f0 := R1.out.frozen 0
  have f1 := R1.out.frozen 1
  have f2 := R1.out.frozen 2
  have f3 := R1.out.frozen 3
  have f4 := R1.out.frozen 4
  have f5 := R1.out.frozen 5
  have f6 := R1.out.frozen 6
  have f7 := R1.out.frozen 7
  have f8 := R1.out.frozen 8
  go_wp2_with fail
  exact bodyPost_ret (ret_cell9q rfl rfl rfl rfl rfl (R1.out.over Wk.c0 (.slice none 0 0)).cc) rfl ⟨rfl, Wk.below_ovr B1.out (Nat.le_refl _) Wk.c0 (.slice none 0 0)⟩

set_option maxHeartbeats 1600000 in
theorem parse9_sum (b off n cap m : Nat) (xs : List Int) (w : World) (hv : Wc.Bs w (.slice (some ⟨b, off, none⟩) n cap) xs) (h : Wk.extE xs = 0) (hN : Wk.extN xs = (m : Int)) (hm : m ≤ n) (hg : Wc.goodB (xs.take m) = false) :
    Calls Try.prog 13 #[.slice (some ⟨b, off, none⟩) n cap] w fun e w' => e = .returned (.tuple #[cv Wk.c0 (.slice none 0 0), .int .i64 0, .int .i64 0, .int .i64 5]) ∧ Below w.heap.size w w' := by
  have hcc := Wc.bs_cap hv
  have hmc : m ≤ cap := by omega
  have HV := Wc.hid (hv.alloc (.cells #[.int .i64 0, .int .i64 0, .int .i64 0, .int .i64 0, .int .i64 0, .int .i64 0, .int .i64 0, .int .i64 0, .slice none 0 0] 24))
  have R0 := Wc.hid (Wk.Ch.new w Wk.c0 (.slice none 0 0))
  have B0 := Wc.hid ((Below.refl w.heap.size w).alloc (Nat.le_refl _) (.cells #[.int .i64 0, .int .i64 0, .int .i64 0, .int .i64 0, .int .i64 0, .int .i64 0, .int .i64 0, .int .i64 0, .slice none 0 0] 24))
  have HG := Wc.hid hg
  have HE := Wc.hid h
  have HN := Wc.hid hN
  clear hv h hg hN
  go_enter Try.func13, Try.ntmps13
  go_wp2_with fail
  refine (extent_any _ xs _ HV.out).mono ?_
  rintro e w1 ⟨rfl, hb1⟩
  rw [HE.out, HN.out]
  have R1 := Wc.hid (R0.out.keep hb1)
  have B1 := Wc.hid (Wc.step B0.out (Nat.le_refl _) hb1)
  have V1 := Wc.hid (HV.out.keep hb1)
  clear hb1
  go_wp2_with fail
  refine (good_any _ _ _ (Wc.bs_take V1.out m hm)).mono ?_
  rintro e w2 ⟨rfl, rfl⟩
  rw [HG.out]
  have ⟨r0, r1, r2, r3, r4, r5, r6, r7, r8⟩ := R1.out.cc
  have f0 := R1.out.frozen 0
  have f1 := R1.out.frozen 1
  have f2 := R1.out.frozen 2
  have f3 := R1.out.frozen 3
  have f4 := R1.out.frozen 4
  have f5 := R1.out.frozen 5
  have f6 := R1.out.frozen 6
  have f7 := R1.out.frozen 7
  have f8 := R1.out.frozen 8
  go_wp2_with fail
  exact bodyPost_ret (ret_cell9q rfl rfl rfl rfl rfl (R1.out.over Wk.c0 (.slice none 0 0)).cc) rfl ⟨rfl, Wk.below_ovr B1.out (Nat.le_refl _) Wk.c0 (.slice none 0 0)⟩

theorem slice_pq (b off n cap p q : Nat) (hp : p ≤ q) (h : q ≤ cap) (h2 : ¬ cap = p) (w : World) :
    (Instr.slice 22 (.slice (some ⟨b, off, none⟩) n cap) (some (.int .i64 (p : Int))) (some (.int .i64 (q : Int))) none).run Try.prog w = .ok (.slice (some ⟨b, off + p, none⟩) (q - p) (cap - p)) w := by
  have h0 : ((Try.prog.info? 5).map (·.size)) = some 1 := Try.sizeU8
  cases hq : Try.prog.info? 5 with
  | none => rw [hq] at h0; cases h0
  | some i =>
    rw [hq] at h0
    have hi : i.size = 1 := by simpa using h0
    simp [Instr.slice, run_underlying Try.underlying22, Instr.sliceBounds, run_sliceBound, sizeOf, typeInfo, hq, hi, h, h2, hp, Wc.add_none]

/-- b[16:q]. -/
theorem slice_mid (b off n cap m q : Nat) (hq : q = m + 16) (h : q ≤ cap) (h2 : ¬ cap = 16) (w : World) :
    (Instr.slice 22 (.slice (some ⟨b, off, none⟩) n cap) (some (.int .i64 16)) (some (.int .i64 (q : Int))) none).run Try.prog w = .ok (.slice (some ⟨b, off + 16, none⟩) m (cap - 16)) w := by
  have := slice_pq b off n cap 16 q (by omega) h h2 w
  rwa [show q - 16 = m by omega] at this

set_option maxHeartbeats 3200000 in
theorem parse9_bad (b off n cap m : Nat) (C : Wk.Cmd) (xs : List Int) (w : World) (hv : Wc.Bs w (.slice (some ⟨b, off, none⟩) n cap) xs) (h : Wk.extE xs = 0) (hN : Wk.extN xs = ((m + 20 : Nat) : Int)) (hm : m + 20 ≤ n) (hg : Wc.goodB (xs.take (m + 20)) = true)
   (hC : Wk.com (Ws.num xs 8 4) ((xs.drop 16).take m) = C) (hok : Wk.okB (Ws.num xs 8 4) ((xs.drop 16).take m) = false) :
    Calls Try.prog 13 #[.slice (some ⟨b, off, none⟩) n cap] w fun e w' => e = .returned (.tuple #[cv Wk.c0 (.slice none 0 0), .int .i64 0, .int .i64 0, .int .i64 13]) ∧ Below w.heap.size w w' := by
  have hcc := Wc.bs_cap hv
  have hxl := Wc.bs_len hv
  have hx := Wc.bs_bytes hv
  obtain ⟨E, hE⟩ : ∃ E, m + 20 = E := ⟨_, rfl⟩
  obtain ⟨q, hq⟩ : ∃ q, m + 16 = q := ⟨_, rfl⟩
  have hwr : IntKind.i64.wrap ((E : Int) - 4) = (q : Int) := by rw [IntKind.wrap_i64]; omega
  have hsl := slice_mid b off n cap m q hq.symm (by omega) (by omega)
  have hmc : m < cap - 16 := by omega
  have HMC := Wc.hid hmc
  have HMN : Hid (16 + m ≤ n) := Wc.hid (by omega)
  rw [hE] at hN hm hg
  have hEc : E ≤ cap := by omega
  have HV0 := Wc.hid hv
  have HV := Wc.hid (hv.alloc (.cells #[.int .i64 0, .int .i64 0, .int .i64 0, .int .i64 0, .int .i64 0, .int .i64 0, .int .i64 0, .int .i64 0, .slice none 0 0] 24))
  have R0 := Wc.hid (Wk.Ch.new w Wk.c0 (.slice none 0 0))
  have B0 := Wc.hid ((Below.refl w.heap.size w).alloc (Nat.le_refl _) (.cells #[.int .i64 0, .int .i64 0, .int .i64 0, .int .i64 0, .int .i64 0, .int .i64 0, .int .i64 0, .int .i64 0, .slice none 0 0] 24))
  have HG := Wc.hid hg
  have HE := Wc.hid h
  have HN := Wc.hid hN
  have HC := Wc.hid hC
  have HOK := Wc.hid hok
  have N8 : Hid (gotN xs 8 4 = Ws.num xs 8 4) := Wc.hid (got4_gen xs 8 (by omega) hx)
  have HK : Hid (Wk.I64 (Ws.num xs 8 4)) := Wc.hid (by have := Wk.num4_bd xs 8 hx; unfold Wk.I64; omega)
  clear hv h hg hN hx hxl hmc hE hq hC hok
  go_enter Try.func13, Try.ntmps13
  go_wp2_with fail
  refine (extent_any _ xs _ HV.out).mono ?_
  rintro e w1 ⟨rfl, hb1⟩
  rw [HE.out, HN.out]
  have R1 := Wc.hid (R0.out.keep hb1)
  have B1 := Wc.hid (Wc.step B0.out (Nat.le_refl _) hb1)
  have V1 := Wc.hid (HV.out.keep hb1)
  clear hb1 R0 B0 HV HE HN
  go_wp2_with fail
  refine (good_any _ _ _ (Wc.bs_take V1.out E hm)).mono ?_
  rintro e w2 ⟨rfl, rfl⟩
  rw [HG.out]
  have VM : Hid (Wc.Bs w1.drew (.slice (some ⟨b, off + 16, none⟩) m (cap - 16)) ((xs.drop 16).take m)) := Wc.hid (Wc.bs_mid (V1.out.keep (show_drew (Below.refl _ _))) 16 m HMN.out)
  have V1d := Wc.hid (V1.out.keep (show_drew (Below.refl _ _)))
  go_wp2_with fail
  go_region_with (first | (go_at_call 30; refine (get9_any _ xs _ _ _ (by exact V1d.out)).mono ?_; rintro e w' ⟨rfl, rfl⟩; rw [N8.out]) | (go_at_call 29; refine (command9_any _ b (off + 16) m (cap - 16) _ _ (by exact VM.out) HMC.out HK.out).mono ?_; rintro e w3 ⟨a3, c3, rfl, hO3, hb3⟩; rw [HC.out] at hO3; rw [HC.out, HOK.out]; unfold cv; have R3 := (R1.out.keep (show_drew (Below.refl _ _))).keep hb3; have ⟨r0, r1, r2, r3, r4, r5, r6, r7, r8⟩ := R3.cc; have f0 := R3.frozen 0; have f1 := R3.frozen 1; have f2 := R3.frozen 2; have f3 := R3.frozen 3; have f4 := R3.frozen 4; have f5 := R3.frozen 5; have f6 := R3.frozen 6; have f7 := R3.frozen 7; have f8 := R3.frozen 8))
  have HR3 := Wc.hid R3
  have hB3 := Wc.step (show_drew B1.out) (Nat.le_refl _) hb3
  have HLT : Hid (w.heap.size < w1.drew.heap.size) := Wc.hid R1.out.lt
  have O3 := Wc.hid hO3
  have HWS : Hid (w.heap.size ≤ w1.drew.heap.size) := Wc.hid (Nat.le_of_lt R1.out.lt)
  have B4 := Wc.hid (Wk.below_ovr hB3 (Nat.le_refl _) C (.slice a3 C.data.length c3))
  have R4 := Wc.hid (R3.over C (.slice a3 C.data.length c3))
  have O4 := Wc.hid (ob_ovr hO3 HLT.out C (.slice a3 C.data.length c3))
  clear R3 r0 r1 r2 r3 r4 r5 r6 r7 r8 f0 f1 f2 f3 f4 f5 f6 f7 f8 hO3 hb3 hB3 R1 B1 V1 VM V1d hsl hwr HR3 O3
  obtain ⟨W4, hW4⟩ : ∃ W4, Wk.ovr w3 w.heap.size C (.slice a3 C.data.length c3) = W4 := ⟨_, rfl⟩
  rw [hW4] at B4 R4 O4
  unfold Wk.ovr at hW4
  rw [hW4]
  clear hW4
  have ⟨r0, r1, r2, r3, r4, r5, r6, r7, r8⟩ := R4.out.cc
  have f0 := R4.out.frozen 0
  have f1 := R4.out.frozen 1
  have f2 := R4.out.frozen 2
  have f3 := R4.out.frozen 3
  have f4 := R4.out.frozen 4
  have f5 := R4.out.frozen 5
  have f6 := R4.out.frozen 6
  have f7 := R4.out.frozen 7
  have f8 := R4.out.frozen 8
  go_wp2_with fail
  exact bodyPost_ret (ret_cell9q rfl rfl rfl rfl rfl (R4.out.over Wk.c0 (.slice none 0 0)).cc) rfl ⟨rfl, Wk.below_ovr B4.out (Nat.le_refl _) Wk.c0 (.slice none 0 0)⟩

set_option maxHeartbeats 3200000 in
theorem parse9_ok (b off n cap m : Nat) (Q : Int) (C : Wk.Cmd) (xs : List Int) (w : World) (hv : Wc.Bs w (.slice (some ⟨b, off, none⟩) n cap) xs) (h : Wk.extE xs = 0) (hN : Wk.extN xs = ((m + 20 : Nat) : Int)) (hm : m + 20 ≤ n) (hg : Wc.goodB (xs.take (m + 20)) = true)
   (hC : Wk.com (Ws.num xs 8 4) ((xs.drop 16).take m) = C) (hok : Wk.okB (Ws.num xs 8 4) ((xs.drop 16).take m) = true) (hQ : Ws.num xs 4 4 = Q) :
    Calls Try.prog 13 #[.slice (some ⟨b, off, none⟩) n cap] w fun e w' => ∃ a c, e = .returned (.tuple #[cv C (.slice a C.data.length c), .int .i64 Q, .int .i64 ((m + 20 : Nat) : Int), .int .i64 0]) ∧ Wc.Ob 5 w.heap.size w' (.slice a C.data.length c) C.data ∧ Below w.heap.size w w' := by
  have hcc := Wc.bs_cap hv
  have hxl := Wc.bs_len hv
  have hx := Wc.bs_bytes hv
  obtain ⟨E, hE⟩ : ∃ E, m + 20 = E := ⟨_, rfl⟩
  obtain ⟨q, hq⟩ : ∃ q, m + 16 = q := ⟨_, rfl⟩
  have hwr : IntKind.i64.wrap ((E : Int) - 4) = (q : Int) := by rw [IntKind.wrap_i64]; omega
  have hsl := slice_mid b off n cap m q hq.symm (by omega) (by omega)
  have hmc : m < cap - 16 := by omega
  have HMC := Wc.hid hmc
  have HMN : Hid (16 + m ≤ n) := Wc.hid (by omega)
  rw [hE] at hN hm hg ⊢
  have hEc : E ≤ cap := by omega
  have HV0 := Wc.hid hv
  have HV := Wc.hid (hv.alloc (.cells #[.int .i64 0, .int .i64 0, .int .i64 0, .int .i64 0, .int .i64 0, .int .i64 0, .int .i64 0, .int .i64 0, .slice none 0 0] 24))
  have R0 := Wc.hid (Wk.Ch.new w Wk.c0 (.slice none 0 0))
  have B0 := Wc.hid ((Below.refl w.heap.size w).alloc (Nat.le_refl _) (.cells #[.int .i64 0, .int .i64 0, .int .i64 0, .int .i64 0, .int .i64 0, .int .i64 0, .int .i64 0, .int .i64 0, .slice none 0 0] 24))
  have HG := Wc.hid hg
  have HE := Wc.hid h
  have HN := Wc.hid hN
  have HC := Wc.hid hC
  have HOK := Wc.hid hok
  have N8 : Hid (gotN xs 8 4 = Ws.num xs 8 4) := Wc.hid (got4_gen xs 8 (by omega) hx)
  have N4 : Hid (gotN xs 4 4 = Q) := Wc.hid ((got4_gen xs 4 (by omega) hx).trans hQ)
  have HK : Hid (Wk.I64 (Ws.num xs 8 4)) := Wc.hid (by have := Wk.num4_bd xs 8 hx; unfold Wk.I64; omega)
  clear hv h hg hN hx hxl hmc hE hq hC hok hQ
  go_enter Try.func13, Try.ntmps13
  go_wp2_with fail
  refine (extent_any _ xs _ HV.out).mono ?_
  rintro e w1 ⟨rfl, hb1⟩
  rw [HE.out, HN.out]
  have R1 := Wc.hid (R0.out.keep hb1)
  have B1 := Wc.hid (Wc.step B0.out (Nat.le_refl _) hb1)
  have V1 := Wc.hid (HV.out.keep hb1)
  clear hb1 R0 B0 HV HE HN
  go_wp2_with fail
  refine (good_any _ _ _ (Wc.bs_take V1.out E hm)).mono ?_
  rintro e w2 ⟨rfl, rfl⟩
  rw [HG.out]
  have VM : Hid (Wc.Bs w1.drew (.slice (some ⟨b, off + 16, none⟩) m (cap - 16)) ((xs.drop 16).take m)) := Wc.hid (Wc.bs_mid (V1.out.keep (show_drew (Below.refl _ _))) 16 m HMN.out)
  have V1d := Wc.hid (V1.out.keep (show_drew (Below.refl _ _)))
  go_wp2_with fail
  go_region_with (first | (go_at_call 30; refine (get9_any _ xs _ _ _ (by exact V1d.out)).mono ?_; rintro e w' ⟨rfl, rfl⟩; rw [N8.out]) | (go_at_call 29; refine (command9_any _ b (off + 16) m (cap - 16) _ _ (by exact VM.out) HMC.out HK.out).mono ?_; rintro e w3 ⟨a3, c3, rfl, hO3, hb3⟩; rw [HC.out] at hO3; rw [HC.out, HOK.out]; unfold cv; have R3 := (R1.out.keep (show_drew (Below.refl _ _))).keep hb3; have ⟨r0, r1, r2, r3, r4, r5, r6, r7, r8⟩ := R3.cc; have f0 := R3.frozen 0; have f1 := R3.frozen 1; have f2 := R3.frozen 2; have f3 := R3.frozen 3; have f4 := R3.frozen 4; have f5 := R3.frozen 5; have f6 := R3.frozen 6; have f7 := R3.frozen 7; have f8 := R3.frozen 8))
  have HR3 := Wc.hid R3
  have hB3 := Wc.step (show_drew B1.out) (Nat.le_refl _) hb3
  have HLT : Hid (w.heap.size < w1.drew.heap.size) := Wc.hid R1.out.lt
  have O3 := Wc.hid hO3
  have HWS : Hid (w.heap.size ≤ w1.drew.heap.size) := Wc.hid (Nat.le_of_lt R1.out.lt)
  have B4 := Wc.hid (Wk.below_ovr hB3 (Nat.le_refl _) C (.slice a3 C.data.length c3))
  have R4 := Wc.hid (R3.over C (.slice a3 C.data.length c3))
  have O4 := Wc.hid (ob_ovr hO3 HLT.out C (.slice a3 C.data.length c3))
  clear R3 r0 r1 r2 r3 r4 r5 r6 r7 r8 f0 f1 f2 f3 f4 f5 f6 f7 f8 hO3 hb3 hB3 R1 B1 V1 VM V1d hsl hwr HR3 O3
  obtain ⟨W4, hW4⟩ : ∃ W4, Wk.ovr w3 w.heap.size C (.slice a3 C.data.length c3) = W4 := ⟨_, rfl⟩
  rw [hW4] at B4 R4 O4
  unfold Wk.ovr at hW4
  rw [hW4]
  clear hW4
  have ⟨r0, r1, r2, r3, r4, r5, r6, r7, r8⟩ := R4.out.cc
  have f0 := R4.out.frozen 0
  have f1 := R4.out.frozen 1
  have f2 := R4.out.frozen 2
  have f3 := R4.out.frozen 3
  have f4 := R4.out.frozen 4
  have f5 := R4.out.frozen 5
  have f6 := R4.out.frozen 6
  have f7 := R4.out.frozen 7
  have f8 := R4.out.frozen 8
  have V4 := Wc.hid (HV0.out.keep (show_drew B4.out))
  go_wp2_with fail
  go_region_with (go_at_call 30; refine (get9_any _ xs _ _ _ (by exact V4.out)).mono ?_; rintro e w' ⟨rfl, rfl⟩; rw [N4.out])
  all_goals go_wp2_with fail
  all_goals exact bodyPost_ret (ret_cell9q rfl rfl rfl rfl rfl ((R4.out.over C (.slice a3 C.data.length c3)).keep (show_drew (Below.refl _ _))).cc) rfl ⟨a3, c3, rfl, ((ob_ovr O4.out HLT.out C (.slice a3 C.data.length c3)).keep (show_drew (Below.refl _ _))).base HWS.out, show_drew (Wk.below_ovr B4.out (Nat.le_refl _) C (.slice a3 C.data.length c3))⟩

/-- What frame.Parse returns, for all bytes. -/
theorem parse9_any (v : Value) (xs : List Int) (w : World) (hv : Wc.Bs w v xs) :
    Calls Try.prog 13 #[v] w fun e w' => ∃ a c, e = .returned (.tuple #[cv (Wk.par xs) (.slice a (Wk.par xs).data.length c), .int .i64 (Wk.parQ xs), .int .i64 (Wk.parZ xs), .int .i64 (Wk.parE xs)]) ∧ Wc.Ob 5 w.heap.size w' (.slice a (Wk.par xs).data.length c) (Wk.par xs).data ∧ Below w.heap.size w w' := by
  have hx := Wc.bs_bytes hv
  have hnone : ¬ Wk.parE xs = 0 → (Calls Try.prog 13 #[v] w fun e w' => e = .returned (.tuple #[cv Wk.c0 (.slice none 0 0), .int .i64 0, .int .i64 0, .int .i64 (Wk.parE xs)]) ∧ Below w.heap.size w w') →
      Calls Try.prog 13 #[v] w fun e w' => ∃ a c, e = .returned (.tuple #[cv (Wk.par xs) (.slice a (Wk.par xs).data.length c), .int .i64 (Wk.parQ xs), .int .i64 (Wk.parZ xs), .int .i64 (Wk.parE xs)]) ∧ Wc.Ob 5 w.heap.size w' (.slice a (Wk.par xs).data.length c) (Wk.par xs).data ∧ Below w.heap.size w w' := by
    intro h hc
    obtain ⟨e1, e2, e3⟩ := Wk.par_no h
    rw [e1, e2, e3]
    refine hc.mono ?_
    rintro e w' ⟨rfl, hb⟩
    exact ⟨none, 0, rfl, Wc.Ob.nil _ _ _, hb⟩
  by_cases hE : Wk.extE xs = 0
  · obtain ⟨_, h16, h520, hlen⟩ := Wk.ext_zero hE
    have n12 := Wk.num4_bd xs 12 hx
    have hpl : (Wk.plen xs : Int) = Ws.num xs 12 4 := by unfold Wk.plen; omega
    have hN : Wk.extN xs = ((Wk.plen xs + 20 : Nat) : Int) := by unfold Wk.extN; rw [if_pos hE]; omega
    rcases hv.open with ⟨rfl, _⟩ | ⟨b, off, n, cap, rfl, h0, hl, _⟩
    · simp at h16
    · cases hg : Wc.goodB (xs.take (20 + Wk.plen xs))
      · have hp := Wk.parE_sum hE hg
        refine hnone (by omega) ?_
        rw [hp]
        exact parse9_sum b off n cap (Wk.plen xs + 20) xs w hv hE hN (by omega) (by rw [Nat.add_comm]; exact hg)
      · cases hok : Wk.okB (Ws.num xs 8 4) (Wk.body xs)
        · have hp := Wk.parE_bad hE hg hok
          refine hnone (by omega) ?_
          rw [hp]
          exact parse9_bad b off n cap (Wk.plen xs) _ xs w hv hE hN (by omega) (by rw [Nat.add_comm]; exact hg) rfl hok
        · have hp := Wk.parE_ok hE hg hok
          obtain ⟨e1, e2, e3⟩ := Wk.par_yes hp
          rw [e1, e2, e3, hp]
          refine (parse9_ok b off n cap (Wk.plen xs) _ _ xs w hv hE hN (by omega) (by rw [Nat.add_comm]; exact hg) (Wk.com_yes hok) hok rfl).mono ?_
          rintro e w' ⟨a, c, rfl, hO, hb⟩
          refine ⟨a, c, ?_, hO, hb⟩
          rw [show ((Wk.plen xs + 20 : Nat) : Int) = 20 + Ws.num xs 12 4 by omega]
          rfl
  · have hp := Wk.parE_ext hE
    refine hnone (by rw [hp]; exact hE) ?_
    rw [hp]
    exact parse9_ext v xs w hv hE

end Go.Proofs.Ytfejabeifabdlaa
