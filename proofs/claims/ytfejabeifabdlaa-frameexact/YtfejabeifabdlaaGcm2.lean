/-
  What the page's command returns, for every payload: Begin and Write.
-/
import Derived.Test.YtfejabeifabdlaaGcm
import Derived.Deep.RegionLaw
namespace Go.Proofs.Ytfejabeifabdlaa
open Go.RowKit

set_option maxRecDepth 100000 in
set_option maxHeartbeats 1600000 in
theorem refCom_1y (b off n cap : Nat) (xs : List Int) (w : World) (hv : Wc.Bs w (.slice (some ⟨b, off, none⟩) n cap) xs) (hn : n = 24) (hi : Wr.i8 (Ws.num xs 0 8) = true ∧ Wr.i8 (Ws.num xs 8 8) = true) :
    Calls Try.prog 33 #[.int .i64 1, .slice (some ⟨b, off, none⟩) n cap] w fun e w' => ∃ c a q, e = .returned (.tuple #[cv c (.slice a c.data.length q), .bool (Wk.okB 1 xs)]) ∧ (Wk.okB 1 xs = true → c = Wk.raw 1 xs) ∧ Wc.Ob 5 w.heap.size w' (.slice a c.data.length q) c.data ∧ Below w.heap.size w w' := by
  subst hn
  have hcap := Wc.bs_cap hv
  have hxl := Wc.bs_len hv
  have HV := Wc.hid ((hv.alloc (.cells #[.int .i64 0, .int .i64 0, .int .i64 0, .int .i64 0, .int .i64 0, .int .i64 0, .int .i64 0, .int .i64 0, .slice none 0 0] 24)).alloc (.cells #[.int .i64 1, .int .i64 0, .int .i64 0, .int .i64 0, .int .i64 0, .int .i64 0, .int .i64 0, .int .i64 0, .slice none 0 0] 24))
  have N0 := Wc.hid (num8 xs 0)
  have N8 := Wc.hid (num8 xs 8)
  have hx := Wc.bs_bytes hv
  have b0 := Wk.num_bd xs 0 8 hx
  have b8 := Wk.num_bd xs 8 8 hx
  have hok : Wk.okB 1 xs = Wk.cmdB (Wk.raw 1 xs) := by unfold Wk.okB; rw [show Wk.lenB 1 xs = true by simp [Wk.lenB, hxl], Bool.true_and]
  rw [hok, Wk.raw1]
  clear hok
  have hA : Wr.h8 (Ws.num xs 0 8) = Ws.num xs 0 8 := if_pos (by have := hi.1; unfold Wr.i8 at this; simpa using this)
  have hB : Wr.h8 (Ws.num xs 8 8) = Ws.num xs 8 8 := if_pos (by have := hi.2; unfold Wr.i8 at this; simpa using this)
  have lA : Ws.num xs 0 8 ≤ 4611686018427387903 := by have := hi.1; unfold Wr.i8 at this; simpa using this
  have lB : Ws.num xs 8 8 ≤ 4611686018427387903 := by have := hi.2; unfold Wr.i8 at this; simpa using this
  rw [hA, hi.1] at N0
  rw [hB, hi.2] at N8
  clear hA hB hi
  generalize Ws.num xs 0 8 = A at *
  generalize Ws.num xs 8 8 = B at *
  have hbz := Wk.num4_bd xs 16 hx
  obtain ⟨z, hz⟩ : ∃ z, Ws.num xs 16 4 = z := ⟨_, rfl⟩
  have Hz : Hid (Wc.val ((xs.drop 16).take 4) = z) := Wc.hid hz
  rw [hz] at hbz ⊢
  clear hz
  have hbm := Wk.num4_bd xs 20 hx
  obtain ⟨m, hm⟩ : ∃ m, Ws.num xs 20 4 = m := ⟨_, rfl⟩
  have Hm : Hid (Wc.val ((xs.drop 20).take 4) = m) := Wc.hid hm
  rw [hm] at hbm ⊢
  clear hm
  have C0 : Hid (Wk.Ch ((w.alloc (.cells #[.int .i64 0, .int .i64 0, .int .i64 0, .int .i64 0, .int .i64 0, .int .i64 0, .int .i64 0, .int .i64 0, .slice none 0 0] 24)).alloc (.cells #[.int .i64 1, .int .i64 A, .int .i64 B, .int .i64 z, .int .i64 0, .int .i64 m, .int .i64 0, .int .i64 0, .slice none 0 0] 24)) (w.heap.size + 1) ⟨1, A, B, z, 0, m, 0, 0, []⟩ (.slice none 0 0)) := Wc.hid (chAt (c := ⟨1, A, B, z, 0, m, 0, 0, []⟩) (v := .slice none 0 0) _ (by simp))
  have R0 : Hid (Wk.Ch ((w.alloc (.cells #[.int .i64 0, .int .i64 0, .int .i64 0, .int .i64 0, .int .i64 0, .int .i64 0, .int .i64 0, .int .i64 0, .slice none 0 0] 24)).alloc (.cells #[.int .i64 1, .int .i64 A, .int .i64 B, .int .i64 z, .int .i64 0, .int .i64 m, .int .i64 0, .int .i64 0, .slice none 0 0] 24)) w.heap.size Wk.c0 (.slice none 0 0)) := Wc.hid (chAl (Wk.Ch.new w Wk.c0 (.slice none 0 0)) _)
  have B0 : Hid (Below w.heap.size w ((w.alloc (.cells #[.int .i64 0, .int .i64 0, .int .i64 0, .int .i64 0, .int .i64 0, .int .i64 0, .int .i64 0, .int .i64 0, .slice none 0 0] 24)).alloc (.cells #[.int .i64 1, .int .i64 A, .int .i64 B, .int .i64 z, .int .i64 0, .int .i64 m, .int .i64 0, .int .i64 0, .slice none 0 0] 24))) := Wc.hid (((Below.refl w.heap.size w).alloc (Nat.le_refl _) _).alloc (by simp) _)
  have HH : Hid (Wk.Held ⟨1, A, B, z, 0, m, 0, 0, []⟩) := Wc.hid (by unfold Wk.Held Wk.I64; simp only; omega)
  have HC := Wc.hid (refCmd_any ⟨1, A, B, z, 0, m, 0, 0, []⟩ none 0 · (by simp) HH.out)
  generalize Wk.cmdB ⟨1, A, B, z, 0, m, 0, 0, []⟩ = R at HC ⊢
  clear hv hxl hx b0 b8
  go_enter Try.func33, Try.ntmps33
  go_wp2_with fail
  refine (refGet8_any b off 24 cap 0 xs _ HV.out (by omega) hcap.1 hcap.2).mono ?_
  rintro e w1 ⟨rfl, rfl⟩
  rw [N0.out.1, N0.out.2]
  go_wp2_with fail
  refine (refGet8_any b off 24 cap 8 xs _ HV.out (by omega) hcap.1 hcap.2).mono ?_
  rintro e w1 ⟨rfl, rfl⟩
  rw [N8.out.1, N8.out.2]
  go_wp2_with fail
  refine (refGet4_any b off 24 cap 16 xs _ HV.out (by omega) hcap.1 hcap.2).mono ?_
  rintro e w1 ⟨rfl, rfl⟩
  rw [Hz.out]
  go_wp2_with fail
  refine (refGet4_any b off 24 cap 20 xs _ HV.out (by omega) hcap.1 hcap.2).mono ?_
  rintro e w1 ⟨rfl, rfl⟩
  rw [Hm.out]
  go_wp2_with fail
  obtain ⟨W, hW⟩ : ∃ W, ((w.alloc (.cells #[.int .i64 0, .int .i64 0, .int .i64 0, .int .i64 0, .int .i64 0, .int .i64 0, .int .i64 0, .int .i64 0, .slice none 0 0] 24)).alloc (.cells #[.int .i64 1, .int .i64 A, .int .i64 B, .int .i64 z, .int .i64 0, .int .i64 m, .int .i64 0, .int .i64 0, .slice none 0 0] 24)) = W := ⟨_, rfl⟩
  rw [hW] at C0 R0 B0 ⊢
  clear hW
  have ⟨c0, c1, c2, c3, c4, c5, c6, c7, c8⟩ := C0.out.cc; have k0 := C0.out.frozen 0; have k1 := C0.out.frozen 1; have k2 := C0.out.frozen 2; have k3 := C0.out.frozen 3; have k4 := C0.out.frozen 4; have k5 := C0.out.frozen 5; have k6 := C0.out.frozen 6; have k7 := C0.out.frozen 7; have k8 := C0.out.frozen 8
  go_region_with (go_at_call 17; refine (HC.out _).mono ?_; rintro e w2 ⟨rfl, hb2⟩; have C2 := (C0.out.keep (show_drew (Below.refl _ _))).keep hb2; have R2 := (R0.out.keep (show_drew (Below.refl _ _))).keep hb2; have ⟨r0, r1, r2, r3, r4, r5, r6, r7, r8⟩ := R2.cc; have f0 := R2.frozen 0; have f1 := R2.frozen 1; have f2 := R2.frozen 2; have f3 := R2.frozen 3; have f4 := R2.frozen 4; have f5 := R2.frozen 5; have f6 := R2.frozen 6; have f7 := R2.frozen 7; have f8 := R2.frozen 8; have ⟨e0, e1, e2, e3, e4, e5, e6, e7, e8⟩ := C2.cc)
  all_goals go_wp2_with fail
  all_goals exact bodyPost_ret (ret_cell9b rfl rfl rfl (R2.over ⟨1, A, B, z, 0, m, 0, 0, []⟩ (.slice none 0 0)).cc) rfl ⟨⟨1, A, B, z, 0, m, 0, 0, []⟩, none, 0, rfl, fun _ => rfl, Wc.Ob.nil _ _ _, Wk.below_ovr (Wc.step (show_drew B0.out) (Nat.le_refl _) hb2) (Nat.le_refl _) ⟨1, A, B, z, 0, m, 0, 0, []⟩ (.slice none 0 0)⟩

set_option maxRecDepth 100000 in
set_option maxHeartbeats 1600000 in
theorem refCom_1n (b off n cap : Nat) (xs : List Int) (w : World) (hv : Wc.Bs w (.slice (some ⟨b, off, none⟩) n cap) xs) (hn : n = 24) (hi : ¬ (Wr.i8 (Ws.num xs 0 8) = true ∧ Wr.i8 (Ws.num xs 8 8) = true)) :
    Calls Try.prog 33 #[.int .i64 1, .slice (some ⟨b, off, none⟩) n cap] w fun e w' => ∃ c a q, e = .returned (.tuple #[cv c (.slice a c.data.length q), .bool (Wk.okB 1 xs)]) ∧ (Wk.okB 1 xs = true → c = Wk.raw 1 xs) ∧ Wc.Ob 5 w.heap.size w' (.slice a c.data.length q) c.data ∧ Below w.heap.size w w' := by
  subst hn
  have hcap := Wc.bs_cap hv
  have hxl := Wc.bs_len hv
  have HV := Wc.hid ((hv.alloc (.cells #[.int .i64 0, .int .i64 0, .int .i64 0, .int .i64 0, .int .i64 0, .int .i64 0, .int .i64 0, .int .i64 0, .slice none 0 0] 24)).alloc (.cells #[.int .i64 1, .int .i64 0, .int .i64 0, .int .i64 0, .int .i64 0, .int .i64 0, .int .i64 0, .int .i64 0, .slice none 0 0] 24))
  have N0 := Wc.hid (num8 xs 0)
  have N8 := Wc.hid (num8 xs 8)
  have hx := Wc.bs_bytes hv
  have b0 := Wk.num_bd xs 0 8 hx
  have b8 := Wk.num_bd xs 8 8 hx
  have hok : Wk.okB 1 xs = false := by
    unfold Wk.okB
    rw [Bool.and_eq_false_iff]
    right
    rw [Wk.raw1, Bool.eq_false_iff]
    intro h
    have hr := Wk.cmdB_iff.1 h
    simp [Wk.Right] at hr
    apply hi
    unfold Wr.i8
    simp
    omega
  rw [hok]
  clear hok
  obtain ⟨A, hA⟩ : ∃ A, Wr.h8 (Ws.num xs 0 8) = A := ⟨_, rfl⟩
  obtain ⟨B, hB⟩ : ∃ B, Wr.h8 (Ws.num xs 8 8) = B := ⟨_, rfl⟩
  rw [hA] at N0
  rw [hB] at N8
  clear hA hB
  generalize Wr.i8 (Ws.num xs 0 8) = oa at *
  generalize Wr.i8 (Ws.num xs 8 8) = ob at *
  have hbz := Wk.num4_bd xs 16 hx
  obtain ⟨z, hz⟩ : ∃ z, Ws.num xs 16 4 = z := ⟨_, rfl⟩
  have Hz : Hid (Wc.val ((xs.drop 16).take 4) = z) := Wc.hid hz
  rw [hz] at hbz
  clear hz
  have hbm := Wk.num4_bd xs 20 hx
  obtain ⟨m, hm⟩ : ∃ m, Ws.num xs 20 4 = m := ⟨_, rfl⟩
  have Hm : Hid (Wc.val ((xs.drop 20).take 4) = m) := Wc.hid hm
  rw [hm] at hbm
  clear hm
  have C0 : Hid (Wk.Ch ((w.alloc (.cells #[.int .i64 0, .int .i64 0, .int .i64 0, .int .i64 0, .int .i64 0, .int .i64 0, .int .i64 0, .int .i64 0, .slice none 0 0] 24)).alloc (.cells #[.int .i64 1, .int .i64 A, .int .i64 B, .int .i64 z, .int .i64 0, .int .i64 m, .int .i64 0, .int .i64 0, .slice none 0 0] 24)) (w.heap.size + 1) ⟨1, A, B, z, 0, m, 0, 0, []⟩ (.slice none 0 0)) := Wc.hid (chAt (c := ⟨1, A, B, z, 0, m, 0, 0, []⟩) (v := .slice none 0 0) _ (by simp))
  have R0 : Hid (Wk.Ch ((w.alloc (.cells #[.int .i64 0, .int .i64 0, .int .i64 0, .int .i64 0, .int .i64 0, .int .i64 0, .int .i64 0, .int .i64 0, .slice none 0 0] 24)).alloc (.cells #[.int .i64 1, .int .i64 A, .int .i64 B, .int .i64 z, .int .i64 0, .int .i64 m, .int .i64 0, .int .i64 0, .slice none 0 0] 24)) w.heap.size Wk.c0 (.slice none 0 0)) := Wc.hid (chAl (Wk.Ch.new w Wk.c0 (.slice none 0 0)) _)
  have B0 : Hid (Below w.heap.size w ((w.alloc (.cells #[.int .i64 0, .int .i64 0, .int .i64 0, .int .i64 0, .int .i64 0, .int .i64 0, .int .i64 0, .int .i64 0, .slice none 0 0] 24)).alloc (.cells #[.int .i64 1, .int .i64 A, .int .i64 B, .int .i64 z, .int .i64 0, .int .i64 m, .int .i64 0, .int .i64 0, .slice none 0 0] 24))) := Wc.hid (((Below.refl w.heap.size w).alloc (Nat.le_refl _) _).alloc (by simp) _)
  clear hv hxl hx b0 b8
  cases oa
  · clear hi
    go_enter Try.func33, Try.ntmps33
    go_wp2_with fail
    refine (refGet8_any b off 24 cap 0 xs _ HV.out (by omega) hcap.1 hcap.2).mono ?_
    rintro e w1 ⟨rfl, rfl⟩
    rw [N0.out.1, N0.out.2]
    go_wp2_with fail
    refine (refGet8_any b off 24 cap 8 xs _ HV.out (by omega) hcap.1 hcap.2).mono ?_
    rintro e w1 ⟨rfl, rfl⟩
    rw [N8.out.1, N8.out.2]
    go_wp2_with fail
    refine (refGet4_any b off 24 cap 16 xs _ HV.out (by omega) hcap.1 hcap.2).mono ?_
    rintro e w1 ⟨rfl, rfl⟩
    rw [Hz.out]
    go_wp2_with fail
    refine (refGet4_any b off 24 cap 20 xs _ HV.out (by omega) hcap.1 hcap.2).mono ?_
    rintro e w1 ⟨rfl, rfl⟩
    rw [Hm.out]
    go_wp2_with fail
    obtain ⟨W, hW⟩ : ∃ W, ((w.alloc (.cells #[.int .i64 0, .int .i64 0, .int .i64 0, .int .i64 0, .int .i64 0, .int .i64 0, .int .i64 0, .int .i64 0, .slice none 0 0] 24)).alloc (.cells #[.int .i64 1, .int .i64 A, .int .i64 B, .int .i64 z, .int .i64 0, .int .i64 m, .int .i64 0, .int .i64 0, .slice none 0 0] 24)) = W := ⟨_, rfl⟩
    rw [hW] at C0 R0 B0 ⊢
    clear hW
    have ⟨c0, c1, c2, c3, c4, c5, c6, c7, c8⟩ := C0.out.cc; have k0 := C0.out.frozen 0; have k1 := C0.out.frozen 1; have k2 := C0.out.frozen 2; have k3 := C0.out.frozen 3; have k4 := C0.out.frozen 4; have k5 := C0.out.frozen 5; have k6 := C0.out.frozen 6; have k7 := C0.out.frozen 7; have k8 := C0.out.frozen 8
    have ⟨r0, r1, r2, r3, r4, r5, r6, r7, r8⟩ := R0.out.cc; have f0 := R0.out.frozen 0; have f1 := R0.out.frozen 1; have f2 := R0.out.frozen 2; have f3 := R0.out.frozen 3; have f4 := R0.out.frozen 4; have f5 := R0.out.frozen 5; have f6 := R0.out.frozen 6; have f7 := R0.out.frozen 7; have f8 := R0.out.frozen 8
    first | go_region | fail
    all_goals go_wp2_with fail
    all_goals exact bodyPost_ret (ret_cell9b rfl rfl rfl ((R0.out.over ⟨1, A, B, z, 0, m, 0, 0, []⟩ (.slice none 0 0)).keep (show_drew (Below.refl _ _))).cc) rfl ⟨⟨1, A, B, z, 0, m, 0, 0, []⟩, none, 0, rfl, Wc.Ob.nil _ _ _, show_drew (Wk.below_ovr B0.out (Nat.le_refl _) ⟨1, A, B, z, 0, m, 0, 0, []⟩ (.slice none 0 0))⟩
  cases ob
  · clear hi
    go_enter Try.func33, Try.ntmps33
    go_wp2_with fail
    refine (refGet8_any b off 24 cap 0 xs _ HV.out (by omega) hcap.1 hcap.2).mono ?_
    rintro e w1 ⟨rfl, rfl⟩
    rw [N0.out.1, N0.out.2]
    go_wp2_with fail
    refine (refGet8_any b off 24 cap 8 xs _ HV.out (by omega) hcap.1 hcap.2).mono ?_
    rintro e w1 ⟨rfl, rfl⟩
    rw [N8.out.1, N8.out.2]
    go_wp2_with fail
    refine (refGet4_any b off 24 cap 16 xs _ HV.out (by omega) hcap.1 hcap.2).mono ?_
    rintro e w1 ⟨rfl, rfl⟩
    rw [Hz.out]
    go_wp2_with fail
    refine (refGet4_any b off 24 cap 20 xs _ HV.out (by omega) hcap.1 hcap.2).mono ?_
    rintro e w1 ⟨rfl, rfl⟩
    rw [Hm.out]
    go_wp2_with fail
    obtain ⟨W, hW⟩ : ∃ W, ((w.alloc (.cells #[.int .i64 0, .int .i64 0, .int .i64 0, .int .i64 0, .int .i64 0, .int .i64 0, .int .i64 0, .int .i64 0, .slice none 0 0] 24)).alloc (.cells #[.int .i64 1, .int .i64 A, .int .i64 B, .int .i64 z, .int .i64 0, .int .i64 m, .int .i64 0, .int .i64 0, .slice none 0 0] 24)) = W := ⟨_, rfl⟩
    rw [hW] at C0 R0 B0 ⊢
    clear hW
    have ⟨c0, c1, c2, c3, c4, c5, c6, c7, c8⟩ := C0.out.cc; have k0 := C0.out.frozen 0; have k1 := C0.out.frozen 1; have k2 := C0.out.frozen 2; have k3 := C0.out.frozen 3; have k4 := C0.out.frozen 4; have k5 := C0.out.frozen 5; have k6 := C0.out.frozen 6; have k7 := C0.out.frozen 7; have k8 := C0.out.frozen 8
    have ⟨r0, r1, r2, r3, r4, r5, r6, r7, r8⟩ := R0.out.cc; have f0 := R0.out.frozen 0; have f1 := R0.out.frozen 1; have f2 := R0.out.frozen 2; have f3 := R0.out.frozen 3; have f4 := R0.out.frozen 4; have f5 := R0.out.frozen 5; have f6 := R0.out.frozen 6; have f7 := R0.out.frozen 7; have f8 := R0.out.frozen 8
    first | go_region | fail
    all_goals go_wp2_with fail
    all_goals exact bodyPost_ret (ret_cell9b rfl rfl rfl ((R0.out.over ⟨1, A, B, z, 0, m, 0, 0, []⟩ (.slice none 0 0)).keep (show_drew (Below.refl _ _))).cc) rfl ⟨⟨1, A, B, z, 0, m, 0, 0, []⟩, none, 0, rfl, Wc.Ob.nil _ _ _, show_drew (Wk.below_ovr B0.out (Nat.le_refl _) ⟨1, A, B, z, 0, m, 0, 0, []⟩ (.slice none 0 0))⟩
  exact absurd ⟨rfl, rfl⟩ hi

set_option maxRecDepth 100000 in
set_option maxHeartbeats 1600000 in
theorem refComNo_1 (b off n cap : Nat) (xs : List Int) (w : World) (hv : Wc.Bs w (.slice (some ⟨b, off, none⟩) n cap) xs) (hn : ¬ n = 24) :
    Calls Try.prog 33 #[.int .i64 1, .slice (some ⟨b, off, none⟩) n cap] w fun e w' => ∃ c a q, e = .returned (.tuple #[cv c (.slice a c.data.length q), .bool (Wk.okB 1 xs)]) ∧ (Wk.okB 1 xs = true → c = Wk.raw 1 xs) ∧ Wc.Ob 5 w.heap.size w' (.slice a c.data.length q) c.data ∧ Below w.heap.size w w' := by
  have hxl := Wc.bs_len hv
  have hok : Wk.okB 1 xs = false := by unfold Wk.okB; rw [show Wk.lenB 1 xs = false by simp [Wk.lenB]; omega]; rfl
  rw [hok]
  have hne : ((n : Int) == 24) = false := by simp; omega
  clear hok hxl hn
  have HV := Wc.hid ((hv.alloc (.cells #[.int .i64 0, .int .i64 0, .int .i64 0, .int .i64 0, .int .i64 0, .int .i64 0, .int .i64 0, .int .i64 0, .slice none 0 0] 24)).alloc (.cells #[.int .i64 1, .int .i64 0, .int .i64 0, .int .i64 0, .int .i64 0, .int .i64 0, .int .i64 0, .int .i64 0, .slice none 0 0] 24))
  have C0 : Hid (Wk.Ch ((w.alloc (.cells #[.int .i64 0, .int .i64 0, .int .i64 0, .int .i64 0, .int .i64 0, .int .i64 0, .int .i64 0, .int .i64 0, .slice none 0 0] 24)).alloc (.cells #[.int .i64 1, .int .i64 0, .int .i64 0, .int .i64 0, .int .i64 0, .int .i64 0, .int .i64 0, .int .i64 0, .slice none 0 0] 24)) (w.heap.size + 1) ⟨1, 0, 0, 0, 0, 0, 0, 0, []⟩ (.slice none 0 0)) := Wc.hid (chAt (c := ⟨1, 0, 0, 0, 0, 0, 0, 0, []⟩) (v := .slice none 0 0) _ (by simp))
  have R0 : Hid (Wk.Ch ((w.alloc (.cells #[.int .i64 0, .int .i64 0, .int .i64 0, .int .i64 0, .int .i64 0, .int .i64 0, .int .i64 0, .int .i64 0, .slice none 0 0] 24)).alloc (.cells #[.int .i64 1, .int .i64 0, .int .i64 0, .int .i64 0, .int .i64 0, .int .i64 0, .int .i64 0, .int .i64 0, .slice none 0 0] 24)) w.heap.size Wk.c0 (.slice none 0 0)) := Wc.hid (chAl (Wk.Ch.new w Wk.c0 (.slice none 0 0)) _)
  have B0 : Hid (Below w.heap.size w ((w.alloc (.cells #[.int .i64 0, .int .i64 0, .int .i64 0, .int .i64 0, .int .i64 0, .int .i64 0, .int .i64 0, .int .i64 0, .slice none 0 0] 24)).alloc (.cells #[.int .i64 1, .int .i64 0, .int .i64 0, .int .i64 0, .int .i64 0, .int .i64 0, .int .i64 0, .int .i64 0, .slice none 0 0] 24))) := Wc.hid (((Below.refl w.heap.size w).alloc (Nat.le_refl _) _).alloc (by simp) _)
  clear hv
  go_enter Try.func33, Try.ntmps33
  go_wp2_with fail
  obtain ⟨W, hW⟩ : ∃ W, ((w.alloc (.cells #[.int .i64 0, .int .i64 0, .int .i64 0, .int .i64 0, .int .i64 0, .int .i64 0, .int .i64 0, .int .i64 0, .slice none 0 0] 24)).alloc (.cells #[.int .i64 1, .int .i64 0, .int .i64 0, .int .i64 0, .int .i64 0, .int .i64 0, .int .i64 0, .int .i64 0, .slice none 0 0] 24)) = W := ⟨_, rfl⟩
  rw [hW] at C0 R0 B0 ⊢
  clear hW
  have ⟨c0, c1, c2, c3, c4, c5, c6, c7, c8⟩ := C0.out.cc; have k0 := C0.out.frozen 0; have k1 := C0.out.frozen 1; have k2 := C0.out.frozen 2; have k3 := C0.out.frozen 3; have k4 := C0.out.frozen 4; have k5 := C0.out.frozen 5; have k6 := C0.out.frozen 6; have k7 := C0.out.frozen 7; have k8 := C0.out.frozen 8
  have ⟨r0, r1, r2, r3, r4, r5, r6, r7, r8⟩ := R0.out.cc; have f0 := R0.out.frozen 0; have f1 := R0.out.frozen 1; have f2 := R0.out.frozen 2; have f3 := R0.out.frozen 3; have f4 := R0.out.frozen 4; have f5 := R0.out.frozen 5; have f6 := R0.out.frozen 6; have f7 := R0.out.frozen 7; have f8 := R0.out.frozen 8
  first | go_region | fail
  all_goals go_wp2_with fail
  all_goals exact bodyPost_ret (ret_cell9b rfl rfl rfl ((R0.out.over ⟨1, 0, 0, 0, 0, 0, 0, 0, []⟩ (.slice none 0 0)).keep (show_drew (Below.refl _ _))).cc) rfl ⟨⟨1, 0, 0, 0, 0, 0, 0, 0, []⟩, none, 0, rfl, Wc.Ob.nil _ _ _, show_drew (Wk.below_ovr B0.out (Nat.le_refl _) ⟨1, 0, 0, 0, 0, 0, 0, 0, []⟩ (.slice none 0 0))⟩

end Go.Proofs.Ytfejabeifabdlaa
