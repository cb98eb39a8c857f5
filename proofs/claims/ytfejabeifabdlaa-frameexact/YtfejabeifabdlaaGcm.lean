/-
  What the page's command returns, for every kind and payload: kinds of numbers of four bytes alone.
-/
import Derived.Test.YtfejabeifabdlaaGrc
import Derived.Test.YtfejabeifabdlaaFcom
import Derived.Test.YtfejabeifabdlaaFbnd
import Derived.Deep.RegionWith
namespace Go.Proofs.Ytfejabeifabdlaa
open Go.RowKit

theorem ret_cell9b {fn : Func} {tmps : Array Value} {w : World} {R : Nat} {c : Wk.Cmd} {u v : Value} (hr : fn.results = #[.cell 4 24, .tmp 5]) (hp : tmps.getD 4 undef = .pointer (some ⟨R, 0, none⟩)) (hv : tmps.getD 5 undef = v) (h : Wk.Cc w R c u) :
    (results fn tmps).run Try.prog w = .ok (.tuple #[cv c u, v]) w := ret_cell9 (k := 4) hr hp hv h

set_option maxRecDepth 100000 in
set_option maxHeartbeats 1600000 in
theorem refCom_3 (b off n cap : Nat) (xs : List Int) (w : World) (hv : Wc.Bs w (.slice (some ⟨b, off, none⟩) n cap) xs) (hn : n = 8) :
    Calls Try.prog 33 #[.int .i64 3, .slice (some ⟨b, off, none⟩) n cap] w fun e w' => ∃ c a q, e = .returned (.tuple #[cv c (.slice a c.data.length q), .bool (Wk.okB 3 xs)]) ∧ (Wk.okB 3 xs = true → c = Wk.raw 3 xs) ∧ Wc.Ob 5 w.heap.size w' (.slice a c.data.length q) c.data ∧ Below w.heap.size w w' := by
  subst hn
  have hcap := Wc.bs_cap hv
  have hxl := Wc.bs_len hv
  have HV := Wc.hid ((hv.alloc (.cells #[.int .i64 0, .int .i64 0, .int .i64 0, .int .i64 0, .int .i64 0, .int .i64 0, .int .i64 0, .int .i64 0, .slice none 0 0] 24)).alloc (.cells #[.int .i64 3, .int .i64 0, .int .i64 0, .int .i64 0, .int .i64 0, .int .i64 0, .int .i64 0, .int .i64 0, .slice none 0 0] 24))
  have hok : Wk.okB 3 xs = Wk.cmdB (Wk.raw 3 xs) := by unfold Wk.okB; rw [show Wk.lenB 3 xs = true by simp [Wk.lenB, hxl], Bool.true_and]
  rw [hok, Wk.raw3]
  clear hok
  have hbf := Wk.num4_bd xs 0 (Wc.bs_bytes hv)
  obtain ⟨f, hf⟩ : ∃ f, Ws.num xs 0 4 = f := ⟨_, rfl⟩
  have Hf : Hid (Wc.val ((xs.drop 0).take 4) = f) := Wc.hid hf
  rw [hf] at hbf ⊢
  clear hf
  have hbm := Wk.num4_bd xs 4 (Wc.bs_bytes hv)
  obtain ⟨m, hm⟩ : ∃ m, Ws.num xs 4 4 = m := ⟨_, rfl⟩
  have Hm : Hid (Wc.val ((xs.drop 4).take 4) = m) := Wc.hid hm
  rw [hm] at hbm ⊢
  clear hm
  have HH : Hid (Wk.Held ⟨3, 0, 0, 0, f, m, 0, 0, []⟩) := Wc.hid (by unfold Wk.Held Wk.I64; simp only; omega)
  have C0 : Hid (Wk.Ch ((w.alloc (.cells #[.int .i64 0, .int .i64 0, .int .i64 0, .int .i64 0, .int .i64 0, .int .i64 0, .int .i64 0, .int .i64 0, .slice none 0 0] 24)).alloc (.cells #[.int .i64 3, .int .i64 0, .int .i64 0, .int .i64 0, .int .i64 f, .int .i64 m, .int .i64 0, .int .i64 0, .slice none 0 0] 24)) (w.heap.size + 1) ⟨3, 0, 0, 0, f, m, 0, 0, []⟩ (.slice none 0 0)) := Wc.hid (chAt (c := ⟨3, 0, 0, 0, f, m, 0, 0, []⟩) (v := .slice none 0 0) _ (by simp))
  have R0 : Hid (Wk.Ch ((w.alloc (.cells #[.int .i64 0, .int .i64 0, .int .i64 0, .int .i64 0, .int .i64 0, .int .i64 0, .int .i64 0, .int .i64 0, .slice none 0 0] 24)).alloc (.cells #[.int .i64 3, .int .i64 0, .int .i64 0, .int .i64 0, .int .i64 f, .int .i64 m, .int .i64 0, .int .i64 0, .slice none 0 0] 24)) w.heap.size Wk.c0 (.slice none 0 0)) := Wc.hid (chAl (Wk.Ch.new w Wk.c0 (.slice none 0 0)) _)
  have B0 : Hid (Below w.heap.size w ((w.alloc (.cells #[.int .i64 0, .int .i64 0, .int .i64 0, .int .i64 0, .int .i64 0, .int .i64 0, .int .i64 0, .int .i64 0, .slice none 0 0] 24)).alloc (.cells #[.int .i64 3, .int .i64 0, .int .i64 0, .int .i64 0, .int .i64 f, .int .i64 m, .int .i64 0, .int .i64 0, .slice none 0 0] 24))) := Wc.hid (((Below.refl w.heap.size w).alloc (Nat.le_refl _) _).alloc (by simp) _)
  have HC := Wc.hid (refCmd_any ⟨3, 0, 0, 0, f, m, 0, 0, []⟩ none 0 · (by simp) HH.out)
  generalize Wk.cmdB ⟨3, 0, 0, 0, f, m, 0, 0, []⟩ = R at HC ⊢
  clear hv hxl
  go_enter Try.func33, Try.ntmps33
  go_wp2_with fail
  refine (refGet4_any b off 8 cap 0 xs _ HV.out (by omega) hcap.1 hcap.2).mono ?_
  rintro e w1 ⟨rfl, rfl⟩
  rw [Hf.out]
  go_wp2_with fail
  refine (refGet4_any b off 8 cap 4 xs _ HV.out (by omega) hcap.1 hcap.2).mono ?_
  rintro e w1 ⟨rfl, rfl⟩
  rw [Hm.out]
  go_wp2_with fail
  obtain ⟨W, hW⟩ : ∃ W, ((w.alloc (.cells #[.int .i64 0, .int .i64 0, .int .i64 0, .int .i64 0, .int .i64 0, .int .i64 0, .int .i64 0, .int .i64 0, .slice none 0 0] 24)).alloc (.cells #[.int .i64 3, .int .i64 0, .int .i64 0, .int .i64 0, .int .i64 f, .int .i64 m, .int .i64 0, .int .i64 0, .slice none 0 0] 24)) = W := ⟨_, rfl⟩
  rw [hW] at C0 R0 B0 ⊢
  clear hW
  have ⟨c0, c1, c2, c3, c4, c5, c6, c7, c8⟩ := C0.out.cc; have k0 := C0.out.frozen 0; have k1 := C0.out.frozen 1; have k2 := C0.out.frozen 2; have k3 := C0.out.frozen 3; have k4 := C0.out.frozen 4; have k5 := C0.out.frozen 5; have k6 := C0.out.frozen 6; have k7 := C0.out.frozen 7; have k8 := C0.out.frozen 8
  go_region_with (go_at_call 17; refine (HC.out _).mono ?_; rintro e w2 ⟨rfl, hb2⟩; have C2 := (C0.out.keep (show_drew (Below.refl _ _))).keep hb2; have R2 := (R0.out.keep (show_drew (Below.refl _ _))).keep hb2; have ⟨r0, r1, r2, r3, r4, r5, r6, r7, r8⟩ := R2.cc; have f0 := R2.frozen 0; have f1 := R2.frozen 1; have f2 := R2.frozen 2; have f3 := R2.frozen 3; have f4 := R2.frozen 4; have f5 := R2.frozen 5; have f6 := R2.frozen 6; have f7 := R2.frozen 7; have f8 := R2.frozen 8; have ⟨e0, e1, e2, e3, e4, e5, e6, e7, e8⟩ := C2.cc)
  all_goals go_wp2_with fail
  all_goals exact bodyPost_ret (ret_cell9b rfl rfl rfl (R2.over ⟨3, 0, 0, 0, f, m, 0, 0, []⟩ (.slice none 0 0)).cc) rfl ⟨⟨3, 0, 0, 0, f, m, 0, 0, []⟩, none, 0, rfl, fun _ => rfl, Wc.Ob.nil _ _ _, Wk.below_ovr (Wc.step (show_drew B0.out) (Nat.le_refl _) hb2) (Nat.le_refl _) ⟨3, 0, 0, 0, f, m, 0, 0, []⟩ (.slice none 0 0)⟩

set_option maxRecDepth 100000 in
set_option maxHeartbeats 1600000 in
theorem refComNo_3 (b off n cap : Nat) (xs : List Int) (w : World) (hv : Wc.Bs w (.slice (some ⟨b, off, none⟩) n cap) xs) (hn : ¬ n = 8) :
    Calls Try.prog 33 #[.int .i64 3, .slice (some ⟨b, off, none⟩) n cap] w fun e w' => ∃ c a q, e = .returned (.tuple #[cv c (.slice a c.data.length q), .bool (Wk.okB 3 xs)]) ∧ (Wk.okB 3 xs = true → c = Wk.raw 3 xs) ∧ Wc.Ob 5 w.heap.size w' (.slice a c.data.length q) c.data ∧ Below w.heap.size w w' := by
  have hxl := Wc.bs_len hv
  have hok : Wk.okB 3 xs = false := by unfold Wk.okB; rw [show Wk.lenB 3 xs = false by simp [Wk.lenB]; omega]; rfl
  rw [hok]
  have hne : ((n : Int) == 8) = false := by simp; omega
  clear hok hxl hn
  have HV := Wc.hid ((hv.alloc (.cells #[.int .i64 0, .int .i64 0, .int .i64 0, .int .i64 0, .int .i64 0, .int .i64 0, .int .i64 0, .int .i64 0, .slice none 0 0] 24)).alloc (.cells #[.int .i64 3, .int .i64 0, .int .i64 0, .int .i64 0, .int .i64 0, .int .i64 0, .int .i64 0, .int .i64 0, .slice none 0 0] 24))
  have C0 : Hid (Wk.Ch ((w.alloc (.cells #[.int .i64 0, .int .i64 0, .int .i64 0, .int .i64 0, .int .i64 0, .int .i64 0, .int .i64 0, .int .i64 0, .slice none 0 0] 24)).alloc (.cells #[.int .i64 3, .int .i64 0, .int .i64 0, .int .i64 0, .int .i64 0, .int .i64 0, .int .i64 0, .int .i64 0, .slice none 0 0] 24)) (w.heap.size + 1) ⟨3, 0, 0, 0, 0, 0, 0, 0, []⟩ (.slice none 0 0)) := Wc.hid (chAt (c := ⟨3, 0, 0, 0, 0, 0, 0, 0, []⟩) (v := .slice none 0 0) _ (by simp))
  have R0 : Hid (Wk.Ch ((w.alloc (.cells #[.int .i64 0, .int .i64 0, .int .i64 0, .int .i64 0, .int .i64 0, .int .i64 0, .int .i64 0, .int .i64 0, .slice none 0 0] 24)).alloc (.cells #[.int .i64 3, .int .i64 0, .int .i64 0, .int .i64 0, .int .i64 0, .int .i64 0, .int .i64 0, .int .i64 0, .slice none 0 0] 24)) w.heap.size Wk.c0 (.slice none 0 0)) := Wc.hid (chAl (Wk.Ch.new w Wk.c0 (.slice none 0 0)) _)
  have B0 : Hid (Below w.heap.size w ((w.alloc (.cells #[.int .i64 0, .int .i64 0, .int .i64 0, .int .i64 0, .int .i64 0, .int .i64 0, .int .i64 0, .int .i64 0, .slice none 0 0] 24)).alloc (.cells #[.int .i64 3, .int .i64 0, .int .i64 0, .int .i64 0, .int .i64 0, .int .i64 0, .int .i64 0, .int .i64 0, .slice none 0 0] 24))) := Wc.hid (((Below.refl w.heap.size w).alloc (Nat.le_refl _) _).alloc (by simp) _)
  clear hv
  go_enter Try.func33, Try.ntmps33
  go_wp2_with fail
  obtain ⟨W, hW⟩ : ∃ W, ((w.alloc (.cells #[.int .i64 0, .int .i64 0, .int .i64 0, .int .i64 0, .int .i64 0, .int .i64 0, .int .i64 0, .int .i64 0, .slice none 0 0] 24)).alloc (.cells #[.int .i64 3, .int .i64 0, .int .i64 0, .int .i64 0, .int .i64 0, .int .i64 0, .int .i64 0, .int .i64 0, .slice none 0 0] 24)) = W := ⟨_, rfl⟩
  rw [hW] at C0 R0 B0 ⊢
  clear hW
  have ⟨c0, c1, c2, c3, c4, c5, c6, c7, c8⟩ := C0.out.cc; have k0 := C0.out.frozen 0; have k1 := C0.out.frozen 1; have k2 := C0.out.frozen 2; have k3 := C0.out.frozen 3; have k4 := C0.out.frozen 4; have k5 := C0.out.frozen 5; have k6 := C0.out.frozen 6; have k7 := C0.out.frozen 7; have k8 := C0.out.frozen 8
  have ⟨r0, r1, r2, r3, r4, r5, r6, r7, r8⟩ := R0.out.cc; have f0 := R0.out.frozen 0; have f1 := R0.out.frozen 1; have f2 := R0.out.frozen 2; have f3 := R0.out.frozen 3; have f4 := R0.out.frozen 4; have f5 := R0.out.frozen 5; have f6 := R0.out.frozen 6; have f7 := R0.out.frozen 7; have f8 := R0.out.frozen 8
  first | go_region | fail
  all_goals go_wp2_with fail
  all_goals exact bodyPost_ret (ret_cell9b rfl rfl rfl ((R0.out.over ⟨3, 0, 0, 0, 0, 0, 0, 0, []⟩ (.slice none 0 0)).keep (show_drew (Below.refl _ _))).cc) rfl ⟨⟨3, 0, 0, 0, 0, 0, 0, 0, []⟩, none, 0, rfl, Wc.Ob.nil _ _ _, show_drew (Wk.below_ovr B0.out (Nat.le_refl _) ⟨3, 0, 0, 0, 0, 0, 0, 0, []⟩ (.slice none 0 0))⟩

set_option maxRecDepth 100000 in
set_option maxHeartbeats 1600000 in
theorem refCom_4 (b off n cap : Nat) (xs : List Int) (w : World) (hv : Wc.Bs w (.slice (some ⟨b, off, none⟩) n cap) xs) (hn : n = 12) :
    Calls Try.prog 33 #[.int .i64 4, .slice (some ⟨b, off, none⟩) n cap] w fun e w' => ∃ c a q, e = .returned (.tuple #[cv c (.slice a c.data.length q), .bool (Wk.okB 4 xs)]) ∧ (Wk.okB 4 xs = true → c = Wk.raw 4 xs) ∧ Wc.Ob 5 w.heap.size w' (.slice a c.data.length q) c.data ∧ Below w.heap.size w w' := by
  subst hn
  have hcap := Wc.bs_cap hv
  have hxl := Wc.bs_len hv
  have HV := Wc.hid ((hv.alloc (.cells #[.int .i64 0, .int .i64 0, .int .i64 0, .int .i64 0, .int .i64 0, .int .i64 0, .int .i64 0, .int .i64 0, .slice none 0 0] 24)).alloc (.cells #[.int .i64 4, .int .i64 0, .int .i64 0, .int .i64 0, .int .i64 0, .int .i64 0, .int .i64 0, .int .i64 0, .slice none 0 0] 24))
  have hok : Wk.okB 4 xs = Wk.cmdB (Wk.raw 4 xs) := by unfold Wk.okB; rw [show Wk.lenB 4 xs = true by simp [Wk.lenB, hxl], Bool.true_and]
  rw [hok, Wk.raw4]
  clear hok
  have hbf := Wk.num4_bd xs 0 (Wc.bs_bytes hv)
  obtain ⟨f, hf⟩ : ∃ f, Ws.num xs 0 4 = f := ⟨_, rfl⟩
  have Hf : Hid (Wc.val ((xs.drop 0).take 4) = f) := Wc.hid hf
  rw [hf] at hbf ⊢
  clear hf
  have hbm := Wk.num4_bd xs 4 (Wc.bs_bytes hv)
  obtain ⟨m, hm⟩ : ∃ m, Ws.num xs 4 4 = m := ⟨_, rfl⟩
  have Hm : Hid (Wc.val ((xs.drop 4).take 4) = m) := Wc.hid hm
  rw [hm] at hbm ⊢
  clear hm
  have hbs := Wk.num4_bd xs 8 (Wc.bs_bytes hv)
  obtain ⟨s, hs⟩ : ∃ s, Ws.num xs 8 4 = s := ⟨_, rfl⟩
  have Hs : Hid (Wc.val ((xs.drop 8).take 4) = s) := Wc.hid hs
  rw [hs] at hbs ⊢
  clear hs
  have HH : Hid (Wk.Held ⟨4, 0, 0, 0, f, m, s, 0, []⟩) := Wc.hid (by unfold Wk.Held Wk.I64; simp only; omega)
  have C0 : Hid (Wk.Ch ((w.alloc (.cells #[.int .i64 0, .int .i64 0, .int .i64 0, .int .i64 0, .int .i64 0, .int .i64 0, .int .i64 0, .int .i64 0, .slice none 0 0] 24)).alloc (.cells #[.int .i64 4, .int .i64 0, .int .i64 0, .int .i64 0, .int .i64 f, .int .i64 m, .int .i64 s, .int .i64 0, .slice none 0 0] 24)) (w.heap.size + 1) ⟨4, 0, 0, 0, f, m, s, 0, []⟩ (.slice none 0 0)) := Wc.hid (chAt (c := ⟨4, 0, 0, 0, f, m, s, 0, []⟩) (v := .slice none 0 0) _ (by simp))
  have R0 : Hid (Wk.Ch ((w.alloc (.cells #[.int .i64 0, .int .i64 0, .int .i64 0, .int .i64 0, .int .i64 0, .int .i64 0, .int .i64 0, .int .i64 0, .slice none 0 0] 24)).alloc (.cells #[.int .i64 4, .int .i64 0, .int .i64 0, .int .i64 0, .int .i64 f, .int .i64 m, .int .i64 s, .int .i64 0, .slice none 0 0] 24)) w.heap.size Wk.c0 (.slice none 0 0)) := Wc.hid (chAl (Wk.Ch.new w Wk.c0 (.slice none 0 0)) _)
  have B0 : Hid (Below w.heap.size w ((w.alloc (.cells #[.int .i64 0, .int .i64 0, .int .i64 0, .int .i64 0, .int .i64 0, .int .i64 0, .int .i64 0, .int .i64 0, .slice none 0 0] 24)).alloc (.cells #[.int .i64 4, .int .i64 0, .int .i64 0, .int .i64 0, .int .i64 f, .int .i64 m, .int .i64 s, .int .i64 0, .slice none 0 0] 24))) := Wc.hid (((Below.refl w.heap.size w).alloc (Nat.le_refl _) _).alloc (by simp) _)
  have HC := Wc.hid (refCmd_any ⟨4, 0, 0, 0, f, m, s, 0, []⟩ none 0 · (by simp) HH.out)
  generalize Wk.cmdB ⟨4, 0, 0, 0, f, m, s, 0, []⟩ = R at HC ⊢
  clear hv hxl
  go_enter Try.func33, Try.ntmps33
  go_wp2_with fail
  refine (refGet4_any b off 12 cap 0 xs _ HV.out (by omega) hcap.1 hcap.2).mono ?_
  rintro e w1 ⟨rfl, rfl⟩
  rw [Hf.out]
  go_wp2_with fail
  refine (refGet4_any b off 12 cap 4 xs _ HV.out (by omega) hcap.1 hcap.2).mono ?_
  rintro e w1 ⟨rfl, rfl⟩
  rw [Hm.out]
  go_wp2_with fail
  refine (refGet4_any b off 12 cap 8 xs _ HV.out (by omega) hcap.1 hcap.2).mono ?_
  rintro e w1 ⟨rfl, rfl⟩
  rw [Hs.out]
  go_wp2_with fail
  obtain ⟨W, hW⟩ : ∃ W, ((w.alloc (.cells #[.int .i64 0, .int .i64 0, .int .i64 0, .int .i64 0, .int .i64 0, .int .i64 0, .int .i64 0, .int .i64 0, .slice none 0 0] 24)).alloc (.cells #[.int .i64 4, .int .i64 0, .int .i64 0, .int .i64 0, .int .i64 f, .int .i64 m, .int .i64 s, .int .i64 0, .slice none 0 0] 24)) = W := ⟨_, rfl⟩
  rw [hW] at C0 R0 B0 ⊢
  clear hW
  have ⟨c0, c1, c2, c3, c4, c5, c6, c7, c8⟩ := C0.out.cc; have k0 := C0.out.frozen 0; have k1 := C0.out.frozen 1; have k2 := C0.out.frozen 2; have k3 := C0.out.frozen 3; have k4 := C0.out.frozen 4; have k5 := C0.out.frozen 5; have k6 := C0.out.frozen 6; have k7 := C0.out.frozen 7; have k8 := C0.out.frozen 8
  go_region_with (go_at_call 17; refine (HC.out _).mono ?_; rintro e w2 ⟨rfl, hb2⟩; have C2 := (C0.out.keep (show_drew (Below.refl _ _))).keep hb2; have R2 := (R0.out.keep (show_drew (Below.refl _ _))).keep hb2; have ⟨r0, r1, r2, r3, r4, r5, r6, r7, r8⟩ := R2.cc; have f0 := R2.frozen 0; have f1 := R2.frozen 1; have f2 := R2.frozen 2; have f3 := R2.frozen 3; have f4 := R2.frozen 4; have f5 := R2.frozen 5; have f6 := R2.frozen 6; have f7 := R2.frozen 7; have f8 := R2.frozen 8; have ⟨e0, e1, e2, e3, e4, e5, e6, e7, e8⟩ := C2.cc)
  all_goals go_wp2_with fail
  all_goals exact bodyPost_ret (ret_cell9b rfl rfl rfl (R2.over ⟨4, 0, 0, 0, f, m, s, 0, []⟩ (.slice none 0 0)).cc) rfl ⟨⟨4, 0, 0, 0, f, m, s, 0, []⟩, none, 0, rfl, fun _ => rfl, Wc.Ob.nil _ _ _, Wk.below_ovr (Wc.step (show_drew B0.out) (Nat.le_refl _) hb2) (Nat.le_refl _) ⟨4, 0, 0, 0, f, m, s, 0, []⟩ (.slice none 0 0)⟩

set_option maxRecDepth 100000 in
set_option maxHeartbeats 1600000 in
theorem refComNo_4 (b off n cap : Nat) (xs : List Int) (w : World) (hv : Wc.Bs w (.slice (some ⟨b, off, none⟩) n cap) xs) (hn : ¬ n = 12) :
    Calls Try.prog 33 #[.int .i64 4, .slice (some ⟨b, off, none⟩) n cap] w fun e w' => ∃ c a q, e = .returned (.tuple #[cv c (.slice a c.data.length q), .bool (Wk.okB 4 xs)]) ∧ (Wk.okB 4 xs = true → c = Wk.raw 4 xs) ∧ Wc.Ob 5 w.heap.size w' (.slice a c.data.length q) c.data ∧ Below w.heap.size w w' := by
  have hxl := Wc.bs_len hv
  have hok : Wk.okB 4 xs = false := by unfold Wk.okB; rw [show Wk.lenB 4 xs = false by simp [Wk.lenB]; omega]; rfl
  rw [hok]
  have hne : ((n : Int) == 12) = false := by simp; omega
  clear hok hxl hn
  have HV := Wc.hid ((hv.alloc (.cells #[.int .i64 0, .int .i64 0, .int .i64 0, .int .i64 0, .int .i64 0, .int .i64 0, .int .i64 0, .int .i64 0, .slice none 0 0] 24)).alloc (.cells #[.int .i64 4, .int .i64 0, .int .i64 0, .int .i64 0, .int .i64 0, .int .i64 0, .int .i64 0, .int .i64 0, .slice none 0 0] 24))
  have C0 : Hid (Wk.Ch ((w.alloc (.cells #[.int .i64 0, .int .i64 0, .int .i64 0, .int .i64 0, .int .i64 0, .int .i64 0, .int .i64 0, .int .i64 0, .slice none 0 0] 24)).alloc (.cells #[.int .i64 4, .int .i64 0, .int .i64 0, .int .i64 0, .int .i64 0, .int .i64 0, .int .i64 0, .int .i64 0, .slice none 0 0] 24)) (w.heap.size + 1) ⟨4, 0, 0, 0, 0, 0, 0, 0, []⟩ (.slice none 0 0)) := Wc.hid (chAt (c := ⟨4, 0, 0, 0, 0, 0, 0, 0, []⟩) (v := .slice none 0 0) _ (by simp))
  have R0 : Hid (Wk.Ch ((w.alloc (.cells #[.int .i64 0, .int .i64 0, .int .i64 0, .int .i64 0, .int .i64 0, .int .i64 0, .int .i64 0, .int .i64 0, .slice none 0 0] 24)).alloc (.cells #[.int .i64 4, .int .i64 0, .int .i64 0, .int .i64 0, .int .i64 0, .int .i64 0, .int .i64 0, .int .i64 0, .slice none 0 0] 24)) w.heap.size Wk.c0 (.slice none 0 0)) := Wc.hid (chAl (Wk.Ch.new w Wk.c0 (.slice none 0 0)) _)
  have B0 : Hid (Below w.heap.size w ((w.alloc (.cells #[.int .i64 0, .int .i64 0, .int .i64 0, .int .i64 0, .int .i64 0, .int .i64 0, .int .i64 0, .int .i64 0, .slice none 0 0] 24)).alloc (.cells #[.int .i64 4, .int .i64 0, .int .i64 0, .int .i64 0, .int .i64 0, .int .i64 0, .int .i64 0, .int .i64 0, .slice none 0 0] 24))) := Wc.hid (((Below.refl w.heap.size w).alloc (Nat.le_refl _) _).alloc (by simp) _)
  clear hv
  go_enter Try.func33, Try.ntmps33
  go_wp2_with fail
  obtain ⟨W, hW⟩ : ∃ W, ((w.alloc (.cells #[.int .i64 0, .int .i64 0, .int .i64 0, .int .i64 0, .int .i64 0, .int .i64 0, .int .i64 0, .int .i64 0, .slice none 0 0] 24)).alloc (.cells #[.int .i64 4, .int .i64 0, .int .i64 0, .int .i64 0, .int .i64 0, .int .i64 0, .int .i64 0, .int .i64 0, .slice none 0 0] 24)) = W := ⟨_, rfl⟩
  rw [hW] at C0 R0 B0 ⊢
  clear hW
  have ⟨c0, c1, c2, c3, c4, c5, c6, c7, c8⟩ := C0.out.cc; have k0 := C0.out.frozen 0; have k1 := C0.out.frozen 1; have k2 := C0.out.frozen 2; have k3 := C0.out.frozen 3; have k4 := C0.out.frozen 4; have k5 := C0.out.frozen 5; have k6 := C0.out.frozen 6; have k7 := C0.out.frozen 7; have k8 := C0.out.frozen 8
  have ⟨r0, r1, r2, r3, r4, r5, r6, r7, r8⟩ := R0.out.cc; have f0 := R0.out.frozen 0; have f1 := R0.out.frozen 1; have f2 := R0.out.frozen 2; have f3 := R0.out.frozen 3; have f4 := R0.out.frozen 4; have f5 := R0.out.frozen 5; have f6 := R0.out.frozen 6; have f7 := R0.out.frozen 7; have f8 := R0.out.frozen 8
  first | go_region | fail
  all_goals go_wp2_with fail
  all_goals exact bodyPost_ret (ret_cell9b rfl rfl rfl ((R0.out.over ⟨4, 0, 0, 0, 0, 0, 0, 0, []⟩ (.slice none 0 0)).keep (show_drew (Below.refl _ _))).cc) rfl ⟨⟨4, 0, 0, 0, 0, 0, 0, 0, []⟩, none, 0, rfl, Wc.Ob.nil _ _ _, show_drew (Wk.below_ovr B0.out (Nat.le_refl _) ⟨4, 0, 0, 0, 0, 0, 0, 0, []⟩ (.slice none 0 0))⟩

set_option maxRecDepth 100000 in
set_option maxHeartbeats 1600000 in
theorem refCom_5 (b off n cap : Nat) (xs : List Int) (w : World) (hv : Wc.Bs w (.slice (some ⟨b, off, none⟩) n cap) xs) (hn : n = 4) :
    Calls Try.prog 33 #[.int .i64 5, .slice (some ⟨b, off, none⟩) n cap] w fun e w' => ∃ c a q, e = .returned (.tuple #[cv c (.slice a c.data.length q), .bool (Wk.okB 5 xs)]) ∧ (Wk.okB 5 xs = true → c = Wk.raw 5 xs) ∧ Wc.Ob 5 w.heap.size w' (.slice a c.data.length q) c.data ∧ Below w.heap.size w w' := by
  subst hn
  have hcap := Wc.bs_cap hv
  have hxl := Wc.bs_len hv
  have HV := Wc.hid ((hv.alloc (.cells #[.int .i64 0, .int .i64 0, .int .i64 0, .int .i64 0, .int .i64 0, .int .i64 0, .int .i64 0, .int .i64 0, .slice none 0 0] 24)).alloc (.cells #[.int .i64 5, .int .i64 0, .int .i64 0, .int .i64 0, .int .i64 0, .int .i64 0, .int .i64 0, .int .i64 0, .slice none 0 0] 24))
  have hok : Wk.okB 5 xs = Wk.cmdB (Wk.raw 5 xs) := by unfold Wk.okB; rw [show Wk.lenB 5 xs = true by simp [Wk.lenB, hxl], Bool.true_and]
  rw [hok, Wk.raw5]
  clear hok
  have hbz := Wk.num4_bd xs 0 (Wc.bs_bytes hv)
  obtain ⟨z, hz⟩ : ∃ z, Ws.num xs 0 4 = z := ⟨_, rfl⟩
  have Hz : Hid (Wc.val ((xs.drop 0).take 4) = z) := Wc.hid hz
  rw [hz] at hbz ⊢
  clear hz
  have HH : Hid (Wk.Held ⟨5, 0, 0, z, 0, 0, 0, 0, []⟩) := Wc.hid (by unfold Wk.Held Wk.I64; simp only; omega)
  have C0 : Hid (Wk.Ch ((w.alloc (.cells #[.int .i64 0, .int .i64 0, .int .i64 0, .int .i64 0, .int .i64 0, .int .i64 0, .int .i64 0, .int .i64 0, .slice none 0 0] 24)).alloc (.cells #[.int .i64 5, .int .i64 0, .int .i64 0, .int .i64 z, .int .i64 0, .int .i64 0, .int .i64 0, .int .i64 0, .slice none 0 0] 24)) (w.heap.size + 1) ⟨5, 0, 0, z, 0, 0, 0, 0, []⟩ (.slice none 0 0)) := Wc.hid (chAt (c := ⟨5, 0, 0, z, 0, 0, 0, 0, []⟩) (v := .slice none 0 0) _ (by simp))
  have R0 : Hid (Wk.Ch ((w.alloc (.cells #[.int .i64 0, .int .i64 0, .int .i64 0, .int .i64 0, .int .i64 0, .int .i64 0, .int .i64 0, .int .i64 0, .slice none 0 0] 24)).alloc (.cells #[.int .i64 5, .int .i64 0, .int .i64 0, .int .i64 z, .int .i64 0, .int .i64 0, .int .i64 0, .int .i64 0, .slice none 0 0] 24)) w.heap.size Wk.c0 (.slice none 0 0)) := Wc.hid (chAl (Wk.Ch.new w Wk.c0 (.slice none 0 0)) _)
  have B0 : Hid (Below w.heap.size w ((w.alloc (.cells #[.int .i64 0, .int .i64 0, .int .i64 0, .int .i64 0, .int .i64 0, .int .i64 0, .int .i64 0, .int .i64 0, .slice none 0 0] 24)).alloc (.cells #[.int .i64 5, .int .i64 0, .int .i64 0, .int .i64 z, .int .i64 0, .int .i64 0, .int .i64 0, .int .i64 0, .slice none 0 0] 24))) := Wc.hid (((Below.refl w.heap.size w).alloc (Nat.le_refl _) _).alloc (by simp) _)
  have HC := Wc.hid (refCmd_any ⟨5, 0, 0, z, 0, 0, 0, 0, []⟩ none 0 · (by simp) HH.out)
  generalize Wk.cmdB ⟨5, 0, 0, z, 0, 0, 0, 0, []⟩ = R at HC ⊢
  clear hv hxl
  go_enter Try.func33, Try.ntmps33
  go_wp2_with fail
  refine (refGet4_any b off 4 cap 0 xs _ HV.out (by omega) hcap.1 hcap.2).mono ?_
  rintro e w1 ⟨rfl, rfl⟩
  rw [Hz.out]
  go_wp2_with fail
  obtain ⟨W, hW⟩ : ∃ W, ((w.alloc (.cells #[.int .i64 0, .int .i64 0, .int .i64 0, .int .i64 0, .int .i64 0, .int .i64 0, .int .i64 0, .int .i64 0, .slice none 0 0] 24)).alloc (.cells #[.int .i64 5, .int .i64 0, .int .i64 0, .int .i64 z, .int .i64 0, .int .i64 0, .int .i64 0, .int .i64 0, .slice none 0 0] 24)) = W := ⟨_, rfl⟩
  rw [hW] at C0 R0 B0 ⊢
  clear hW
  have ⟨c0, c1, c2, c3, c4, c5, c6, c7, c8⟩ := C0.out.cc; have k0 := C0.out.frozen 0; have k1 := C0.out.frozen 1; have k2 := C0.out.frozen 2; have k3 := C0.out.frozen 3; have k4 := C0.out.frozen 4; have k5 := C0.out.frozen 5; have k6 := C0.out.frozen 6; have k7 := C0.out.frozen 7; have k8 := C0.out.frozen 8
  go_region_with (go_at_call 17; refine (HC.out _).mono ?_; rintro e w2 ⟨rfl, hb2⟩; have C2 := (C0.out.keep (show_drew (Below.refl _ _))).keep hb2; have R2 := (R0.out.keep (show_drew (Below.refl _ _))).keep hb2; have ⟨r0, r1, r2, r3, r4, r5, r6, r7, r8⟩ := R2.cc; have f0 := R2.frozen 0; have f1 := R2.frozen 1; have f2 := R2.frozen 2; have f3 := R2.frozen 3; have f4 := R2.frozen 4; have f5 := R2.frozen 5; have f6 := R2.frozen 6; have f7 := R2.frozen 7; have f8 := R2.frozen 8; have ⟨e0, e1, e2, e3, e4, e5, e6, e7, e8⟩ := C2.cc)
  all_goals go_wp2_with fail
  all_goals exact bodyPost_ret (ret_cell9b rfl rfl rfl (R2.over ⟨5, 0, 0, z, 0, 0, 0, 0, []⟩ (.slice none 0 0)).cc) rfl ⟨⟨5, 0, 0, z, 0, 0, 0, 0, []⟩, none, 0, rfl, fun _ => rfl, Wc.Ob.nil _ _ _, Wk.below_ovr (Wc.step (show_drew B0.out) (Nat.le_refl _) hb2) (Nat.le_refl _) ⟨5, 0, 0, z, 0, 0, 0, 0, []⟩ (.slice none 0 0)⟩

set_option maxRecDepth 100000 in
set_option maxHeartbeats 1600000 in
theorem refComNo_5 (b off n cap : Nat) (xs : List Int) (w : World) (hv : Wc.Bs w (.slice (some ⟨b, off, none⟩) n cap) xs) (hn : ¬ n = 4) :
    Calls Try.prog 33 #[.int .i64 5, .slice (some ⟨b, off, none⟩) n cap] w fun e w' => ∃ c a q, e = .returned (.tuple #[cv c (.slice a c.data.length q), .bool (Wk.okB 5 xs)]) ∧ (Wk.okB 5 xs = true → c = Wk.raw 5 xs) ∧ Wc.Ob 5 w.heap.size w' (.slice a c.data.length q) c.data ∧ Below w.heap.size w w' := by
  have hxl := Wc.bs_len hv
  have hok : Wk.okB 5 xs = false := by unfold Wk.okB; rw [show Wk.lenB 5 xs = false by simp [Wk.lenB]; omega]; rfl
  rw [hok]
  have hne : ((n : Int) == 4) = false := by simp; omega
  clear hok hxl hn
  have HV := Wc.hid ((hv.alloc (.cells #[.int .i64 0, .int .i64 0, .int .i64 0, .int .i64 0, .int .i64 0, .int .i64 0, .int .i64 0, .int .i64 0, .slice none 0 0] 24)).alloc (.cells #[.int .i64 5, .int .i64 0, .int .i64 0, .int .i64 0, .int .i64 0, .int .i64 0, .int .i64 0, .int .i64 0, .slice none 0 0] 24))
  have C0 : Hid (Wk.Ch ((w.alloc (.cells #[.int .i64 0, .int .i64 0, .int .i64 0, .int .i64 0, .int .i64 0, .int .i64 0, .int .i64 0, .int .i64 0, .slice none 0 0] 24)).alloc (.cells #[.int .i64 5, .int .i64 0, .int .i64 0, .int .i64 0, .int .i64 0, .int .i64 0, .int .i64 0, .int .i64 0, .slice none 0 0] 24)) (w.heap.size + 1) ⟨5, 0, 0, 0, 0, 0, 0, 0, []⟩ (.slice none 0 0)) := Wc.hid (chAt (c := ⟨5, 0, 0, 0, 0, 0, 0, 0, []⟩) (v := .slice none 0 0) _ (by simp))
  have R0 : Hid (Wk.Ch ((w.alloc (.cells #[.int .i64 0, .int .i64 0, .int .i64 0, .int .i64 0, .int .i64 0, .int .i64 0, .int .i64 0, .int .i64 0, .slice none 0 0] 24)).alloc (.cells #[.int .i64 5, .int .i64 0, .int .i64 0, .int .i64 0, .int .i64 0, .int .i64 0, .int .i64 0, .int .i64 0, .slice none 0 0] 24)) w.heap.size Wk.c0 (.slice none 0 0)) := Wc.hid (chAl (Wk.Ch.new w Wk.c0 (.slice none 0 0)) _)
  have B0 : Hid (Below w.heap.size w ((w.alloc (.cells #[.int .i64 0, .int .i64 0, .int .i64 0, .int .i64 0, .int .i64 0, .int .i64 0, .int .i64 0, .int .i64 0, .slice none 0 0] 24)).alloc (.cells #[.int .i64 5, .int .i64 0, .int .i64 0, .int .i64 0, .int .i64 0, .int .i64 0, .int .i64 0, .int .i64 0, .slice none 0 0] 24))) := Wc.hid (((Below.refl w.heap.size w).alloc (Nat.le_refl _) _).alloc (by simp) _)
  clear hv
  go_enter Try.func33, Try.ntmps33
  go_wp2_with fail
  obtain ⟨W, hW⟩ : ∃ W, ((w.alloc (.cells #[.int .i64 0, .int .i64 0, .int .i64 0, .int .i64 0, .int .i64 0, .int .i64 0, .int .i64 0, .int .i64 0, .slice none 0 0] 24)).alloc (.cells #[.int .i64 5, .int .i64 0, .int .i64 0, .int .i64 0, .int .i64 0, .int .i64 0, .int .i64 0, .int .i64 0, .slice none 0 0] 24)) = W := ⟨_, rfl⟩
  rw [hW] at C0 R0 B0 ⊢
  clear hW
  have ⟨c0, c1, c2, c3, c4, c5, c6, c7, c8⟩ := C0.out.cc; have k0 := C0.out.frozen 0; have k1 := C0.out.frozen 1; have k2 := C0.out.frozen 2; have k3 := C0.out.frozen 3; have k4 := C0.out.frozen 4; have k5 := C0.out.frozen 5; have k6 := C0.out.frozen 6; have k7 := C0.out.frozen 7; have k8 := C0.out.frozen 8
  have ⟨r0, r1, r2, r3, r4, r5, r6, r7, r8⟩ := R0.out.cc; have f0 := R0.out.frozen 0; have f1 := R0.out.frozen 1; have f2 := R0.out.frozen 2; have f3 := R0.out.frozen 3; have f4 := R0.out.frozen 4; have f5 := R0.out.frozen 5; have f6 := R0.out.frozen 6; have f7 := R0.out.frozen 7; have f8 := R0.out.frozen 8
  first | go_region | fail
  all_goals go_wp2_with fail
  all_goals exact bodyPost_ret (ret_cell9b rfl rfl rfl ((R0.out.over ⟨5, 0, 0, 0, 0, 0, 0, 0, []⟩ (.slice none 0 0)).keep (show_drew (Below.refl _ _))).cc) rfl ⟨⟨5, 0, 0, 0, 0, 0, 0, 0, []⟩, none, 0, rfl, Wc.Ob.nil _ _ _, show_drew (Wk.below_ovr B0.out (Nat.le_refl _) ⟨5, 0, 0, 0, 0, 0, 0, 0, []⟩ (.slice none 0 0))⟩

set_option maxRecDepth 100000 in
set_option maxHeartbeats 1600000 in
theorem refCom_6 (b off n cap : Nat) (xs : List Int) (w : World) (hv : Wc.Bs w (.slice (some ⟨b, off, none⟩) n cap) xs) (hn : n = 8) :
    Calls Try.prog 33 #[.int .i64 6, .slice (some ⟨b, off, none⟩) n cap] w fun e w' => ∃ c a q, e = .returned (.tuple #[cv c (.slice a c.data.length q), .bool (Wk.okB 6 xs)]) ∧ (Wk.okB 6 xs = true → c = Wk.raw 6 xs) ∧ Wc.Ob 5 w.heap.size w' (.slice a c.data.length q) c.data ∧ Below w.heap.size w w' := by
  subst hn
  have hcap := Wc.bs_cap hv
  have hxl := Wc.bs_len hv
  have HV := Wc.hid ((hv.alloc (.cells #[.int .i64 0, .int .i64 0, .int .i64 0, .int .i64 0, .int .i64 0, .int .i64 0, .int .i64 0, .int .i64 0, .slice none 0 0] 24)).alloc (.cells #[.int .i64 6, .int .i64 0, .int .i64 0, .int .i64 0, .int .i64 0, .int .i64 0, .int .i64 0, .int .i64 0, .slice none 0 0] 24))
  have hok : Wk.okB 6 xs = Wk.cmdB (Wk.raw 6 xs) := by unfold Wk.okB; rw [show Wk.lenB 6 xs = true by simp [Wk.lenB, hxl], Bool.true_and]
  rw [hok, Wk.raw6]
  clear hok
  have hbm := Wk.num4_bd xs 0 (Wc.bs_bytes hv)
  obtain ⟨m, hm⟩ : ∃ m, Ws.num xs 0 4 = m := ⟨_, rfl⟩
  have Hm : Hid (Wc.val ((xs.drop 0).take 4) = m) := Wc.hid hm
  rw [hm] at hbm ⊢
  clear hm
  have hbd := Wk.num4_bd xs 4 (Wc.bs_bytes hv)
  obtain ⟨d, hd⟩ : ∃ d, Ws.num xs 4 4 = d := ⟨_, rfl⟩
  have Hd : Hid (Wc.val ((xs.drop 4).take 4) = d) := Wc.hid hd
  rw [hd] at hbd ⊢
  clear hd
  have HH : Hid (Wk.Held ⟨6, 0, 0, 0, 0, m, 0, d, []⟩) := Wc.hid (by unfold Wk.Held Wk.I64; simp only; omega)
  have C0 : Hid (Wk.Ch ((w.alloc (.cells #[.int .i64 0, .int .i64 0, .int .i64 0, .int .i64 0, .int .i64 0, .int .i64 0, .int .i64 0, .int .i64 0, .slice none 0 0] 24)).alloc (.cells #[.int .i64 6, .int .i64 0, .int .i64 0, .int .i64 0, .int .i64 0, .int .i64 m, .int .i64 0, .int .i64 d, .slice none 0 0] 24)) (w.heap.size + 1) ⟨6, 0, 0, 0, 0, m, 0, d, []⟩ (.slice none 0 0)) := Wc.hid (chAt (c := ⟨6, 0, 0, 0, 0, m, 0, d, []⟩) (v := .slice none 0 0) _ (by simp))
  have R0 : Hid (Wk.Ch ((w.alloc (.cells #[.int .i64 0, .int .i64 0, .int .i64 0, .int .i64 0, .int .i64 0, .int .i64 0, .int .i64 0, .int .i64 0, .slice none 0 0] 24)).alloc (.cells #[.int .i64 6, .int .i64 0, .int .i64 0, .int .i64 0, .int .i64 0, .int .i64 m, .int .i64 0, .int .i64 d, .slice none 0 0] 24)) w.heap.size Wk.c0 (.slice none 0 0)) := Wc.hid (chAl (Wk.Ch.new w Wk.c0 (.slice none 0 0)) _)
  have B0 : Hid (Below w.heap.size w ((w.alloc (.cells #[.int .i64 0, .int .i64 0, .int .i64 0, .int .i64 0, .int .i64 0, .int .i64 0, .int .i64 0, .int .i64 0, .slice none 0 0] 24)).alloc (.cells #[.int .i64 6, .int .i64 0, .int .i64 0, .int .i64 0, .int .i64 0, .int .i64 m, .int .i64 0, .int .i64 d, .slice none 0 0] 24))) := Wc.hid (((Below.refl w.heap.size w).alloc (Nat.le_refl _) _).alloc (by simp) _)
  have HC := Wc.hid (refCmd_any ⟨6, 0, 0, 0, 0, m, 0, d, []⟩ none 0 · (by simp) HH.out)
  generalize Wk.cmdB ⟨6, 0, 0, 0, 0, m, 0, d, []⟩ = R at HC ⊢
  clear hv hxl
  go_enter Try.func33, Try.ntmps33
  go_wp2_with fail
  refine (refGet4_any b off 8 cap 0 xs _ HV.out (by omega) hcap.1 hcap.2).mono ?_
  rintro e w1 ⟨rfl, rfl⟩
  rw [Hm.out]
  go_wp2_with fail
  refine (refGet4_any b off 8 cap 4 xs _ HV.out (by omega) hcap.1 hcap.2).mono ?_
  rintro e w1 ⟨rfl, rfl⟩
  rw [Hd.out]
  go_wp2_with fail
  obtain ⟨W, hW⟩ : ∃ W, ((w.alloc (.cells #[.int .i64 0, .int .i64 0, .int .i64 0, .int .i64 0, .int .i64 0, .int .i64 0, .int .i64 0, .int .i64 0, .slice none 0 0] 24)).alloc (.cells #[.int .i64 6, .int .i64 0, .int .i64 0, .int .i64 0, .int .i64 0, .int .i64 m, .int .i64 0, .int .i64 d, .slice none 0 0] 24)) = W := ⟨_, rfl⟩
  rw [hW] at C0 R0 B0 ⊢
  clear hW
  have ⟨c0, c1, c2, c3, c4, c5, c6, c7, c8⟩ := C0.out.cc; have k0 := C0.out.frozen 0; have k1 := C0.out.frozen 1; have k2 := C0.out.frozen 2; have k3 := C0.out.frozen 3; have k4 := C0.out.frozen 4; have k5 := C0.out.frozen 5; have k6 := C0.out.frozen 6; have k7 := C0.out.frozen 7; have k8 := C0.out.frozen 8
  go_region_with (go_at_call 17; refine (HC.out _).mono ?_; rintro e w2 ⟨rfl, hb2⟩; have C2 := (C0.out.keep (show_drew (Below.refl _ _))).keep hb2; have R2 := (R0.out.keep (show_drew (Below.refl _ _))).keep hb2; have ⟨r0, r1, r2, r3, r4, r5, r6, r7, r8⟩ := R2.cc; have f0 := R2.frozen 0; have f1 := R2.frozen 1; have f2 := R2.frozen 2; have f3 := R2.frozen 3; have f4 := R2.frozen 4; have f5 := R2.frozen 5; have f6 := R2.frozen 6; have f7 := R2.frozen 7; have f8 := R2.frozen 8; have ⟨e0, e1, e2, e3, e4, e5, e6, e7, e8⟩ := C2.cc)
  all_goals go_wp2_with fail
  all_goals exact bodyPost_ret (ret_cell9b rfl rfl rfl (R2.over ⟨6, 0, 0, 0, 0, m, 0, d, []⟩ (.slice none 0 0)).cc) rfl ⟨⟨6, 0, 0, 0, 0, m, 0, d, []⟩, none, 0, rfl, fun _ => rfl, Wc.Ob.nil _ _ _, Wk.below_ovr (Wc.step (show_drew B0.out) (Nat.le_refl _) hb2) (Nat.le_refl _) ⟨6, 0, 0, 0, 0, m, 0, d, []⟩ (.slice none 0 0)⟩

set_option maxRecDepth 100000 in
set_option maxHeartbeats 1600000 in
theorem refComNo_6 (b off n cap : Nat) (xs : List Int) (w : World) (hv : Wc.Bs w (.slice (some ⟨b, off, none⟩) n cap) xs) (hn : ¬ n = 8) :
    Calls Try.prog 33 #[.int .i64 6, .slice (some ⟨b, off, none⟩) n cap] w fun e w' => ∃ c a q, e = .returned (.tuple #[cv c (.slice a c.data.length q), .bool (Wk.okB 6 xs)]) ∧ (Wk.okB 6 xs = true → c = Wk.raw 6 xs) ∧ Wc.Ob 5 w.heap.size w' (.slice a c.data.length q) c.data ∧ Below w.heap.size w w' := by
  have hxl := Wc.bs_len hv
  have hok : Wk.okB 6 xs = false := by unfold Wk.okB; rw [show Wk.lenB 6 xs = false by simp [Wk.lenB]; omega]; rfl
  rw [hok]
  have hne : ((n : Int) == 8) = false := by simp; omega
  clear hok hxl hn
  have HV := Wc.hid ((hv.alloc (.cells #[.int .i64 0, .int .i64 0, .int .i64 0, .int .i64 0, .int .i64 0, .int .i64 0, .int .i64 0, .int .i64 0, .slice none 0 0] 24)).alloc (.cells #[.int .i64 6, .int .i64 0, .int .i64 0, .int .i64 0, .int .i64 0, .int .i64 0, .int .i64 0, .int .i64 0, .slice none 0 0] 24))
  have C0 : Hid (Wk.Ch ((w.alloc (.cells #[.int .i64 0, .int .i64 0, .int .i64 0, .int .i64 0, .int .i64 0, .int .i64 0, .int .i64 0, .int .i64 0, .slice none 0 0] 24)).alloc (.cells #[.int .i64 6, .int .i64 0, .int .i64 0, .int .i64 0, .int .i64 0, .int .i64 0, .int .i64 0, .int .i64 0, .slice none 0 0] 24)) (w.heap.size + 1) ⟨6, 0, 0, 0, 0, 0, 0, 0, []⟩ (.slice none 0 0)) := Wc.hid (chAt (c := ⟨6, 0, 0, 0, 0, 0, 0, 0, []⟩) (v := .slice none 0 0) _ (by simp))
  have R0 : Hid (Wk.Ch ((w.alloc (.cells #[.int .i64 0, .int .i64 0, .int .i64 0, .int .i64 0, .int .i64 0, .int .i64 0, .int .i64 0, .int .i64 0, .slice none 0 0] 24)).alloc (.cells #[.int .i64 6, .int .i64 0, .int .i64 0, .int .i64 0, .int .i64 0, .int .i64 0, .int .i64 0, .int .i64 0, .slice none 0 0] 24)) w.heap.size Wk.c0 (.slice none 0 0)) := Wc.hid (chAl (Wk.Ch.new w Wk.c0 (.slice none 0 0)) _)
  have B0 : Hid (Below w.heap.size w ((w.alloc (.cells #[.int .i64 0, .int .i64 0, .int .i64 0, .int .i64 0, .int .i64 0, .int .i64 0, .int .i64 0, .int .i64 0, .slice none 0 0] 24)).alloc (.cells #[.int .i64 6, .int .i64 0, .int .i64 0, .int .i64 0, .int .i64 0, .int .i64 0, .int .i64 0, .int .i64 0, .slice none 0 0] 24))) := Wc.hid (((Below.refl w.heap.size w).alloc (Nat.le_refl _) _).alloc (by simp) _)
  clear hv
  go_enter Try.func33, Try.ntmps33
  go_wp2_with fail
  obtain ⟨W, hW⟩ : ∃ W, ((w.alloc (.cells #[.int .i64 0, .int .i64 0, .int .i64 0, .int .i64 0, .int .i64 0, .int .i64 0, .int .i64 0, .int .i64 0, .slice none 0 0] 24)).alloc (.cells #[.int .i64 6, .int .i64 0, .int .i64 0, .int .i64 0, .int .i64 0, .int .i64 0, .int .i64 0, .int .i64 0, .slice none 0 0] 24)) = W := ⟨_, rfl⟩
  rw [hW] at C0 R0 B0 ⊢
  clear hW
  have ⟨c0, c1, c2, c3, c4, c5, c6, c7, c8⟩ := C0.out.cc; have k0 := C0.out.frozen 0; have k1 := C0.out.frozen 1; have k2 := C0.out.frozen 2; have k3 := C0.out.frozen 3; have k4 := C0.out.frozen 4; have k5 := C0.out.frozen 5; have k6 := C0.out.frozen 6; have k7 := C0.out.frozen 7; have k8 := C0.out.frozen 8
  have ⟨r0, r1, r2, r3, r4, r5, r6, r7, r8⟩ := R0.out.cc; have f0 := R0.out.frozen 0; have f1 := R0.out.frozen 1; have f2 := R0.out.frozen 2; have f3 := R0.out.frozen 3; have f4 := R0.out.frozen 4; have f5 := R0.out.frozen 5; have f6 := R0.out.frozen 6; have f7 := R0.out.frozen 7; have f8 := R0.out.frozen 8
  first | go_region | fail
  all_goals go_wp2_with fail
  all_goals exact bodyPost_ret (ret_cell9b rfl rfl rfl ((R0.out.over ⟨6, 0, 0, 0, 0, 0, 0, 0, []⟩ (.slice none 0 0)).keep (show_drew (Below.refl _ _))).cc) rfl ⟨⟨6, 0, 0, 0, 0, 0, 0, 0, []⟩, none, 0, rfl, Wc.Ob.nil _ _ _, show_drew (Wk.below_ovr B0.out (Nat.le_refl _) ⟨6, 0, 0, 0, 0, 0, 0, 0, []⟩ (.slice none 0 0))⟩

set_option maxRecDepth 100000 in
set_option maxHeartbeats 1600000 in
theorem refComNone (k : Int) (b off n cap : Nat) (xs : List Int) (w : World) (hv : Wc.Bs w (.slice (some ⟨b, off, none⟩) n cap) xs) (hk : ¬ k = 1 ∧ ¬ k = 2 ∧ ¬ k = 3 ∧ ¬ k = 4 ∧ ¬ k = 5 ∧ ¬ k = 6) :
    Calls Try.prog 33 #[.int .i64 k, .slice (some ⟨b, off, none⟩) n cap] w fun e w' => ∃ c a q, e = .returned (.tuple #[cv c (.slice a c.data.length q), .bool (Wk.okB k xs)]) ∧ (Wk.okB k xs = true → c = Wk.raw k xs) ∧ Wc.Ob 5 w.heap.size w' (.slice a c.data.length q) c.data ∧ Below w.heap.size w w' := by
  have hok : Wk.okB k xs = false := by unfold Wk.okB Wk.lenB; rw [if_neg hk.1, if_neg hk.2.1, if_neg hk.2.2.1, if_neg hk.2.2.2.1, if_neg hk.2.2.2.2.1, if_neg hk.2.2.2.2.2]; rfl
  rw [hok]
  obtain ⟨h1, h2, h3, h4, h5, h6⟩ := hk
  clear hok
  have HV := Wc.hid ((hv.alloc (.cells #[.int .i64 0, .int .i64 0, .int .i64 0, .int .i64 0, .int .i64 0, .int .i64 0, .int .i64 0, .int .i64 0, .slice none 0 0] 24)).alloc (.cells #[.int .i64 k, .int .i64 0, .int .i64 0, .int .i64 0, .int .i64 0, .int .i64 0, .int .i64 0, .int .i64 0, .slice none 0 0] 24))
  have C0 : Hid (Wk.Ch ((w.alloc (.cells #[.int .i64 0, .int .i64 0, .int .i64 0, .int .i64 0, .int .i64 0, .int .i64 0, .int .i64 0, .int .i64 0, .slice none 0 0] 24)).alloc (.cells #[.int .i64 k, .int .i64 0, .int .i64 0, .int .i64 0, .int .i64 0, .int .i64 0, .int .i64 0, .int .i64 0, .slice none 0 0] 24)) (w.heap.size + 1) ⟨k, 0, 0, 0, 0, 0, 0, 0, []⟩ (.slice none 0 0)) := Wc.hid (chAt (c := ⟨k, 0, 0, 0, 0, 0, 0, 0, []⟩) (v := .slice none 0 0) _ (by simp))
  have R0 : Hid (Wk.Ch ((w.alloc (.cells #[.int .i64 0, .int .i64 0, .int .i64 0, .int .i64 0, .int .i64 0, .int .i64 0, .int .i64 0, .int .i64 0, .slice none 0 0] 24)).alloc (.cells #[.int .i64 k, .int .i64 0, .int .i64 0, .int .i64 0, .int .i64 0, .int .i64 0, .int .i64 0, .int .i64 0, .slice none 0 0] 24)) w.heap.size Wk.c0 (.slice none 0 0)) := Wc.hid (chAl (Wk.Ch.new w Wk.c0 (.slice none 0 0)) _)
  have B0 : Hid (Below w.heap.size w ((w.alloc (.cells #[.int .i64 0, .int .i64 0, .int .i64 0, .int .i64 0, .int .i64 0, .int .i64 0, .int .i64 0, .int .i64 0, .slice none 0 0] 24)).alloc (.cells #[.int .i64 k, .int .i64 0, .int .i64 0, .int .i64 0, .int .i64 0, .int .i64 0, .int .i64 0, .int .i64 0, .slice none 0 0] 24))) := Wc.hid (((Below.refl w.heap.size w).alloc (Nat.le_refl _) _).alloc (by simp) _)
  clear hv
  go_enter Try.func33, Try.ntmps33
  go_wp2_with fail
  obtain ⟨W, hW⟩ : ∃ W, ((w.alloc (.cells #[.int .i64 0, .int .i64 0, .int .i64 0, .int .i64 0, .int .i64 0, .int .i64 0, .int .i64 0, .int .i64 0, .slice none 0 0] 24)).alloc (.cells #[.int .i64 k, .int .i64 0, .int .i64 0, .int .i64 0, .int .i64 0, .int .i64 0, .int .i64 0, .int .i64 0, .slice none 0 0] 24)) = W := ⟨_, rfl⟩
  rw [hW] at C0 R0 B0 ⊢
  clear hW
  have ⟨c0, c1, c2, c3, c4, c5, c6, c7, c8⟩ := C0.out.cc; have k0 := C0.out.frozen 0; have k1 := C0.out.frozen 1; have k2 := C0.out.frozen 2; have k3 := C0.out.frozen 3; have k4 := C0.out.frozen 4; have k5 := C0.out.frozen 5; have k6 := C0.out.frozen 6; have k7 := C0.out.frozen 7; have k8 := C0.out.frozen 8
  have ⟨r0, r1, r2, r3, r4, r5, r6, r7, r8⟩ := R0.out.cc; have f0 := R0.out.frozen 0; have f1 := R0.out.frozen 1; have f2 := R0.out.frozen 2; have f3 := R0.out.frozen 3; have f4 := R0.out.frozen 4; have f5 := R0.out.frozen 5; have f6 := R0.out.frozen 6; have f7 := R0.out.frozen 7; have f8 := R0.out.frozen 8
  first | go_region | fail
  all_goals go_wp2_with fail
  all_goals exact bodyPost_ret (ret_cell9b rfl rfl rfl ((R0.out.over ⟨k, 0, 0, 0, 0, 0, 0, 0, []⟩ (.slice none 0 0)).keep (show_drew (Below.refl _ _))).cc) rfl ⟨⟨k, 0, 0, 0, 0, 0, 0, 0, []⟩, none, 0, rfl, Wc.Ob.nil _ _ _, show_drew (Wk.below_ovr B0.out (Nat.le_refl _) ⟨k, 0, 0, 0, 0, 0, 0, 0, []⟩ (.slice none 0 0))⟩

end Go.Proofs.Ytfejabeifabdlaa
