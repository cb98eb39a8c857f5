/-
  What the page's command returns, for every kind and payload.
-/
import Derived.Test.YtfejabeifabdlaaGcm2
namespace Wk
open Go Go.RowKit
theorem Ch.setD {w : World} {R : Nat} {c : Cmd} {v : Value} (h : Ch w R c v) (D : List Int) (u : Value) : Ch (w.setCell ⟨R, 8, none⟩ u) R ⟨c.kind, c.id, c.parent, c.size, c.start, c.count, c.source, c.digest, D⟩ u := by
  unfold Ch
  rw [heap_setCell_same w R 8 _ 24 u h]
  simp
end Wk
namespace Go.Proofs.Ytfejabeifabdlaa
open Go.RowKit

set_option maxRecDepth 100000 in
set_option maxHeartbeats 1600000 in
theorem refCom_2 (b off n cap : Nat) (xs : List Int) (w : World) (hv : Wc.Bs w (.slice (some ⟨b, off, none⟩) n cap) xs) (hcap : n < cap) (h8 : 8 < n) (hn : (n : Int) = 8 + 64 * Ws.num xs 4 4) :
    Calls Try.prog 33 #[.int .i64 2, .slice (some ⟨b, off, none⟩) n cap] w fun e w' => ∃ c a q, e = .returned (.tuple #[cv c (.slice a c.data.length q), .bool (Wk.okB 2 xs)]) ∧ (Wk.okB 2 xs = true → c = Wk.raw 2 xs) ∧ Wc.Ob 5 w.heap.size w' (.slice a c.data.length q) c.data ∧ Below w.heap.size w w' := by
  have hcc := Wc.bs_cap hv
  have hxl := Wc.bs_len hv
  have hnb : n ≤ 140737488355328 := by obtain ⟨_, m, _, h, _, _, _, h5, _⟩ := hv; cases h; exact h5
  have HV0 := Wc.hid hv
  have HV := Wc.hid ((hv.alloc (.cells #[.int .i64 0, .int .i64 0, .int .i64 0, .int .i64 0, .int .i64 0, .int .i64 0, .int .i64 0, .int .i64 0, .slice none 0 0] 24)).alloc (.cells #[.int .i64 2, .int .i64 0, .int .i64 0, .int .i64 0, .int .i64 0, .int .i64 0, .int .i64 0, .int .i64 0, .slice none 0 0] 24))
  have hok : Wk.okB 2 xs = Wk.cmdB (Wk.raw 2 xs) := by unfold Wk.okB; rw [show Wk.lenB 2 xs = true by simp [Wk.lenB, hxl]; omega, Bool.true_and]
  rw [hok, Wk.raw2]
  clear hok
  have hx := Wc.bs_bytes hv
  have hbf := Wk.num4_bd xs 0 hx
  have hbv := Wk.num4_bd xs 4 hx
  obtain ⟨f, hf⟩ : ∃ f, Ws.num xs 0 4 = f := ⟨_, rfl⟩
  have Hf : Hid (Wc.val ((xs.drop 0).take 4) = f) := Wc.hid hf
  rw [hf] at hbf ⊢
  clear hf
  obtain ⟨v, hvv⟩ : ∃ v, Ws.num xs 4 4 = v := ⟨_, rfl⟩
  have Hv : Hid (Wc.val ((xs.drop 4).take 4) = v) := Wc.hid hvv
  rw [hvv] at hbv hn
  clear hvv
  have HSL : Hid (Wc.Bs w (.slice (some ⟨b, off + 8, none⟩) (n - 8) (cap - 8)) (xs.drop 8)) := Wc.hid (by
    have := Wc.bs_mid hv 8 (n - 8) (by omega)
    rwa [List.take_of_length_le (by rw [List.length_drop]; omega)] at this)
  have HDL : Hid ((xs.drop 8).length = n - 8) := Wc.hid (by rw [List.length_drop]; omega)
  obtain ⟨D, hD⟩ : ∃ D, xs.drop 8 = D := ⟨_, rfl⟩
  rw [hD] at HSL HDL ⊢
  clear hD
  have hsl : ∀ w', (Instr.slice 22 (.slice (some ⟨b, off, none⟩) n cap) (some (.int .i64 8)) none none).run Try.prog w' = .ok (.slice (some ⟨b, off + 8, none⟩) (n - 8) (cap - 8)) w' := fun w' => slice_from (some ⟨b, off, none⟩) n cap 8 (by omega) (by omega) w'
  have g1 : (8 : Int) < (n : Int) := by omega
  have g2 : ((n : Int) == 8 + 64 * v) = true := by simp; omega
  have g3 : wrap64 (64 * v) = 64 * v := by unfold wrap64; omega
  have HH : Hid (Wk.Held ⟨2, 0, 0, 0, f, 0, 0, 0, D⟩) := Wc.hid (by unfold Wk.Held Wk.I64; simp only; omega)
  have C0 : Hid (Wk.Ch ((w.alloc (.cells #[.int .i64 0, .int .i64 0, .int .i64 0, .int .i64 0, .int .i64 0, .int .i64 0, .int .i64 0, .int .i64 0, .slice none 0 0] 24)).alloc (.cells #[.int .i64 2, .int .i64 0, .int .i64 0, .int .i64 0, .int .i64 f, .int .i64 0, .int .i64 0, .int .i64 0, .slice none 0 0] 24)) (w.heap.size + 1) ⟨2, 0, 0, 0, f, 0, 0, 0, []⟩ (.slice none 0 0)) := Wc.hid (chAt (c := ⟨2, 0, 0, 0, f, 0, 0, 0, []⟩) (v := .slice none 0 0) _ (by simp))
  have R0 : Hid (Wk.Ch ((w.alloc (.cells #[.int .i64 0, .int .i64 0, .int .i64 0, .int .i64 0, .int .i64 0, .int .i64 0, .int .i64 0, .int .i64 0, .slice none 0 0] 24)).alloc (.cells #[.int .i64 2, .int .i64 0, .int .i64 0, .int .i64 0, .int .i64 f, .int .i64 0, .int .i64 0, .int .i64 0, .slice none 0 0] 24)) w.heap.size Wk.c0 (.slice none 0 0)) := Wc.hid (chAl (Wk.Ch.new w Wk.c0 (.slice none 0 0)) _)
  have B0 : Hid (Below w.heap.size w ((w.alloc (.cells #[.int .i64 0, .int .i64 0, .int .i64 0, .int .i64 0, .int .i64 0, .int .i64 0, .int .i64 0, .int .i64 0, .slice none 0 0] 24)).alloc (.cells #[.int .i64 2, .int .i64 0, .int .i64 0, .int .i64 0, .int .i64 f, .int .i64 0, .int .i64 0, .int .i64 0, .slice none 0 0] 24))) := Wc.hid (((Below.refl w.heap.size w).alloc (Nat.le_refl _) _).alloc (by simp) _)
  have HC := Wc.hid (fun a q w => refCmd_any ⟨2, 0, 0, 0, f, 0, 0, 0, D⟩ a q w (show D.length ≤ _ by rw [HDL.out]; omega) HH.out)
  generalize Wk.cmdB ⟨2, 0, 0, 0, f, 0, 0, 0, D⟩ = R at HC ⊢
  have HL0 : Hid (([] : List Int).length + D.length ≤ 140737488355328) := Wc.hid (by rw [HDL.out]; simp; omega)
  clear hv hxl hx
  go_enter Try.func33, Try.ntmps33
  go_wp2_with fail
  refine (refGet4_any b off n cap 4 xs _ HV.out (by omega) hcc.1 hcc.2).mono ?_
  rintro e w1 ⟨rfl, rfl⟩
  rw [Hv.out]
  go_wp2_with fail
  refine (refGet4_any b off n cap 0 xs _ HV.out (by omega) hcc.1 hcc.2).mono ?_
  rintro e w1 ⟨rfl, rfl⟩
  rw [Hf.out]
  go_wp2_with fail
  obtain ⟨W, hW⟩ : ∃ W, ((w.alloc (.cells #[.int .i64 0, .int .i64 0, .int .i64 0, .int .i64 0, .int .i64 0, .int .i64 0, .int .i64 0, .int .i64 0, .slice none 0 0] 24)).alloc (.cells #[.int .i64 2, .int .i64 0, .int .i64 0, .int .i64 0, .int .i64 f, .int .i64 0, .int .i64 0, .int .i64 0, .slice none 0 0] 24)) = W := ⟨_, rfl⟩
  rw [hW] at C0 R0 B0 ⊢
  clear hW
  have ⟨c0, c1, c2, c3, c4, c5, c6, c7, c8⟩ := C0.out.cc; have k0 := C0.out.frozen 0; have k1 := C0.out.frozen 1; have k2 := C0.out.frozen 2; have k3 := C0.out.frozen 3; have k4 := C0.out.frozen 4; have k5 := C0.out.frozen 5; have k6 := C0.out.frozen 6; have k7 := C0.out.frozen 7; have k8 := C0.out.frozen 8
  go_region_law (refine step_append_ob W.heap.size rfl rfl rfl rfl (by exact Wc.Ob.nil 5 W.heap.size W.drew) (by exact HSL.out.keep (show_drew B0.out)) (.inr ⟨_, _, _, rfl⟩) HL0.out (by exact Nat.le_refl _) ?_; intro v6 w6 hO6 hb6; obtain ⟨a6, q6, rfl⟩ := ob_slice hO6; have C6 := C0.out.below ((show_drew (Below.refl _ _)).trans hb6) C0.out.lt; have k6 := C6.cc.2.2.2.2.2.2.2.2; have k7 := C6.frozen 8)
  rw [List.nil_append] at hO6
  have hB6 := B0.out.trans (((show_drew (Below.refl W.heap.size W)).trans hb6).mono B0.out.size)
  have C7 := Wc.hid (C6.setD D (.slice a6 D.length q6))
  have R7 := Wc.hid ((R0.out.below ((show_drew (Below.refl _ _)).trans hb6) R0.out.lt).other (show w.heap.size ≠ w.heap.size + 1 by omega) 8 (.slice a6 D.length q6))
  have B7 := Wc.hid (hB6.setCell (p := ⟨w.heap.size + 1, 8, none⟩) (Nat.le_succ _) (.slice a6 D.length q6))
  have O7 := Wc.hid (ob_other hO6 C0.out.lt 8 (.slice a6 D.length q6))
  have HRL := Wc.hid R0.out.lt
  clear hO6 hb6 C6 k6 k7 hB6 hsl c0 c1 c2 c3 c4 c5 c6 c7 c8 k0 k1 k2 k3 k4 k5
  obtain ⟨W7, hW7⟩ : ∃ W7, w6.setCell ⟨w.heap.size + 1, 8, none⟩ (.slice a6 D.length q6) = W7 := ⟨_, rfl⟩
  rw [hW7] at C7 R7 B7 O7 ⊢
  clear hW7
  have ⟨c0, c1, c2, c3, c4, c5, c6, c7, c8⟩ := C7.out.cc; have k0 := C7.out.frozen 0; have k1 := C7.out.frozen 1; have k2 := C7.out.frozen 2; have k3 := C7.out.frozen 3; have k4 := C7.out.frozen 4; have k5 := C7.out.frozen 5; have k6 := C7.out.frozen 6; have k7 := C7.out.frozen 7; have k8 := C7.out.frozen 8
  go_wp2_with fail
  go_region_with (go_at_call 17; refine (HC.out a6 q6 _).mono ?_; rintro e w2 ⟨rfl, hb2⟩; have C2 := (C7.out.keep (show_drew (Below.refl _ _))).keep hb2; have R2 := (R7.out.keep (show_drew (Below.refl _ _))).keep hb2; have ⟨r0, r1, r2, r3, r4, r5, r6, r7, r8⟩ := R2.cc; have f0 := R2.frozen 0; have f1 := R2.frozen 1; have f2 := R2.frozen 2; have f3 := R2.frozen 3; have f4 := R2.frozen 4; have f5 := R2.frozen 5; have f6 := R2.frozen 6; have f7 := R2.frozen 7; have f8 := R2.frozen 8; have ⟨e0, e1, e2, e3, e4, e5, e6, e7, e8⟩ := C2.cc)
  all_goals go_wp2_with fail
  all_goals exact bodyPost_ret (ret_cell9b rfl rfl rfl (R2.over ⟨2, 0, 0, 0, f, 0, 0, 0, D⟩ (.slice a6 D.length q6)).cc) rfl ⟨⟨2, 0, 0, 0, f, 0, 0, 0, D⟩, a6, q6, rfl, fun _ => rfl, (ob_ovr ((O7.out.keep (show_drew (Below.refl _ _))).keep hb2) HRL.out ⟨2, 0, 0, 0, f, 0, 0, 0, D⟩ (.slice a6 D.length q6)).base B0.out.size, Wk.below_ovr (Wc.step (show_drew B7.out) (Nat.le_refl _) hb2) (Nat.le_refl _) ⟨2, 0, 0, 0, f, 0, 0, 0, D⟩ (.slice a6 D.length q6)⟩

set_option maxRecDepth 100000 in
set_option maxHeartbeats 1600000 in
theorem refComNo_2a (b off n cap : Nat) (xs : List Int) (w : World) (hv : Wc.Bs w (.slice (some ⟨b, off, none⟩) n cap) xs) (hn : ¬ 8 < n) :
    Calls Try.prog 33 #[.int .i64 2, .slice (some ⟨b, off, none⟩) n cap] w fun e w' => ∃ c a q, e = .returned (.tuple #[cv c (.slice a c.data.length q), .bool (Wk.okB 2 xs)]) ∧ (Wk.okB 2 xs = true → c = Wk.raw 2 xs) ∧ Wc.Ob 5 w.heap.size w' (.slice a c.data.length q) c.data ∧ Below w.heap.size w w' := by
  have hxl := Wc.bs_len hv
  have hok : Wk.okB 2 xs = false := by unfold Wk.okB; rw [show Wk.lenB 2 xs = false by simp [Wk.lenB]; omega]; rfl
  rw [hok]
  have g1 : ¬ (8 : Int) < (n : Int) := by omega
  clear hok hxl hn
  have HV := Wc.hid ((hv.alloc (.cells #[.int .i64 0, .int .i64 0, .int .i64 0, .int .i64 0, .int .i64 0, .int .i64 0, .int .i64 0, .int .i64 0, .slice none 0 0] 24)).alloc (.cells #[.int .i64 2, .int .i64 0, .int .i64 0, .int .i64 0, .int .i64 0, .int .i64 0, .int .i64 0, .int .i64 0, .slice none 0 0] 24))
  have C0 : Hid (Wk.Ch ((w.alloc (.cells #[.int .i64 0, .int .i64 0, .int .i64 0, .int .i64 0, .int .i64 0, .int .i64 0, .int .i64 0, .int .i64 0, .slice none 0 0] 24)).alloc (.cells #[.int .i64 2, .int .i64 0, .int .i64 0, .int .i64 0, .int .i64 0, .int .i64 0, .int .i64 0, .int .i64 0, .slice none 0 0] 24)) (w.heap.size + 1) ⟨2, 0, 0, 0, 0, 0, 0, 0, []⟩ (.slice none 0 0)) := Wc.hid (chAt (c := ⟨2, 0, 0, 0, 0, 0, 0, 0, []⟩) (v := .slice none 0 0) _ (by simp))
  have R0 : Hid (Wk.Ch ((w.alloc (.cells #[.int .i64 0, .int .i64 0, .int .i64 0, .int .i64 0, .int .i64 0, .int .i64 0, .int .i64 0, .int .i64 0, .slice none 0 0] 24)).alloc (.cells #[.int .i64 2, .int .i64 0, .int .i64 0, .int .i64 0, .int .i64 0, .int .i64 0, .int .i64 0, .int .i64 0, .slice none 0 0] 24)) w.heap.size Wk.c0 (.slice none 0 0)) := Wc.hid (chAl (Wk.Ch.new w Wk.c0 (.slice none 0 0)) _)
  have B0 : Hid (Below w.heap.size w ((w.alloc (.cells #[.int .i64 0, .int .i64 0, .int .i64 0, .int .i64 0, .int .i64 0, .int .i64 0, .int .i64 0, .int .i64 0, .slice none 0 0] 24)).alloc (.cells #[.int .i64 2, .int .i64 0, .int .i64 0, .int .i64 0, .int .i64 0, .int .i64 0, .int .i64 0, .int .i64 0, .slice none 0 0] 24))) := Wc.hid (((Below.refl w.heap.size w).alloc (Nat.le_refl _) _).alloc (by simp) _)
  clear hv
  go_enter Try.func33, Try.ntmps33
  go_wp2_with fail
  obtain ⟨W, hW⟩ : ∃ W, ((w.alloc (.cells #[.int .i64 0, .int .i64 0, .int .i64 0, .int .i64 0, .int .i64 0, .int .i64 0, .int .i64 0, .int .i64 0, .slice none 0 0] 24)).alloc (.cells #[.int .i64 2, .int .i64 0, .int .i64 0, .int .i64 0, .int .i64 0, .int .i64 0, .int .i64 0, .int .i64 0, .slice none 0 0] 24)) = W := ⟨_, rfl⟩
  rw [hW] at C0 R0 B0 ⊢
  clear hW
  have ⟨c0, c1, c2, c3, c4, c5, c6, c7, c8⟩ := C0.out.cc; have k0 := C0.out.frozen 0; have k1 := C0.out.frozen 1; have k2 := C0.out.frozen 2; have k3 := C0.out.frozen 3; have k4 := C0.out.frozen 4; have k5 := C0.out.frozen 5; have k6 := C0.out.frozen 6; have k7 := C0.out.frozen 7; have k8 := C0.out.frozen 8
  have ⟨r0, r1, r2, r3, r4, r5, r6, r7, r8⟩ := R0.out.cc; have f0 := R0.out.frozen 0; have f1 := R0.out.frozen 1; have f2 := R0.out.frozen 2; have f3 := R0.out.frozen 3; have f4 := R0.out.frozen 4; have f5 := R0.out.frozen 5; have f6 := R0.out.frozen 6; have f7 := R0.out.frozen 7; have f8 := R0.out.frozen 8
  first | go_region | fail
  all_goals go_wp2_with fail
  all_goals exact bodyPost_ret (ret_cell9b rfl rfl rfl ((R0.out.over ⟨2, 0, 0, 0, 0, 0, 0, 0, []⟩ (.slice none 0 0)).keep (show_drew (Below.refl _ _))).cc) rfl ⟨⟨2, 0, 0, 0, 0, 0, 0, 0, []⟩, none, 0, rfl, Wc.Ob.nil _ _ _, show_drew (Wk.below_ovr B0.out (Nat.le_refl _) ⟨2, 0, 0, 0, 0, 0, 0, 0, []⟩ (.slice none 0 0))⟩

set_option maxRecDepth 100000 in
set_option maxHeartbeats 1600000 in
theorem refComNo_2b (b off n cap : Nat) (xs : List Int) (w : World) (hv : Wc.Bs w (.slice (some ⟨b, off, none⟩) n cap) xs) (h8 : 8 < n) (hn : ¬ (n : Int) = 8 + 64 * Ws.num xs 4 4) :
    Calls Try.prog 33 #[.int .i64 2, .slice (some ⟨b, off, none⟩) n cap] w fun e w' => ∃ c a q, e = .returned (.tuple #[cv c (.slice a c.data.length q), .bool (Wk.okB 2 xs)]) ∧ (Wk.okB 2 xs = true → c = Wk.raw 2 xs) ∧ Wc.Ob 5 w.heap.size w' (.slice a c.data.length q) c.data ∧ Below w.heap.size w w' := by
  have hxl := Wc.bs_len hv
  have hcc := Wc.bs_cap hv
  have hok : Wk.okB 2 xs = false := by unfold Wk.okB; rw [show Wk.lenB 2 xs = false by simp [Wk.lenB]; intro _; rw [hxl]; exact hn]; rfl
  rw [hok]
  have hbv := Wk.num4_bd xs 4 (Wc.bs_bytes hv)
  have g1 : (8 : Int) < (n : Int) := by omega
  obtain ⟨v, hvv⟩ : ∃ v, Ws.num xs 4 4 = v := ⟨_, rfl⟩
  have Hv : Hid (Wc.val ((xs.drop 4).take 4) = v) := Wc.hid hvv
  rw [hvv] at hbv hn
  clear hvv
  have g2 : ((n : Int) == 8 + 64 * v) = false := by simpa using hn
  have g3 : wrap64 (64 * v) = 64 * v := by unfold wrap64; omega
  clear hok hxl hn
  have HV := Wc.hid ((hv.alloc (.cells #[.int .i64 0, .int .i64 0, .int .i64 0, .int .i64 0, .int .i64 0, .int .i64 0, .int .i64 0, .int .i64 0, .slice none 0 0] 24)).alloc (.cells #[.int .i64 2, .int .i64 0, .int .i64 0, .int .i64 0, .int .i64 0, .int .i64 0, .int .i64 0, .int .i64 0, .slice none 0 0] 24))
  have C0 : Hid (Wk.Ch ((w.alloc (.cells #[.int .i64 0, .int .i64 0, .int .i64 0, .int .i64 0, .int .i64 0, .int .i64 0, .int .i64 0, .int .i64 0, .slice none 0 0] 24)).alloc (.cells #[.int .i64 2, .int .i64 0, .int .i64 0, .int .i64 0, .int .i64 0, .int .i64 0, .int .i64 0, .int .i64 0, .slice none 0 0] 24)) (w.heap.size + 1) ⟨2, 0, 0, 0, 0, 0, 0, 0, []⟩ (.slice none 0 0)) := Wc.hid (chAt (c := ⟨2, 0, 0, 0, 0, 0, 0, 0, []⟩) (v := .slice none 0 0) _ (by simp))
  have R0 : Hid (Wk.Ch ((w.alloc (.cells #[.int .i64 0, .int .i64 0, .int .i64 0, .int .i64 0, .int .i64 0, .int .i64 0, .int .i64 0, .int .i64 0, .slice none 0 0] 24)).alloc (.cells #[.int .i64 2, .int .i64 0, .int .i64 0, .int .i64 0, .int .i64 0, .int .i64 0, .int .i64 0, .int .i64 0, .slice none 0 0] 24)) w.heap.size Wk.c0 (.slice none 0 0)) := Wc.hid (chAl (Wk.Ch.new w Wk.c0 (.slice none 0 0)) _)
  have B0 : Hid (Below w.heap.size w ((w.alloc (.cells #[.int .i64 0, .int .i64 0, .int .i64 0, .int .i64 0, .int .i64 0, .int .i64 0, .int .i64 0, .int .i64 0, .slice none 0 0] 24)).alloc (.cells #[.int .i64 2, .int .i64 0, .int .i64 0, .int .i64 0, .int .i64 0, .int .i64 0, .int .i64 0, .int .i64 0, .slice none 0 0] 24))) := Wc.hid (((Below.refl w.heap.size w).alloc (Nat.le_refl _) _).alloc (by simp) _)
  clear hv
  go_enter Try.func33, Try.ntmps33
  go_wp2_with fail
  refine (refGet4_any b off n cap 4 xs _ HV.out (by omega) hcc.1 hcc.2).mono ?_
  rintro e w1 ⟨rfl, rfl⟩
  rw [Hv.out]
  go_wp2_with fail
  obtain ⟨W, hW⟩ : ∃ W, ((w.alloc (.cells #[.int .i64 0, .int .i64 0, .int .i64 0, .int .i64 0, .int .i64 0, .int .i64 0, .int .i64 0, .int .i64 0, .slice none 0 0] 24)).alloc (.cells #[.int .i64 2, .int .i64 0, .int .i64 0, .int .i64 0, .int .i64 0, .int .i64 0, .int .i64 0, .int .i64 0, .slice none 0 0] 24)) = W := ⟨_, rfl⟩
  rw [hW] at C0 R0 B0 ⊢
  clear hW
  have ⟨c0, c1, c2, c3, c4, c5, c6, c7, c8⟩ := C0.out.cc; have k0 := C0.out.frozen 0; have k1 := C0.out.frozen 1; have k2 := C0.out.frozen 2; have k3 := C0.out.frozen 3; have k4 := C0.out.frozen 4; have k5 := C0.out.frozen 5; have k6 := C0.out.frozen 6; have k7 := C0.out.frozen 7; have k8 := C0.out.frozen 8
  have ⟨r0, r1, r2, r3, r4, r5, r6, r7, r8⟩ := R0.out.cc; have f0 := R0.out.frozen 0; have f1 := R0.out.frozen 1; have f2 := R0.out.frozen 2; have f3 := R0.out.frozen 3; have f4 := R0.out.frozen 4; have f5 := R0.out.frozen 5; have f6 := R0.out.frozen 6; have f7 := R0.out.frozen 7; have f8 := R0.out.frozen 8
  first | go_region | fail
  all_goals go_wp2_with fail
  all_goals exact bodyPost_ret (ret_cell9b rfl rfl rfl ((R0.out.over ⟨2, 0, 0, 0, 0, 0, 0, 0, []⟩ (.slice none 0 0)).keep (show_drew (Below.refl _ _))).cc) rfl ⟨⟨2, 0, 0, 0, 0, 0, 0, 0, []⟩, none, 0, rfl, Wc.Ob.nil _ _ _, show_drew (Wk.below_ovr B0.out (Nat.le_refl _) ⟨2, 0, 0, 0, 0, 0, 0, 0, []⟩ (.slice none 0 0))⟩

theorem refCom_any (k : Int) (b off n cap : Nat) (xs : List Int) (w : World) (hv : Wc.Bs w (.slice (some ⟨b, off, none⟩) n cap) xs) (hcap : n < cap) :
    Calls Try.prog 33 #[.int .i64 k, .slice (some ⟨b, off, none⟩) n cap] w fun e w' => ∃ c a q, e = .returned (.tuple #[cv c (.slice a c.data.length q), .bool (Wk.okB k xs)]) ∧ (Wk.okB k xs = true → c = Wk.raw k xs) ∧ Wc.Ob 5 w.heap.size w' (.slice a c.data.length q) c.data ∧ Below w.heap.size w w' := by
  by_cases h1 : k = 1
  · subst h1
    by_cases hn : n = 24
    · by_cases hi : Wr.i8 (Ws.num xs 0 8) = true ∧ Wr.i8 (Ws.num xs 8 8) = true
      · exact refCom_1y b off n cap xs w hv hn hi
      · exact refCom_1n b off n cap xs w hv hn hi
    · exact refComNo_1 b off n cap xs w hv hn
  by_cases h2 : k = 2
  · subst h2
    by_cases h8 : 8 < n
    · by_cases hn : (n : Int) = 8 + 64 * Ws.num xs 4 4
      · exact refCom_2 b off n cap xs w hv hcap h8 hn
      · exact refComNo_2b b off n cap xs w hv h8 hn
    · exact refComNo_2a b off n cap xs w hv h8
  by_cases h3 : k = 3
  · subst h3
    by_cases hn : n = 8
    · exact refCom_3 b off n cap xs w hv hn
    · exact refComNo_3 b off n cap xs w hv hn
  by_cases h4 : k = 4
  · subst h4
    by_cases hn : n = 12
    · exact refCom_4 b off n cap xs w hv hn
    · exact refComNo_4 b off n cap xs w hv hn
  by_cases h5 : k = 5
  · subst h5
    by_cases hn : n = 4
    · exact refCom_5 b off n cap xs w hv hn
    · exact refComNo_5 b off n cap xs w hv hn
  by_cases h6 : k = 6
  · subst h6
    by_cases hn : n = 8
    · exact refCom_6 b off n cap xs w hv hn
    · exact refComNo_6 b off n cap xs w hv hn
  exact refComNone k b off n cap xs w hv ⟨h1, h2, h3, h4, h5, h6⟩

end Go.Proofs.Ytfejabeifabdlaa
