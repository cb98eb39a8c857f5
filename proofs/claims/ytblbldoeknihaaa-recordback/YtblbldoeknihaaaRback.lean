/-
  RecordBack returns true, for every two records, every int and every four bytes.
-/
import Derived.Test.YtblbldoeknihaaaRwake
import Derived.Test.YtblbldoeknihaaaSquiet
import Derived.Test.YtblbldoeknihaaaSchg
namespace Go.Proofs.Ytblbldoeknihaaa
open Go.RowKit

set_option maxRecDepth 100000 in
set_option maxHeartbeats 3200000 in
theorem recordBack_nn (s t : Wr.Rec) (p x0 x1 x2 x3 : Int) (w : World) (hs : Wr.recB s = false) (ht : Wr.recB t = false) :
    Calls Try.prog 4 #[rv s, rv t, .int .i64 p, .agg #[.int .u8 x0, .int .u8 x1, .int .u8 x2, .int .u8 x3]] w fun e w' => e = .returned (.bool true) ∧ Below w.heap.size w w' := by
  have BW : Hid (Below w.heap.size w (((w.alloc (.cells #[.int .i64 s.next, .int .i64 s.id, .int .i64 s.parent, .int .i64 s.root, .int .i64 s.size, .int .i64 s.kind, .int .i64 s.frames, .int .i64 s.digest] 23)).alloc (.cells #[.int .i64 t.next, .int .i64 t.id, .int .i64 t.parent, .int .i64 t.root, .int .i64 t.size, .int .i64 t.kind, .int .i64 t.frames, .int .i64 t.digest] 23)).alloc (.cells #[.int .u8 x0, .int .u8 x1, .int .u8 x2, .int .u8 x3] 37))) := Wc.hid ((((Below.refl w.heap.size w).alloc (Nat.le_refl _) _).alloc (by simp) _).alloc (by simp; omega) _)
  have A0 : Hid (Rh (((w.alloc (.cells #[.int .i64 s.next, .int .i64 s.id, .int .i64 s.parent, .int .i64 s.root, .int .i64 s.size, .int .i64 s.kind, .int .i64 s.frames, .int .i64 s.digest] 23)).alloc (.cells #[.int .i64 t.next, .int .i64 t.id, .int .i64 t.parent, .int .i64 t.root, .int .i64 t.size, .int .i64 t.kind, .int .i64 t.frames, .int .i64 t.digest] 23)).alloc (.cells #[.int .u8 x0, .int .u8 x1, .int .u8 x2, .int .u8 x3] 37)) w.heap.size s) := Wc.hid (((Rh.new w s).keep ((Below.refl _ _).alloc (Nat.le_refl _) _)).keep ((Below.refl _ _).alloc (Nat.le_refl _) _))
  have C0 : Hid (Rh (((w.alloc (.cells #[.int .i64 s.next, .int .i64 s.id, .int .i64 s.parent, .int .i64 s.root, .int .i64 s.size, .int .i64 s.kind, .int .i64 s.frames, .int .i64 s.digest] 23)).alloc (.cells #[.int .i64 t.next, .int .i64 t.id, .int .i64 t.parent, .int .i64 t.root, .int .i64 t.size, .int .i64 t.kind, .int .i64 t.frames, .int .i64 t.digest] 23)).alloc (.cells #[.int .u8 x0, .int .u8 x1, .int .u8 x2, .int .u8 x3] 37)) (w.heap.size + 1) t) := Wc.hid (by have := (Rh.new (w.alloc (.cells #[.int .i64 s.next, .int .i64 s.id, .int .i64 s.parent, .int .i64 s.root, .int .i64 s.size, .int .i64 s.kind, .int .i64 s.frames, .int .i64 s.digest] 23)) t).keep ((Below.refl _ _).alloc (Nat.le_refl _) (.cells #[.int .u8 x0, .int .u8 x1, .int .u8 x2, .int .u8 x3] 37)); simpa using this)
  have HS := Wc.hid hs
  have HT := Wc.hid ht
  clear hs ht
  unfold rv
  go_enter Try.func4, Try.ntmps4
  go_wp2_with fail
  refine (bytes8_bad s _ HS.out).mono ?_
  rintro e w1 ⟨rfl, hb1⟩
  have B1 := Wc.hid (Wc.step BW.out (Nat.le_refl _) hb1)
  have C1 := Wc.hid (C0.out.keep hb1)
  have ⟨d0, d1, d2, d3, d4, d5, d6, d7⟩ := C1.out.rc
  go_wp2_with fail
  refine (bytes8_bad t _ HT.out).mono ?_
  rintro e w2 ⟨rfl, hb2⟩
  have B2 := Wc.hid (Wc.step B1.out (Nat.le_refl _) hb2)
  clear d0 d1 d2 d3 d4 d5 d6 d7 hb2 hb1
  go_wp2_with fail
  refine (wakes_any _).mono ?_
  rintro e w3 ⟨rfl, hb3⟩
  go_wp2_with fail
  go_ret
  exact ⟨rfl, Wc.step B2.out (Nat.le_refl _) hb3⟩

set_option maxRecDepth 100000 in
set_option maxHeartbeats 3200000 in
theorem recordBack_ny (s t : Wr.Rec) (p x0 x1 x2 x3 : Int) (w : World) (hs : Wr.recB s = false) (ht : Wr.recB t = true) :
    Calls Try.prog 4 #[rv s, rv t, .int .i64 p, .agg #[.int .u8 x0, .int .u8 x1, .int .u8 x2, .int .u8 x3]] w fun e w' => e = .returned (.bool true) ∧ Below w.heap.size w w' := by
  have BW : Hid (Below w.heap.size w (((w.alloc (.cells #[.int .i64 s.next, .int .i64 s.id, .int .i64 s.parent, .int .i64 s.root, .int .i64 s.size, .int .i64 s.kind, .int .i64 s.frames, .int .i64 s.digest] 23)).alloc (.cells #[.int .i64 t.next, .int .i64 t.id, .int .i64 t.parent, .int .i64 t.root, .int .i64 t.size, .int .i64 t.kind, .int .i64 t.frames, .int .i64 t.digest] 23)).alloc (.cells #[.int .u8 x0, .int .u8 x1, .int .u8 x2, .int .u8 x3] 37))) := Wc.hid ((((Below.refl w.heap.size w).alloc (Nat.le_refl _) _).alloc (by simp) _).alloc (by simp; omega) _)
  have A0 : Hid (Rh (((w.alloc (.cells #[.int .i64 s.next, .int .i64 s.id, .int .i64 s.parent, .int .i64 s.root, .int .i64 s.size, .int .i64 s.kind, .int .i64 s.frames, .int .i64 s.digest] 23)).alloc (.cells #[.int .i64 t.next, .int .i64 t.id, .int .i64 t.parent, .int .i64 t.root, .int .i64 t.size, .int .i64 t.kind, .int .i64 t.frames, .int .i64 t.digest] 23)).alloc (.cells #[.int .u8 x0, .int .u8 x1, .int .u8 x2, .int .u8 x3] 37)) w.heap.size s) := Wc.hid (((Rh.new w s).keep ((Below.refl _ _).alloc (Nat.le_refl _) _)).keep ((Below.refl _ _).alloc (Nat.le_refl _) _))
  have C0 : Hid (Rh (((w.alloc (.cells #[.int .i64 s.next, .int .i64 s.id, .int .i64 s.parent, .int .i64 s.root, .int .i64 s.size, .int .i64 s.kind, .int .i64 s.frames, .int .i64 s.digest] 23)).alloc (.cells #[.int .i64 t.next, .int .i64 t.id, .int .i64 t.parent, .int .i64 t.root, .int .i64 t.size, .int .i64 t.kind, .int .i64 t.frames, .int .i64 t.digest] 23)).alloc (.cells #[.int .u8 x0, .int .u8 x1, .int .u8 x2, .int .u8 x3] 37)) (w.heap.size + 1) t) := Wc.hid (by have := (Rh.new (w.alloc (.cells #[.int .i64 s.next, .int .i64 s.id, .int .i64 s.parent, .int .i64 s.root, .int .i64 s.size, .int .i64 s.kind, .int .i64 s.frames, .int .i64 s.digest] 23)) t).keep ((Below.refl _ _).alloc (Nat.le_refl _) (.cells #[.int .u8 x0, .int .u8 x1, .int .u8 x2, .int .u8 x3] 37)); simpa using this)
  have HS := Wc.hid hs
  have HT := Wc.hid ht
  clear hs ht
  unfold rv
  go_enter Try.func4, Try.ntmps4
  go_wp2_with fail
  refine (bytes8_bad s _ HS.out).mono ?_
  rintro e w1 ⟨rfl, hb1⟩
  have B1 := Wc.hid (Wc.step BW.out (Nat.le_refl _) hb1)
  have C1 := Wc.hid (C0.out.keep hb1)
  have ⟨d0, d1, d2, d3, d4, d5, d6, d7⟩ := C1.out.rc
  go_wp2_with fail
  refine (bytes8_ok t _ HT.out).mono ?_
  rintro e w2 ⟨g2, rfl, hg2, hr2, hb2⟩
  have B2 := Wc.hid (Wc.step B1.out (Nat.le_refl _) hb2)
  clear d0 d1 d2 d3 d4 d5 d6 d7 hb2 hb1
  go_wp2_with fail
  refine (wakes_any _).mono ?_
  rintro e w3 ⟨rfl, hb3⟩
  go_wp2_with fail
  go_ret
  exact ⟨rfl, Wc.step B2.out (Nat.le_refl _) hb3⟩

set_option maxRecDepth 100000 in
set_option maxHeartbeats 3200000 in
theorem recordBack_yn (s t : Wr.Rec) (p x0 x1 x2 x3 : Int) (w : World) (hs : Wr.recB s = true) (ht : Wr.recB t = false) :
    Calls Try.prog 4 #[rv s, rv t, .int .i64 p, .agg #[.int .u8 x0, .int .u8 x1, .int .u8 x2, .int .u8 x3]] w fun e w' => e = .returned (.bool true) ∧ Below w.heap.size w w' := by
  have BW : Hid (Below w.heap.size w (((w.alloc (.cells #[.int .i64 s.next, .int .i64 s.id, .int .i64 s.parent, .int .i64 s.root, .int .i64 s.size, .int .i64 s.kind, .int .i64 s.frames, .int .i64 s.digest] 23)).alloc (.cells #[.int .i64 t.next, .int .i64 t.id, .int .i64 t.parent, .int .i64 t.root, .int .i64 t.size, .int .i64 t.kind, .int .i64 t.frames, .int .i64 t.digest] 23)).alloc (.cells #[.int .u8 x0, .int .u8 x1, .int .u8 x2, .int .u8 x3] 37))) := Wc.hid ((((Below.refl w.heap.size w).alloc (Nat.le_refl _) _).alloc (by simp) _).alloc (by simp; omega) _)
  have A0 : Hid (Rh (((w.alloc (.cells #[.int .i64 s.next, .int .i64 s.id, .int .i64 s.parent, .int .i64 s.root, .int .i64 s.size, .int .i64 s.kind, .int .i64 s.frames, .int .i64 s.digest] 23)).alloc (.cells #[.int .i64 t.next, .int .i64 t.id, .int .i64 t.parent, .int .i64 t.root, .int .i64 t.size, .int .i64 t.kind, .int .i64 t.frames, .int .i64 t.digest] 23)).alloc (.cells #[.int .u8 x0, .int .u8 x1, .int .u8 x2, .int .u8 x3] 37)) w.heap.size s) := Wc.hid (((Rh.new w s).keep ((Below.refl _ _).alloc (Nat.le_refl _) _)).keep ((Below.refl _ _).alloc (Nat.le_refl _) _))
  have C0 : Hid (Rh (((w.alloc (.cells #[.int .i64 s.next, .int .i64 s.id, .int .i64 s.parent, .int .i64 s.root, .int .i64 s.size, .int .i64 s.kind, .int .i64 s.frames, .int .i64 s.digest] 23)).alloc (.cells #[.int .i64 t.next, .int .i64 t.id, .int .i64 t.parent, .int .i64 t.root, .int .i64 t.size, .int .i64 t.kind, .int .i64 t.frames, .int .i64 t.digest] 23)).alloc (.cells #[.int .u8 x0, .int .u8 x1, .int .u8 x2, .int .u8 x3] 37)) (w.heap.size + 1) t) := Wc.hid (by have := (Rh.new (w.alloc (.cells #[.int .i64 s.next, .int .i64 s.id, .int .i64 s.parent, .int .i64 s.root, .int .i64 s.size, .int .i64 s.kind, .int .i64 s.frames, .int .i64 s.digest] 23)) t).keep ((Below.refl _ _).alloc (Nat.le_refl _) (.cells #[.int .u8 x0, .int .u8 x1, .int .u8 x2, .int .u8 x3] 37)); simpa using this)
  have HS := Wc.hid hs
  have HT := Wc.hid ht
  clear hs ht
  unfold rv
  go_enter Try.func4, Try.ntmps4
  go_wp2_with fail
  refine (bytes8_ok s _ HS.out).mono ?_
  rintro e w1 ⟨g1, rfl, hg1, hr1, hb1⟩
  have B1 := Wc.hid (Wc.step BW.out (Nat.le_refl _) hb1)
  have C1 := Wc.hid (C0.out.keep hb1)
  have ⟨d0, d1, d2, d3, d4, d5, d6, d7⟩ := C1.out.rc
  go_wp2_with fail
  refine (bytes8_bad t _ HT.out).mono ?_
  rintro e w2 ⟨rfl, hb2⟩
  have B2 := Wc.hid (Wc.step B1.out (Nat.le_refl _) hb2)
  clear d0 d1 d2 d3 d4 d5 d6 d7 hb2 hb1
  go_wp2_with fail
  refine (wakes_any _).mono ?_
  rintro e w3 ⟨rfl, hb3⟩
  go_wp2_with fail
  go_ret
  exact ⟨rfl, Wc.step B2.out (Nat.le_refl _) hb3⟩

theorem at61 (p : Int) : ∃ A : Nat, A ≤ 60 ∧ wrap64 ((IntKind.u64.wrap p).tmod 61) = (A : Int) := by
  rw [IntKind.wrap_u64, Int.tmod_eq_emod_of_nonneg (by omega)]
  have h1 := Int.emod_nonneg (p % 18446744073709551616) (b := 61) (by omega)
  have h2 := Int.emod_lt_of_pos (p % 18446744073709551616) (b := 61) (by omega)
  obtain ⟨A, hA⟩ := Int.eq_ofNat_of_zero_le h1
  rw [hA] at h2 ⊢
  exact ⟨A, by omega, by unfold wrap64; omega⟩

theorem rec_ne {s t : Wr.Rec} (hs : Wr.recB s = true) (ht : Wr.recB t = true) (h : ¬ s = t) : (Wr.blk s == Wr.blk t) = false := by
  rw [beq_eq_false_iff_ne]
  exact fun e => h (Wr.blk_inj hs ht e)

set_option maxRecDepth 100000 in
set_option maxHeartbeats 6400000 in
theorem recordBack_yes (s t : Wr.Rec) (p x0 x1 x2 x3 : Int) (w : World) (hs : Wr.recB s = true) (ht : Wr.recB t = true) (hb : ∀ x ∈ [x0, x1, x2, x3], 0 ≤ x ∧ x < 256) :
    Calls Try.prog 4 #[rv s, rv t, .int .i64 p, .agg #[.int .u8 x0, .int .u8 x1, .int .u8 x2, .int .u8 x3]] w fun e w' => e = .returned (.bool true) ∧ Below w.heap.size w w' := by
  have BW : Hid (Below w.heap.size w (((w.alloc (.cells #[.int .i64 s.next, .int .i64 s.id, .int .i64 s.parent, .int .i64 s.root, .int .i64 s.size, .int .i64 s.kind, .int .i64 s.frames, .int .i64 s.digest] 23)).alloc (.cells #[.int .i64 t.next, .int .i64 t.id, .int .i64 t.parent, .int .i64 t.root, .int .i64 t.size, .int .i64 t.kind, .int .i64 t.frames, .int .i64 t.digest] 23)).alloc (.cells #[.int .u8 x0, .int .u8 x1, .int .u8 x2, .int .u8 x3] 37))) := Wc.hid ((((Below.refl w.heap.size w).alloc (Nat.le_refl _) _).alloc (by simp) _).alloc (by simp; omega) _)
  have A0 : Hid (Rh (((w.alloc (.cells #[.int .i64 s.next, .int .i64 s.id, .int .i64 s.parent, .int .i64 s.root, .int .i64 s.size, .int .i64 s.kind, .int .i64 s.frames, .int .i64 s.digest] 23)).alloc (.cells #[.int .i64 t.next, .int .i64 t.id, .int .i64 t.parent, .int .i64 t.root, .int .i64 t.size, .int .i64 t.kind, .int .i64 t.frames, .int .i64 t.digest] 23)).alloc (.cells #[.int .u8 x0, .int .u8 x1, .int .u8 x2, .int .u8 x3] 37)) w.heap.size s) := Wc.hid (((Rh.new w s).keep ((Below.refl _ _).alloc (Nat.le_refl _) _)).keep ((Below.refl _ _).alloc (Nat.le_refl _) _))
  have C0 : Hid (Rh (((w.alloc (.cells #[.int .i64 s.next, .int .i64 s.id, .int .i64 s.parent, .int .i64 s.root, .int .i64 s.size, .int .i64 s.kind, .int .i64 s.frames, .int .i64 s.digest] 23)).alloc (.cells #[.int .i64 t.next, .int .i64 t.id, .int .i64 t.parent, .int .i64 t.root, .int .i64 t.size, .int .i64 t.kind, .int .i64 t.frames, .int .i64 t.digest] 23)).alloc (.cells #[.int .u8 x0, .int .u8 x1, .int .u8 x2, .int .u8 x3] 37)) (w.heap.size + 1) t) := Wc.hid (by have := (Rh.new (w.alloc (.cells #[.int .i64 s.next, .int .i64 s.id, .int .i64 s.parent, .int .i64 s.root, .int .i64 s.size, .int .i64 s.kind, .int .i64 s.frames, .int .i64 s.digest] 23)) t).keep ((Below.refl _ _).alloc (Nat.le_refl _) (.cells #[.int .u8 x0, .int .u8 x1, .int .u8 x2, .int .u8 x3] 37)); simpa using this)
  have HS := Wc.hid hs
  have HT := Wc.hid ht
  have HP := Wc.hid (Wr.par_blk hs)
  have HX := Wc.hid hb
  clear hs ht hb
  unfold rv
  go_enter Try.func4, Try.ntmps4
  go_wp2_with fail
  obtain ⟨W, hW⟩ : ∃ W, ((w.alloc (.cells #[.int .i64 s.next, .int .i64 s.id, .int .i64 s.parent, .int .i64 s.root, .int .i64 s.size, .int .i64 s.kind, .int .i64 s.frames, .int .i64 s.digest] 23)).alloc (.cells #[.int .i64 t.next, .int .i64 t.id, .int .i64 t.parent, .int .i64 t.root, .int .i64 t.size, .int .i64 t.kind, .int .i64 t.frames, .int .i64 t.digest] 23)).alloc (.cells #[.int .u8 x0, .int .u8 x1, .int .u8 x2, .int .u8 x3] 37) = W := ⟨_, rfl⟩
  rw [hW] at BW A0 C0 ⊢
  have HW := Wc.hid hW
  clear hW
  refine (bytes8_ok s _ HS.out).mono ?_
  rintro e w1 ⟨g1, rfl, hg1, hr1, hb1⟩
  have B1 := Wc.hid hb1
  have A1 := Wc.hid (A0.out.keep hb1)
  have C1 := Wc.hid (C0.out.keep hb1)
  have R1 := Wc.hid hr1
  clear hr1 hb1
  have ⟨d0, d1, d2, d3, d4, d5, d6, d7⟩ := C1.out.rc
  go_wp2_with fail
  clear d0 d1 d2 d3 d4 d5 d6 d7
  refine (bytes8_ok t _ HT.out).mono ?_
  rintro e w2 ⟨g2, rfl, hg2, hr2, hb2⟩
  have B2 := Wc.hid (Wc.step B1.out (Nat.le_refl _) hb2)
  have A2 := Wc.hid (A1.out.keep hb2)
  have C2 := Wc.hid (C1.out.keep hb2)
  have R2 := Wc.hid (R1.out.keep hb2)
  have V2 := Wc.hid (hr2.bs (Wr.blk_length _) (Wr.blk_bd _))
  clear hr2 hb2
  go_wp2_with fail
  refine (parse8_any _ _ _ (R2.out.bs (Wr.blk_length _) (Wr.blk_bd _))).mono ?_
  rintro e w3 ⟨rfl, hb3⟩
  rw [HP.out.1, HP.out.2]
  unfold rv
  have HAL := Wc.hid ((Below.refl w3.heap.size w3).alloc (Nat.le_refl _) (.cells #[.int .i64 s.next, .int .i64 s.id, .int .i64 s.parent, .int .i64 s.root, .int .i64 s.size, .int .i64 s.kind, .int .i64 s.frames, .int .i64 s.digest] 23))
  have B3 := Wc.hid (Wc.step (Wc.step B2.out (Nat.le_refl _) hb3) (Nat.le_refl _) HAL.out)
  have A3 := Wc.hid ((A2.out.keep hb3).keep HAL.out)
  have C3 := Wc.hid ((C2.out.keep hb3).keep HAL.out)
  have R3 := Wc.hid ((R2.out.keep hb3).keep HAL.out)
  have V3 := Wc.hid ((V2.out.keep hb3).keep HAL.out)
  have D3 := Wc.hid (Rh.new w3 s)
  clear hb3 HAL
  have U3 := Wc.hid (R3.out.bs (Wr.blk_length _) (Wr.blk_bd _))
  go_wp2_with fail
  obtain ⟨W3, hW3⟩ : ∃ W3, w3.alloc (.cells #[.int .i64 s.next, .int .i64 s.id, .int .i64 s.parent, .int .i64 s.root, .int .i64 s.size, .int .i64 s.kind, .int .i64 s.frames, .int .i64 s.digest] 23) = W3 := ⟨_, rfl⟩
  rw [hW3] at B3 A3 C3 R3 V3 D3 U3 ⊢
  clear hW3
  have ⟨a0, a1, a2, a3, a4, a5, a6, a7⟩ := A3.out.rc
  have ⟨c0, c1, c2, c3, c4, c5, c6, c7⟩ := C3.out.rc
  have ⟨d0, d1, d2, d3, d4, d5, d6, d7⟩ := D3.out.rc
  obtain ⟨A, hA, hAt⟩ := at61 p
  obtain ⟨zs, hzs⟩ : ∃ zs, zs = [x0, x1, x2, x3] := ⟨_, rfl⟩
  have HZL : Hid (zs.length = 4) := Wc.hid (by rw [hzs]; rfl)
  have HZB : Hid (∀ x ∈ zs, 0 ≤ x ∧ x < 256) := Wc.hid (by rw [hzs]; exact HX.out)
  have HWS : Hid (w.heap.size + 1 + 1 < W.heap.size) := Wc.hid (by rw [← HW.out]; simp)
  have HWC : Hid (∀ k, k < 4 → W.cell? ⟨w.heap.size + 1 + 1, k, none⟩ = some (.int .u8 (zs.getD k 0))) := Wc.hid (by
    intro k hk
    have e : w.heap.size + 1 + 1 = ((w.alloc (.cells #[.int .i64 s.next, .int .i64 s.id, .int .i64 s.parent, .int .i64 s.root, .int .i64 s.size, .int .i64 s.kind, .int .i64 s.frames, .int .i64 s.digest] 23)).alloc (.cells #[.int .i64 t.next, .int .i64 t.id, .int .i64 t.parent, .int .i64 t.root, .int .i64 t.size, .int .i64 t.kind, .int .i64 t.frames, .int .i64 t.digest] 23)).heap.size := by simp
    rw [← HW.out, e, World.cell?_alloc_mark, hzs]
    rcases k with _ | _ | _ | _ | k
    · rfl
    · rfl
    · rfl
    · rfl
    · omega)
  clear hzs HX
  by_cases hst : s = t
  · subst hst
    have hbl : (Wr.blk s == Wr.blk s) = true := by simp
    go_quiet (first | (go_at_call 10; refine quiet_draws (bytesU _ _ (Wr.blk s) (Wr.blk s) _ (by exact U3.out) (by exact V3.out))) | fail)
    have B4 := Wc.hid (below_drewN B3.out nq)
    have R4 : Hid (Rb (W3.drewN nq) g1 (Wr.blk s)) := R3
    clear B3 A3 C3 R3 V3 D3 U3 a0 a1 a2 a3 a4 a5 a6 a7 c0 c1 c2 c3 c4 c5 c6 c7 d0 d1 d2 d3 d4 d5 d6 d7 C0 A0 A1 C1 R1 A2 C2 R2 V2 B1 B2
    obtain ⟨W4, hW4⟩ : ∃ W4, W3.drewN nq = W4 := ⟨_, rfl⟩
    rw [hW4] at B4 R4 ⊢
    clear hW4
    go_wp2_with fail
    rw [hAt]
    clear hAt hbl
    go_loopw [15, 16] (fun c i wr => ∃ k : Nat, k ≤ 4 ∧ i = .int .i64 k ∧ c = .bool (chgB zs k) ∧ Hid (wr.rowIs g1 5 64 (fun j => .int .u8 (chg (Wr.blk s) zs A k j))) ∧ Hid (Below W.heap.size W wr)) (fun _ i _ => 4 - (intOf i).toNat)
    case atStart => exact ⟨0, by omega, rfl, rfl, Wc.hid (R4.out.congr fun j _ => by rw [chg_zero]), B4⟩
    case round =>
      obtain ⟨k, hk, rfl, rfl, HRR, HBR⟩ := hrel
      by_cases hlt : k < 4
      · have hcc := HRR.out.cell (i := A + k) (by omega)
        have hfz := HRR.out.frozen (A + k)
        rw [chg_old] at hcc
        have hza := (HBR.out.cell (p := ⟨w.heap.size + 1 + 1, k, none⟩) HWS.out).trans (HWC.out k hlt)
        have bu := Wr.blk_bd s ((Wr.blk s).getD (A + k) 0) (by have := Wr.blk_length s; rw [List.getD_eq_getElem?_getD, List.getElem?_eq_getElem (by omega)]; simp)
        have bv := HZB.out (zs.getD k 0) (by have := HZL.out; rw [List.getD_eq_getElem?_getD, List.getElem?_eq_getElem (by omega)]; simp)
        have hxo := u8_xor _ _ bu.1 bu.2 bv.1 bv.2
        have HB := Wc.hid (chgB_succ zs k (by rw [HZL.out]; omega))
        obtain ⟨q, hq⟩ : ∃ q : Int, q = ((((Wr.blk s).getD (A + k) 0).toNat ^^^ (zs.getD k 0).toNat : Nat) : Int) := ⟨_, rfl⟩
        have HQ := Wc.hid hq
        rw [← hq] at hxo
        clear hq bu bv
        obtain ⟨u, hu⟩ : ∃ u, u = (Wr.blk s).getD (A + k) 0 := ⟨_, rfl⟩
        obtain ⟨v, hv⟩ : ∃ v, v = zs.getD k 0 := ⟨_, rfl⟩
        rw [← hu] at hcc hxo
        rw [← hv] at hza hxo
        rw [← hv] at HB
        have hzv := HWC.out k hlt
        rw [← hv] at hzv
        have HZV := Wc.hid hzv
        clear hu hv hzv
        cases hch : chgB zs k with
        | true =>
          go_wp2
          go_region
          go_wp2
          go_roundw
          case rel => exact ⟨k + 1, by omega, by go_num, by rw [HB.out, hch]; rfl, Wc.hid (chg_row HQ.out HRR.out), Wc.hid (show_drew (HBR.out.setCell hg1 _))⟩
          case measure => simp only [intOf]; omega
        | false =>
          have hza2 := ((HBR.out.setCell (p := ⟨g1, A + k, none⟩) hg1 (.int .u8 q)).cell (p := ⟨w.heap.size + 1 + 1, k, none⟩) HWS.out).trans HZV.out
          go_wp2
          go_region
          go_wp2
          go_roundw
          case rel => exact ⟨k + 1, by omega, by go_num, by rw [HB.out, hch]; rfl, Wc.hid (chg_row HQ.out HRR.out), Wc.hid (show_drew (HBR.out.setCell hg1 _))⟩
          case measure => simp only [intOf]; omega
      · obtain rfl : k = 4 := by omega
        have hbz : ∀ y ∈ Wc.runAt A (60 - A) zs, 0 ≤ y ∧ y < 256 := by
          intro y hy
          unfold Wc.runAt at hy
          rcases List.mem_append.1 hy with h | h
          · have := List.eq_of_mem_replicate h; omega
          · rcases List.mem_append.1 h with h | h
            · exact HZB.out y h
            · have := List.eq_of_mem_replicate h; omega
        have hzb := Wc.zipx_bd (Wr.blk s) _ (Wr.blk_bd s) hbz
        have hlen : (Wc.zipx (Wr.blk s) (Wc.runAt A (60 - A) zs)).length = 64 := by
          have := Wr.blk_length s; have := HZL.out
          simp [Wc.zipx, Wc.runAt]; omega
        have HF : Hid (Wc.Bs wr (.slice (some ⟨g1, 0, none⟩) 64 64) (Wc.zipx (Wr.blk s) (Wc.runAt A (60 - A) zs))) := Wc.hid (Wc.Bs.row hlen (by omega) hzb (HRR.out.congr fun j hj => by rw [chg_end (Wr.blk s) zs A 60 (Wr.blk_length s) HZL.out (by omega) (Wr.blk_bd s) j hj]))
        have hgc := Wr.par_changed HS.out A (60 - A) zs HZL.out HZB.out (by omega)
        rw [← chgB_all zs, HZL.out] at hgc
        have HGB : Hid ((Wr.parE (Wc.zipx (Wr.blk s) (Wc.runAt A (60 - A) zs)) == 0) = !(chgB zs 4)) := Wc.hid (by
          cases h : chgB zs 4 with
          | false => rw [hgc.2 h]; rfl
          | true =>
            rw [Bool.not_true, beq_eq_false_iff_ne]
            intro h'
            rw [hgc.1 h'] at h; cases h)
        clear hgc hlen hzb hbz
        go_wp2_with fail
        refine (parse8_any _ _ _ HF.out).mono ?_
        rintro e w7 ⟨rfl, hb7⟩
        have HB7 := Wc.hid (Wc.step HBR.out (Nat.le_refl _) hb7)
        clear hb7 HF
        have hgb := HGB.out
        generalize Wr.parE (Wc.zipx (Wr.blk s) (Wc.runAt A (60 - A) zs)) = E at hgb ⊢
        generalize Wr.par (Wc.zipx (Wr.blk s) (Wc.runAt A (60 - A) zs)) = u
        generalize chgB zs 4 = c at hgb ⊢
        clear HGB
        unfold rv
        go_wp2_with fail
        refine (wakes_any _).mono ?_
        rintro e w8 ⟨rfl, hb8⟩
        go_wp2_with fail
        go_ret
        exact ⟨rfl, Wc.step (BW.out.trans ((HB7.out.alloc HB7.out.size _).mono BW.out.size)) (Nat.le_refl _) hb8⟩
  · have hbl := rec_ne HS.out HT.out hst
    have heq := eql_rec s t
    rw [recEq_no hst] at heq
    go_quiet (first | (go_at_call 10; refine quiet_draws (bytesU _ _ (Wr.blk s) (Wr.blk t) _ (by exact U3.out) (by exact V3.out))) | fail)
    clear heq hst
    have B4 := Wc.hid (below_drewN B3.out nq)
    have R4 : Hid (Rb (W3.drewN nq) g1 (Wr.blk s)) := R3
    clear B3 A3 C3 R3 V3 D3 U3 a0 a1 a2 a3 a4 a5 a6 a7 c0 c1 c2 c3 c4 c5 c6 c7 d0 d1 d2 d3 d4 d5 d6 d7 C0 A0 A1 C1 R1 A2 C2 R2 V2 B1 B2
    obtain ⟨W4, hW4⟩ : ∃ W4, W3.drewN nq = W4 := ⟨_, rfl⟩
    rw [hW4] at B4 R4 ⊢
    clear hW4
    go_wp2_with fail
    rw [hAt]
    clear hAt hbl
    go_loopw [15, 16] (fun c i wr => ∃ k : Nat, k ≤ 4 ∧ i = .int .i64 k ∧ c = .bool (chgB zs k) ∧ Hid (wr.rowIs g1 5 64 (fun j => .int .u8 (chg (Wr.blk s) zs A k j))) ∧ Hid (Below W.heap.size W wr)) (fun _ i _ => 4 - (intOf i).toNat)
    case atStart => exact ⟨0, by omega, rfl, rfl, Wc.hid (R4.out.congr fun j _ => by rw [chg_zero]), B4⟩
    case round =>
      obtain ⟨k, hk, rfl, rfl, HRR, HBR⟩ := hrel
      by_cases hlt : k < 4
      · have hcc := HRR.out.cell (i := A + k) (by omega)
        have hfz := HRR.out.frozen (A + k)
        rw [chg_old] at hcc
        have hza := (HBR.out.cell (p := ⟨w.heap.size + 1 + 1, k, none⟩) HWS.out).trans (HWC.out k hlt)
        have bu := Wr.blk_bd s ((Wr.blk s).getD (A + k) 0) (by have := Wr.blk_length s; rw [List.getD_eq_getElem?_getD, List.getElem?_eq_getElem (by omega)]; simp)
        have bv := HZB.out (zs.getD k 0) (by have := HZL.out; rw [List.getD_eq_getElem?_getD, List.getElem?_eq_getElem (by omega)]; simp)
        have hxo := u8_xor _ _ bu.1 bu.2 bv.1 bv.2
        have HB := Wc.hid (chgB_succ zs k (by rw [HZL.out]; omega))
        obtain ⟨q, hq⟩ : ∃ q : Int, q = ((((Wr.blk s).getD (A + k) 0).toNat ^^^ (zs.getD k 0).toNat : Nat) : Int) := ⟨_, rfl⟩
        have HQ := Wc.hid hq
        rw [← hq] at hxo
        clear hq bu bv
        obtain ⟨u, hu⟩ : ∃ u, u = (Wr.blk s).getD (A + k) 0 := ⟨_, rfl⟩
        obtain ⟨v, hv⟩ : ∃ v, v = zs.getD k 0 := ⟨_, rfl⟩
        rw [← hu] at hcc hxo
        rw [← hv] at hza hxo
        rw [← hv] at HB
        have hzv := HWC.out k hlt
        rw [← hv] at hzv
        have HZV := Wc.hid hzv
        clear hu hv hzv
        cases hch : chgB zs k with
        | true =>
          go_wp2
          go_region
          go_wp2
          go_roundw
          case rel => exact ⟨k + 1, by omega, by go_num, by rw [HB.out, hch]; rfl, Wc.hid (chg_row HQ.out HRR.out), Wc.hid (show_drew (HBR.out.setCell hg1 _))⟩
          case measure => simp only [intOf]; omega
        | false =>
          have hza2 := ((HBR.out.setCell (p := ⟨g1, A + k, none⟩) hg1 (.int .u8 q)).cell (p := ⟨w.heap.size + 1 + 1, k, none⟩) HWS.out).trans HZV.out
          go_wp2
          go_region
          go_wp2
          go_roundw
          case rel => exact ⟨k + 1, by omega, by go_num, by rw [HB.out, hch]; rfl, Wc.hid (chg_row HQ.out HRR.out), Wc.hid (show_drew (HBR.out.setCell hg1 _))⟩
          case measure => simp only [intOf]; omega
      · obtain rfl : k = 4 := by omega
        have hbz : ∀ y ∈ Wc.runAt A (60 - A) zs, 0 ≤ y ∧ y < 256 := by
          intro y hy
          unfold Wc.runAt at hy
          rcases List.mem_append.1 hy with h | h
          · have := List.eq_of_mem_replicate h; omega
          · rcases List.mem_append.1 h with h | h
            · exact HZB.out y h
            · have := List.eq_of_mem_replicate h; omega
        have hzb := Wc.zipx_bd (Wr.blk s) _ (Wr.blk_bd s) hbz
        have hlen : (Wc.zipx (Wr.blk s) (Wc.runAt A (60 - A) zs)).length = 64 := by
          have := Wr.blk_length s; have := HZL.out
          simp [Wc.zipx, Wc.runAt]; omega
        have HF : Hid (Wc.Bs wr (.slice (some ⟨g1, 0, none⟩) 64 64) (Wc.zipx (Wr.blk s) (Wc.runAt A (60 - A) zs))) := Wc.hid (Wc.Bs.row hlen (by omega) hzb (HRR.out.congr fun j hj => by rw [chg_end (Wr.blk s) zs A 60 (Wr.blk_length s) HZL.out (by omega) (Wr.blk_bd s) j hj]))
        have hgc := Wr.par_changed HS.out A (60 - A) zs HZL.out HZB.out (by omega)
        rw [← chgB_all zs, HZL.out] at hgc
        have HGB : Hid ((Wr.parE (Wc.zipx (Wr.blk s) (Wc.runAt A (60 - A) zs)) == 0) = !(chgB zs 4)) := Wc.hid (by
          cases h : chgB zs 4 with
          | false => rw [hgc.2 h]; rfl
          | true =>
            rw [Bool.not_true, beq_eq_false_iff_ne]
            intro h'
            rw [hgc.1 h'] at h; cases h)
        clear hgc hlen hzb hbz
        go_wp2_with fail
        refine (parse8_any _ _ _ HF.out).mono ?_
        rintro e w7 ⟨rfl, hb7⟩
        have HB7 := Wc.hid (Wc.step HBR.out (Nat.le_refl _) hb7)
        clear hb7 HF
        have hgb := HGB.out
        generalize Wr.parE (Wc.zipx (Wr.blk s) (Wc.runAt A (60 - A) zs)) = E at hgb ⊢
        generalize Wr.par (Wc.zipx (Wr.blk s) (Wc.runAt A (60 - A) zs)) = u
        generalize chgB zs 4 = c at hgb ⊢
        clear HGB
        unfold rv
        go_wp2_with fail
        refine (wakes_any _).mono ?_
        rintro e w8 ⟨rfl, hb8⟩
        go_wp2_with fail
        go_ret
        exact ⟨rfl, Wc.step (BW.out.trans ((HB7.out.alloc HB7.out.size _).mono BW.out.size)) (Nat.le_refl _) hb8⟩

end Go.Proofs.Ytblbldoeknihaaa
