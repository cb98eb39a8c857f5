/-
  What record.Parse returns, for all bytes.
-/
import Derived.Test.YtblbldoeknihaaaRbyt
import Derived.Laws.ResultCell
namespace Go.Proofs.Ytblbldoeknihaaa
open Go.RowKit

theorem ret_cell8 {fn : Func} {tmps : Array Value} {w : World} {B : Nat} {s : Wr.Rec} {v : Value} (hr : fn.results = #[.cell 2 23, .tmp 3]) (hp : tmps.getD 2 undef = .pointer (some ⟨B, 0, none⟩)) (hv : tmps.getD 3 undef = v) (h : Rc w B s) :
    (results fn tmps).run Try.prog w = .ok (.tuple #[rv s, v]) w := by
  obtain ⟨c0, c1, c2, c3, c4, c5, c6, c7⟩ := h
  rw [results_cell_tmp hr, hp, hv]
  simp [go_sem, c0, c1, c2, c3, c4, c5, c6, c7, rv]

/-- The first four bytes are SNAP just if their text is. -/
theorem txt_snap (xs : List Int) (hl : 4 ≤ xs.length) (hx : ∀ x ∈ xs, 0 ≤ x ∧ x < 256) : ((txt xs).toList == [83, 78, 65, 80]) = true ↔ xs.take 4 = Wr.name := by
  rw [beq_iff_eq, ByteArray.toList_eq]
  match xs, hl with
  | x0 :: x1 :: x2 :: x3 :: r, _ =>
    have h0 := u8_eq (hx x0 (by simp)) 83
    have h1 := u8_eq (hx x1 (by simp)) 78
    have h2 := u8_eq (hx x2 (by simp)) 65
    have h3 := u8_eq (hx x3 (by simp)) 80
    have e0 : ((83 : UInt8).toNat : Int) = 83 := rfl
    have e1 : ((78 : UInt8).toNat : Int) = 78 := rfl
    have e2 : ((65 : UInt8).toNat : Int) = 65 := rfl
    have e3 : ((80 : UInt8).toNat : Int) = 80 := rfl
    rw [e0] at h0
    rw [e1] at h1
    rw [e2] at h2
    rw [e3] at h3
    simp only [txt, Wr.name, List.take_succ_cons, List.take_zero, List.map_cons, List.map_nil, List.cons.injEq, and_true, h0, h1, h2, h3]

theorem txt_snapNo (xs : List Int) (hl : 4 ≤ xs.length) (hx : ∀ x ∈ xs, 0 ≤ x ∧ x < 256) (h : ¬ xs.take 4 = Wr.name) : ((txt xs).toList == [83, 78, 65, 80]) = false := by
  rw [Bool.eq_false_iff]
  exact fun e => h ((txt_snap xs hl hx).1 e)

set_option maxHeartbeats 1600000 in
theorem parse8_len (a : Option Addr) (n cap : Nat) (w : World) (hl : ¬ n = 64) :
    Calls Try.prog 8 #[.slice a n cap] w fun e w' => e = .returned (.tuple #[rv Wr.r0, .int .i64 2]) ∧ Below w.heap.size w w' := by
  have hb : (((n : Int) != 64) = true) := by simp; omega
  clear hl
  go_enter Try.func8, Try.ntmps8
  go_wp2_with fail
  refine bodyPost_ret (ret_cell8 rfl rfl rfl (Rh.new w Wr.r0).rc) rfl ⟨rfl, (Below.refl w.heap.size w).alloc (Nat.le_refl _) _⟩

set_option maxHeartbeats 1600000 in
theorem parse8_name (b off cap : Nat) (S : ByteArray) (w : World) (hc : 64 ≤ cap) (hc2 : cap ≤ 9223372036854775807)
   (hcv : (convert 24 9 (.slice (some ⟨b, off, none⟩) 4 cap)).run Try.prog (w.alloc (.cells #[.int .i64 0, .int .i64 0, .int .i64 0, .int .i64 0, .int .i64 0, .int .i64 0, .int .i64 0, .int .i64 0] 23)) = .ok (.string S) (w.alloc (.cells #[.int .i64 0, .int .i64 0, .int .i64 0, .int .i64 0, .int .i64 0, .int .i64 0, .int .i64 0, .int .i64 0] 23)))
   (hS : (S.toList == [83, 78, 65, 80]) = false) :
    Calls Try.prog 8 #[.slice (some ⟨b, off, none⟩) 64 cap] w fun e w' => e = .returned (.tuple #[rv Wr.r0, .int .i64 4]) ∧ Below w.heap.size w w' := by
  go_enter Try.func8, Try.ntmps8
  go_wp2_with fail
  exact bodyPost_ret (ret_cell8 rfl rfl rfl (Rh.new w Wr.r0).rc) rfl ⟨rfl, (Below.refl w.heap.size w).alloc (Nat.le_refl _) _⟩

set_option maxHeartbeats 1600000 in
theorem parse8_sum (b off cap : Nat) (xs : List Int) (S : ByteArray) (w : World) (hv : Wc.Bs w (.slice (some ⟨b, off, none⟩) 64 cap) xs) (hc : 64 ≤ cap) (hc2 : cap ≤ 9223372036854775807)
   (hcv : (convert 24 9 (.slice (some ⟨b, off, none⟩) 4 cap)).run Try.prog (w.alloc (.cells #[.int .i64 0, .int .i64 0, .int .i64 0, .int .i64 0, .int .i64 0, .int .i64 0, .int .i64 0, .int .i64 0] 23)) = .ok (.string S) (w.alloc (.cells #[.int .i64 0, .int .i64 0, .int .i64 0, .int .i64 0, .int .i64 0, .int .i64 0, .int .i64 0, .int .i64 0] 23)))
   (hS : (S.toList == [83, 78, 65, 80]) = true) (hg : Wc.goodB xs = false) :
    Calls Try.prog 8 #[.slice (some ⟨b, off, none⟩) 64 cap] w fun e w' => e = .returned (.tuple #[rv Wr.r0, .int .i64 5]) ∧ Below w.heap.size w w' := by
  have HV := Wc.hid (hv.alloc (.cells #[.int .i64 0, .int .i64 0, .int .i64 0, .int .i64 0, .int .i64 0, .int .i64 0, .int .i64 0, .int .i64 0] 23))
  clear hv
  go_enter Try.func8, Try.ntmps8
  go_wp2_with fail
  refine (good_any _ xs _ HV.out).mono ?_
  rintro e w1 ⟨rfl, rfl⟩
  rw [hg]
  go_wp2_with fail
  exact bodyPost_ret (ret_cell8 rfl rfl rfl (Rh.new w Wr.r0).rc) rfl ⟨rfl, (Below.refl w.heap.size w).alloc (Nat.le_refl _) _⟩

set_option maxHeartbeats 3200000 in
theorem parse8_nums (b off cap : Nat) (xs : List Int) (S : ByteArray) (w : World) (hv : Wc.Bs w (.slice (some ⟨b, off, none⟩) 64 cap) xs) (hc : 64 ≤ cap) (hc2 : cap ≤ 9223372036854775807)
   (hcv : (convert 24 9 (.slice (some ⟨b, off, none⟩) 4 cap)).run Try.prog (w.alloc (.cells #[.int .i64 0, .int .i64 0, .int .i64 0, .int .i64 0, .int .i64 0, .int .i64 0, .int .i64 0, .int .i64 0] 23)) = .ok (.string S) (w.alloc (.cells #[.int .i64 0, .int .i64 0, .int .i64 0, .int .i64 0, .int .i64 0, .int .i64 0, .int .i64 0, .int .i64 0] 23)))
   (hS : (S.toList == [83, 78, 65, 80]) = true) (hnm : xs.take 4 = Wr.name) (hg : Wc.goodB xs = true) :
    Calls Try.prog 8 #[.slice (some ⟨b, off, none⟩) 64 cap] w fun e w' => e = .returned (.tuple #[rv (Wr.par xs), .int .i64 (Wr.parE xs)]) ∧ Below w.heap.size w w' := by
  have HV := Wc.hid (hv.alloc (.cells #[.int .i64 0, .int .i64 0, .int .i64 0, .int .i64 0, .int .i64 0, .int .i64 0, .int .i64 0, .int .i64 0] 23))
  have hxl := Wc.bs_len hv
  have hxb := Wc.bs_bytes hv
  have HG := Wc.hid (Wr.got_rec xs)
  have g0 : Hid (gotN xs 4 4 = (Wr.got xs).next) := Wc.hid (got4_num xs 4 hxl (by omega) hxb)
  have g1 : Hid (gotN xs 8 8 = (Wr.got xs).id) := Wc.hid (got8_num xs 8 hxl (by omega))
  have g2 : Hid (gotN xs 16 8 = (Wr.got xs).parent) := Wc.hid (got8_num xs 16 hxl (by omega))
  have g3 : Hid (gotN xs 24 4 = (Wr.got xs).root) := Wc.hid (got4_num xs 24 hxl (by omega) hxb)
  have g4 : Hid (gotN xs 28 4 = (Wr.got xs).size) := Wc.hid (got4_num xs 28 hxl (by omega) hxb)
  have g5 : Hid (gotN xs 32 4 = (Wr.got xs).kind) := Wc.hid (got4_num xs 32 hxl (by omega) hxb)
  have g6 : Hid (gotN xs 36 4 = (Wr.got xs).frames) := Wc.hid (got4_num xs 36 hxl (by omega) hxb)
  have g7 : Hid (gotN xs 40 4 = (Wr.got xs).digest) := Wc.hid (got4_num xs 40 hxl (by omega) hxb)
  have HGD := Wc.hid hg
  have HNM := Wc.hid hnm
  clear hnm
  have HXL := Wc.hid hxl
  clear hv hxl hxb
  go_enter Try.func8, Try.ntmps8
  go_wp2_with fail
  refine (good_any _ xs _ HV.out).mono ?_
  rintro e w1 ⟨rfl, rfl⟩
  rw [HGD.out]
  clear hg hcv
  go_wp2_with (go_at_call 18; refine (get8_any _ xs _ _ _ HV.out).mono ?_; rintro e w' ⟨rfl, rfl⟩)
  rw [g0.out, g1.out, g2.out, g3.out, g4.out, g5.out, g6.out, g7.out]
  clear g0 g1 g2 g3 g4 g5 g6 g7
  generalize Wr.got xs = t at HG ⊢
  refine (check8_any t _).mono ?_
  rintro e w2 ⟨rfl, hb2⟩
  have A0 := Wc.hid (((Rh.new w Wr.r0).keep ((Below.refl _ _).alloc (Nat.le_refl _) _)).keep hb2)
  have A1 := Wc.hid (((Rh.new (w.alloc (.cells #[.int .i64 0, .int .i64 0, .int .i64 0, .int .i64 0, .int .i64 0, .int .i64 0, .int .i64 0, .int .i64 0] 23)) t)).keep hb2)
  have HB2 := Wc.hid (Wc.step (((Below.refl w.heap.size w).alloc (Nat.le_refl _) (.cells #[.int .i64 0, .int .i64 0, .int .i64 0, .int .i64 0, .int .i64 0, .int .i64 0, .int .i64 0, .int .i64 0] 23)).alloc (by simp) (.cells #[.int .i64 t.next, .int .i64 t.id, .int .i64 t.parent, .int .i64 t.root, .int .i64 t.size, .int .i64 t.kind, .int .i64 t.frames, .int .i64 t.digest] 23)) (Nat.le_refl _) hb2)
  have HV2 := Wc.hid ((HV.out.alloc _).keep hb2)
  clear hb2
  have ⟨c0, c1, c2, c3, c4, c5, c6, c7⟩ := A0.out.rc
  have f0 := A0.out.frozen 0
  have f1 := A0.out.frozen 1
  have f2 := A0.out.frozen 2
  have f3 := A0.out.frozen 3
  have f4 := A0.out.frozen 4
  have f5 := A0.out.frozen 5
  have f6 := A0.out.frozen 6
  have f7 := A0.out.frozen 7
  cases ht : Wr.recB t
  · rw [Wr.recE_no ht]
    have HT := Wc.hid ht
    clear ht
    go_wp2_with fail
    have hp := Wr.par_arg HXL.out HNM.out HGD.out (by rw [← HG.out.1, HT.out]; rfl)
    rw [hp.1, hp.2]
    exact bodyPost_ret (ret_cell8 rfl rfl rfl (A0.out.over Wr.r0).rc) rfl ⟨rfl, below8 HB2.out (Nat.le_refl _) Wr.r0⟩
  · rw [Wr.recE_yes ht]
    have HT := Wc.hid ht
    clear ht
    have A1' : Hid (Rh w2 (w.heap.size + 1) t) := Wc.hid (by have := A1.out; simpa using this)
    have ⟨d0, d1, d2, d3, d4, d5, d6, d7⟩ := A1'.out.rc
    go_wp2_with fail
    refine (zeros_any _ xs 44 60 _ HV2.out (by omega)).mono ?_
    rintro e w3 ⟨rfl, rfl⟩
    cases hz : Wc.zerosB xs 44 60
    · have hp := Wc.hid (Wr.par_arg HXL.out HNM.out HGD.out (by rw [hz, Bool.and_false]))
      clear hz
      go_wp2_with fail
      rw [hp.out.1, hp.out.2]
      exact bodyPost_ret (ret_cell8 rfl rfl rfl (A0.out.over Wr.r0).rc) rfl ⟨rfl, below8 HB2.out (Nat.le_refl _) Wr.r0⟩
    · have hp := Wc.hid (Wr.par_ok HXL.out HNM.out HGD.out (by rw [hz, ← HG.out.1, HT.out]; rfl))
      have HTP := Wc.hid (HG.out.2 (by rw [← HG.out.1]; exact HT.out))
      clear hz
      go_wp2_with fail
      rw [hp.out.1, hp.out.2, ← HTP.out]
      exact bodyPost_ret (ret_cell8 rfl rfl rfl (A0.out.over t).rc) rfl ⟨rfl, below8 HB2.out (Nat.le_refl _) t⟩

theorem parse8_any (v : Value) (xs : List Int) (w : World) (hv : Wc.Bs w v xs) :
    Calls Try.prog 8 #[v] w fun e w' => e = .returned (.tuple #[rv (Wr.par xs), .int .i64 (Wr.parE xs)]) ∧ Below w.heap.size w w' := by
  have hxb := Wc.bs_bytes hv
  by_cases hl : xs.length = 64
  · rcases hv.open with ⟨rfl, _⟩ | ⟨b, off, n, cap, rfl, h0, hn, hc, hc2, _⟩
    · simp at hl
    · obtain rfl : n = 64 := by omega
      have hcv := convert_txt (hv.alloc (.cells #[.int .i64 0, .int .i64 0, .int .i64 0, .int .i64 0, .int .i64 0, .int .i64 0, .int .i64 0, .int .i64 0] 23)) (by omega)
      by_cases hnm : xs.take 4 = Wr.name
      · have hS := (txt_snap xs (by omega) hxb).2 hnm
        cases hg : Wc.goodB xs
        · have := Wr.par_sum hl hnm hg
          rw [this.1, this.2]
          exact parse8_sum b off cap xs _ w hv hc hc2 hcv hS hg
        · exact parse8_nums b off cap xs _ w hv hc hc2 hcv hS hnm hg
      · have := Wr.par_name hl hnm
        rw [this.1, this.2]
        exact parse8_name b off cap _ w hc hc2 hcv (txt_snapNo xs (by omega) hxb hnm)
  · have := Wr.par_len hl
    rw [this.1, this.2]
    obtain ⟨a, n, cap, rfl, hn, -⟩ := hv
    exact parse8_len a n cap w (by omega)

end Go.Proofs.Ytblbldoeknihaaa
