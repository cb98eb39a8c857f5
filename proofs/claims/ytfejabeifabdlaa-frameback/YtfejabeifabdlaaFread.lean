/-
  FrameReads returns true, for all bytes.
-/
import Derived.Test.YtfejabeifabdlaaFwake
namespace Go.Proofs.Ytfejabeifabdlaa
open Go.RowKit

theorem reads_long (a : Option Addr) (n cap : Nat) (w : World) (hn : 1500 < n) :
    Calls Try.prog 7 #[.slice a n cap] w fun e w' => e = .returned (.bool true) ∧ Below w.heap.size w w' := by
  have h : (1500 : Int) < (n : Int) := by omega
  go_enter Try.func7, Try.ntmps7
  go_wp2_with fail
  go_ret
  exact ⟨rfl, Below.refl _ _⟩

theorem parse9_no (v : Value) (xs : List Int) (w : World) (hv : Wc.Bs w v xs) (h : ¬ Wk.parE xs = 0) :
    Calls Try.prog 13 #[v] w fun e w' => ∃ a c, e = .returned (.tuple #[cv Wk.c0 (.slice a 0 c), .int .i64 0, .int .i64 0, .int .i64 (Wk.parE xs)]) ∧ Below w.heap.size w w' := by
  obtain ⟨e1, e2, e3⟩ := Wk.par_no h
  have := parse9_any v xs w hv
  rw [e1, e2, e3] at this
  refine this.mono ?_
  rintro e w' ⟨a, c, rfl, hO, hb⟩
  exact ⟨a, c, rfl, hb⟩

set_option maxHeartbeats 1600000 in
theorem reads_no (a : Option Addr) (n cap : Nat) (xs : List Int) (w : World) (hn : n ≤ 1500) (hv : Wc.Bs w (.slice a n cap) xs) (h : ¬ Wk.parE xs = 0) :
    Calls Try.prog 7 #[.slice a n cap] w fun e w' => e = .returned (.bool true) ∧ Below w.heap.size w w' := by
  have HV := Wc.hid hv
  have hn' : ¬ (1500 : Int) < (n : Int) := by omega
  have hcs := Wk.parE_cases xs
  have HP := Wc.hid (parse9_no (.slice a n cap) xs)
  have H := Wc.hid h
  generalize Wk.parE xs = E at hcs HP H
  clear hv h
  rcases hcs with h0 | rfl | rfl | rfl
  · exact absurd h0 H.out
  · go_enter Try.func7, Try.ntmps7
    go_wp2_with fail
    refine (HP.out _ HV.out (by omega)).mono ?_
    rintro e w1 ⟨a1, c1, rfl, hb1⟩
    have B1 := Wc.hid (hb1.alloc hb1.size (.cells #[.int .i64 Wk.c0.kind, .int .i64 Wk.c0.id, .int .i64 Wk.c0.parent, .int .i64 Wk.c0.size, .int .i64 Wk.c0.start, .int .i64 Wk.c0.count, .int .i64 Wk.c0.source, .int .i64 Wk.c0.digest, .slice a1 0 c1] 24))
    clear hb1
    unfold cv
    go_wp2_with fail
    refine (wakes_any _).mono ?_
    rintro e wz ⟨rfl, hbz⟩
    go_wp2_with fail
    go_ret
    exact ⟨rfl, Wc.step B1.out (Nat.le_refl _) hbz⟩
  · go_enter Try.func7, Try.ntmps7
    go_wp2_with fail
    refine (HP.out _ HV.out (by omega)).mono ?_
    rintro e w1 ⟨a1, c1, rfl, hb1⟩
    have B1 := Wc.hid (hb1.alloc hb1.size (.cells #[.int .i64 Wk.c0.kind, .int .i64 Wk.c0.id, .int .i64 Wk.c0.parent, .int .i64 Wk.c0.size, .int .i64 Wk.c0.start, .int .i64 Wk.c0.count, .int .i64 Wk.c0.source, .int .i64 Wk.c0.digest, .slice a1 0 c1] 24))
    clear hb1
    unfold cv
    go_wp2_with fail
    refine (wakes_any _).mono ?_
    rintro e wz ⟨rfl, hbz⟩
    go_wp2_with fail
    go_ret
    exact ⟨rfl, Wc.step B1.out (Nat.le_refl _) hbz⟩
  · go_enter Try.func7, Try.ntmps7
    go_wp2_with fail
    refine (HP.out _ HV.out (by omega)).mono ?_
    rintro e w1 ⟨a1, c1, rfl, hb1⟩
    have B1 := Wc.hid (hb1.alloc hb1.size (.cells #[.int .i64 Wk.c0.kind, .int .i64 Wk.c0.id, .int .i64 Wk.c0.parent, .int .i64 Wk.c0.size, .int .i64 Wk.c0.start, .int .i64 Wk.c0.count, .int .i64 Wk.c0.source, .int .i64 Wk.c0.digest, .slice a1 0 c1] 24))
    clear hb1
    unfold cv
    go_wp2_with fail
    refine (wakes_any _).mono ?_
    rintro e wz ⟨rfl, hbz⟩
    go_wp2_with fail
    go_ret
    exact ⟨rfl, Wc.step B1.out (Nat.le_refl _) hbz⟩

set_option maxHeartbeats 800000 in
theorem reads_yes (a : Option Addr) (n cap : Nat) (xs : List Int) (w : World) (hn : n ≤ 1500) (hv : Wc.Bs w (.slice a n cap) xs) (h : Wk.parE xs = 0) :
    Calls Try.prog 7 #[.slice a n cap] w fun e w' => e = .returned (.bool true) ∧ Below w.heap.size w w' := by
  have HV := Wc.hid hv
  have hn' : ¬ (1500 : Int) < (n : Int) := by omega
  have hxl := Wc.bs_len hv
  have hcap := Wc.bs_cap hv
  obtain ⟨h1, h2, h3, h4, h5⟩ := Wk.par_reads (Wc.bs_bytes hv) h
  have HP := Wc.hid (parse9_any (.slice a n cap) xs)
  rw [h] at HP
  obtain ⟨b, off, rfl⟩ : ∃ b off, a = some ⟨b, off, none⟩ := by
    rcases hv.open with ⟨rfl, _⟩ | ⟨b, off, n', cap', h', _⟩
    · have := h3; simp at this; omega
    · cases h'; exact ⟨b, off, rfl⟩
  generalize Wk.par xs = C at h1 h4 h5 HP
  generalize Wk.parQ xs = Q at h2 h4 HP
  generalize Wk.parZ xs = Z at h3 h4 HP
  obtain ⟨z, rfl⟩ := Int.eq_ofNat_of_zero_le (show 0 ≤ Z by omega)
  have h24 : (24 : Int) ≤ (z : Int) := h3.1
  have hzn : (z : Int) ≤ (n : Int) := by omega
  have hzn2 : z ≤ n := by omega
  have hzc : z ≤ cap := by omega
  have HC := Wc.hid h1
  have HQ := Wc.hid h2
  have HF : Hid (Wk.frame Q C = xs.take z) := Wc.hid (by simpa using h4)
  have HTL : Hid ((xs.take z).length = z) := Wc.hid (by simp; omega)
  have HE := Wc.hid (Wk.cmdE_yes h1)
  have HDL : Hid (C.data.length ≤ 140737488355328) := Wc.hid (by
    have h6 := (Wk.pay_len h1).2
    have : (Wk.pay C).length = (Wk.encs (Wk.st C (C.data.length / 64 : Nat)) (Wk.pl C.kind)).length + C.data.length := by unfold Wk.pay; rw [List.length_append]
    omega)
  clear hv h h1 h2 h3 h4 h5 hxl
  go_enter Try.func7, Try.ntmps7
  go_wp2_with fail
  refine (HP.out _ HV.out).mono ?_
  rintro e w1 ⟨a1, c1, rfl, hO1, hb1⟩
  have A1 := Wc.hid (Wk.Ch.new w1 C (.slice a1 C.data.length c1))
  have AL := (Below.refl w1.heap.size w1).alloc (Nat.le_refl _) (.cells #[.int .i64 C.kind, .int .i64 C.id, .int .i64 C.parent, .int .i64 C.size, .int .i64 C.start, .int .i64 C.count, .int .i64 C.source, .int .i64 C.digest, .slice a1 C.data.length c1] 24)
  have B1 := Wc.hid (Wc.step hb1 (Nat.le_refl _) AL)
  have O1 := Wc.hid (hO1.keep AL)
  clear hO1 hb1 AL HP
  unfold cv
  go_wp2_with fail
  refine (bytes9_ok Q C a1 c1 _ O1.out.bs O1.out.shaped HC.out HQ.out).mono ?_
  rintro e w2 ⟨g2, k2, rfl, hO2, hb2⟩
  rw [HF.out] at hO2 ⊢
  rw [HTL.out] at hO2 ⊢
  have V2 := Wc.hid hO2.bs
  have B2 := Wc.hid (Wc.step B1.out (Nat.le_refl _) hb2)
  have A2 := Wc.hid (A1.out.keep hb2)
  clear hO2 hb2 A1 B1
  have ⟨d0, d1, d2, d3, d4, d5, d6, d7, d8⟩ := A2.out.cc
  go_wp2_with fail
  refine (bytes_any _ _ (xs.take z) (xs.take z) _ V2.out (Wc.bs_take (HV.out.keep B2.out) z hzn2)).mono ?_
  rintro e w3 ⟨rfl, hb3⟩
  rw [beq_self_eq_true]
  have B3 := Wc.hid (Wc.step B2.out (Nat.le_refl _) hb3)
  have A3 := Wc.hid (A2.out.keep hb3)
  clear hb3 A2 d0 d1 d2 d3 d4 d5 d6 d7 d8
  have ⟨d0, d1, d2, d3, d4, d5, d6, d7, d8⟩ := A3.out.cc
  go_wp2_with fail
  refine (check9_any C a1 c1 _ HDL.out (Wk.cmdB_held HC.out)).mono ?_
  rintro e w4 ⟨rfl, hb4⟩
  rw [HE.out]
  have B4 := Wc.hid (Wc.step B3.out (Nat.le_refl _) hb4)
  clear hb4
  go_wp2_with fail
  refine (wakes_any _).mono ?_
  rintro e wz ⟨rfl, hbz⟩
  go_wp2_with fail
  go_ret
  exact ⟨rfl, Wc.step B4.out (Nat.le_refl _) hbz⟩

end Go.Proofs.Ytfejabeifabdlaa
