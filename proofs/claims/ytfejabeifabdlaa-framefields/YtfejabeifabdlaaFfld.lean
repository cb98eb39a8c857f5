/-
  FrameFields returns true, for all numbers.
-/
import Derived.Test.YtfejabeifabdlaaFwake
import Derived.Test.YtfejabeifabdlaaFbnd
import Derived.Deep.Cut
namespace Go.Proofs.Ytfejabeifabdlaa
open Go.RowKit

theorem num_prefix (X : List Int) (p k m : Nat) (h : k ≤ m) : Ws.num X p k = Ws.num ((X.drop p).take m) 0 k := by
  unfold Ws.num
  rw [List.drop_zero, List.take_take, Nat.min_eq_left h]

theorem txt_fram (X : List Int) (hl : 4 ≤ X.length) (hx : ∀ x ∈ X, 0 ≤ x ∧ x < 256) (h : X.take 4 = Wk.name) : ((txtN 4 X).toList == [70, 82, 65, 77]) = true := by
  have e : ((⟨#[70, 82, 65, 77]⟩ : ByteArray).extract 0 4).toList = [70, 82, 65, 77] := by decide +kernel
  have := txt_name4 X hl hx
  rw [e] at this
  rw [this, decide_eq_true_eq, h]; rfl

/-- What a frame's first numbers are. -/
def Flds (X : List Int) (q kind len v : Int) : Prop := Wc.getR X 4 4 = (q, 0) ∧ Wc.getR X 8 4 = (kind, 0) ∧ Wc.getR X 12 4 = (len, 0) ∧ Wc.getR X 16 4 = (v, 0) ∧ ((txtN 4 X).toList == [70, 82, 65, 77]) = true

theorem flds {q : Int} {c : Wk.Cmd} (hq : 0 ≤ q ∧ q ≤ 4294967295) (hc : Wk.cmdB c = true) (hd : ∀ x ∈ c.data, 0 ≤ x ∧ x < 256) {len v : Int} (hl : ((Wk.pay c).length : Int) = len) (hv : Ws.num (Wk.pay c) 0 4 = v) : Flds (Wk.frame q c) q c.kind len v := by
  obtain ⟨h1, h2, h3, h4, h5⟩ := Wk.frame_nums (q := q) (c := c) [] hq hc
  rw [List.append_nil] at h1 h2 h3 h4 h5
  have hpl := Wk.pay_len hc
  have hfl := Wk.frame_length q c
  have hk := Wk.cmdB_kind hc
  have hb := Wk.frame_bd q c hd
  have n16 := Wk.num4_bd (Wk.frame q c) 16 hb
  have e16 : Ws.num (Wk.frame q c) 16 4 = v := by rw [num_prefix _ 16 4 (Wk.pay c).length (by omega), h5, hv]
  rw [hl] at h4
  refine ⟨?_, ?_, ?_, ?_, txt_fram _ (by omega) hb h1⟩
  · exact Wc.getR_ok _ 4 4 q (by decide) (Wc.inB_iff.2 (by omega)) h2 (by omega)
  · exact Wc.getR_ok _ 8 4 c.kind (by decide) (Wc.inB_iff.2 (by omega)) h3 (by omega)
  · exact Wc.getR_ok _ 12 4 len (by decide) (Wc.inB_iff.2 (by omega)) h4 (by omega)
  · exact Wc.getR_ok _ 16 4 v (by decide) (Wc.inB_iff.2 (by omega)) e16 (by omega)

theorem bytes9_fl (q : Int) (c : Wk.Cmd) (n : Nat) (w : World) (hd : c.data = []) (hc : Wk.cmdB c = true) (hq : 0 ≤ q ∧ q ≤ 4294967295) (v : Int) (hl : (Wk.pay c).length = n) (hv : Ws.num (Wk.pay c) 0 4 = v) :
    Calls Try.prog 12 #[.int .i64 q, cv c (.slice none 0 0)] w fun e w' => ∃ g k X, e = .returned (.tuple #[.slice (some ⟨g, 0, none⟩) (20 + n) k, .int .i64 0]) ∧ Wc.Bs w' (.slice (some ⟨g, 0, none⟩) (20 + n) k) X ∧ Flds X q c.kind n v ∧ Below w.heap.size w w' := by
  have h := bytes9_ok q c none 0 w (by rw [hd]; exact Wc.Bs.nil w) (.inl (by rw [hd]; rfl)) hc hq
  rw [Wk.frame_length, hl, show c.data.length = 0 by rw [hd]; rfl] at h
  refine h.mono ?_
  rintro e w' ⟨g, k, rfl, hO, hb⟩
  exact ⟨g, k, _, rfl, hO.bs, flds hq hc (by rw [hd]; simp) (by rw [hl]) hv, hb⟩

set_option maxRecDepth 100000 in
set_option maxHeartbeats 1600000 in
theorem fields_any (s z f n : Int) (w : World) :
    Calls Try.prog 8 #[.int .i64 s, .int .i64 z, .int .i64 f, .int .i64 n] w fun e w' => e = .returned (.bool true) ∧ Below w.heap.size w w' := by
  obtain ⟨Q, hQ, eQ⟩ := Wc.low 4294967296 s (by omega) (by omega)
  obtain ⟨S, hS, eS⟩ := Wc.low 513 z (by omega) (by omega)
  obtain ⟨F, hF, eF⟩ := Wc.low 500 f (by omega) (by omega)
  obtain ⟨M, hM, eM⟩ := Wc.low 12 n (by omega) (by omega)
  have HQ : Hid (0 ≤ Q ∧ Q ≤ 4294967295) := Wc.hid (by omega)
  have R0 : Hid (Wk.cmdB ⟨5, 0, 0, S, 0, 0, 0, 0, []⟩ = true) := Wc.hid (Wk.cmdB_iff.2 (by simp [Wk.Right]; omega))
  have R1 : Hid (Wk.cmdB ⟨3, 0, 0, 0, F, 1 + M, 0, 0, []⟩ = true) := Wc.hid (Wk.cmdB_iff.2 (by simp [Wk.Right]; omega))
  have L0 : Hid ((Wk.pay ⟨5, 0, 0, S, 0, 0, 0, 0, []⟩).length = 4) := Wc.hid rfl
  have L1 : Hid ((Wk.pay ⟨3, 0, 0, 0, F, 1 + M, 0, 0, []⟩).length = 8) := Wc.hid rfl
  have V0 : Hid (Ws.num (Wk.pay ⟨5, 0, 0, S, 0, 0, 0, 0, []⟩) 0 4 = S) := Wc.hid (congrArg Wk.Cmd.size (Wk.raw_pay R0.out).2)
  have V1 : Hid (Ws.num (Wk.pay ⟨3, 0, 0, 0, F, 1 + M, 0, 0, []⟩) 0 4 = F) := Wc.hid (congrArg Wk.Cmd.start (Wk.raw_pay R1.out).2)
  go_enter Try.func8, Try.ntmps8
  go_upto_region 2 with fail
  rw [eQ, eS, eF, eM]
  clear eQ eS eF eM
  go_wp2_with fail
  go_loopw [9] (fun i wr => ∃ k : Nat, k ≤ 2 ∧ i = .int .i64 k ∧ Hid (Below w.heap.size w wr)) (fun i _ => 2 - (intOf i).toNat)
  case atStart => exact ⟨0, by omega, rfl, Below.refl _ _⟩
  case round =>
    obtain ⟨k, hk, rfl, B⟩ := hrel
    by_cases h2 : k = 2
    · subst h2
      go_wp2_with fail
      refine (wakes_any _).mono ?_
      rintro e wz ⟨rfl, hbz⟩
      go_wp2_with fail
      go_ret
      exact ⟨rfl, Wc.step B.out (Nat.le_refl _) hbz⟩
    obtain rfl | rfl : k = 0 ∨ k = 1 := by omega
    · have C0 := Wc.hid (chAt (w := wr) (c := ⟨5, 0, 0, S, 0, 0, 0, 0, []⟩) (v := .slice none 0 0) _ rfl)
      have B0 := Wc.hid (B.out.alloc B.out.size (.cells #[.int .i64 5, .int .i64 0, .int .i64 0, .int .i64 S, .int .i64 0, .int .i64 0, .int .i64 0, .int .i64 0, .slice none 0 0] 24))
      go_wp2_with fail
      refine (bytes9_fl Q ⟨5, 0, 0, S, 0, 0, 0, 0, []⟩ 4 _ rfl R0.out HQ.out S L0.out V0.out).mono ?_
      rintro e w1 ⟨g1, k1, X, rfl, hX, hfl, hb1⟩
      have C1 := Wc.hid (C0.out.keep hb1)
      have B1 := Wc.hid (Wc.step B0.out (Nat.le_refl _) hb1)
      have HX := Wc.hid hX
      have HFL := Wc.hid hfl
      have hcap := (Wc.bs_cap hX).1
      have h4c : 4 ≤ k1 := by omega
      have hcv := convert_txtN (m := 4) hX (by omega) (by omega)
      have hS4 := hfl.2.2.2.2
      clear hX hfl hb1
      go_wp2_with fail
      refine (get_any _ X 4 4 _ HX.out).mono ?_
      rintro e w2 ⟨rfl, rfl⟩
      rw [HFL.out.1]
      go_wp2_with fail
      refine (get_any _ X 8 4 _ HX.out).mono ?_
      rintro e w2 ⟨rfl, rfl⟩
      rw [HFL.out.2.1]
      go_wp2_with fail
      refine (get_any _ X 12 4 _ HX.out).mono ?_
      rintro e w2 ⟨rfl, rfl⟩
      rw [HFL.out.2.2.1]
      go_wp2_with fail
      refine (get_any _ X 16 4 _ HX.out).mono ?_
      rintro e w2 ⟨rfl, rfl⟩
      rw [HFL.out.2.2.2.1]
      have ⟨d0, d1, d2, d3, d4, d5, d6, d7, d8⟩ := C1.out.cc
      go_wp2_with fail
      go_roundw
      case rel => exact ⟨1, by omega, rfl, B1⟩
      case measure => simp [intOf]
    · have C0 := Wc.hid (chAt (w := wr) (c := ⟨3, 0, 0, 0, F, 1 + M, 0, 0, []⟩) (v := .slice none 0 0) _ rfl)
      have B0 := Wc.hid (B.out.alloc B.out.size (.cells #[.int .i64 3, .int .i64 0, .int .i64 0, .int .i64 0, .int .i64 F, .int .i64 (1 + M), .int .i64 0, .int .i64 0, .slice none 0 0] 24))
      go_wp2_with fail
      refine (bytes9_fl Q ⟨3, 0, 0, 0, F, 1 + M, 0, 0, []⟩ 8 _ rfl R1.out HQ.out F L1.out V1.out).mono ?_
      rintro e w1 ⟨g1, k1, X, rfl, hX, hfl, hb1⟩
      have C1 := Wc.hid (C0.out.keep hb1)
      have B1 := Wc.hid (Wc.step B0.out (Nat.le_refl _) hb1)
      have HX := Wc.hid hX
      have HFL := Wc.hid hfl
      have hcap := (Wc.bs_cap hX).1
      have h4c : 4 ≤ k1 := by omega
      have hcv := convert_txtN (m := 4) hX (by omega) (by omega)
      have hS4 := hfl.2.2.2.2
      clear hX hfl hb1
      go_wp2_with fail
      refine (get_any _ X 4 4 _ HX.out).mono ?_
      rintro e w2 ⟨rfl, rfl⟩
      rw [HFL.out.1]
      go_wp2_with fail
      refine (get_any _ X 8 4 _ HX.out).mono ?_
      rintro e w2 ⟨rfl, rfl⟩
      rw [HFL.out.2.1]
      go_wp2_with fail
      refine (get_any _ X 12 4 _ HX.out).mono ?_
      rintro e w2 ⟨rfl, rfl⟩
      rw [HFL.out.2.2.1]
      go_wp2_with fail
      refine (get_any _ X 16 4 _ HX.out).mono ?_
      rintro e w2 ⟨rfl, rfl⟩
      rw [HFL.out.2.2.2.1]
      have ⟨d0, d1, d2, d3, d4, d5, d6, d7, d8⟩ := C1.out.cc
      go_wp2_with fail
      go_roundw
      case rel => exact ⟨2, by omega, rfl, B1⟩
      case measure => simp [intOf]

end Go.Proofs.Ytfejabeifabdlaa
