/-
  FrameExact returns true.
-/
import Derived.Test.YtfejabeifabdlaaGtx
import Derived.Test.YtfejabeifabdlaaGpf
import Derived.Test.YtfejabeifabdlaaGfb
import Derived.Test.YtfejabeifabdlaaFpl
namespace Go.Proofs.Ytfejabeifabdlaa
open Go.RowKit

set_option maxRecDepth 100000 in
set_option maxHeartbeats 800000 in
theorem refParse9_nil (a : Option Addr) (cap : Nat) (w : World) :
    Calls Try.prog 14 #[.slice a 0 cap] w fun e w' => e = .returned (.tuple #[cv Wk.c0 (.slice none 0 0), .int .i64 0, .int .i64 0, .int .i64 16]) ∧ Below w.heap.size w w' := by
  have R0 : Hid (Wk.Ch ((w.alloc (.cells #[.int .i64 0, .int .i64 0, .int .i64 0, .int .i64 0, .int .i64 0, .int .i64 0, .int .i64 0, .int .i64 0, .slice none 0 0] 24)).alloc (.cells #[.int .i64 0, .int .i64 0, .int .i64 0, .int .i64 0, .int .i64 0, .int .i64 0, .int .i64 0, .int .i64 0, .slice none 0 0] 24)) w.heap.size Wk.c0 (.slice none 0 0)) := Wc.hid ((Wk.Ch.new w Wk.c0 (.slice none 0 0)).keep ((Below.refl _ _).alloc (Nat.le_refl _) _))
  have N0 : Hid (Wk.Ch ((w.alloc (.cells #[.int .i64 0, .int .i64 0, .int .i64 0, .int .i64 0, .int .i64 0, .int .i64 0, .int .i64 0, .int .i64 0, .slice none 0 0] 24)).alloc (.cells #[.int .i64 0, .int .i64 0, .int .i64 0, .int .i64 0, .int .i64 0, .int .i64 0, .int .i64 0, .int .i64 0, .slice none 0 0] 24)) (w.heap.size + 1) Wk.c0 (.slice none 0 0)) := Wc.hid (chAt (c := Wk.c0) (v := .slice none 0 0) _ (by simp))
  have B0 : Hid (Below w.heap.size w ((w.alloc (.cells #[.int .i64 0, .int .i64 0, .int .i64 0, .int .i64 0, .int .i64 0, .int .i64 0, .int .i64 0, .int .i64 0, .slice none 0 0] 24)).alloc (.cells #[.int .i64 0, .int .i64 0, .int .i64 0, .int .i64 0, .int .i64 0, .int .i64 0, .int .i64 0, .int .i64 0, .slice none 0 0] 24))) := Wc.hid (((Below.refl w.heap.size w).alloc (Nat.le_refl _) _).alloc (by simp) _)
  go_enter Try.func14, Try.ntmps14
  go_wp2_with fail
  go_loopw [8] (fun i wr => i = .int .i64 0 ∧ Hid (Wk.Ch wr w.heap.size Wk.c0 (.slice none 0 0)) ∧ Hid (Wk.Ch wr (w.heap.size + 1) Wk.c0 (.slice none 0 0)) ∧ Hid (Below w.heap.size w wr)) (fun _ _ => 0)
  case atStart => exact ⟨rfl, R0, N0, B0⟩
  case round =>
    obtain ⟨rfl, RR, NN, BB⟩ := hrel
    have ⟨r0, r1, r2, r3, r4, r5, r6, r7, r8⟩ := RR.out.cc
    have f0 := RR.out.frozen 0
    have f1 := RR.out.frozen 1
    have f2 := RR.out.frozen 2
    have f3 := RR.out.frozen 3
    have f4 := RR.out.frozen 4
    have f5 := RR.out.frozen 5
    have f6 := RR.out.frozen 6
    have f7 := RR.out.frozen 7
    have f8 := RR.out.frozen 8
    have ⟨n0, n1, n2, n3, n4, n5, n6, n7, n8⟩ := NN.out.cc
    go_wp2_with fail
    exact bodyPost_ret (ret_cell9q rfl rfl rfl rfl rfl (RR.out.over Wk.c0 (.slice none 0 0)).cc) rfl ⟨rfl, Wk.below_ovr BB.out (Nat.le_refl _) Wk.c0 (.slice none 0 0)⟩

theorem refParse9_any (v : Value) (xs : List Int) (w : World) (hv : Wc.Bs w v xs) :
    Calls Try.prog 14 #[v] w fun e w' => PfPost xs w e w' := by
  rcases hv.open with ⟨rfl, a, cap, rfl, _⟩ | ⟨b, off, n, cap, rfl, h0, _⟩
  · refine (refParse9_nil a cap w).mono ?_
    rintro e w' ⟨rfl, hb⟩
    exact pf_no (xs := []) (by decide) (by omega) hb
  · exact refParse9_pos b off n cap xs w hv h0


def bytR (q : Int) (c : Wk.Cmd) : List Int := if Wk.cmdB c = true ∧ 0 ≤ q ∧ q ≤ 4294967295 then Wk.frame q c else []
def bytE (q : Int) (c : Wk.Cmd) : Int := if Wk.cmdB c = true ∧ 0 ≤ q ∧ q ≤ 4294967295 then 0 else 1

theorem bytes9_all (q : Int) (c : Wk.Cmd) (a : Option Addr) (cap : Nat) (w : World) (hv : Wc.Bs w (.slice a c.data.length cap) c.data) (hsh : Wc.Shaped (.slice a c.data.length cap)) (hc : Wk.Held c) :
    Calls Try.prog 12 #[.int .i64 q, cv c (.slice a c.data.length cap)] w fun e w' => ∃ a' k, e = .returned (.tuple #[.slice a' (bytR q c).length k, .int .i64 (bytE q c)]) ∧ Wc.Bs w' (.slice a' (bytR q c).length k) (bytR q c) ∧ Below w.heap.size w w' := by
  have hl : c.data.length ≤ 140737488355328 := by obtain ⟨_, n, _, h, _, _, _, h5, _⟩ := hv; cases h; exact h5
  by_cases h : Wk.cmdB c = true ∧ 0 ≤ q ∧ q ≤ 4294967295
  · rw [show bytR q c = Wk.frame q c from if_pos h, show bytE q c = 0 from if_pos h]
    refine (bytes9_ok q c a cap w hv hsh h.1 h.2).mono ?_
    rintro e w' ⟨g, k, rfl, hO, hb⟩
    exact ⟨_, k, rfl, hO.bs, hb⟩
  · rw [show bytR q c = [] from if_neg h, show bytE q c = 1 from if_neg h]
    have hno : Calls Try.prog 12 #[.int .i64 q, cv c (.slice a c.data.length cap)] w fun e w' => e = .returned (.tuple #[.slice none 0 0, .int .i64 1]) ∧ Below w.heap.size w w' := by
      cases hb : Wk.cmdB c
      · exact bytes9_bad q c a cap w hl hc hb
      · exact bytes9_seq q c a cap w hv hsh hb (fun h' => h ⟨hb, h'⟩)
    refine hno.mono ?_
    rintro e w' ⟨rfl, hb⟩
    exact ⟨none, 0, rfl, Wc.Bs.nil _, hb⟩

theorem ccKeep {w w' : World} {g : Nat} {c : Wk.Cmd} {v : Value} (h : Wk.Cc w g c v) (hg : g < w.heap.size) (hb : Below w.heap.size w w') : Wk.Cc w' g c v := by
  obtain ⟨c0, c1, c2, c3, c4, c5, c6, c7, c8⟩ := h
  exact ⟨(hb.cell (p := ⟨g, 0, none⟩) hg).trans c0, (hb.cell (p := ⟨g, 1, none⟩) hg).trans c1, (hb.cell (p := ⟨g, 2, none⟩) hg).trans c2, (hb.cell (p := ⟨g, 3, none⟩) hg).trans c3, (hb.cell (p := ⟨g, 4, none⟩) hg).trans c4, (hb.cell (p := ⟨g, 5, none⟩) hg).trans c5, (hb.cell (p := ⟨g, 6, none⟩) hg).trans c6, (hb.cell (p := ⟨g, 7, none⟩) hg).trans c7, (hb.cell (p := ⟨g, 8, none⟩) hg).trans c8⟩

set_option maxRecDepth 100000 in
theorem exact_long1 (c : Wk.Cmd) (q : Int) (a1 : Option Addr) (p1 : Nat) (a2 : Option Addr) (n2 p2 : Nat) (w : World) (h : 1500 < c.data.length) :
    Calls Try.prog 3 #[cv c (.slice a1 c.data.length p1), .int .i64 q, .slice a2 n2 p2] w fun e w' => e = .returned (.bool true) ∧ Below w.heap.size w w' := by
  have g1 : (1500 : Int) < (c.data.length : Int) := by omega
  unfold cv
  go_enter Try.func3, Try.ntmps3
  go_wp2_with fail
  go_ret
  exact ⟨rfl, (Below.refl w.heap.size w).alloc (Nat.le_refl _) _⟩

set_option maxRecDepth 100000 in
theorem exact_long2 (c : Wk.Cmd) (q : Int) (a1 : Option Addr) (p1 : Nat) (a2 : Option Addr) (n2 p2 : Nat) (w : World) (h : c.data.length ≤ 1500) (h2 : 1500 < n2) :
    Calls Try.prog 3 #[cv c (.slice a1 c.data.length p1), .int .i64 q, .slice a2 n2 p2] w fun e w' => e = .returned (.bool true) ∧ Below w.heap.size w w' := by
  have g1 : ¬ (1500 : Int) < (c.data.length : Int) := by omega
  have g2 : (1500 : Int) < (n2 : Int) := by omega
  unfold cv
  go_enter Try.func3, Try.ntmps3
  go_wp2_with fail
  go_ret
  exact ⟨rfl, (Below.refl w.heap.size w).alloc (Nat.le_refl _) _⟩

set_option maxRecDepth 100000 in
set_option maxHeartbeats 3200000 in
theorem exact_any (c : Wk.Cmd) (q : Int) (a1 : Option Addr) (p1 : Nat) (a2 : Option Addr) (n2 p2 : Nat) (xs : List Int) (w : World) (h : c.data.length ≤ 1500) (h2 : n2 ≤ 1500) (hv : Wc.Bs w (.slice a1 c.data.length p1) c.data) (hsh : Wc.Shaped (.slice a1 c.data.length p1)) (hx : Wc.Bs w (.slice a2 n2 p2) xs) (hsx : Wc.Shaped (.slice a2 n2 p2)) (hc : Wk.Held c) :
    Calls Try.prog 3 #[cv c (.slice a1 c.data.length p1), .int .i64 q, .slice a2 n2 p2] w fun e w' => e = .returned (.bool true) ∧ Below w.heap.size w w' := by
  have g1 : ¬ (1500 : Int) < (c.data.length : Int) := by omega
  have g2 : ¬ (1500 : Int) < (n2 : Int) := by omega
  have HL : Hid (c.data.length ≤ 140737488355328) := Wc.hid (by omega)
  have HV0 := Wc.hid hv
  have HX0 := Wc.hid hx
  have HSX := Wc.hid hsx
  have HSH := Wc.hid hsh
  have HC := Wc.hid hc
  have HV := Wc.hid ((hv.alloc (.cells #[.int .i64 c.kind, .int .i64 c.id, .int .i64 c.parent, .int .i64 c.size, .int .i64 c.start, .int .i64 c.count, .int .i64 c.source, .int .i64 c.digest, .slice a1 c.data.length p1] 24)).alloc (.cells #[.int .i64 c.kind, .int .i64 c.id, .int .i64 c.parent, .int .i64 c.size, .int .i64 c.start, .int .i64 c.count, .int .i64 c.source, .int .i64 c.digest, .slice a1 c.data.length p1] 24))
  have C0 : Hid (Wk.Ch ((w.alloc (.cells #[.int .i64 c.kind, .int .i64 c.id, .int .i64 c.parent, .int .i64 c.size, .int .i64 c.start, .int .i64 c.count, .int .i64 c.source, .int .i64 c.digest, .slice a1 c.data.length p1] 24)).alloc (.cells #[.int .i64 c.kind, .int .i64 c.id, .int .i64 c.parent, .int .i64 c.size, .int .i64 c.start, .int .i64 c.count, .int .i64 c.source, .int .i64 c.digest, .slice a1 c.data.length p1] 24)) w.heap.size c (.slice a1 c.data.length p1)) := Wc.hid ((Wk.Ch.new w c (.slice a1 c.data.length p1)).keep ((Below.refl _ _).alloc (Nat.le_refl _) _))
  have L0 : Hid (Wk.Ch ((w.alloc (.cells #[.int .i64 c.kind, .int .i64 c.id, .int .i64 c.parent, .int .i64 c.size, .int .i64 c.start, .int .i64 c.count, .int .i64 c.source, .int .i64 c.digest, .slice a1 c.data.length p1] 24)).alloc (.cells #[.int .i64 c.kind, .int .i64 c.id, .int .i64 c.parent, .int .i64 c.size, .int .i64 c.start, .int .i64 c.count, .int .i64 c.source, .int .i64 c.digest, .slice a1 c.data.length p1] 24)) (w.heap.size + 1) c (.slice a1 c.data.length p1)) := Wc.hid (chAt (c := c) (v := .slice a1 c.data.length p1) _ (by simp))
  have B0 : Hid (Below w.heap.size w ((w.alloc (.cells #[.int .i64 c.kind, .int .i64 c.id, .int .i64 c.parent, .int .i64 c.size, .int .i64 c.start, .int .i64 c.count, .int .i64 c.source, .int .i64 c.digest, .slice a1 c.data.length p1] 24)).alloc (.cells #[.int .i64 c.kind, .int .i64 c.id, .int .i64 c.parent, .int .i64 c.size, .int .i64 c.start, .int .i64 c.count, .int .i64 c.source, .int .i64 c.digest, .slice a1 c.data.length p1] 24))) := Wc.hid (((Below.refl w.heap.size w).alloc (Nat.le_refl _) _).alloc (by simp) _)
  have HPA : Hid (∀ (v : Value) (w : World), Wc.Bs w v xs → Calls Try.prog 13 #[v] w fun e w' => ∃ a c, e = .returned (.tuple #[cv (Wk.par xs) (.slice a (Wk.par xs).data.length c), .int .i64 (Wk.parQ xs), .int .i64 (Wk.parZ xs), .int .i64 (Wk.parE xs)]) ∧ Wc.Bs w' (.slice a (Wk.par xs).data.length c) (Wk.par xs).data ∧ Below w.heap.size w w') := Wc.hid (fun v w hv => (parse9_any v xs w hv).mono (by rintro e w' ⟨a, c, rfl, hO, hb⟩; exact ⟨a, c, rfl, hO.bs, hb⟩))
  have HPF : Hid (∀ (v : Value) (w : World), Wc.Bs w v xs → Calls Try.prog 14 #[v] w fun e w' => ∃ a c, e = .returned (.tuple #[cv (Wk.par xs) (.slice a (Wk.par xs).data.length c), .int .i64 (Wk.parQ xs), .int .i64 (Wk.parZ xs), .int .i64 (Wk.parE xs)]) ∧ Wc.Bs w' (.slice a (Wk.par xs).data.length c) (Wk.par xs).data ∧ Below w.heap.size w w') := Wc.hid (fun v w hv => refParse9_any v xs w hv)
  generalize Wk.par xs = Y at HPA HPF
  generalize Wk.parQ xs = YQ at HPA HPF
  generalize Wk.parZ xs = YZ at HPA HPF
  generalize Wk.parE xs = YE at HPA HPF
  clear h h2 hv hsh hx hsx hc
  unfold cv
  go_enter Try.func3, Try.ntmps3
  go_wp2_with fail
  refine (twinCmd_any (w.heap.size + 1) c a1 p1 _ L0.out HV.out HSH.out).mono ?_
  rintro e w1 ⟨g, k, a', q', rfl, hT, hgl, hTb, hTs, hb⟩
  have T1 := Wc.hid hT
  have G1 := Wc.hid hgl
  have TB1 := Wc.hid hTb
  have TS := Wc.hid hTs
  have C1 := Wc.hid (C0.out.keep hb)
  have B1 := Wc.hid (Wc.step B0.out (Nat.le_refl _) hb)
  clear hT hgl hTb hTs hb C0 L0 B0 HV
  go_wp2_with fail
  refine (twin_ob _ xs _ (HX0.out.keep B1.out) HSX.out).mono ?_
  rintro e w2 ⟨v2, rfl, hO, hb⟩
  obtain ⟨a3, q3, rfl⟩ := ob_slice hO
  have D2 := Wc.hid hO.bs
  have T2 := Wc.hid (ccKeep T1.out G1.out hb)
  have G2 : Hid (g < w2.heap.size) := Wc.hid (Nat.lt_of_lt_of_le G1.out hb.size)
  have TB2 := Wc.hid (TB1.out.keep hb)
  have C2 := Wc.hid (C1.out.keep hb)
  have B2 := Wc.hid (Wc.step B1.out (Nat.le_refl _) hb)
  clear hO hb T1 G1 TB1 C1 B1
  have ⟨t0, t1, t2, t3, t4, t5, t6, t7, t8⟩ := T2.out
  go_wp2_with fail
  clear t0 t1 t2 t3 t4 t5 t6 t7 t8
  refine (payload_any c a' q' _ TB2.out TS.out HC.out).mono ?_
  rintro e w3 ⟨a4, k4, rfl, hO, hb⟩
  have P3 := Wc.hid hO.bs
  have T3 := Wc.hid (ccKeep T2.out G2.out hb)
  have G3 : Hid (g < w3.heap.size) := Wc.hid (Nat.lt_of_lt_of_le G2.out hb.size)
  have TB3 := Wc.hid (TB2.out.keep hb)
  have D3 := Wc.hid (D2.out.keep hb)
  have C3 := Wc.hid (C2.out.keep hb)
  have B3 := Wc.hid (Wc.step B2.out (Nat.le_refl _) hb)
  clear hO hb T2 G2 TB2 D2 C2 B2
  have ⟨t0, t1, t2, t3, t4, t5, t6, t7, t8⟩ := T3.out
  go_wp2_with fail
  clear t0 t1 t2 t3 t4 t5 t6 t7 t8
  refine (bytes9_all q c a' q' _ TB3.out TS.out HC.out).mono ?_
  rintro e w4 ⟨a5, k5, rfl, hX, hb⟩
  have X4 := Wc.hid hX
  have P4 := Wc.hid (P3.out.keep hb)
  have T4 := Wc.hid (ccKeep T3.out G3.out hb)
  have G4 : Hid (g < w4.heap.size) := Wc.hid (Nat.lt_of_lt_of_le G3.out hb.size)
  have TB4 := Wc.hid (TB3.out.keep hb)
  have D4 := Wc.hid (D3.out.keep hb)
  have C4 := Wc.hid (C3.out.keep hb)
  have B4 := Wc.hid (Wc.step B3.out (Nat.le_refl _) hb)
  clear hX hb P3 T3 G3 TB3 D3 C3 B3
  go_wp2_with fail
  refine (HPA.out _ _ D4.out).mono ?_
  rintro e w5 ⟨a6, k6, rfl, hY, hb⟩
  have AL := (Below.refl w5.heap.size w5).alloc (Nat.le_refl _) (.cells #[.int .i64 Y.kind, .int .i64 Y.id, .int .i64 Y.parent, .int .i64 Y.size, .int .i64 Y.start, .int .i64 Y.count, .int .i64 Y.source, .int .i64 Y.digest, .slice a6 Y.data.length k6] 24)
  have hbb := Wc.step hb (Nat.le_refl _) AL
  have YB5 := Wc.hid (hY.keep AL)
  have Y5 := Wc.hid (Wk.Ch.new w5 Y (.slice a6 Y.data.length k6))
  have X5 := Wc.hid (X4.out.keep hbb)
  have P5 := Wc.hid (P4.out.keep hbb)
  have T5 := Wc.hid (ccKeep T4.out G4.out hbb)
  have G5 : Hid (g < (w5.alloc (.cells #[.int .i64 Y.kind, .int .i64 Y.id, .int .i64 Y.parent, .int .i64 Y.size, .int .i64 Y.start, .int .i64 Y.count, .int .i64 Y.source, .int .i64 Y.digest, .slice a6 Y.data.length k6] 24)).heap.size) := Wc.hid (Nat.lt_of_lt_of_le G4.out hbb.size)
  have TB5 := Wc.hid (TB4.out.keep hbb)
  have D5 := Wc.hid (D4.out.keep hbb)
  have C5 := Wc.hid (C4.out.keep hbb)
  have B5 := Wc.hid (Wc.step B4.out (Nat.le_refl _) hbb)
  clear hY hb AL hbb X4 P4 T4 G4 TB4 D4 C4 B4
  unfold cv
  go_wp2_with fail
  refine (HPF.out _ _ (HX0.out.keep B5.out)).mono ?_
  rintro e w6 ⟨a7, k7, rfl, hZ, hb⟩
  have AL := (Below.refl w6.heap.size w6).alloc (Nat.le_refl _) (.cells #[.int .i64 Y.kind, .int .i64 Y.id, .int .i64 Y.parent, .int .i64 Y.size, .int .i64 Y.start, .int .i64 Y.count, .int .i64 Y.source, .int .i64 Y.digest, .slice a7 Y.data.length k7] 24)
  have hbb := Wc.step hb (Nat.le_refl _) AL
  have ZB6 := Wc.hid (hZ.keep AL)
  have Z6 := Wc.hid (Wk.Ch.new w6 Y (.slice a7 Y.data.length k7))
  have YB6 := Wc.hid (YB5.out.keep hbb)
  have Y6 := Wc.hid (Y5.out.keep hbb)
  have X6 := Wc.hid (X5.out.keep hbb)
  have P6 := Wc.hid (P5.out.keep hbb)
  have T6 := Wc.hid (ccKeep T5.out G5.out hbb)
  have G6 : Hid (g < (w6.alloc (.cells #[.int .i64 Y.kind, .int .i64 Y.id, .int .i64 Y.parent, .int .i64 Y.size, .int .i64 Y.start, .int .i64 Y.count, .int .i64 Y.source, .int .i64 Y.digest, .slice a7 Y.data.length k7] 24)).heap.size) := Wc.hid (Nat.lt_of_lt_of_le G5.out hbb.size)
  have TB6 := Wc.hid (TB5.out.keep hbb)
  have D6 := Wc.hid (D5.out.keep hbb)
  have C6 := Wc.hid (C5.out.keep hbb)
  have B6 := Wc.hid (Wc.step B5.out (Nat.le_refl _) hbb)
  clear hZ hb AL hbb YB5 Y5 X5 P5 T5 G5 TB5 D5 C5 B5 HPA HPF
  unfold cv
  go_wp2_with fail
  obtain ⟨W7, hW7⟩ : ∃ W7, w6.alloc (.cells #[.int .i64 Y.kind, .int .i64 Y.id, .int .i64 Y.parent, .int .i64 Y.size, .int .i64 Y.start, .int .i64 Y.count, .int .i64 Y.source, .int .i64 Y.digest, .slice a7 Y.data.length k7] 24) = W7 := ⟨_, rfl⟩
  rw [hW7] at ZB6 Z6 YB6 Y6 X6 P6 T6 G6 TB6 D6 C6 B6 ⊢
  clear hW7
  have hd := show_drew (Below.refl W7.heap.size W7)
  have Y7 := Y6.out.keep hd
  have Z7 := Z6.out.keep hd
  have C7 := C6.out.keep hd
  have T7 := ccKeep T6.out G6.out hd
  have G7 : g < W7.drew.heap.size := G6.out
  have B7 := show_drew B6.out
  have HYB := Wc.hid (YB6.out.keep hd)
  have HZB := Wc.hid (ZB6.out.keep hd)
  have HDB := Wc.hid (D6.out.keep hd)
  have HTB := Wc.hid (TB6.out.keep hd)
  have ⟨y0, y1, y2, y3, y4, y5, y6, y7, y8⟩ := Y6.out.cc
  have ⟨z0, z1, z2, z3, z4, z5, z6, z7, z8⟩ := Z6.out.cc
  have ⟨c0, c1, c2, c3, c4, c5, c6, c7, c8⟩ := C6.out.cc
  have ⟨t0, t1, t2, t3, t4, t5, t6, t7, t8⟩ := T6.out
  go_region_held3 (fun w' => w'.cell? ⟨w5.heap.size, 0, none⟩ = some (.int .i64 Y.kind) ∧ w'.cell? ⟨w5.heap.size, 1, none⟩ = some (.int .i64 Y.id) ∧ w'.cell? ⟨w5.heap.size, 2, none⟩ = some (.int .i64 Y.parent) ∧ w'.cell? ⟨w5.heap.size, 3, none⟩ = some (.int .i64 Y.size) ∧ w'.cell? ⟨w5.heap.size, 4, none⟩ = some (.int .i64 Y.start) ∧ w'.cell? ⟨w5.heap.size, 5, none⟩ = some (.int .i64 Y.count) ∧ w'.cell? ⟨w5.heap.size, 6, none⟩ = some (.int .i64 Y.source) ∧ w'.cell? ⟨w5.heap.size, 7, none⟩ = some (.int .i64 Y.digest) ∧ w'.cell? ⟨w5.heap.size, 8, none⟩ = some (.slice a6 Y.data.length k6) ∧ w'.cell? ⟨w6.heap.size, 0, none⟩ = some (.int .i64 Y.kind) ∧ w'.cell? ⟨w6.heap.size, 1, none⟩ = some (.int .i64 Y.id) ∧ w'.cell? ⟨w6.heap.size, 2, none⟩ = some (.int .i64 Y.parent) ∧ w'.cell? ⟨w6.heap.size, 3, none⟩ = some (.int .i64 Y.size) ∧ w'.cell? ⟨w6.heap.size, 4, none⟩ = some (.int .i64 Y.start) ∧ w'.cell? ⟨w6.heap.size, 5, none⟩ = some (.int .i64 Y.count) ∧ w'.cell? ⟨w6.heap.size, 6, none⟩ = some (.int .i64 Y.source) ∧ w'.cell? ⟨w6.heap.size, 7, none⟩ = some (.int .i64 Y.digest) ∧ w'.cell? ⟨w6.heap.size, 8, none⟩ = some (.slice a7 Y.data.length k7) ∧ w'.cell? ⟨g, 0, none⟩ = some (.int .i64 c.kind) ∧ w'.cell? ⟨g, 1, none⟩ = some (.int .i64 c.id) ∧ w'.cell? ⟨g, 2, none⟩ = some (.int .i64 c.parent) ∧ w'.cell? ⟨g, 3, none⟩ = some (.int .i64 c.size) ∧ w'.cell? ⟨g, 4, none⟩ = some (.int .i64 c.start) ∧ w'.cell? ⟨g, 5, none⟩ = some (.int .i64 c.count) ∧ w'.cell? ⟨g, 6, none⟩ = some (.int .i64 c.source) ∧ w'.cell? ⟨g, 7, none⟩ = some (.int .i64 c.digest) ∧ w'.cell? ⟨g, 8, none⟩ = some (.slice a' c.data.length q') ∧ w'.cell? ⟨w.heap.size, 0, none⟩ = some (.int .i64 c.kind) ∧ w'.cell? ⟨w.heap.size, 1, none⟩ = some (.int .i64 c.id) ∧ w'.cell? ⟨w.heap.size, 2, none⟩ = some (.int .i64 c.parent) ∧ w'.cell? ⟨w.heap.size, 3, none⟩ = some (.int .i64 c.size) ∧ w'.cell? ⟨w.heap.size, 4, none⟩ = some (.int .i64 c.start) ∧ w'.cell? ⟨w.heap.size, 5, none⟩ = some (.int .i64 c.count) ∧ w'.cell? ⟨w.heap.size, 6, none⟩ = some (.int .i64 c.source) ∧ w'.cell? ⟨w.heap.size, 7, none⟩ = some (.int .i64 c.digest) ∧ w'.cell? ⟨w.heap.size, 8, none⟩ = some (.slice a1 c.data.length p1)) (go_keep) (first | (go_at_call_of 15 (Value.slice a' c.data.length q'); refine (keepCmd_any c c _ _ _ (by exact (HTB.out.keep hb8).keep hb9) (by exact HV0.out.keep B9)).mono ?_; rintro e w10 ⟨rfl, hb10⟩; rw [Wk.eqB_self]; have Y10 := Y9.keep hb10; have Z10 := Z9.keep hb10; have C10 := C9.keep hb10; have T10 := ccKeep T9 G9 hb10; have G10 := Nat.lt_of_lt_of_le G9 hb10.size; have ⟨y100, y101, y102, y103, y104, y105, y106, y107, y108⟩ := Y10.cc; have ⟨z100, z101, z102, z103, z104, z105, z106, z107, z108⟩ := Z10.cc; have ⟨c100, c101, c102, c103, c104, c105, c106, c107, c108⟩ := C10.cc; have ⟨t100, t101, t102, t103, t104, t105, t106, t107, t108⟩ := T10; have B10 := Wc.step B9 (Nat.le_refl _) hb10) | (go_at_call 16; refine (bytes_any _ _ xs xs _ (by exact HDB.out.keep hb8) (by exact HX0.out.keep B8)).mono ?_; rintro e w9 ⟨rfl, hb9⟩; rw [beq_self_eq_true]; have Y9 := Y8.keep hb9; have Z9 := Z8.keep hb9; have C9 := C8.keep hb9; have T9 := ccKeep T8 G8 hb9; have G9 := Nat.lt_of_lt_of_le G8 hb9.size; have ⟨y90, y91, y92, y93, y94, y95, y96, y97, y98⟩ := Y9.cc; have ⟨z90, z91, z92, z93, z94, z95, z96, z97, z98⟩ := Z9.cc; have ⟨c90, c91, c92, c93, c94, c95, c96, c97, c98⟩ := C9.cc; have ⟨t90, t91, t92, t93, t94, t95, t96, t97, t98⟩ := T9; have B9 := Wc.step B8 (Nat.le_refl _) hb9) | (go_at_call_of 15 (Value.slice a6 Y.data.length k6); refine (keepCmd_any Y Y _ _ _ (by exact HYB.out) (by exact HZB.out)).mono ?_; rintro e w8 ⟨rfl, hb8⟩; rw [Wk.eqB_self]; have Y8 := Y7.keep hb8; have Z8 := Z7.keep hb8; have C8 := C7.keep hb8; have T8 := ccKeep T7 G7 hb8; have G8 := Nat.lt_of_lt_of_le G7 hb8.size; have ⟨y80, y81, y82, y83, y84, y85, y86, y87, y88⟩ := Y8.cc; have ⟨z80, z81, z82, z83, z84, z85, z86, z87, z88⟩ := Z8.cc; have ⟨c80, c81, c82, c83, c84, c85, c86, c87, c88⟩ := C8.cc; have ⟨t80, t81, t82, t83, t84, t85, t86, t87, t88⟩ := T8; have B8 := Wc.step B7 (Nat.le_refl _) hb8) | fail)
  have BW := Wc.step (Wc.step (Wc.step hd (Nat.le_refl _) hb8) (Nat.le_refl _) hb9) (Nat.le_refl _) hb10
  have PA := Wc.hid (P6.out.keep BW)
  have XA := Wc.hid (X6.out.keep BW)
  have CA := Wc.hid C10
  have BA := Wc.hid B10
  clear BW B10 C10 hd hb8 hb9 hb10
  go_wp2_with fail
  refine (refCmd_any c a1 p1 _ HL.out HC.out).mono ?_
  rintro e w11 ⟨rfl, hb⟩
  have PB := Wc.hid (PA.out.keep hb)
  have XB := Wc.hid (XA.out.keep hb)
  have CB := Wc.hid (CA.out.keep hb)
  have BB := Wc.hid (Wc.step BA.out (Nat.le_refl _) hb)
  clear hb PA XA CA BA
  have ⟨e0, e1, e2, e3, e4, e5, e6, e7, e8⟩ := CB.out.cc
  cases hcb : Wk.cmdB c
  · have hE := Wk.cmdE_no hcb
    have hp0 : (payR c).length = 0 := by unfold payR; rw [hcb]; rfl
    have hnq : ¬ (Wk.cmdB c = true ∧ 0 ≤ q ∧ q ≤ 4294967295) := by rw [hcb]; simp
    have hx0 : (bytR q c).length = 0 := by unfold bytR; rw [if_neg hnq]; rfl
    have hbe : bytE q c = 1 := if_neg hnq
    clear hnq hcb
    go_wp2_with fail
    refine (check9_any c a1 p1 _ HL.out HC.out).mono ?_
    rintro e w12 ⟨rfl, hb⟩
    have BZ := Wc.hid (Wc.step BB.out (Nat.le_refl _) hb)
    clear hb
    go_wp2_with fail
    refine (wakes_any _).mono ?_
    rintro e wz ⟨rfl, hbz⟩
    go_wp2_with fail
    go_ret
    exact ⟨rfl, Wc.step BZ.out (Nat.le_refl _) hbz⟩
  · have hE := Wk.cmdE_yes hcb
    have HCB := Wc.hid hcb
    have HPR : Hid (payR c = Wk.pay c) := Wc.hid (if_pos hcb)
    have HNQ : Hid (∀ h : ¬ (0 ≤ q ∧ q ≤ 4294967295), (bytR q c).length = 0 ∧ bytE q c = 1) := Wc.hid (fun h => by
      have hnq : ¬ (Wk.cmdB c = true ∧ 0 ≤ q ∧ q ≤ 4294967295) := fun h' => h h'.2
      exact ⟨by unfold bytR; rw [if_neg hnq]; rfl, if_neg hnq⟩)
    have HYQ : Hid (∀ h : 0 ≤ q ∧ q ≤ 4294967295, bytR q c = Wk.frame q c ∧ bytE q c = 0) := Wc.hid (fun h => ⟨if_pos ⟨hcb, h⟩, if_pos ⟨hcb, h⟩⟩)
    clear hcb
    go_wp2_with fail
    refine (check9_any c a1 p1 _ HL.out HC.out).mono ?_
    rintro e w12 ⟨rfl, hb⟩
    rw [hE]
    have PC := Wc.hid (PB.out.keep hb)
    have XC := Wc.hid (XB.out.keep hb)
    have CC := Wc.hid (CB.out.keep hb)
    have BC := Wc.hid (Wc.step BB.out (Nat.le_refl _) hb)
    clear hb PB XB CB BB
    have ⟨j0, j1, j2, j3, j4, j5, j6, j7, j8⟩ := CC.out.cc
    go_wp2_with fail
    refine (refPay_any c a1 p1 _ HCB.out (HV0.out.keep BC.out) HSH.out).mono ?_
    rintro e w13 ⟨v13, rfl, hO, hb⟩
    have PD := Wc.hid (PC.out.keep hb)
    have XD := Wc.hid (XC.out.keep hb)
    have CD := Wc.hid (CC.out.keep hb)
    have BD := Wc.hid (Wc.step BC.out (Nat.le_refl _) hb)
    have OD := Wc.hid hO.bs
    clear hO hb PC XC CC BC
    go_wp2_with fail
    refine (bytes_any _ _ (payR c) (Wk.pay c) _ PD.out OD.out).mono ?_
    rintro e w14 ⟨rfl, hb⟩
    rw [HPR.out, beq_self_eq_true]
    have XE := Wc.hid (XD.out.keep hb)
    have CE := Wc.hid (CD.out.keep hb)
    have BE := Wc.hid (Wc.step BD.out (Nat.le_refl _) hb)
    clear hb PD XD CD BD OD
    have ⟨m0, m1, m2, m3, m4, m5, m6, m7, m8⟩ := CE.out.cc
    by_cases hq : 0 ≤ q ∧ q ≤ 4294967295
    · have hq1 : ¬ q < 0 := by omega
      have hq2 : ¬ 4294967295 < q := by omega
      have hbe := (HYQ.out hq).2
      have HRF := Wc.hid (HYQ.out hq).1
      have HQ := Wc.hid hq
      clear hq
      go_wp2_with fail
      refine (refFrame_any q c a1 p1 _ (HV0.out.keep BE.out) HSH.out HCB.out HQ.out).mono ?_
      rintro e w15 ⟨v15, rfl, hF, hb⟩
      have XF := Wc.hid (XE.out.keep hb)
      have BF := Wc.hid (Wc.step BE.out (Nat.le_refl _) hb)
      have FF := Wc.hid hF
      clear hF hb
      go_wp2_with fail
      refine (bytes_any _ _ (bytR q c) (Wk.frame q c) _ XF.out FF.out).mono ?_
      rintro e w16 ⟨rfl, hb⟩
      rw [HRF.out, beq_self_eq_true]
      have BZ := Wc.hid (Wc.step BF.out (Nat.le_refl _) hb)
      clear hb
      go_wp2_with fail
      refine (wakes_any _).mono ?_
      rintro e wz ⟨rfl, hbz⟩
      go_wp2_with fail
      go_ret
      exact ⟨rfl, Wc.step BZ.out (Nat.le_refl _) hbz⟩
    · have hnn := HNQ.out hq
      have hx0 := hnn.1
      have hbe := hnn.2
      clear hnn
      by_cases hq1 : q < 0
      · clear hq
        go_wp2_with fail
        refine (wakes_any _).mono ?_
        rintro e wz ⟨rfl, hbz⟩
        go_wp2_with fail
        go_ret
        exact ⟨rfl, Wc.step BE.out (Nat.le_refl _) hbz⟩
      · have hq2 : 4294967295 < q := by omega
        clear hq
        go_wp2_with fail
        refine (wakes_any _).mono ?_
        rintro e wz ⟨rfl, hbz⟩
        go_wp2_with fail
        go_ret
        exact ⟨rfl, Wc.step BE.out (Nat.le_refl _) hbz⟩

end Go.Proofs.Ytfejabeifabdlaa
