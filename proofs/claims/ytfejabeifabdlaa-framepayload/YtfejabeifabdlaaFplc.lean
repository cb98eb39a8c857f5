/-
  FramePayload, of two right commands of unlike kinds.
-/
import Derived.Test.YtfejabeifabdlaaFpl
import Derived.Deep.RegionHeld3
namespace Go.Proofs.Ytfejabeifabdlaa
open Go.RowKit

set_option maxHeartbeats 3200000 in
theorem payload_both_unlike (c d : Wk.Cmd) (s : Int) (a1 a2 : Option Addr) (p1 p2 : Nat) (w : World) (hv1 : Wc.Bs w (.slice a1 c.data.length p1) c.data) (hs1 : Wc.Shaped (.slice a1 c.data.length p1)) (hv2 : Wc.Bs w (.slice a2 d.data.length p2) d.data) (hs2 : Wc.Shaped (.slice a2 d.data.length p2)) (hc : Wk.Held c) (hd : Wk.Held d) (n1 : c.data.length ≤ 1500) (n2 : d.data.length ≤ 1500) (h1 : Wk.cmdB c = true) (h2 : Wk.cmdB d = true) (hk : ¬ c.kind = d.kind) :
    Calls Try.prog 5 #[cv c (.slice a1 c.data.length p1), cv d (.slice a2 d.data.length p2), .int .i64 s] w fun e w' => e = .returned (.bool true) ∧ Below w.heap.size w w' := by
  obtain ⟨Q, hQ, eQ⟩ := Wc.low 4294967296 s (by omega) (by omega)
  have g1 : ¬ (1500 : Int) < (c.data.length : Int) := by omega
  have g2 : ¬ (1500 : Int) < (d.data.length : Int) := by omega
  have HV1 := Wc.hid hv1
  have HV2 := Wc.hid hv2
  have HS1 := Wc.hid hs1
  have HS2 := Wc.hid hs2
  have HQ : Hid (0 ≤ Q ∧ Q ≤ 4294967295) := Wc.hid (by omega)
  have HC := Wc.hid hc
  have HD := Wc.hid hd
  have HL : Hid (c.data.length ≤ 140737488355328 ∧ d.data.length ≤ 140737488355328) := Wc.hid (by omega)
  have C0 := Wc.hid ((Wk.Ch.new w c (.slice a1 c.data.length p1)).keep ((Below.refl _ _).alloc (Nat.le_refl _) (.cells #[.int .i64 d.kind, .int .i64 d.id, .int .i64 d.parent, .int .i64 d.size, .int .i64 d.start, .int .i64 d.count, .int .i64 d.source, .int .i64 d.digest, .slice a2 d.data.length p2] 24)))
  have D0 : Hid (Wk.Ch ((w.alloc (.cells #[.int .i64 c.kind, .int .i64 c.id, .int .i64 c.parent, .int .i64 c.size, .int .i64 c.start, .int .i64 c.count, .int .i64 c.source, .int .i64 c.digest, .slice a1 c.data.length p1] 24)).alloc (.cells #[.int .i64 d.kind, .int .i64 d.id, .int .i64 d.parent, .int .i64 d.size, .int .i64 d.start, .int .i64 d.count, .int .i64 d.source, .int .i64 d.digest, .slice a2 d.data.length p2] 24)) (w.heap.size + 1) d (.slice a2 d.data.length p2)) := Wc.hid (by
    have := Wk.Ch.new (w.alloc (.cells #[.int .i64 c.kind, .int .i64 c.id, .int .i64 c.parent, .int .i64 c.size, .int .i64 c.start, .int .i64 c.count, .int .i64 c.source, .int .i64 c.digest, .slice a1 c.data.length p1] 24)) d (.slice a2 d.data.length p2)
    simpa using this)
  have B0 := Wc.hid (((Below.refl w.heap.size w).alloc (Nat.le_refl _) (.cells #[.int .i64 c.kind, .int .i64 c.id, .int .i64 c.parent, .int .i64 c.size, .int .i64 c.start, .int .i64 c.count, .int .i64 c.source, .int .i64 c.digest, .slice a1 c.data.length p1] 24)).alloc (by simp) (.cells #[.int .i64 d.kind, .int .i64 d.id, .int .i64 d.parent, .int .i64 d.size, .int .i64 d.start, .int .i64 d.count, .int .i64 d.source, .int .i64 d.digest, .slice a2 d.data.length p2] 24))
  have H1 := Wc.hid h1
  have H2 := Wc.hid h2
  have hkb : (c.kind != d.kind) = true := by simpa using hk
  have HFR : Hid (((Wk.frame Q c).drop 16).take (Wk.pay c).length = Wk.pay c ∧ (Wk.frame Q c).length = (Wk.pay c).length + 20) := Wc.hid (by
    have h := Wk.frame_nums (q := Q) (c := c) [] HQ.out h1
    rw [List.append_nil] at h
    exact ⟨h.2.2.2.2, by rw [Wk.frame_length]; omega⟩)
  have HP4 := Wc.hid (Wk.pay_len h1)
  have HP5 := Wc.hid (Wk.pay_len h2)
  have hk2 : (c.kind == d.kind) = false := by simpa using hk
  clear h1 h2
  clear hv1 hs1 hv2 hs2 hc hd hQ
  unfold cv
  go_enter Try.func5, Try.ntmps5
  go_wp2_with fail
  clear eQ
  refine (payload_ok c a1 p1 _ (HV1.out.keep B0.out) HS1.out H1.out).mono ?_
  rintro e w1 ⟨v1, rfl, hO1, hb⟩
  obtain ⟨q1, k1, rfl⟩ := Wc.ob_form hO1 (by have := HP4.out; omega)
  have V1 := Wc.hid hO1.bs
  clear hO1
  have B1 := Wc.hid (Wc.step B0.out (Nat.le_refl _) hb)
  have C1 := Wc.hid (C0.out.keep hb)
  have D1 := Wc.hid (D0.out.keep hb)
  clear hb C0 D0 B0
  have ⟨d0, d1, d2, d3, d4, d5, d6, d7, d8⟩ := D1.out.cc
  go_wp2_with fail
  clear d0 d1 d2 d3 d4 d5 d6 d7 d8
  refine (payload_ok d a2 p2 _ (HV2.out.keep B1.out) HS2.out H2.out).mono ?_
  rintro e w2 ⟨v2, rfl, hO2, hb⟩
  obtain ⟨q2, k2, rfl⟩ := Wc.ob_form hO2 (by have := HP5.out; omega)
  have V2 := Wc.hid hO2.bs
  have V1' := Wc.hid (V1.out.keep hb)
  clear hO2 V1
  have B2 := Wc.hid (Wc.step B1.out (Nat.le_refl _) hb)
  have C2 := Wc.hid (C1.out.keep hb)
  have D2 := Wc.hid (D1.out.keep hb)
  clear hb C1 D1 B1
  have ⟨d0, d1, d2, d3, d4, d5, d6, d7, d8⟩ := C2.out.cc
  go_wp2_with fail
  clear d0 d1 d2 d3 d4 d5 d6 d7 d8
  refine (bytes9_ok Q c a1 p1 _ (HV1.out.keep B2.out) HS1.out H1.out HQ.out).mono ?_
  rintro e w3 ⟨g3, k3, rfl, hO3, hb⟩
  rw [HFR.out.2] at hO3 ⊢
  obtain ⟨m, hm⟩ : ∃ m, (Wk.pay c).length = m := ⟨_, rfl⟩
  obtain ⟨E, hE⟩ : ∃ E, m + 20 = E := ⟨_, rfl⟩
  obtain ⟨q, hq⟩ : ∃ q, m + 16 = q := ⟨_, rfl⟩
  have hcap := Wc.bs_cap hO3.bs
  rw [hm, hE] at hcap
  have X3 : Hid (Wc.Bs w3 (.slice (some ⟨g3, 0 + 16, none⟩) m (k3 - 16)) (Wk.pay c)) := Wc.hid (by
    have := Wc.bs_mid hO3.bs 16 m (by omega)
    rw [← hm, HFR.out.1] at this
    rw [hm] at this
    exact this)
  have V1 := Wc.hid (V1'.out.keep hb)
  have V3 := Wc.hid (V2.out.keep hb)
  have hsl := slice_mid g3 0 E k3 m q hq.symm (by omega) (by omega)
  have hwr : wrap64 ((E : Int) - 4) = (q : Int) := by unfold wrap64; have := HP4.out; omega
  have hwr2 : IntKind.i64.wrap ((E : Int) - 4) = (q : Int) := by rw [IntKind.wrap_i64]; have := HP4.out; omega
  have hE4 : (E : Int) - 4 = (q : Int) := by omega
  have hne : ((E : Int) != (m : Int) + 20) = false := by simp; omega
  have hm520 : m ≤ 520 := by have := HP4.out; omega
  have hq16 : 16 ≤ q := by omega
  have hqk : q ≤ k3 := by omega
  rw [hm] at V1 ⊢
  rw [hE]
  have HPE := Wc.hid hm
  clear hO3 V1' V2 hm hE hq
  have B3 := Wc.hid (Wc.step B2.out (Nat.le_refl _) hb)
  have C3 := Wc.hid (C2.out.keep hb)
  have D3 := Wc.hid (D2.out.keep hb)
  clear hb C2 D2 B2
  go_wp2_with fail
  refine (bytes_any _ _ (Wk.pay c) (Wk.pay c) _ X3.out V1.out).mono ?_
  rintro e w4 ⟨rfl, hb⟩
  rw [beq_self_eq_true]
  have V1' := Wc.hid (V1.out.keep (show_drew hb))
  have V3' := Wc.hid (V3.out.keep (show_drew hb))
  clear V1 V3 X3 hsl hwr hwr2 hE4 hne hq16 hqk
  have B4 := Wc.hid (Wc.step B3.out (Nat.le_refl _) hb)
  have C4 := Wc.hid (C3.out.keep hb)
  have D4 := Wc.hid (D3.out.keep hb)
  clear hb C3 D3 B3
  have ⟨c0, c1, c2, c3, c4, c5, c6, c7, c8⟩ := C4.out.cc
  have ⟨d0, d1, d2, d3, d4, d5, d6, d7, d8⟩ := D4.out.cc
  go_wp2_with fail
  refine wp_region_any (by kernel_rfl) ?_
  change wpAny _ _ _ _ _ _ _ (World.drew _)
  refine wpAny_take (i := 0) (v := .pointer (some ⟨w.heap.size, 0, none⟩)) rfl (by kernel_rfl) (by kernel_rfl) (by kernel_rfl) (fun _ _ _ h => h) (Or.inl ⟨by rfl, fun w' => by go_simp⟩) ?_
  refine wpAny_take (i := 2) (v := .pointer (some ⟨w.heap.size + 1, 0, none⟩)) rfl (by kernel_rfl) (by kernel_rfl) (by kernel_rfl) (fun _ _ _ h => h) (Or.inl ⟨by rfl, fun w' => by go_simp⟩) ?_
  refine wpAny_ready (rs := [1, 3]) (by kernel_rfl) (by simp) ?_
  refine AllReady.cons rfl (fun K hK => ?_) (AllReady.cons rfl (fun K hK => ?_) AllReady.nil)
  · go_simp
    refine hK _ _ ?_
    clear hK K
    refine wpAny_ready (rs := [3]) (by kernel_rfl) (by simp) (AllReady.cons rfl (fun K hK => ?_) AllReady.nil)
    go_simp
    refine hK _ _ ?_
    clear hK K
    refine wpAny_take (i := 4) (v := .bool true) rfl (by kernel_rfl) (by kernel_rfl) (by kernel_rfl) (fun _ _ _ h => h) (Or.inl ⟨by rfl, fun w' => by go_simp⟩) ?_
    refine wpAny_take (i := 5) (v := .bool true) rfl (by kernel_rfl) (by kernel_rfl) (by kernel_rfl) (fun _ _ _ h => h) (Or.inl ⟨by rfl, fun w' => by go_simp⟩) ?_
    refine wpAny_take (i := 6) (v := undef) rfl (by kernel_rfl) (by kernel_rfl) (by kernel_rfl) (fun _ _ _ h => h) (Or.inr ⟨by rfl, rfl⟩) ?_
    refine wpAny_take (i := 7) (v := undef) rfl (by kernel_rfl) (by kernel_rfl) (by kernel_rfl) (fun _ _ _ h => h) (Or.inr ⟨by rfl, rfl⟩) ?_
    refine wpAny_take (i := 9) (v := undef) rfl (by kernel_rfl) (by kernel_rfl) (by kernel_rfl) (fun _ _ _ h => h) (Or.inr ⟨by rfl, rfl⟩) ?_
    refine wpAny_take (i := 10) (v := undef) rfl (by kernel_rfl) (by kernel_rfl) (by kernel_rfl) (fun _ _ _ h => h) (Or.inr ⟨by rfl, rfl⟩) ?_
    refine wpAny_ready (rs := [8]) (by kernel_rfl) (by simp) (AllReady.cons rfl (fun K hK => ?_) AllReady.nil)
    go_simp
    refine hK _ _ ?_
    clear hK K
    refine wpAny_ready (rs := [11]) (by kernel_rfl) (by simp) (AllReady.cons rfl (fun K hK => ?_) AllReady.nil)
    go_simp
    refine hK _ _ ?_
    clear hK K
    refine wpAny_ready (rs := [12]) (by kernel_rfl) (by simp) (AllReady.cons rfl (fun K hK => ?_) AllReady.nil)
    go_simp
    refine hK _ _ ?_
    clear hK K
    refine wpAny_ready (rs := [13]) (by kernel_rfl) (by simp) (AllReady.cons rfl (fun K hK => ?_) AllReady.nil)
    go_simp
    refine hK _ _ ?_
    clear hK K
    refine wpAny_ready (rs := [14]) (by kernel_rfl) (by simp) (AllReady.cons rfl (fun K hK => ?_) AllReady.nil)
    go_simp
    refine hK _ _ ?_
    clear hK K
    refine wpAny_ready (rs := [15]) (by kernel_rfl) (by simp) (AllReady.cons rfl (fun K hK => ?_) AllReady.nil)
    go_simp
    go_wp2_with (go_at_call 19; refine (wakes_any _).mono ?_; rintro e wz ⟨rfl, hbz⟩)
    try (refine hK _ _ ?_; clear hK K)
    refine wpAny_ready (rs := [16]) (by kernel_rfl) (by simp) (AllReady.cons rfl (fun K hK => ?_) AllReady.nil)
    go_simp
    refine hK _ _ ?_
    clear hK K
    refine wpAny_ready (rs := [17]) (by kernel_rfl) (by simp) (AllReady.cons rfl (fun K hK => ?_) AllReady.nil)
    go_simp
    refine hK _ _ ?_
    clear hK K
    refine wpAny_done (by kernel_rfl) ?_ _
    go_wp2_with fail
    go_ret
    exact ⟨rfl, Wc.step (show_drew B4.out) (Nat.le_refl _) hbz⟩
  · go_simp
    refine hK _ _ ?_
    clear hK K
    refine wpAny_ready (rs := [1]) (by kernel_rfl) (by simp) (AllReady.cons rfl (fun K hK => ?_) AllReady.nil)
    go_simp
    refine hK _ _ ?_
    clear hK K
    refine wpAny_take (i := 4) (v := .bool true) rfl (by kernel_rfl) (by kernel_rfl) (by kernel_rfl) (fun _ _ _ h => h) (Or.inl ⟨by rfl, fun w' => by go_simp⟩) ?_
    refine wpAny_take (i := 5) (v := .bool true) rfl (by kernel_rfl) (by kernel_rfl) (by kernel_rfl) (fun _ _ _ h => h) (Or.inl ⟨by rfl, fun w' => by go_simp⟩) ?_
    refine wpAny_take (i := 6) (v := undef) rfl (by kernel_rfl) (by kernel_rfl) (by kernel_rfl) (fun _ _ _ h => h) (Or.inr ⟨by rfl, rfl⟩) ?_
    refine wpAny_take (i := 7) (v := undef) rfl (by kernel_rfl) (by kernel_rfl) (by kernel_rfl) (fun _ _ _ h => h) (Or.inr ⟨by rfl, rfl⟩) ?_
    refine wpAny_take (i := 9) (v := undef) rfl (by kernel_rfl) (by kernel_rfl) (by kernel_rfl) (fun _ _ _ h => h) (Or.inr ⟨by rfl, rfl⟩) ?_
    refine wpAny_take (i := 10) (v := undef) rfl (by kernel_rfl) (by kernel_rfl) (by kernel_rfl) (fun _ _ _ h => h) (Or.inr ⟨by rfl, rfl⟩) ?_
    refine wpAny_ready (rs := [8]) (by kernel_rfl) (by simp) (AllReady.cons rfl (fun K hK => ?_) AllReady.nil)
    go_simp
    refine hK _ _ ?_
    clear hK K
    refine wpAny_ready (rs := [11]) (by kernel_rfl) (by simp) (AllReady.cons rfl (fun K hK => ?_) AllReady.nil)
    go_simp
    refine hK _ _ ?_
    clear hK K
    refine wpAny_ready (rs := [12]) (by kernel_rfl) (by simp) (AllReady.cons rfl (fun K hK => ?_) AllReady.nil)
    go_simp
    refine hK _ _ ?_
    clear hK K
    refine wpAny_ready (rs := [13]) (by kernel_rfl) (by simp) (AllReady.cons rfl (fun K hK => ?_) AllReady.nil)
    go_simp
    refine hK _ _ ?_
    clear hK K
    refine wpAny_ready (rs := [14]) (by kernel_rfl) (by simp) (AllReady.cons rfl (fun K hK => ?_) AllReady.nil)
    go_simp
    refine hK _ _ ?_
    clear hK K
    refine wpAny_ready (rs := [15]) (by kernel_rfl) (by simp) (AllReady.cons rfl (fun K hK => ?_) AllReady.nil)
    go_simp
    go_wp2_with (go_at_call 19; refine (wakes_any _).mono ?_; rintro e wz ⟨rfl, hbz⟩)
    try (refine hK _ _ ?_; clear hK K)
    refine wpAny_ready (rs := [16]) (by kernel_rfl) (by simp) (AllReady.cons rfl (fun K hK => ?_) AllReady.nil)
    go_simp
    refine hK _ _ ?_
    clear hK K
    refine wpAny_ready (rs := [17]) (by kernel_rfl) (by simp) (AllReady.cons rfl (fun K hK => ?_) AllReady.nil)
    go_simp
    refine hK _ _ ?_
    clear hK K
    refine wpAny_done (by kernel_rfl) ?_ _
    go_wp2_with fail
    go_ret
    exact ⟨rfl, Wc.step (show_drew B4.out) (Nat.le_refl _) hbz⟩

end Go.Proofs.Ytfejabeifabdlaa
