/-
  FramePayload returns true, for all commands and numbers.
-/
import Derived.Test.YtfejabeifabdlaaFwake
import Derived.Test.YtfejabeifabdlaaSquiet
import Derived.Deep.Cut
namespace Go.Proofs.Ytfejabeifabdlaa
open Go.RowKit

/-- What frame.Payload returns, for every command: the error, and the payload's own memory or none. -/
def payR (c : Wk.Cmd) : List Int := if Wk.cmdB c = true then Wk.pay c else []

theorem payload_any (c : Wk.Cmd) (a : Option Addr) (cap : Nat) (w : World) (hv : Wc.Bs w (.slice a c.data.length cap) c.data) (hsh : Wc.Shaped (.slice a c.data.length cap)) (hc : Wk.Held c) :
    Calls Try.prog 11 #[cv c (.slice a c.data.length cap)] w fun e w' => ∃ a' k, e = .returned (.tuple #[.slice a' (payR c).length k, .int .i64 (Wk.cmdE c)]) ∧ Wc.Ob 5 w.heap.size w' (.slice a' (payR c).length k) (payR c) ∧ Below w.heap.size w w' := by
  have hl : c.data.length ≤ 140737488355328 := by obtain ⟨_, n, _, h, _, _, _, h5, _⟩ := hv; cases h; exact h5
  cases hb : Wk.cmdB c
  · have e1 : payR c = [] := by unfold payR; rw [hb]; rfl
    rw [e1, Wk.cmdE_no hb]
    refine (payload_bad c a cap w hl hc hb).mono ?_
    rintro e w' ⟨rfl, hb'⟩
    exact ⟨none, 0, rfl, Wc.Ob.nil _ _ _, hb'⟩
  · have e1 : payR c = Wk.pay c := by unfold payR; rw [hb]; rfl
    rw [e1, Wk.cmdE_yes hb]
    refine (payload_ok c a cap w hv hsh hb).mono ?_
    rintro e w' ⟨v, rfl, hO, hb'⟩
    obtain ⟨a', k, rfl⟩ := ob_slice hO
    exact ⟨a', k, rfl, hO, hb'⟩

set_option maxHeartbeats 1600000 in
theorem payload_no (c d : Wk.Cmd) (s : Int) (a1 a2 : Option Addr) (p1 p2 : Nat) (w : World) (hv1 : Wc.Bs w (.slice a1 c.data.length p1) c.data) (hs1 : Wc.Shaped (.slice a1 c.data.length p1)) (hv2 : Wc.Bs w (.slice a2 d.data.length p2) d.data) (hs2 : Wc.Shaped (.slice a2 d.data.length p2)) (hc : Wk.Held c) (hd : Wk.Held d) (n1 : c.data.length ≤ 1500) (n2 : d.data.length ≤ 1500) (h1 : Wk.cmdB c = false) :
    Calls Try.prog 5 #[cv c (.slice a1 c.data.length p1), cv d (.slice a2 d.data.length p2), .int .i64 s] w fun e w' => e = .returned (.bool true) ∧ Below w.heap.size w w' := by
  obtain ⟨Q, hQ, eQ⟩ := Wc.low 4294967296 s (by omega) (by omega)
  have g1 : ¬ (1500 : Int) < (c.data.length : Int) := by omega
  have g2 : ¬ (1500 : Int) < (d.data.length : Int) := by omega
  have HV1 := Wc.hid hv1
  have HV2 := Wc.hid hv2
  have HS1 := Wc.hid hs1
  have HS2 := Wc.hid hs2
  have HQ : Hid (0 ≤ Q ∧ Q ≤ 4294967295) := Wc.hid (by omega)
  have HC := Wc.hid hc
  have HD := Wc.hid hd
  have HL : Hid (c.data.length ≤ 140737488355328 ∧ d.data.length ≤ 140737488355328) := Wc.hid (by omega)
  have C0 := Wc.hid ((Wk.Ch.new w c (.slice a1 c.data.length p1)).keep ((Below.refl _ _).alloc (Nat.le_refl _) (.cells #[.int .i64 d.kind, .int .i64 d.id, .int .i64 d.parent, .int .i64 d.size, .int .i64 d.start, .int .i64 d.count, .int .i64 d.source, .int .i64 d.digest, .slice a2 d.data.length p2] 24)))
  have D0 : Hid (Wk.Ch ((w.alloc (.cells #[.int .i64 c.kind, .int .i64 c.id, .int .i64 c.parent, .int .i64 c.size, .int .i64 c.start, .int .i64 c.count, .int .i64 c.source, .int .i64 c.digest, .slice a1 c.data.length p1] 24)).alloc (.cells #[.int .i64 d.kind, .int .i64 d.id, .int .i64 d.parent, .int .i64 d.size, .int .i64 d.start, .int .i64 d.count, .int .i64 d.source, .int .i64 d.digest, .slice a2 d.data.length p2] 24)) (w.heap.size + 1) d (.slice a2 d.data.length p2)) := Wc.hid (by
    have := Wk.Ch.new (w.alloc (.cells #[.int .i64 c.kind, .int .i64 c.id, .int .i64 c.parent, .int .i64 c.size, .int .i64 c.start, .int .i64 c.count, .int .i64 c.source, .int .i64 c.digest, .slice a1 c.data.length p1] 24)) d (.slice a2 d.data.length p2)
    simpa using this)
  have B0 := Wc.hid (((Below.refl w.heap.size w).alloc (Nat.le_refl _) (.cells #[.int .i64 c.kind, .int .i64 c.id, .int .i64 c.parent, .int .i64 c.size, .int .i64 c.start, .int .i64 c.count, .int .i64 c.source, .int .i64 c.digest, .slice a1 c.data.length p1] 24)).alloc (by simp) (.cells #[.int .i64 d.kind, .int .i64 d.id, .int .i64 d.parent, .int .i64 d.size, .int .i64 d.start, .int .i64 d.count, .int .i64 d.source, .int .i64 d.digest, .slice a2 d.data.length p2] 24))
  have H1 := Wc.hid h1
  obtain ⟨E2, hE2⟩ : ∃ E2, Wk.cmdE d = E2 := ⟨_, rfl⟩
  have HE2 := Wc.hid hE2
  clear hE2
  clear h1
  clear hv1 hs1 hv2 hs2 hc hd hQ
  unfold cv
  go_enter Try.func5, Try.ntmps5
  go_wp2_with fail
  clear eQ
  refine (payload_bad c a1 p1 _ HL.out.1 HC.out H1.out).mono ?_
  rintro e w1 ⟨rfl, hb⟩
  have B1 := Wc.hid (Wc.step B0.out (Nat.le_refl _) hb)
  have C1 := Wc.hid (C0.out.keep hb)
  have D1 := Wc.hid (D0.out.keep hb)
  clear hb C0 D0 B0
  have ⟨d0, d1, d2, d3, d4, d5, d6, d7, d8⟩ := D1.out.cc
  go_wp2_with fail
  clear d0 d1 d2 d3 d4 d5 d6 d7 d8
  refine (payload_any d a2 p2 _ (HV2.out.keep B1.out) HS2.out HD.out).mono ?_
  rintro e w2 ⟨a', k', rfl, hO, hb⟩
  rw [HE2.out]
  clear hO
  have B2 := Wc.hid (Wc.step B1.out (Nat.le_refl _) hb)
  have C2 := Wc.hid (C1.out.keep hb)
  have D2 := Wc.hid (D1.out.keep hb)
  clear hb C1 D1 B1
  have ⟨d0, d1, d2, d3, d4, d5, d6, d7, d8⟩ := C2.out.cc
  go_wp2_with fail
  clear d0 d1 d2 d3 d4 d5 d6 d7 d8
  refine (bytes9_bad Q c a1 p1 _ HL.out.1 HC.out H1.out).mono ?_
  rintro e w3 ⟨rfl, hb⟩
  have B3 := Wc.hid (Wc.step B2.out (Nat.le_refl _) hb)
  have C3 := Wc.hid (C2.out.keep hb)
  have D3 := Wc.hid (D2.out.keep hb)
  clear hb C2 D2 B2
  go_wp2_with fail
  refine (wakes_any _).mono ?_
  rintro e wz ⟨rfl, hbz⟩
  go_wp2_with fail
  go_ret
  exact ⟨rfl, Wc.step B3.out (Nat.le_refl _) hbz⟩

set_option maxHeartbeats 1600000 in
theorem payload_half (c d : Wk.Cmd) (s : Int) (a1 a2 : Option Addr) (p1 p2 : Nat) (w : World) (hv1 : Wc.Bs w (.slice a1 c.data.length p1) c.data) (hs1 : Wc.Shaped (.slice a1 c.data.length p1)) (hv2 : Wc.Bs w (.slice a2 d.data.length p2) d.data) (hs2 : Wc.Shaped (.slice a2 d.data.length p2)) (hc : Wk.Held c) (hd : Wk.Held d) (n1 : c.data.length ≤ 1500) (n2 : d.data.length ≤ 1500) (h1 : Wk.cmdB c = true) (h2 : Wk.cmdB d = false) :
    Calls Try.prog 5 #[cv c (.slice a1 c.data.length p1), cv d (.slice a2 d.data.length p2), .int .i64 s] w fun e w' => e = .returned (.bool true) ∧ Below w.heap.size w w' := by
  obtain ⟨Q, hQ, eQ⟩ := Wc.low 4294967296 s (by omega) (by omega)
  have g1 : ¬ (1500 : Int) < (c.data.length : Int) := by omega
  have g2 : ¬ (1500 : Int) < (d.data.length : Int) := by omega
  have HV1 := Wc.hid hv1
  have HV2 := Wc.hid hv2
  have HS1 := Wc.hid hs1
  have HS2 := Wc.hid hs2
  have HQ : Hid (0 ≤ Q ∧ Q ≤ 4294967295) := Wc.hid (by omega)
  have HC := Wc.hid hc
  have HD := Wc.hid hd
  have HL : Hid (c.data.length ≤ 140737488355328 ∧ d.data.length ≤ 140737488355328) := Wc.hid (by omega)
  have C0 := Wc.hid ((Wk.Ch.new w c (.slice a1 c.data.length p1)).keep ((Below.refl _ _).alloc (Nat.le_refl _) (.cells #[.int .i64 d.kind, .int .i64 d.id, .int .i64 d.parent, .int .i64 d.size, .int .i64 d.start, .int .i64 d.count, .int .i64 d.source, .int .i64 d.digest, .slice a2 d.data.length p2] 24)))
  have D0 : Hid (Wk.Ch ((w.alloc (.cells #[.int .i64 c.kind, .int .i64 c.id, .int .i64 c.parent, .int .i64 c.size, .int .i64 c.start, .int .i64 c.count, .int .i64 c.source, .int .i64 c.digest, .slice a1 c.data.length p1] 24)).alloc (.cells #[.int .i64 d.kind, .int .i64 d.id, .int .i64 d.parent, .int .i64 d.size, .int .i64 d.start, .int .i64 d.count, .int .i64 d.source, .int .i64 d.digest, .slice a2 d.data.length p2] 24)) (w.heap.size + 1) d (.slice a2 d.data.length p2)) := Wc.hid (by
    have := Wk.Ch.new (w.alloc (.cells #[.int .i64 c.kind, .int .i64 c.id, .int .i64 c.parent, .int .i64 c.size, .int .i64 c.start, .int .i64 c.count, .int .i64 c.source, .int .i64 c.digest, .slice a1 c.data.length p1] 24)) d (.slice a2 d.data.length p2)
    simpa using this)
  have B0 := Wc.hid (((Below.refl w.heap.size w).alloc (Nat.le_refl _) (.cells #[.int .i64 c.kind, .int .i64 c.id, .int .i64 c.parent, .int .i64 c.size, .int .i64 c.start, .int .i64 c.count, .int .i64 c.source, .int .i64 c.digest, .slice a1 c.data.length p1] 24)).alloc (by simp) (.cells #[.int .i64 d.kind, .int .i64 d.id, .int .i64 d.parent, .int .i64 d.size, .int .i64 d.start, .int .i64 d.count, .int .i64 d.source, .int .i64 d.digest, .slice a2 d.data.length p2] 24))
  have H1 := Wc.hid h1
  have H2 := Wc.hid h2
  clear h1 h2
  clear hv1 hs1 hv2 hs2 hc hd hQ
  unfold cv
  go_enter Try.func5, Try.ntmps5
  go_wp2_with fail
  clear eQ
  refine (payload_ok c a1 p1 _ (HV1.out.keep B0.out) HS1.out H1.out).mono ?_
  rintro e w1 ⟨v1, rfl, hO, hb⟩
  clear hO
  have B1 := Wc.hid (Wc.step B0.out (Nat.le_refl _) hb)
  have C1 := Wc.hid (C0.out.keep hb)
  have D1 := Wc.hid (D0.out.keep hb)
  clear hb C0 D0 B0
  have ⟨d0, d1, d2, d3, d4, d5, d6, d7, d8⟩ := D1.out.cc
  go_wp2_with fail
  clear d0 d1 d2 d3 d4 d5 d6 d7 d8
  refine (payload_bad d a2 p2 _ HL.out.2 HD.out H2.out).mono ?_
  rintro e w2 ⟨rfl, hb⟩
  have B2 := Wc.hid (Wc.step B1.out (Nat.le_refl _) hb)
  have C2 := Wc.hid (C1.out.keep hb)
  have D2 := Wc.hid (D1.out.keep hb)
  clear hb C1 D1 B1
  have ⟨d0, d1, d2, d3, d4, d5, d6, d7, d8⟩ := C2.out.cc
  go_wp2_with fail
  clear d0 d1 d2 d3 d4 d5 d6 d7 d8
  refine (bytes9_ok Q c a1 p1 _ (HV1.out.keep B2.out) HS1.out H1.out HQ.out).mono ?_
  rintro e w3 ⟨g3, k3, rfl, hO, hb⟩
  clear hO
  have B3 := Wc.hid (Wc.step B2.out (Nat.le_refl _) hb)
  have C3 := Wc.hid (C2.out.keep hb)
  have D3 := Wc.hid (D2.out.keep hb)
  clear hb C2 D2 B2
  go_wp2_with fail
  refine (wakes_any _).mono ?_
  rintro e wz ⟨rfl, hbz⟩
  go_wp2_with fail
  go_ret
  exact ⟨rfl, Wc.step B3.out (Nat.le_refl _) hbz⟩

end Go.Proofs.Ytfejabeifabdlaa
