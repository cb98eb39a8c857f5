/-
  What frame.Bytes and frame.get return.
-/
import Derived.Test.YtfejabeifabdlaaFpay2
namespace Go.Proofs.Ytfejabeifabdlaa
open Go.RowKit

set_option maxHeartbeats 1600000 in
theorem get9_any (v : Value) (xs : List Int) (p s : Int) (w : World) (hv : Wc.Bs w v xs) :
    Calls Try.prog 30 #[v, .int .i64 p, .int .i64 s] w fun e w' => e = .returned (.int .i64 (gotN xs p s)) ∧ w = w' := by
  have HV := Wc.hid hv
  have hdef : gotN xs p s = if (Wc.getR xs p s).2 = 0 then (Wc.getR xs p s).1 else -1 := rfl
  have HD := Wc.hid hdef
  clear hv hdef
  go_enter Try.func30, Try.ntmps30
  go_wp2_with fail
  refine (get_any _ xs p s _ HV.out).mono ?_
  rintro e w1 ⟨rfl, rfl⟩
  generalize Wc.getR xs p s = R at HD ⊢
  by_cases h : R.2 = 0
  · have hb : (R.2 != 0) = false := by simpa using h
    have E := Wc.hid (HD.out.trans (if_pos h))
    clear h
    go_wp2_with fail
    go_ret
    exact ⟨by rw [E.out]; rfl, rfl⟩
  · have hb : (R.2 != 0) = true := by simpa using h
    have E := Wc.hid (HD.out.trans (if_neg h))
    clear h
    go_wp2_with fail
    go_ret
    exact ⟨by rw [E.out]; rfl, rfl⟩

set_option maxHeartbeats 1600000 in
theorem bytes9_bad (q : Int) (c : Wk.Cmd) (a : Option Addr) (cap : Nat) (w : World) (hl : c.data.length ≤ 140737488355328) (hc : Wk.Held c) (hb : Wk.cmdB c = false) :
    Calls Try.prog 12 #[.int .i64 q, cv c (.slice a c.data.length cap)] w fun e w' => e = .returned (.tuple #[.slice none 0 0, .int .i64 1]) ∧ Below w.heap.size w w' := by
  have HC := Wc.hid (payload_bad c a cap)
  have HB := Wc.hid ((Below.refl w.heap.size w).alloc (Nat.le_refl _) (.cells #[.int .i64 c.kind, .int .i64 c.id, .int .i64 c.parent, .int .i64 c.size, .int .i64 c.start, .int .i64 c.count, .int .i64 c.source, .int .i64 c.digest, .slice a c.data.length cap] 24))
  have HBB := Wc.hid hb
  clear hb
  unfold cv
  go_enter Try.func12, Try.ntmps12
  go_wp2_with fail
  refine (HC.out _ hl hc HBB.out).mono ?_
  rintro e w1 ⟨rfl, hb1⟩
  go_wp2_with fail
  go_ret2
  exact ⟨rfl, Wc.step HB.out (Nat.le_refl _) hb1⟩

set_option maxHeartbeats 1600000 in
theorem bytes9_seq (q : Int) (c : Wk.Cmd) (a : Option Addr) (cap : Nat) (w : World) (hv : Wc.Bs w (.slice a c.data.length cap) c.data) (hsh : Wc.Shaped (.slice a c.data.length cap)) (hb : Wk.cmdB c = true) (hq : ¬ (0 ≤ q ∧ q ≤ 4294967295)) :
    Calls Try.prog 12 #[.int .i64 q, cv c (.slice a c.data.length cap)] w fun e w' => e = .returned (.tuple #[.slice none 0 0, .int .i64 1]) ∧ Below w.heap.size w w' := by
  have HC := Wc.hid (payload_ok c a cap)
  have HB := Wc.hid ((Below.refl w.heap.size w).alloc (Nat.le_refl _) (.cells #[.int .i64 c.kind, .int .i64 c.id, .int .i64 c.parent, .int .i64 c.size, .int .i64 c.start, .int .i64 c.count, .int .i64 c.source, .int .i64 c.digest, .slice a c.data.length cap] 24))
  have HBB := Wc.hid hb
  have HV := Wc.hid (hv.alloc (.cells #[.int .i64 c.kind, .int .i64 c.id, .int .i64 c.parent, .int .i64 c.size, .int .i64 c.start, .int .i64 c.count, .int .i64 c.source, .int .i64 c.digest, .slice a c.data.length cap] 24))
  have HSH := Wc.hid hsh
  have HQ : Hid ((decide (0 ≤ q) && decide (q ≤ 4294967295)) = false) := Wc.hid (by rw [Bool.eq_false_iff]; simpa using hq)
  clear hb hv hsh hq
  unfold cv
  go_enter Try.func12, Try.ntmps12
  go_wp2_with fail
  refine (HC.out _ HV.out HSH.out HBB.out).mono ?_
  rintro e w1 ⟨v1, rfl, hO1, hb1⟩
  have B1 := Wc.hid (Wc.step HB.out (Nat.le_refl _) hb1)
  clear hO1 hb1
  go_wp2_with (first | (go_at_call 25; refine (within9_any _ _ _ _).mono ?_; rintro e w' ⟨rfl, rfl⟩; rw [HQ.out]))
  go_ret2
  exact ⟨rfl, B1.out⟩

set_option maxHeartbeats 6400000 in
theorem bytes9_ok (q : Int) (c : Wk.Cmd) (a : Option Addr) (cap : Nat) (w : World) (hv : Wc.Bs w (.slice a c.data.length cap) c.data) (hsh : Wc.Shaped (.slice a c.data.length cap)) (hb : Wk.cmdB c = true) (hq : 0 ≤ q ∧ q ≤ 4294967295) :
    Calls Try.prog 12 #[.int .i64 q, cv c (.slice a c.data.length cap)] w fun e w' => ∃ g k, e = .returned (.tuple #[.slice (some ⟨g, 0, none⟩) (Wk.frame q c).length k, .int .i64 0]) ∧ Wc.Ob 5 w.heap.size w' (.slice (some ⟨g, 0, none⟩) (Wk.frame q c).length k) (Wk.frame q c) ∧ Below w.heap.size w w' := by
  obtain ⟨i0, hi, hz0, hz1, hz2⟩ := info_parts Try.infoU8
  have HI : Hid (Try.prog.info? 5 = some i0 ∧ i0.zero = some (.int .u8 0) ∧ i0.size = 1 ∧ i0.bytes = 1) := Wc.hid ⟨hi, hz0, hz1, hz2⟩
  clear hi hz0 hz1 hz2
  have HC := Wc.hid (payload_ok c a cap)
  have HB := Wc.hid ((Below.refl w.heap.size w).alloc (Nat.le_refl _) (.cells #[.int .i64 c.kind, .int .i64 c.id, .int .i64 c.parent, .int .i64 c.size, .int .i64 c.start, .int .i64 c.count, .int .i64 c.source, .int .i64 c.digest, .slice a c.data.length cap] 24))
  have HD : Hid ((w.alloc (.cells #[.int .i64 c.kind, .int .i64 c.id, .int .i64 c.parent, .int .i64 c.size, .int .i64 c.start, .int .i64 c.count, .int .i64 c.source, .int .i64 c.digest, .slice a c.data.length cap] 24)).heap[w.heap.size]? = some (.cells #[.int .i64 c.kind, .int .i64 c.id, .int .i64 c.parent, .int .i64 c.size, .int .i64 c.start, .int .i64 c.count, .int .i64 c.source, .int .i64 c.digest, .slice a c.data.length cap] 24 (0, 0))) := Wc.hid (by show (w.heap.push _)[w.heap.size]? = _; simp)
  have HBB := Wc.hid hb
  have HPL := Wc.hid (Wk.pay_len hb)
  have HK := Wc.hid (Wk.cmdB_kind hb)
  have HDB : Hid (∀ x ∈ c.data, 0 ≤ x ∧ x < 256) := Wc.hid (Wc.bs_bytes hv)
  have HV := Wc.hid (hv.alloc (.cells #[.int .i64 c.kind, .int .i64 c.id, .int .i64 c.parent, .int .i64 c.size, .int .i64 c.start, .int .i64 c.count, .int .i64 c.source, .int .i64 c.digest, .slice a c.data.length cap] 24))
  have HSH := Wc.hid hsh
  have HQ : Hid ((decide (0 ≤ q) && decide (q ≤ 4294967295)) = true) := Wc.hid (by simpa using hq)
  have HQ2 := Wc.hid hq
  have HFR : Hid (Wk.frame q c = (Wk.name ++ Wc.enc 4 q ++ Wc.enc 4 c.kind ++ Wc.enc 4 ((Wk.pay c).length : Int) ++ Wk.pay c) ++ Wc.enc 4 (Wc.more 0 (Wk.name ++ Wc.enc 4 q ++ Wc.enc 4 c.kind ++ Wc.enc 4 ((Wk.pay c).length : Int) ++ Wk.pay c))) := Wc.hid (by
    unfold Wk.frame Wk.head; simp only [List.append_assoc])
  have HFL := Wc.hid (Wk.frame_length q c)
  have HMR : Hid (0 ≤ Wc.more 0 (Wk.name ++ Wc.enc 4 q ++ Wc.enc 4 c.kind ++ Wc.enc 4 ((Wk.pay c).length : Int) ++ Wk.pay c) ∧ Wc.more 0 (Wk.name ++ Wc.enc 4 q ++ Wc.enc 4 c.kind ++ Wc.enc 4 ((Wk.pay c).length : Int) ++ Wk.pay c) < 4294967296) := Wc.hid (Wc.more_range 0 _ (by
    have := Wk.head_bd q c HDB.out
    unfold Wk.head at this
    simpa only [List.append_assoc] using this))
  clear hb hv hsh hq
  unfold cv
  go_enter Try.func12, Try.ntmps12
  go_wp2_with fail
  refine (HC.out _ HV.out HSH.out HBB.out).mono ?_
  rintro e w1 ⟨v1, rfl, hO1, hb1⟩
  have B1 := Wc.hid (Wc.step HB.out (Nat.le_refl _) hb1)
  have D1 : w1.heap[w.heap.size]? = some (.cells #[.int .i64 c.kind, .int .i64 c.id, .int .i64 c.parent, .int .i64 c.size, .int .i64 c.start, .int .i64 c.count, .int .i64 c.source, .int .i64 c.digest, .slice a c.data.length cap] 24 (0, 0)) := by
    rw [hb1.block w.heap.size (by simp)]; exact HD.out
  have HD1 := Wc.hid D1
  have HLT1 := Wc.hid (show w.heap.size < w1.heap.size from (Array.getElem?_eq_some_iff.1 D1).1)
  obtain ⟨g1, k1, rfl⟩ := Wc.ob_form hO1 (by have := HPL.out; omega)
  have V1 := Wc.hid hO1.bs
  generalize Wk.pay c = PY at *
  clear hO1 hb1 D1 HB HD
  have kc := Joins.run_convert_bytes_const_at (P := Try.prog) w1 22 5 #[.int .u8 70, .int .u8 82, .int .u8 65, .int .u8 77] 4 4 w1.heap.size (by simp) Try.underlying22 Try.underlying5
  have L1 : Hid (Wc.Bs (w1.alloc (.cells #[.int .u8 70, .int .u8 82, .int .u8 65, .int .u8 77] 5 (4, 5))) (.slice (some ⟨w1.heap.size, 0, none⟩) 4 4) Wk.name) := Wc.hid (by
    have := Wc.Bs.litF w1 #[.int .u8 70, .int .u8 82, .int .u8 65, .int .u8 77] 5 4 (4, 5) Wk.name rfl (by omega) rfl (by decide)
    simpa using this)
  have A1 := Wc.hid ((Below.refl w1.heap.size w1).alloc (Nat.le_refl _) (.cells #[.int .u8 70, .int .u8 82, .int .u8 65, .int .u8 77] 5 (4, 5)))
  go_wp2_with (first | (go_at_call 25; refine (within9_any _ _ _ _).mono ?_; rintro e w' ⟨rfl, rfl⟩; rw [HQ.out]))
  obtain ⟨W1, hW1⟩ : ∃ W1, w1.alloc (.cells #[.int .u8 70, .int .u8 82, .int .u8 65, .int .u8 77] 5 (4, 5)) = W1 := ⟨_, rfl⟩
  rw [hW1] at A1 L1 ⊢
  clear hW1 kc
  refine (add_grow _ 4 4 Wk.name q _ L1.out (by omega) (fit4 (by have := HQ2.out; omega)) (by decide)).mono ?_
  rintro e w2 ⟨v2, rfl, hO2, hb2⟩
  obtain ⟨base, hbase⟩ : ∃ base, W1.heap.size = base := ⟨_, rfl⟩
  rw [hbase] at hO2 hb2
  have hle1 : w1.heap.size ≤ base := by rw [← hbase]; exact A1.out.size
  have HLE := Wc.hid hle1
  have O2 := Wc.hid hO2
  have A2 := Wc.hid (A1.out.trans (hb2.mono hle1))
  have HBS2 : Hid (base ≤ w2.heap.size) := Wc.hid (by rw [← hbase]; rw [← hbase] at hb2; exact hb2.size)
  clear hO2 hb2 hbase hle1 L1 A1
  have c0 : w2.cell? ⟨w.heap.size, 0, none⟩ = some (.int .i64 c.kind) := by
    have := A2.out.block w.heap.size HLT1.out
    rw [HD1.out] at this
    simp [World.cell?, this]
  go_wp2_with fail
  refine (add_own4 base _ (Wk.name ++ Wc.enc 4 q) c.kind _ O2.out HBS2.out (fit4 (by have := HK.out; omega)) (by simp [Wk.name, Wc.enc_length])).mono ?_
  rintro e w3 ⟨v3, rfl, hO3, hb3⟩
  have O3 := Wc.hid hO3
  have A3 := Wc.hid (A2.out.trans (hb3.mono HLE.out))
  have HBS3 : Hid (base ≤ w3.heap.size) := Wc.hid (Nat.le_trans HBS2.out hb3.size)
  clear hO3 hb3 A2 O2 c0
  go_wp2_with fail
  refine (add_own4 base _ (Wk.name ++ Wc.enc 4 q ++ Wc.enc 4 c.kind) (PY.length : Int) _ O3.out HBS3.out (fit4 (by have := HPL.out; omega)) (by simp [Wk.name, Wc.enc_length])).mono ?_
  rintro e w4 ⟨v4, rfl, hO4, hb4⟩
  have O4 := Wc.hid hO4
  have A4 := Wc.hid (A3.out.trans (hb4.mono HLE.out))
  have HBS4 : Hid (base ≤ w4.heap.size) := Wc.hid (Nat.le_trans HBS3.out hb4.size)
  clear hO4 hb4 A3 O3
  obtain ⟨hi, hz0, hz1, hz2⟩ := HI.out
  obtain ⟨v5, w5, hrun, hO5, hb5⟩ := Wc.append_run (P := Try.prog) (ty := 22) Try.underlying22 hi hz0 hz1 hz2 O4.out (V1.out.keep A4.out) (.inr ⟨_, _, _, rfl⟩) (by have := HPL.out; simp [Wk.name, Wc.enc_length]; omega) HBS4.out
  have O5 := Wc.hid hO5
  have A5 := Wc.hid (A4.out.trans (hb5.mono HLE.out))
  have HBS5 : Hid (base ≤ w5.heap.size) := Wc.hid (Nat.le_trans HBS4.out hb5.size)
  clear hO5 hb5 A4 O4 hi hz0 hz1 hz2
  go_wp2_with (at_builtin; refine Wc.wp_append hrun rfl rfl rfl rfl ?_)
  clear hrun
  refine (sum_any _ _ _ O5.out.bs).mono ?_
  rintro e w6 ⟨rfl, rfl⟩
  go_wp2_with fail
  refine (add_own4 base _ _ _ _ O5.out HBS5.out (fit4 HMR.out) (by have := HPL.out; simp [Wk.name, Wc.enc_length]; omega)).mono ?_
  rintro e w7 ⟨v7, rfl, hO7, hb7⟩
  rw [← HFR.out] at hO7
  have hO8 := hO7.base (Nat.le_trans (Nat.le_of_lt HLT1.out) HLE.out)
  have A7 := Wc.hid (A5.out.trans (hb7.mono HLE.out))
  have B7 := Wc.hid (B1.out.trans (A7.out.mono (Nat.le_of_lt HLT1.out)))
  obtain ⟨g7, k7, rfl⟩ := Wc.ob_form hO7 (by have := HFL.out; omega)
  have O8 := Wc.hid hO8
  clear hO7 hb7 hO8
  go_wp2_with fail
  go_ret2
  exact ⟨g7, k7, rfl, O8.out, B7.out⟩

end Go.Proofs.Ytfejabeifabdlaa
