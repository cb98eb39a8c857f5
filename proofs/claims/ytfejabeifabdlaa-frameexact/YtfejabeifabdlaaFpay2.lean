/-
  What frame.Payload returns, for every right command.
-/
import Derived.Test.YtfejabeifabdlaaFpay
namespace Wk
open Wc

theorem fit4' {n : Int} (h : 0 ≤ n ∧ n < 4294967296) : fitB n 4 = true := (fitB_iff (by decide)).2 ⟨h.1, by omega, by rw [show (4 : Int).toNat = 4 from rfl]; omega⟩
theorem fit8' {n : Int} (h : 0 ≤ n ∧ n ≤ 4611686018427387903) : fitB n 8 = true := (fitB_iff (by decide)).2 ⟨h.1, h.2, by rw [show (8 : Int).toNat = 8 from rfl]; omega⟩

/-- Each number of a right command fits its place. -/
theorem pay_fits {c : Cmd} (h : cmdB c = true) : ∀ p ∈ pl c.kind, fitB (st c (c.data.length / 64 : Nat) p.1) p.2 = true := by
  rcases cmdB_iff.1 h with h | h | h | h | h | h
  · obtain ⟨hk, h1, h2, h3, h4, -⟩ := h
    rw [hk]
    intro p hp
    simp [pl] at hp
    rcases hp with rfl | rfl | rfl | rfl
    · exact fit8' (n := c.id) (by omega)
    · exact fit8' (n := c.parent) (by omega)
    · exact fit4' (n := c.size) (by omega)
    · exact fit4' (n := c.count) (by omega)
  · obtain ⟨hk, h1, h2, -⟩ := h
    rw [hk]
    intro p hp
    simp [pl] at hp
    rcases hp with rfl | rfl
    · exact fit4' (n := c.start) (by omega)
    · exact fit4' (n := ((c.data.length / 64 : Nat) : Int)) (by omega)
  · obtain ⟨hk, h1, -⟩ := h
    rw [hk]
    intro p hp
    simp [pl] at hp
    rcases hp with rfl | rfl
    · exact fit4' (n := c.start) (by omega)
    · exact fit4' (n := c.count) (by omega)
  · obtain ⟨hk, h1, h2, -⟩ := h
    rw [hk]
    intro p hp
    simp [pl] at hp
    rcases hp with rfl | rfl | rfl
    · exact fit4' (n := c.start) (by omega)
    · exact fit4' (n := c.count) (by omega)
    · exact fit4' (n := c.source) (by omega)
  · obtain ⟨hk, h1, -⟩ := h
    rw [hk]
    intro p hp
    simp [pl] at hp
    subst hp
    exact fit4' (n := c.size) (by omega)
  · obtain ⟨hk, h1, h2, -⟩ := h
    rw [hk]
    intro p hp
    simp [pl] at hp
    rcases hp with rfl | rfl
    · exact fit4' (n := c.count) (by omega)
    · exact fit4' (n := c.digest) (by omega)

/-- A right command's numbers are such as an int holds. -/
theorem cmdB_held {c : Cmd} (h : cmdB c = true) : Held c := by
  unfold Held I64
  rcases cmdB_iff.1 h with h | h | h | h | h | h
  · obtain ⟨h0, h1, h2, h3, h4, hd, h5, h6, h7⟩ := h; omega
  · obtain ⟨h0, h1, h2, h3, h4, h5, h6, h7, h8⟩ := h; omega
  · obtain ⟨h0, h1, hd, h3, h4, h5, h6, h7⟩ := h; omega
  · obtain ⟨h0, h1, h2, hd, h3, h4, h5, h6⟩ := h; omega
  · obtain ⟨h0, h1, hd, h3, h4, h5, h6, h7, h8⟩ := h; omega
  · obtain ⟨h0, h1, h2, hd, h3, h4, h5, h6, h7⟩ := h; omega

end Wk
namespace Go.Proofs.Ytfejabeifabdlaa
open Go.RowKit

set_option maxHeartbeats 3200000 in
theorem payload_ok (c : Wk.Cmd) (a : Option Addr) (cap : Nat) (w : World) (hv : Wc.Bs w (.slice a c.data.length cap) c.data) (hsh : Wc.Shaped (.slice a c.data.length cap)) (hb : Wk.cmdB c = true) :
    Calls Try.prog 11 #[cv c (.slice a c.data.length cap)] w fun e w' => ∃ v, e = .returned (.tuple #[v, .int .i64 0]) ∧ Wc.Ob 5 w.heap.size w' v (Wk.pay c) ∧ Below w.heap.size w w' := by
  obtain ⟨i0, hi, hz0, hz1, hz2⟩ := info_parts Try.infoU8
  have HI : Hid (Try.prog.info? 5 = some i0 ∧ i0.zero = some (.int .u8 0) ∧ i0.size = 1 ∧ i0.bytes = 1) := Wc.hid ⟨hi, hz0, hz1, hz2⟩
  clear hi hz0 hz1 hz2
  have HE := Wc.hid (Wk.cmdE_yes hb)
  have HLB := Wc.hid (Wk.pay_len hb)
  have hl : c.data.length ≤ 140737488355328 := by obtain ⟨_, n, _, h, _, _, _, h5, _⟩ := hv; cases h; exact h5
  have HC := Wc.hid (check9_any c a cap · hl (Wk.cmdB_held hb))
  have HFT : Hid (∀ p ∈ Wk.pl c.kind, Wc.fitB (Wk.st c ((c.data.length : Int) / 64) p.1) p.2 = true) := Wc.hid (Wk.pay_fits hb)
  have HPE : Hid (Wk.pay c = Wk.encs (Wk.st c ((c.data.length : Int) / 64)) (Wk.pl c.kind) ++ c.data) := Wc.hid rfl
  have HV := Wc.hid hv
  have HSH := Wc.hid hsh
  clear hb hv hsh
  have HB := Wc.hid ((Below.refl w.heap.size w).alloc (Nat.le_refl _) (.cells #[.int .i64 c.kind, .int .i64 c.id, .int .i64 c.parent, .int .i64 c.size, .int .i64 c.start, .int .i64 c.count, .int .i64 c.source, .int .i64 c.digest, .slice a c.data.length cap] 24))
  have HD : Hid ((w.alloc (.cells #[.int .i64 c.kind, .int .i64 c.id, .int .i64 c.parent, .int .i64 c.size, .int .i64 c.start, .int .i64 c.count, .int .i64 c.source, .int .i64 c.digest, .slice a c.data.length cap] 24)).heap[w.heap.size]? = some (.cells #[.int .i64 c.kind, .int .i64 c.id, .int .i64 c.parent, .int .i64 c.size, .int .i64 c.start, .int .i64 c.count, .int .i64 c.source, .int .i64 c.digest, .slice a c.data.length cap] 24 (0, 0))) := Wc.hid (by show (w.heap.push _)[w.heap.size]? = _; simp)
  unfold cv
  go_enter Try.func11, Try.ntmps11
  go_wp2_with fail
  refine (HC.out _).mono ?_
  rintro e w1 ⟨rfl, hb1⟩
  rw [HE.out]
  have B1 := Wc.hid (Wc.step HB.out (Nat.le_refl _) hb1)
  have D1 : w1.heap[w.heap.size]? = some (.cells #[.int .i64 c.kind, .int .i64 c.id, .int .i64 c.parent, .int .i64 c.size, .int .i64 c.start, .int .i64 c.count, .int .i64 c.source, .int .i64 c.digest, .slice a c.data.length cap] 24 (0, 0)) := by
    rw [hb1.block w.heap.size (by simp)]; exact HD.out
  have hlt1 : w.heap.size < w1.heap.size := (Array.getElem?_eq_some_iff.1 D1).1
  have d8 : w1.cell? ⟨w.heap.size, 8, none⟩ = some (.slice a c.data.length cap) := by simp [World.cell?, D1]
  have HP : Hid (Wk.Pb (w1.alloc (.cells #[.int .i64 ((c.data.length : Int) / 64)] 3)) w.heap.size w1.heap.size (Wk.st c ((c.data.length : Int) / 64)) (.slice a c.data.length cap)) := Wc.hid (by
    refine ⟨?_, ?_, by omega⟩
    · show (w1.heap.push _)[w.heap.size]? = _
      rw [Array.getElem?_push_lt hlt1]
      rw [Array.getElem?_eq_getElem hlt1] at D1
      exact D1
    · show (w1.heap.push _)[w1.heap.size]? = _
      simp [Wk.st])
  have BA := Wc.hid (B1.out.alloc B1.out.size (.cells #[.int .i64 ((c.data.length : Int) / 64)] 3))
  have hlt0 := Wc.hid hlt1
  clear hb1 HD HB D1 hlt1
  go_wp2_with fail
  refine (parts_any _ _ (Wk.st c ((c.data.length : Int) / 64)) (.slice a c.data.length cap) _ HP.out).mono ?_
  rintro e w2 ⟨u, rfl, hu, hb2⟩
  have HP2 := Wc.hid (HP.out.keep hb2)
  have HB2 := Wc.hid (Wc.step BA.out (Nat.le_refl _) hb2)
  clear hb2 HP BA
  have hu' : Wk.Pv w2 u w.heap.size w1.heap.size (Wk.pl c.kind) := hu
  clear hu
  have h4 := Wk.pl_len c.kind
  have HFD := Wc.hid (Wk.pl_fields c.kind)
  generalize Wk.pl c.kind = L at hu' h4 HFD HPE HFT
  obtain ⟨ua, rfl⟩ := hu'.shape
  have HU := Wc.hid hu'
  clear hu' d8
  generalize Wk.st c ((c.data.length : Int) / 64) = s at HP2 HPE HFT
  obtain ⟨base, hbase⟩ : ∃ base, w2.heap.size = base := ⟨_, rfl⟩
  have HBS := Wc.hid hbase
  have HLT2 : Hid (w.heap.size < base ∧ w1.heap.size < base) := Wc.hid (by rw [← hbase]; exact HP2.out.lt)
  clear hbase
  go_wp2_with fail
  go_loopw [6, 20] (fun vb i wr => ∃ (k : Nat) (xs : List Int), i = .int .i64 k ∧ k ≤ L.length ∧ Hid (Below base w2 wr) ∧ Hid (Wc.Ob 5 base wr vb xs) ∧ Hid (xs ++ Wk.encs s (L.drop k) = Wk.encs s L ∧ xs.length ≤ 8 * k)) (fun _ i _ => L.length - (intOf i).toNat)
  case atStart => exact ⟨0, [], rfl, by omega, Below.refl _ _, Wc.Ob.nil _ _ _, rfl, by simp⟩
  case round =>
    obtain ⟨k, xs, rfl, hk, Bw, O, T⟩ := hrel
    have P : Hid (Wk.Pb wr w.heap.size w1.heap.size s (.slice a c.data.length cap)) := Wc.hid (HP2.out.below Bw.out HLT2.out.1 HLT2.out.2)
    have V : Hid (Wk.Pv wr (.slice ua L.length L.length) w.heap.size w1.heap.size L) := Wc.hid (HU.out.keep (by rw [HBS.out]; exact Bw.out))
    by_cases hlt : k < L.length
    · obtain ⟨fd, hfd⟩ : ∃ fd, (L.getD k (0, 0)).1 = fd := ⟨_, rfl⟩
      obtain ⟨sz, hsz⟩ : ∃ sz, (L.getD k (0, 0)).2 = sz := ⟨_, rfl⟩
      have hm := HFD.out _ (Wk.getD_mem L k hlt)
      have hft := HFT.out _ (Wk.getD_mem L k hlt)
      rw [hfd, hsz] at hm hft
      have hf9 : fd < 9 := hm.1
      have HZ := Wc.hid hm.2
      have HFT1 := Wc.hid hft
      have HT : Hid ((xs ++ Wc.enc sz.toNat (s fd)) ++ Wk.encs s (L.drop (k + 1)) = Wk.encs s L ∧ (xs ++ Wc.enc sz.toNat (s fd)).length ≤ 8 * (k + 1)) := Wc.hid (by
        have := T.out
        rw [Wk.drop_get L k hlt] at this
        refine ⟨?_, ?_⟩
        · rw [← this.1, List.append_assoc, ← hfd, ← hsz]; rfl
        · rw [List.length_append, Wc.enc_length]
          rcases HZ.out with h | h <;> (rw [h]; simp; omega))
      rcases V.out with ⟨h0, _⟩ | ⟨g, hg, hgl, n1, n2, hcs⟩
      · rw [h0] at hlt; simp at hlt
      · cases hg
        obtain ⟨c1, c2⟩ := hcs k hlt
        rw [hfd] at c1
        rw [hsz] at c2
        have HAL := Wc.hid ((Below.refl wr.heap.size wr).alloc (Nat.le_refl _) (.cells #[.pointer (some (Wk.Adr w.heap.size w1.heap.size fd)), .int .i64 sz] 56))
        have P2 := Wc.hid (P.out.keep HAL.out)
        have hbr : base ≤ wr.heap.size := by have := Bw.out.size; rw [HBS.out] at this; exact this
        have HBR := Wc.hid hbr
        have B2 := Wc.hid (Bw.out.trans (HAL.out.mono hbr))
        have O2 := Wc.hid (O.out.keep HAL.out)
        have hc3 := P2.out.cell hf9
        have HXL := Wc.hid T.out.2
        clear HAL P V Bw P2 O T hcs hfd hsz n1 n2 hgl hm hft hbr
        generalize Wk.Adr w.heap.size w1.heap.size fd = ad at *
        go_wp2_with fail
        go_region_with (go_at_call 24; refine (add_own base _ xs sz (s fd) _ (by exact O2.out.keep (show_drew (Below.refl _ _))) (by have := HBR.out; simp; omega) HZ.out HFT1.out (by have := HXL.out; omega)).mono ?_; rintro e w5 ⟨v5, rfl, hO5, hb5⟩)
        all_goals
          have B5 := Wc.hid (B2.out.trans ((show_drew (Below.refl base _)).trans hb5))
          have O5 := Wc.hid hO5
          clear hO5 hb5 B2 O2
          go_wp2_with fail
          go_roundw
          case rel => exact ⟨k + 1, _, by go_num, by omega, B5, O5, HT⟩
          case measure => simp [intOf]; omega
    · obtain rfl : k = L.length := by omega
      have hx : xs = Wk.encs s L := by
        have := T.out.1
        rw [List.drop_eq_nil_of_le (Nat.le_refl _)] at this
        simpa [Wk.encs] using this
      have c8 := P.out.data
      have hB5 := HB2.out.trans (Bw.out.mono (Nat.le_of_lt HLT2.out.1))
      have hbr : base ≤ wr.heap.size := by have := Bw.out.size; rw [HBS.out] at this; exact this
      have hl32 : xs.length + c.data.length ≤ 140737488355328 := by
        have := HLB.out.2
        rw [HPE.out, List.length_append, ← hx] at this
        omega
      obtain ⟨hi, hz0, hz1, hz2⟩ := HI.out
      obtain ⟨v6, w6, hrun, hO6, hb6⟩ := Wc.append_run (P := Try.prog) (ty := 22) Try.underlying22 hi hz0 hz1 hz2 O.out (HV.out.keep hB5) HSH.out hl32 hbr
      have O6 := Wc.hid (hO6.base (Nat.le_of_lt HLT2.out.1))
      have B6 := Wc.hid (hB5.trans (hb6.mono (Nat.le_of_lt HLT2.out.1)))
      have HX := Wc.hid hx
      clear hx hO6 hb6 hB5 hl32 hi hz0 hz1 hz2
      go_wp2_with (at_builtin; refine Wc.wp_append hrun rfl rfl rfl rfl ?_)
      go_ret2
      refine ⟨_, rfl, ?_, B6.out⟩
      rw [HPE.out, ← HX.out]
      exact O6.out

end Go.Proofs.Ytfejabeifabdlaa
