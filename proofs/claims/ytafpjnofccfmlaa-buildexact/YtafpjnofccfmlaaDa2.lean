/-
  Memory of the call's own that holds bools, steps: what an append leaves as it was; what the page's NodeBytes returns is the call's own.
-/
import Derived.Test.YtafpjnofccfmlaaDow
import Derived.Test.YtafpjnofccfmlaaJE
import Derived.Test.YtafpjnofccfmlaaJG
namespace Wd
open Go Go.RowKit
theorem ob_types {u base : Nat} {w w' : World} {v : Value} {xs : List Int} (h : Wc.Ob u base w v xs) (hb : ∀ (b : Nat) (cs : Array Value) (fr : Nat × Nat), w.heap[b]? = some (.cells cs u fr) → w'.heap[b]? = some (.cells cs u fr)) : Wc.Ob u base w' v xs := by
  obtain ⟨h2, h3⟩ := h
  refine ⟨⟨h2.1, ?_⟩, h3⟩
  rcases h2.2 with hn | ⟨g, cap, cur, hv, hbg, hg, rest⟩
  · exact .inl hn
  · exact .inr ⟨g, cap, cur, hv, hbg, hb _ _ _ hg, rest⟩
theorem Oi.types {e u base : Nat} {w w' : World} {v : Value} {l : List Io} (h : Oi e u base w v l) (hb : ∀ (b : Nat) (cs : Array Value) (T : TypeId) (fr : Nat × Nat), w.heap[b]? = some (.cells cs T fr) → T = e ∨ T = u → w'.heap[b]? = some (.cells cs T fr)) : Oi e u base w' v l := by
  obtain ⟨P, h1, h2, h3, h4⟩ := h
  refine ⟨P, h1, ⟨h2.1, ?_⟩, h3, fun q hq => ob_types (h4 q hq) fun b cs fr hh => hb b cs u fr hh (.inr rfl)⟩
  rcases h2.2 with hn | ⟨g, cap, cur, hv, hbg, hg, rest⟩
  · exact .inl hn
  · exact .inr ⟨g, cap, cur, hv, hbg, hb _ _ _ _ hg (.inl rfl), rest⟩
/-- A step is put behind memory of the call's own. -/
theorem append_ioW {P : Program} {e u t ty base bytes : Nat} {i : TypeInfo} {z : Value} {w : World} {v : Value} {ad : Addr} {c : Nat} {l : List Io} {q : Pl} (ht : P.underlying t = some (.slice e)) (hi : P.info? e = some i) (hz : i.zero = some z) (hsz : i.size = 3) (hby : i.bytes = bytes)
    (hzs : z.cells.size = 3) (h8 : bytes ≤ 64) (hne : e ≠ u) (hv : Oi e u base w v l) (hu : ∀ j x, (cells3 q)[j]? = some x → w.cell? (ad.add j) = some x) (hq : Wc.Ob u base w (.slice q.2.1 q.1.data.length q.2.2) q.1.data) (hl : l.length + 1 ≤ 1048576) (hbase : base ≤ w.heap.size) :
    ∃ v' w', Sem.run P (Builtin.append_ #[t, t] ty #[v, .slice (some ad) 1 c]) w = .ok v' w' ∧ Oi e u base w' v' (l ++ [q.1]) ∧ Below base w w' ∧ ∀ (b : Nat) (cs : Array Value) (T : TypeId) (fr : Nat × Nat), w.heap[b]? = some (.cells cs T fr) → T ≠ e → w'.heap[b]? = some (.cells cs T fr) := by
  obtain ⟨Q, rfl, h2, h3, h4⟩ := hv
  have hlq : Q.length + 1 ≤ 1048576 := by simpa using hl
  obtain ⟨v', w', k1, k2, k3, -⟩ := run_append_own (P := P) w base t ty e i z 3 bytes ht hi hz hsz hby hzs (by decide) v _ _ h2 ad 1 c (cells3 q) rfl hu (by
      intro x hx; simp only [cells3, List.mem_cons, List.not_mem_nil, or_false] at hx; rcases hx with rfl | rfl | rfl <;> rfl) (by unfold maxLen; omega) (by
        have := Nat.mul_le_mul_left (Q.length + 1) h8
        omega) hbase
  refine ⟨v', w', k1, ⟨Q ++ [q], by simp, ?_, by simpa using hlq, fun x hx => ?_⟩, (Below.refl _ _).grown k3 hbase (fun g hg => (h2.lt g hg).1), fun b cs T fr hb hT => ?_⟩
  · have : (Q ++ [q]).flatMap cells3 = Q.flatMap cells3 ++ cells3 q := by simp
    rw [this]; simpa using k2
  · rcases List.mem_append.1 hx with hx | hx
    · exact ob_grown hne h2 k3 (h4 x hx)
    · simp at hx; subst hx; exact ob_grown hne h2 k3 hq
  · refine (k3.block b (Array.getElem?_eq_some_iff.1 hb).1 (fun ee => ?_)).trans hb
    rcases h2.2 with ⟨rfl, _⟩ | ⟨g2, c2, cur2, rfl, _, hg2, _⟩
    · cases ee
    · have : b = g2 := by simpa [Value.ownBlock] using ee
      subst this
      rw [hb] at hg2
      cases hg2
      exact hT rfl
end Wd
namespace Go.Proofs.Ytafpjnofccfmlaa
open Go.RowKit

/-- One bool is put behind memory of the call's own; blocks of other things stay. -/
theorem push_bool (w : World) (gb base : Nat) (hgb : gb = w.heap.size) (v : Value) (l : List Bool) (p : Bool) (hO : Wv.Ov Value.bool 4 base w v l) (hl : l.length ≤ 100000) (hb : base ≤ w.heap.size) :
    ∃ a n c w', Sem.run Try.prog (Builtin.append_ #[71, 71] 71 #[v, .slice (some ⟨gb, 0, none⟩) 1 1]) (w.alloc (.cells #[.bool p] 4)) = .ok (.slice a n c) w' ∧ Wv.Ov Value.bool 4 base w' (.slice a n c) (l ++ [p]) ∧ Below base (w.alloc (.cells #[.bool p] 4)) w' ∧
      ∀ (b : Nat) (cs : Array Value) (T : TypeId) (fr : Nat × Nat), (w.alloc (.cells #[.bool p] 4)).heap[b]? = some (.cells cs T fr) → T ≠ 4 → w'.heap[b]? = some (.cells cs T fr) := by
  subst hgb
  obtain ⟨i, hi, hzz⟩ := Option.map_eq_some_iff.1 Try.infoB
  simp only [Prod.mk.injEq] at hzz
  obtain ⟨hz, hs, hby⟩ := hzz
  have hO1 : Wv.Ov Value.bool 4 base (w.alloc (.cells #[.bool p] 4)) v l := hO.keep ((Below.refl _ _).alloc (Nat.le_refl _) _)
  have hR : Wv.Rv Value.bool false (w.alloc (.cells #[.bool p] 4)) (.slice (some ⟨w.heap.size, 0, none⟩) 1 1) [p] := Wv.Rv.lit w _ 4 1 [p] rfl (by omega) rfl
  obtain ⟨v', w', k1, k2, k3, k4⟩ := run_append_own (P := Try.prog) (w.alloc (.cells #[.bool p] 4)) base 71 71 4 i (.bool false) 1 1 Try.underlying71 hi hz hs hby rfl (by decide) v _ _ hO1.1 ⟨w.heap.size, 0, none⟩ 1 1 [.bool p] rfl (by
      intro j c hj
      have hj0 : j = 0 := by have := (List.getElem?_eq_some_iff.1 hj).1; simpa using this
      subst hj0
      have := (Wv.rv_cells hR (by omega)).2 0 (by omega)
      rw [Wv.add_none]
      rw [this]
      simpa using hj) (by intro c hc; simp at hc; subst hc; rfl) (by unfold maxLen; omega) (by omega) (by simp; omega)
  have hO2 : Wv.Ov Value.bool 4 base w' v' (l ++ [p]) := ⟨by simpa using k2, by simp; omega⟩
  have hbl : Below base (w.alloc (.cells #[.bool p] 4)) w' := (Below.refl _ _).grown k3 (by simp; omega) (fun g hg => (hO1.1.lt g hg).1)
  have hoth : ∀ (b : Nat) (cs : Array Value) (T : TypeId) (fr : Nat × Nat), (w.alloc (.cells #[.bool p] 4)).heap[b]? = some (.cells cs T fr) → T ≠ 4 → w'.heap[b]? = some (.cells cs T fr) := by
    intro b cs T fr hh hT
    refine (k3.block b (Array.getElem?_eq_some_iff.1 hh).1 (fun ee => ?_)).trans hh
    rcases hO1.1.2 with ⟨rfl, _⟩ | ⟨g2, c2, cur2, rfl, _, hg2, _⟩
    · cases ee
    · have : b = g2 := by simpa [Value.ownBlock] using ee
      subst this
      rw [hh] at hg2
      cases hg2
      exact hT rfl
  rcases hO2.shaped with rfl | ⟨ad, n, c, rfl⟩
  · exact ⟨_, _, _, _, k1, hO2, hbl, hoth⟩
  · exact ⟨_, _, _, _, k1, hO2, hbl, hoth⟩

set_option maxHeartbeats 1600000 in
theorem seal_ob (base : Nat) (v : Value) (xs : List Int) (w : World) (hv : Wc.Ob 5 base w v xs) (h0 : 0 < xs.length) (h60 : xs.length ≤ 60) (hbase : base ≤ w.heap.size) :
    Calls Try.prog 56 #[v] w fun e w' => ∃ v', e = .returned v' ∧ Wc.Ob 5 base w' v' ((xs ++ List.replicate (60 - xs.length) 0) ++ Wc.enc 4 (Wc.more 0 (xs ++ List.replicate (60 - xs.length) 0))) ∧ Below base w w' := by
  obtain ⟨i0, hi, hz0, hz1, hz2⟩ := info_parts Try.infoU8
  have HV := Wc.hid hv
  obtain ⟨g0, c0, rfl⟩ := Wc.ob_form hv h0
  have HXB := Wc.hid (hv.2.2)
  clear hv
  obtain ⟨n, hn⟩ : ∃ n, xs.length = n := ⟨_, rfl⟩
  have HN := Wc.hid hn
  rw [hn] at h0 h60 HV ⊢
  clear hn
  go_enter Try.func56, Try.ntmps56
  go_wp2
  go_loopw [0] (fun u wr => ∃ k g c, u = .slice (some ⟨g, 0, none⟩) (n + k) c ∧ n + k ≤ 60 ∧ Hid (Wc.Ob 5 base wr (.slice (some ⟨g, 0, none⟩) (n + k) c) (xs ++ List.replicate k 0)) ∧ Hid (Below base w wr)) (fun u _ => 60 - Wc.slLen u)
  case atStart => exact ⟨0, g0, c0, rfl, by omega, Wc.hid (by simpa using HV.out), Wc.hid (Below.refl _ _)⟩
  case round =>
    obtain ⟨k, g, c, rfl, hk, HO, HB⟩ := hrel
    by_cases hlt : n + k < 60
    · have hAl := (Below.refl wr.heap.size wr).alloc (Nat.le_refl _) (.cells #[.int .u8 0] 5)
      have hbw := HB.out.size
      obtain ⟨u', w', hrun, hO', hb'⟩ := Wc.append_run (P := Try.prog) (ty := 22) (ys := [0]) Try.underlying22 hi hz0 hz1 hz2 (HO.out.keep hAl) (Wc.Bs.lit wr #[.int .u8 0] 5 1 [0] rfl (by omega) rfl (by decide)) (.inr ⟨_, _, _, rfl⟩) (by have := HN.out; simp; omega) (by simp; omega)
      rw [List.append_assoc, show List.replicate k (0 : Int) ++ [0] = List.replicate (k + 1) 0 from (List.replicate_succ' ..).symm] at hO'
      obtain ⟨g', c', rfl⟩ := Wc.ob_form hO' (by rw [List.length_append, List.length_replicate]; omega)
      have e1 : (xs ++ List.replicate (k + 1) (0 : Int)).length = n + (k + 1) := by have := HN.out; simp; omega
      rw [e1] at hrun hO'
      have HO' := Wc.hid hO'
      have HB' := Wc.hid ((HB.out.alloc (by omega) _).trans hb')
      have hlt2 : ((n : Int) + (k : Int) < 60) := by omega
      clear hAl hbw hO' hb' e1
      go_wp2_with (at_builtin; refine Wc.wp_append hrun rfl rfl rfl rfl ?_)
      clear hrun
      go_roundw
      case rel => exact ⟨k + 1, g', c', rfl, by omega, HO', HB'⟩
      case measure => simp only [Wc.slLen]; omega
    · obtain rfl : k = 60 - n := by omega
      have hb60 : n + (60 - n) = 60 := by omega
      rw [hb60] at HO ⊢
      obtain ⟨P, hP⟩ : ∃ P, xs ++ List.replicate (60 - n) (0 : Int) = P := ⟨_, rfl⟩
      rw [hP] at HO
      have HP := Wc.hid hP
      clear hP hlt hb60 hk
      go_wp2_with fail
      refine (refSum_any _ _ _ HO.out.bs).mono ?_
      rintro e w2 ⟨rfl, rfl⟩
      have hm := Wc.more_range 0 P HO.out.2.2
      obtain ⟨S, hS⟩ : ∃ S, Wc.more 0 P = S := ⟨_, rfl⟩
      rw [hS] at hm ⊢
      have HS := Wc.hid hS
      clear hS
      go_wp2_with fail
      refine (refBytes_any 4 S _ (by omega) hm.1 (by omega)).mono ?_
      rintro e w3 ⟨u, rfl, hu, hb3⟩
      have hel := Wc.enc_length 4 S
      obtain ⟨b3, o3, c3, rfl⟩ := Wc.bs_shape hu (by omega)
      have hPl : P.length = 60 := Wc.bs_len HO.out.bs
      obtain ⟨v', w4, hrun, hO4, hb4⟩ := Wc.append_run (P := Try.prog) (ty := 22) (ys := Wc.enc 4 S) Try.underlying22 hi hz0 hz1 hz2 (HO.out.keep hb3) hu (.inr ⟨_, _, _, rfl⟩) (by omega) (by have := HB.out.size; have := hb3.size; omega)
      have HB4 := Wc.hid ((HB.out.trans (hb3.mono (by have := HB.out.size; omega))).trans hb4)
      have HO4 := Wc.hid hO4
      clear hm hu hb3 hel hPl hO4 hb4
      go_wp2_with (at_builtin; refine Wc.wp_append hrun rfl rfl rfl rfl ?_)
      go_ret
      exact ⟨v', rfl, by rw [HP.out, HS.out]; exact HO4.out, HB4.out⟩


set_option maxRecDepth 100000 in
set_option maxHeartbeats 3200000 in
theorem refNodeBytes_ob (n : Wn.Nod) (w : World) (hs : Wn.nodB n = true) :
    Calls Try.prog 39 #[nv n] w fun e w' => ∃ v, e = .returned v ∧ Wc.Ob 5 w.heap.size w' v (Wn.blk n) ∧ Below w.heap.size w w' := by
  obtain ⟨i0, hi, hz0, hz1, hz2⟩ := info_parts Try.infoU8
  have HS := Wc.hid (Wn.nodB_iff.1 hs).1
  have HK : Hid (∀ k, k < 8 → 0 ≤ Wn.pat n k ∧ Wn.pat n k < 4096) := Wc.hid fun k hk => Wn.nodB_pat hs hk
  clear hs
  have kc := Joins.run_convert_bytes_const_at (P := Try.prog) (w.alloc (.cells #[.int .i64 n.level, .int .i64 n.p0, .int .i64 n.p1, .int .i64 n.p2, .int .i64 n.p3, .int .i64 n.p4, .int .i64 n.p5, .int .i64 n.p6, .int .i64 n.p7] 83)) 22 5 #[.int .u8 78, .int .u8 79, .int .u8 68, .int .u8 69] 4 4 (w.heap.size + 1) (by simp) Try.underlying22 Try.underlying5
  have A0 := Wc.hid ((Nh.new w n).keep ((Below.refl _ _).alloc (Nat.le_refl _) (.cells #[.int .u8 78, .int .u8 79, .int .u8 68, .int .u8 69] 5 (4, 5))))
  have B0 := Wc.hid (((Below.refl w.heap.size w).alloc (Nat.le_refl _) (.cells #[.int .i64 n.level, .int .i64 n.p0, .int .i64 n.p1, .int .i64 n.p2, .int .i64 n.p3, .int .i64 n.p4, .int .i64 n.p5, .int .i64 n.p6, .int .i64 n.p7] 83)).alloc (by simp) (.cells #[.int .u8 78, .int .u8 79, .int .u8 68, .int .u8 69] 5 (4, 5)))
  have V0 : Hid (Wc.Bs ((w.alloc (.cells #[.int .i64 n.level, .int .i64 n.p0, .int .i64 n.p1, .int .i64 n.p2, .int .i64 n.p3, .int .i64 n.p4, .int .i64 n.p5, .int .i64 n.p6, .int .i64 n.p7] 83)).alloc (.cells #[.int .u8 78, .int .u8 79, .int .u8 68, .int .u8 69] 5 (4, 5))) (.slice (some ⟨w.heap.size + 1, 0, none⟩) 4 4) Wn.name) := Wc.hid (by
    have := Wc.Bs.litF (w.alloc (.cells #[.int .i64 n.level, .int .i64 n.p0, .int .i64 n.p1, .int .i64 n.p2, .int .i64 n.p3, .int .i64 n.p4, .int .i64 n.p5, .int .i64 n.p6, .int .i64 n.p7] 83)) #[.int .u8 78, .int .u8 79, .int .u8 68, .int .u8 69] 5 4 (4, 5) Wn.name rfl (by omega) rfl (by decide)
    simpa using this)
  have ⟨c, c0, c1, c2, c3, c4, c5, c6, c7⟩ := A0.out.nc
  unfold nv
  go_enter Try.func39, Try.ntmps39
  go_wp2_with fail
  obtain ⟨W1, hW1⟩ : ∃ W1, (w.alloc (.cells #[.int .i64 n.level, .int .i64 n.p0, .int .i64 n.p1, .int .i64 n.p2, .int .i64 n.p3, .int .i64 n.p4, .int .i64 n.p5, .int .i64 n.p6, .int .i64 n.p7] 83)).alloc (.cells #[.int .u8 78, .int .u8 79, .int .u8 68, .int .u8 69] 5 (4, 5)) = W1 := ⟨_, rfl⟩
  rw [hW1] at A0 B0 V0 ⊢
  clear hW1 kc c c0 c1 c2 c3 c4 c5 c6 c7
  refine (refBytes_any 4 n.level _ (by omega) (by have := HS.out; omega) (by have := HS.out; omega)).mono ?_
  rintro e w2 ⟨u2, rfl, hu2, hb2⟩
  obtain ⟨q2, o2, k2, rfl⟩ := Wc.bs_shape hu2 (by rw [Wc.enc_length]; omega)
  have A2 := Wc.hid (A0.out.keep hb2)
  have B2 := Wc.hid (Wc.step B0.out (Nat.le_refl _) hb2)
  obtain ⟨v3, w3, hrun, hO3, hb3⟩ := Wc.grow_run (P := Try.prog) (ty := 22) Try.underlying22 hi hz0 hz1 hz2 (V0.out.keep hb2) hu2 (by rw [Wc.enc_length]; omega) (by rw [Wc.enc_length]; omega) (by rw [Wc.enc_length]; decide)
  have HLT : Hid (w.heap.size < w2.heap.size) := Wc.hid (by have := A2.out.lt; omega)
  have A3 := Wc.hid (A2.out.keep hb3)
  rw [← pre_zero] at hO3
  have O3 := Wc.hid hO3
  have B3 := Wc.hid (Wc.step B2.out (Nat.le_refl _) hb3)
  have BB3 := Wc.hid hb3.size
  clear hu2 hb2 hO3 hb3
  obtain ⟨g3, k3, rfl⟩ := Wc.ob_form O3.out (by rw [pre_length n (by omega)]; omega)
  rw [pre_length n (by omega)] at hrun O3
  go_wp2_with (at_builtin; refine Wc.wp_append hrun rfl rfl rfl rfl ?_)
  clear hrun A0 B0 V0 A2 B2
  go_loopw [3, 4] (fun u i wr => ∃ k g c : Nat, u = .slice (some ⟨g, 0, none⟩) (8 + 4 * k) c ∧ i = .int .i64 k ∧ k ≤ 8 ∧ Hid (Wc.Ob 5 w2.heap.size wr (.slice (some ⟨g, 0, none⟩) (8 + 4 * k) c) (pre n k)) ∧ Hid (Nh wr w.heap.size n) ∧ Hid (w2.heap.size ≤ wr.heap.size) ∧ Hid (Below w.heap.size w wr)) (fun _ i _ => 8 - (intOf i).toNat)
  case atStart => exact ⟨0, g3, k3, rfl, rfl, by omega, O3, A3, BB3, B3⟩
  case round =>
    obtain ⟨k, g, c, rfl, rfl, hk, O, A, HW, HB⟩ := hrel
    by_cases hlt : k < 8
    · have hcell := A.out.pat hlt
      go_wp2_with fail
      refine (refBytes_any 4 (Wn.pat n k) _ (by omega) (HK.out k hlt).1 (by have := HK.out k hlt; omega)).mono ?_
      rintro e w4 ⟨u4, rfl, hu, hb⟩
      obtain ⟨q4, o4, k4, rfl⟩ := Wc.bs_shape hu (by rw [Wc.enc_length]; omega)
      have A4 := Wc.hid (A.out.keep hb)
      have B4 := Wc.hid (Wc.step HB.out (Nat.le_refl _) hb)
      have hsz : w2.heap.size ≤ w4.heap.size := Nat.le_trans HW.out hb.size
      obtain ⟨v5, w5, hrun, hO, hb'⟩ := Wc.append_run (P := Try.prog) (ty := 22) (ys := Wc.enc 4 (Wn.pat n k)) Try.underlying22 hi hz0 hz1 hz2 (O.out.keep hb) hu (.inr ⟨_, _, _, rfl⟩) (by rw [pre_length n hk, Wc.enc_length]; omega) hsz
      rw [pre_next n hlt] at hO
      have A5 := Wc.hid (A4.out.below hb' HLT.out)
      have O5 := Wc.hid hO
      have W5 : Hid (w2.heap.size ≤ w5.heap.size) := Wc.hid (Nat.le_trans hsz hb'.size)
      have B5 := Wc.hid (B4.out.trans (hb'.mono (by have := HLT.out; omega)))
      clear hu hb hO hb' hsz hcell A4 B4 O A HW HB
      obtain ⟨g5, c5, rfl⟩ := Wc.ob_form O5.out (by rw [pre_length n (by omega)]; omega)
      rw [pre_length n (by omega)] at hrun O5
      go_wp2_with (at_builtin; refine Wc.wp_append hrun rfl rfl rfl rfl ?_)
      clear hrun
      go_roundw
      case rel => exact ⟨k + 1, g5, c5, rfl, by go_num, by omega, O5, A5, W5, B5⟩
      case measure => simp [intOf]; omega
    · obtain rfl : k = 8 := by omega
      go_wp2_with fail
      refine (seal_ob w2.heap.size _ (pre n 8) _ O.out (by rw [pre_length n (by omega)]; omega) (by rw [pre_length n (by omega)]; omega) HW.out).mono ?_
      rintro e w12 ⟨vz, rfl, hz, hbz⟩
      have HZ := Wc.hid (hz.base (base' := w.heap.size) (by have := HLT.out; omega))
      have BZ := Wc.hid (HB.out.trans (hbz.mono (by have := HLT.out; omega)))
      clear hz hbz
      go_wp2_with fail
      go_ret
      refine ⟨vz, rfl, ?_, BZ.out⟩
      have := HZ.out
      rw [pre_head] at this
      exact this

end Go.Proofs.Ytafpjnofccfmlaa
