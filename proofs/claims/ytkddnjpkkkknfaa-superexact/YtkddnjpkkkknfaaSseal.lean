/-
  What the page's seal and SuperBytes return, for every right superblock.
-/
import Derived.Test.YtkddnjpkkkknfaaSpar
import Derived.Test.YtkddnjpkkkknfaaDapp
import Derived.Lib.SlBytesConst
import Derived.Lib.SmallJoins
import Derived.ArgAppend
namespace Wc
open Go Go.RowKit

/-- Bytes put behind a slice that has no room: memory of one's own. -/
theorem grow_run {P : Program} {e t ty : Nat} {i : TypeInfo} {w : World} {ad : Addr} {n cap : Nat} {u : Value} {xs ys : List Int} (ht : P.underlying t = some (.slice e)) (hi : P.info? e = some i) (hz : i.zero = some (.int .u8 0)) (hsz : i.size = 1) (hby : i.bytes = 1)
    (hv : Bs w (.slice (some ad) n cap) xs) (hu : Bs w u ys) (h0 : 0 < ys.length) (hfull : cap < n + ys.length) (hl : xs.length + ys.length ≤ 140737488355328) :
    ∃ v' w', Sem.run P (Builtin.append_ #[t, t] ty #[.slice (some ad) n cap, u]) w = .ok v' w' ∧ Ob e w.heap.size w' v' (xs ++ ys) ∧ Below w.heap.size w w' := by
  have hbd : ∀ x ∈ xs ++ ys, 0 ≤ x ∧ x < 256 := by
    intro x hx
    rcases List.mem_append.1 hx with h | h
    · exact bs_bytes hv x h
    · exact bs_bytes hu x h
  have hxl := bs_len hv
  rcases hu.open with ⟨rfl, _⟩ | ⟨b, off, m, c, rfl, hm0, hyl, _, _, _, _, _, hc⟩
  · simp at h0
  · have holds : ∀ j v, (xs.map (Value.int .u8))[j]? = some v → w.cell? (ad.add j) = some v := by
      intro j v hj
      have hjn : j < n := by have := (List.getElem?_eq_some_iff.1 hj).1; simpa [hxl] using this
      rcases hv.open with ⟨_, a', cap', h, _⟩ | ⟨b', off', n', cap', h, _, _, _, _, _, _, _, hc'⟩
      · cases h; omega
      · cases h
        rw [add_none, hc' j hjn]; simpa [hxl, hjn] using hj
    have hnews : ∀ j v, (ys.map (Value.int .u8))[j]? = some v → w.cell? ((⟨b, off, none⟩ : Addr).add j) = some v := by
      intro j v hj
      have hjn : j < m := by have := (List.getElem?_eq_some_iff.1 hj).1; simpa [hyl] using this
      rw [add_none, hc j hjn]; simpa [hyl, hjn] using hj
    obtain ⟨v', w', h1, h2, h3⟩ := run_append_arg_grows (P := P) w t ty e i (.int .u8 0) 1 1 ht hi hz hsz hby rfl (by decide) ad n cap (xs.map (Value.int .u8)) (by simpa using hxl) holds ⟨b, off, none⟩ m c (ys.map (Value.int .u8)) (by simpa using hyl) hnews (by omega) (by unfold maxLen; omega) (by omega)
    refine ⟨v', w', h1, ⟨by simpa [hxl, hyl] using h2, by simpa using hl, hbd⟩, ?_⟩
    exact (Below.refl _ _).grown h3 (Nat.le_refl _) (fun g hg => by cases hg)

theorem bs_shape {w : World} {v : Value} {xs : List Int} (h : Bs w v xs) (h0 : 0 < xs.length) : ∃ b off cap, v = .slice (some ⟨b, off, none⟩) xs.length cap := by
  rcases h.open with ⟨rfl, _⟩ | ⟨b, off, n, cap, rfl, _, hn, _⟩
  · simp at h0
  · exact ⟨b, off, cap, by rw [hn]⟩

theorem ob_form {e base : Nat} {w : World} {v : Value} {xs : List Int} (h : Ob e base w v xs) (h0 : 0 < xs.length) : ∃ g cap, v = .slice (some ⟨g, 0, none⟩) xs.length cap := by
  rcases h.1.2 with ⟨_, h1⟩ | ⟨g, cap, cur, hv, _⟩
  · omega
  · exact ⟨g, cap, hv⟩

/-- The number of a slice's elements. -/
def slLen : Value → Nat
  | .slice _ n _ => n
  | _ => 0

end Wc
namespace Go.Proofs.Ytkddnjpkkkknfaa
open Go.RowKit

set_option maxHeartbeats 1600000 in
theorem seal_any (base : Nat) (v : Value) (xs : List Int) (w : World) (hv : Wc.Ob 5 base w v xs) (h0 : 0 < xs.length) (h60 : xs.length ≤ 60) (hbase : base ≤ w.heap.size) :
    Calls Try.prog 37 #[v] w fun e w' => ∃ v', e = .returned v' ∧ Wc.Bs w' v' ((xs ++ List.replicate (60 - xs.length) 0) ++ Wc.enc 4 (Wc.more 0 (xs ++ List.replicate (60 - xs.length) 0))) ∧ Below base w w' := by
  obtain ⟨i0, hi, hz0, hz1, hz2⟩ := info_parts Try.infoU8
  have HV := Wc.hid hv
  obtain ⟨g0, c0, rfl⟩ := Wc.ob_form hv h0
  have HXB := Wc.hid (hv.2.2)
  clear hv
  obtain ⟨n, hn⟩ : ∃ n, xs.length = n := ⟨_, rfl⟩
  have HN := Wc.hid hn
  rw [hn] at h0 h60 HV ⊢
  clear hn
  go_enter Try.func37, Try.ntmps37
  go_wp2
  go_loopw [0] (fun u wr => ∃ k g c, u = .slice (some ⟨g, 0, none⟩) (n + k) c ∧ n + k ≤ 60 ∧ Hid (Wc.Ob 5 base wr (.slice (some ⟨g, 0, none⟩) (n + k) c) (xs ++ List.replicate k 0)) ∧ Hid (Below base w wr)) (fun u _ => 60 - Wc.slLen u)
  case atStart => exact ⟨0, g0, c0, rfl, by omega, Wc.hid (by simpa using HV.out), Wc.hid (Below.refl _ _)⟩
  case round =>
    obtain ⟨k, g, c, rfl, hk, HO, HB⟩ := hrel
    by_cases hlt : n + k < 60
    · have hAl := (Below.refl wr.heap.size wr).alloc (Nat.le_refl _) (.cells #[.int .u8 0] 5)
      have hbw := HB.out.size
      obtain ⟨u', w', hrun, hO', hb'⟩ := Wc.append_run (P := Try.prog) (ty := 24) (ys := [0]) Try.underlying24 hi hz0 hz1 hz2 (HO.out.keep hAl) (Wc.Bs.lit wr #[.int .u8 0] 5 1 [0] rfl (by omega) rfl (by decide)) (.inr ⟨_, _, _, rfl⟩) (by have := HN.out; simp; omega) (by simp; omega)
      rw [List.append_assoc, show List.replicate k (0 : Int) ++ [0] = List.replicate (k + 1) 0 from (List.replicate_succ' ..).symm] at hO'
      obtain ⟨g', c', rfl⟩ := Wc.ob_form hO' (by rw [List.length_append, List.length_replicate]; omega)
      have e1 : (xs ++ List.replicate (k + 1) (0 : Int)).length = n + (k + 1) := by have := HN.out; simp; omega
      rw [e1] at hrun hO'
      have HO' := Wc.hid hO'
      have HB' := Wc.hid ((HB.out.alloc (by omega) _).trans hb')
      have hlt2 : ((n : Int) + (k : Int) < 60) := by omega
      clear hAl hbw hO' hb' e1
      go_wp2_with (at_builtin; refine Wc.wp_append hrun rfl rfl rfl rfl ?_)
      clear hrun
      go_roundw
      case rel => exact ⟨k + 1, g', c', rfl, by omega, HO', HB'⟩
      case measure => simp only [Wc.slLen]; omega
    · obtain rfl : k = 60 - n := by omega
      have hb60 : n + (60 - n) = 60 := by omega
      rw [hb60] at HO ⊢
      obtain ⟨P, hP⟩ : ∃ P, xs ++ List.replicate (60 - n) (0 : Int) = P := ⟨_, rfl⟩
      rw [hP] at HO
      have HP := Wc.hid hP
      clear hP hlt hb60 hk
      go_wp2_with fail
      refine (refSum_any _ _ _ HO.out.bs).mono ?_
      rintro e w2 ⟨rfl, rfl⟩
      have hm := Wc.more_range 0 P HO.out.2.2
      obtain ⟨S, hS⟩ : ∃ S, Wc.more 0 P = S := ⟨_, rfl⟩
      rw [hS] at hm ⊢
      have HS := Wc.hid hS
      clear hS
      go_wp2_with fail
      refine (refBytes_any 4 S _ (by omega) hm.1 (by omega)).mono ?_
      rintro e w3 ⟨u, rfl, hu, hb3⟩
      have hel := Wc.enc_length 4 S
      obtain ⟨b3, o3, c3, rfl⟩ := Wc.bs_shape hu (by omega)
      have hPl : P.length = 60 := Wc.bs_len HO.out.bs
      obtain ⟨v', w4, hrun, hO4, hb4⟩ := Wc.append_run (P := Try.prog) (ty := 24) (ys := Wc.enc 4 S) Try.underlying24 hi hz0 hz1 hz2 (HO.out.keep hb3) hu (.inr ⟨_, _, _, rfl⟩) (by omega) (by have := HB.out.size; have := hb3.size; omega)
      have HB4 := Wc.hid ((HB.out.trans (hb3.mono (by have := HB.out.size; omega))).trans hb4)
      have HO4 := Wc.hid hO4
      clear hm hu hb3 hel hPl hO4 hb4
      go_wp2_with (at_builtin; refine Wc.wp_append hrun rfl rfl rfl rfl ?_)
      go_ret
      exact ⟨v', rfl, by rw [HP.out, HS.out]; exact HO4.out.bs, HB4.out⟩

theorem Sh.below {w w' : World} {B base : Nat} {s : Ws.Sup} (h : Sh w B s) (hb : Below base w w') (hlt : B < base) : Sh w' B s := by
  unfold Sh
  rw [hb.block B hlt]; exact h

theorem fit_enc {n : Int} (h : 0 ≤ n ∧ n ≤ 1099511627776) : 0 ≤ n ∧ n ≤ 4611686018427387903 := by omega

set_option maxHeartbeats 3200000 in
theorem refSuperBytes_any (s : Ws.Sup) (w : World) (hs : Ws.supB s = true) :
    Calls Try.prog 16 #[sv s] w fun e w' => ∃ v, e = .returned v ∧ Wc.Bs w' v (Ws.blk s) ∧ Below w.heap.size w w' := by
  obtain ⟨i0, hi, hz0, hz1, hz2⟩ := info_parts Try.infoU8
  have HS := Wc.hid (Ws.supB_iff.1 hs)
  clear hs
  have kc := Joins.run_convert_bytes_const_at (P := Try.prog) (w.alloc (.cells #[.int .i64 s.gen, .int .i64 s.blocks, .int .i64 s.root, .int .i64 s.size, .int .i64 s.first] 23)) 24 5 #[.int .u8 87, .int .u8 67, .int .u8 85, .int .u8 84] 4 4 (w.heap.size + 1) (by simp) Try.underlying24 Try.underlying5
  have A0 := Wc.hid ((Sh.new w s).keep ((Below.refl _ _).alloc (Nat.le_refl _) (.cells #[.int .u8 87, .int .u8 67, .int .u8 85, .int .u8 84] 5 (4, 5))))
  have B0 := Wc.hid (((Below.refl w.heap.size w).alloc (Nat.le_refl _) (.cells #[.int .i64 s.gen, .int .i64 s.blocks, .int .i64 s.root, .int .i64 s.size, .int .i64 s.first] 23)).alloc (by simp) (.cells #[.int .u8 87, .int .u8 67, .int .u8 85, .int .u8 84] 5 (4, 5)))
  have V0 : Hid (Wc.Bs ((w.alloc (.cells #[.int .i64 s.gen, .int .i64 s.blocks, .int .i64 s.root, .int .i64 s.size, .int .i64 s.first] 23)).alloc (.cells #[.int .u8 87, .int .u8 67, .int .u8 85, .int .u8 84] 5 (4, 5))) (.slice (some ⟨w.heap.size + 1, 0, none⟩) 4 4) Ws.name) := Wc.hid (by
    have := Wc.Bs.litF (w.alloc (.cells #[.int .i64 s.gen, .int .i64 s.blocks, .int .i64 s.root, .int .i64 s.size, .int .i64 s.first] 23)) #[.int .u8 87, .int .u8 67, .int .u8 85, .int .u8 84] 5 4 (4, 5) Ws.name rfl (by omega) rfl (by decide)
    simpa using this)
  have ⟨c0, c1, c2, c3, c4⟩ := A0.out.sc
  unfold sv
  go_enter Try.func16, Try.ntmps16
  go_wp2_with fail
  obtain ⟨W1, hW1⟩ : ∃ W1, (w.alloc (.cells #[.int .i64 s.gen, .int .i64 s.blocks, .int .i64 s.root, .int .i64 s.size, .int .i64 s.first] 23)).alloc (.cells #[.int .u8 87, .int .u8 67, .int .u8 85, .int .u8 84] 5 (4, 5)) = W1 := ⟨_, rfl⟩
  rw [hW1] at A0 B0 V0 ⊢
  clear hW1 kc c0 c1 c2 c3 c4
  refine (refBytes_any 8 s.gen _ (by omega) (by have := HS.out; omega) (by have := HS.out; omega)).mono ?_
  rintro e w2 ⟨u2, rfl, hu2, hb2⟩
  obtain ⟨q2, o2, k2, rfl⟩ := Wc.bs_shape hu2 (by rw [Wc.enc_length]; omega)
  have A2 := Wc.hid (A0.out.keep hb2)
  have B2 := Wc.hid (Wc.step B0.out (Nat.le_refl _) hb2)
  obtain ⟨v3, w3, hrun, hO3, hb3⟩ := Wc.grow_run (P := Try.prog) (ty := 24) Try.underlying24 hi hz0 hz1 hz2 (V0.out.keep hb2) hu2 (by rw [Wc.enc_length]; omega) (by rw [Wc.enc_length]; omega) (by rw [Wc.enc_length]; decide)
  have hlt2 : w.heap.size < w2.heap.size := by have := A2.out.lt; omega
  have HLT := Wc.hid hlt2
  have A3 := Wc.hid (A2.out.keep hb3)
  have O3 := Wc.hid hO3
  have B3 := Wc.hid (Wc.step B2.out (Nat.le_refl _) hb3)
  have BB3 := Wc.hid hb3
  clear hu2 hb2 hO3 hb3 hlt2
  obtain ⟨g3, c3, rfl⟩ := Wc.ob_form O3.out (by simp [Ws.name, Wc.enc_length])
  have e3 : (Ws.name ++ Wc.enc 8 s.gen).length = 12 := by simp [Ws.name, Wc.enc_length]
  rw [e3] at hrun O3
  clear e3
  have ⟨a0, a1, a2, a3, a4⟩ := A3.out.sc
  go_wp2_with (at_builtin; refine Wc.wp_append hrun rfl rfl rfl rfl ?_)
  clear hrun a0 a1 a2 a3 a4
  refine (refBytes_any 4 s.blocks _ (by omega) (by have := HS.out; omega) (by have := HS.out; omega)).mono ?_
  rintro e w4 ⟨u4, rfl, hu, hb⟩
  obtain ⟨qq4, oo4, kk4, rfl⟩ := Wc.bs_shape hu (by rw [Wc.enc_length]; omega)
  have A4 := Wc.hid (A3.out.keep hb)
  have B4 := Wc.hid (Wc.step B3.out (Nat.le_refl _) hb)
  have BB4 := Wc.hid (Wc.step BB3.out (Nat.le_refl _) hb)
  have hbs4 := BB4.out.size
  obtain ⟨v5, w5, hrun, hO, hb'⟩ := Wc.append_run (P := Try.prog) (ty := 24) (ys := Wc.enc 4 s.blocks) Try.underlying24 hi hz0 hz1 hz2 (O3.out.keep hb) hu (.inr ⟨_, _, _, rfl⟩) (by simp [Ws.name, Wc.enc_length]) hbs4
  have A5 := Wc.hid (A4.out.below hb' HLT.out)
  have O5 := Wc.hid hO
  have BB5 := Wc.hid (BB4.out.trans hb')
  have B5 := Wc.hid (B4.out.trans (hb'.mono (by have := HLT.out; omega)))
  clear hu hb hO hb' hbs4
  obtain ⟨g5, c5, rfl⟩ := Wc.ob_form O5.out (by simp [Ws.name, Wc.enc_length])
  have el : ((Ws.name ++ Wc.enc 8 s.gen) ++ Wc.enc 4 s.blocks).length = 16 := by simp [Ws.name, Wc.enc_length]
  rw [el] at hrun O5
  clear el
  have ⟨a0, a1, a2, a3, a4⟩ := A5.out.sc
  go_wp2_with (at_builtin; refine Wc.wp_append hrun rfl rfl rfl rfl ?_)
  clear hrun a0 a1 a2 a3 a4
  refine (refBytes_any 4 s.root _ (by omega) (by have := HS.out; omega) (by have := HS.out; omega)).mono ?_
  rintro e w6 ⟨u6, rfl, hu, hb⟩
  obtain ⟨qq6, oo6, kk6, rfl⟩ := Wc.bs_shape hu (by rw [Wc.enc_length]; omega)
  have A6 := Wc.hid (A5.out.keep hb)
  have B6 := Wc.hid (Wc.step B5.out (Nat.le_refl _) hb)
  have BB6 := Wc.hid (Wc.step BB5.out (Nat.le_refl _) hb)
  have hbs6 := BB6.out.size
  obtain ⟨v7, w7, hrun, hO, hb'⟩ := Wc.append_run (P := Try.prog) (ty := 24) (ys := Wc.enc 4 s.root) Try.underlying24 hi hz0 hz1 hz2 (O5.out.keep hb) hu (.inr ⟨_, _, _, rfl⟩) (by simp [Ws.name, Wc.enc_length]) hbs6
  have A7 := Wc.hid (A6.out.below hb' HLT.out)
  have O7 := Wc.hid hO
  have BB7 := Wc.hid (BB6.out.trans hb')
  have B7 := Wc.hid (B6.out.trans (hb'.mono (by have := HLT.out; omega)))
  clear hu hb hO hb' hbs6
  obtain ⟨g7, c7, rfl⟩ := Wc.ob_form O7.out (by simp [Ws.name, Wc.enc_length])
  have el : (((Ws.name ++ Wc.enc 8 s.gen) ++ Wc.enc 4 s.blocks) ++ Wc.enc 4 s.root).length = 20 := by simp [Ws.name, Wc.enc_length]
  rw [el] at hrun O7
  clear el
  have ⟨a0, a1, a2, a3, a4⟩ := A7.out.sc
  go_wp2_with (at_builtin; refine Wc.wp_append hrun rfl rfl rfl rfl ?_)
  clear hrun a0 a1 a2 a3 a4
  refine (refBytes_any 4 s.size _ (by omega) (by have := HS.out; omega) (by have := HS.out; omega)).mono ?_
  rintro e w8 ⟨u8, rfl, hu, hb⟩
  obtain ⟨qq8, oo8, kk8, rfl⟩ := Wc.bs_shape hu (by rw [Wc.enc_length]; omega)
  have A8 := Wc.hid (A7.out.keep hb)
  have B8 := Wc.hid (Wc.step B7.out (Nat.le_refl _) hb)
  have BB8 := Wc.hid (Wc.step BB7.out (Nat.le_refl _) hb)
  have hbs8 := BB8.out.size
  obtain ⟨v9, w9, hrun, hO, hb'⟩ := Wc.append_run (P := Try.prog) (ty := 24) (ys := Wc.enc 4 s.size) Try.underlying24 hi hz0 hz1 hz2 (O7.out.keep hb) hu (.inr ⟨_, _, _, rfl⟩) (by simp [Ws.name, Wc.enc_length]) hbs8
  have A9 := Wc.hid (A8.out.below hb' HLT.out)
  have O9 := Wc.hid hO
  have BB9 := Wc.hid (BB8.out.trans hb')
  have B9 := Wc.hid (B8.out.trans (hb'.mono (by have := HLT.out; omega)))
  clear hu hb hO hb' hbs8
  obtain ⟨g9, c9, rfl⟩ := Wc.ob_form O9.out (by simp [Ws.name, Wc.enc_length])
  have el : ((((Ws.name ++ Wc.enc 8 s.gen) ++ Wc.enc 4 s.blocks) ++ Wc.enc 4 s.root) ++ Wc.enc 4 s.size).length = 24 := by simp [Ws.name, Wc.enc_length]
  rw [el] at hrun O9
  clear el
  have ⟨a0, a1, a2, a3, a4⟩ := A9.out.sc
  go_wp2_with (at_builtin; refine Wc.wp_append hrun rfl rfl rfl rfl ?_)
  clear hrun a0 a1 a2 a3 a4
  refine (refBytes_any 4 s.first _ (by omega) (by have := HS.out; omega) (by have := HS.out; omega)).mono ?_
  rintro e w10 ⟨u10, rfl, hu, hb⟩
  obtain ⟨qq10, oo10, kk10, rfl⟩ := Wc.bs_shape hu (by rw [Wc.enc_length]; omega)
  have A10 := Wc.hid (A9.out.keep hb)
  have B10 := Wc.hid (Wc.step B9.out (Nat.le_refl _) hb)
  have BB10 := Wc.hid (Wc.step BB9.out (Nat.le_refl _) hb)
  have hbs10 := BB10.out.size
  obtain ⟨v11, w11, hrun, hO, hb'⟩ := Wc.append_run (P := Try.prog) (ty := 24) (ys := Wc.enc 4 s.first) Try.underlying24 hi hz0 hz1 hz2 (O9.out.keep hb) hu (.inr ⟨_, _, _, rfl⟩) (by simp [Ws.name, Wc.enc_length]) hbs10
  have A11 := Wc.hid (A10.out.below hb' HLT.out)
  have O11 := Wc.hid hO
  have BB11 := Wc.hid (BB10.out.trans hb')
  have B11 := Wc.hid (B10.out.trans (hb'.mono (by have := HLT.out; omega)))
  clear hu hb hO hb' hbs10
  obtain ⟨g11, c11, rfl⟩ := Wc.ob_form O11.out (by simp [Ws.name, Wc.enc_length])
  have el : (((((Ws.name ++ Wc.enc 8 s.gen) ++ Wc.enc 4 s.blocks) ++ Wc.enc 4 s.root) ++ Wc.enc 4 s.size) ++ Wc.enc 4 s.first).length = 28 := by simp [Ws.name, Wc.enc_length]
  rw [el] at hrun O11
  clear el
  go_wp2_with (at_builtin; refine Wc.wp_append hrun rfl rfl rfl rfl ?_)
  clear hrun
  refine (seal_any w2.heap.size _ (((((Ws.name ++ Wc.enc 8 s.gen) ++ Wc.enc 4 s.blocks) ++ Wc.enc 4 s.root) ++ Wc.enc 4 s.size) ++ Wc.enc 4 s.first) _ O11.out (by simp [Ws.name, Wc.enc_length]) (by simp [Ws.name, Wc.enc_length]) BB11.out.size).mono ?_
  rintro e w12 ⟨vz, rfl, hz, hbz⟩
  have HZ := Wc.hid hz
  have BZ := Wc.hid (B11.out.trans (hbz.mono (by have := HLT.out; omega)))
  clear hz hbz
  go_wp2_with fail
  go_ret
  refine ⟨vz, rfl, ?_, BZ.out⟩
  have hh : (((((Ws.name ++ Wc.enc 8 s.gen) ++ Wc.enc 4 s.blocks) ++ Wc.enc 4 s.root) ++ Wc.enc 4 s.size) ++ Wc.enc 4 s.first) ++ List.replicate (60 - (((((Ws.name ++ Wc.enc 8 s.gen) ++ Wc.enc 4 s.blocks) ++ Wc.enc 4 s.root) ++ Wc.enc 4 s.size) ++ Wc.enc 4 s.first).length) 0 = Ws.head s := by
    rw [show (((((Ws.name ++ Wc.enc 8 s.gen) ++ Wc.enc 4 s.blocks) ++ Wc.enc 4 s.root) ++ Wc.enc 4 s.size) ++ Wc.enc 4 s.first).length = 28 from by simp [Ws.name, Wc.enc_length]]
    unfold Ws.head
    simp only [List.append_assoc]
  have := HZ.out
  rw [hh] at this
  exact this

end Go.Proofs.Ytkddnjpkkkknfaa
