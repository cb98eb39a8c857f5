/-
  Blocks in general: a row of sixty-four bytes; four bytes as a text; bytes put behind a slice; what the page's seal returns.
-/
import Derived.Test.YtblbldoeknihaaaNnod
import Derived.Test.YtblbldoeknihaaaRefGood
import Derived.Lib.BufferWrite
import Derived.Lib.SlBytesConst
import Derived.Lib.SmallJoins
import Derived.ArgAppend
namespace Wc
open Go Go.RowKit

/-- Bytes put behind a slice that has no room: memory of one's own. -/
theorem grow_run {P : Program} {e t ty : Nat} {i : TypeInfo} {w : World} {ad : Addr} {n cap : Nat} {u : Value} {xs ys : List Int} (ht : P.underlying t = some (.slice e)) (hi : P.info? e = some i) (hz : i.zero = some (.int .u8 0)) (hsz : i.size = 1) (hby : i.bytes = 1)
    (hv : Bs w (.slice (some ad) n cap) xs) (hu : Bs w u ys) (h0 : 0 < ys.length) (hfull : cap < n + ys.length) (hl : xs.length + ys.length ≤ 140737488355328) :
    ∃ v' w', Sem.run P (Builtin.append_ #[t, t] ty #[.slice (some ad) n cap, u]) w = .ok v' w' ∧ Ob e w.heap.size w' v' (xs ++ ys) ∧ Below w.heap.size w w' := by
  have hbd : ∀ x ∈ xs ++ ys, 0 ≤ x ∧ x < 256 := by
    intro x hx
    rcases List.mem_append.1 hx with h | h
    · exact bs_bytes hv x h
    · exact bs_bytes hu x h
  have hxl := bs_len hv
  rcases hu.open with ⟨rfl, _⟩ | ⟨b, off, m, c, rfl, hm0, hyl, _, _, _, _, _, hc⟩
  · simp at h0
  · have holds : ∀ j v, (xs.map (Value.int .u8))[j]? = some v → w.cell? (ad.add j) = some v := by
      intro j v hj
      have hjn : j < n := by have := (List.getElem?_eq_some_iff.1 hj).1; simpa [hxl] using this
      rcases hv.open with ⟨_, a', cap', h, _⟩ | ⟨b', off', n', cap', h, _, _, _, _, _, _, _, hc'⟩
      · cases h; omega
      · cases h
        rw [add_none, hc' j hjn]; simpa [hxl, hjn] using hj
    have hnews : ∀ j v, (ys.map (Value.int .u8))[j]? = some v → w.cell? ((⟨b, off, none⟩ : Addr).add j) = some v := by
      intro j v hj
      have hjn : j < m := by have := (List.getElem?_eq_some_iff.1 hj).1; simpa [hyl] using this
      rw [add_none, hc j hjn]; simpa [hyl, hjn] using hj
    obtain ⟨v', w', h1, h2, h3⟩ := run_append_arg_grows (P := P) w t ty e i (.int .u8 0) 1 1 ht hi hz hsz hby rfl (by decide) ad n cap (xs.map (Value.int .u8)) (by simpa using hxl) holds ⟨b, off, none⟩ m c (ys.map (Value.int .u8)) (by simpa using hyl) hnews (by omega) (by unfold maxLen; omega) (by omega)
    refine ⟨v', w', h1, ⟨by simpa [hxl, hyl] using h2, by simpa using hl, hbd⟩, ?_⟩
    exact (Below.refl _ _).grown h3 (Nat.le_refl _) (fun g hg => by cases hg)

theorem bs_shape {w : World} {v : Value} {xs : List Int} (h : Bs w v xs) (h0 : 0 < xs.length) : ∃ b off cap, v = .slice (some ⟨b, off, none⟩) xs.length cap := by
  rcases h.open with ⟨rfl, _⟩ | ⟨b, off, n, cap, rfl, _, hn, _⟩
  · simp at h0
  · exact ⟨b, off, cap, by rw [hn]⟩

theorem ob_form {e base : Nat} {w : World} {v : Value} {xs : List Int} (h : Ob e base w v xs) (h0 : 0 < xs.length) : ∃ g cap, v = .slice (some ⟨g, 0, none⟩) xs.length cap := by
  rcases h.1.2 with ⟨_, h1⟩ | ⟨g, cap, cur, hv, _⟩
  · omega
  · exact ⟨g, cap, hv⟩

/-- The number of a slice's elements. -/
def slLen : Value → Nat
  | .slice _ n _ => n
  | _ => 0

end Wc
namespace Go.Proofs.Ytblbldoeknihaaa
open Go.RowKit

/-- A row of bytes. -/
def Rb (w : World) (g : Nat) (xs : List Int) : Prop := w.rowIs g 5 64 (fun j => .int .u8 (xs.getD j 0))

theorem Rb.bs {w : World} {g : Nat} {xs : List Int} (h : Rb w g xs) (hl : xs.length = 64) (hx : ∀ x ∈ xs, 0 ≤ x ∧ x < 256) : Wc.Bs w (.slice (some ⟨g, 0, none⟩) 64 64) xs := Wc.Bs.row hl (by omega) hx h

theorem Rb.keep {w w' : World} {g : Nat} {xs : List Int} (h : Rb w g xs) (hb : Below w.heap.size w w') : Rb w' g xs := by
  obtain ⟨c, h1, h2, h3⟩ := h
  exact ⟨c, by rw [hb.block g (Array.getElem?_eq_some_iff.1 h1).1]; exact h1, h2, h3⟩

theorem make64 (w : World) : (Instr.makeSlice 24 (.int .i64 64) (.int .i64 64)).run Try.prog w = .ok (.slice (some ⟨w.heap.size, 0, none⟩) 64 64) (w.alloc (.cells (madeCells #[.int .u8 0] 64) 5)) :=
  run_make_row' (P := Try.prog) 24 5 (.int .u8 0) 1 Try.underlying24 Try.infoU8 rfl .i64 .i64 64 (by omega) (by omega) w

theorem fit8 {n : Int} (h : 0 ≤ n ∧ n ≤ 1099511627776) : Wc.fitB n 8 = true := (Wc.fitB_iff (by decide)).2 ⟨h.1, by omega, by rw [show (8 : Int).toNat = 8 from rfl]; omega⟩
theorem fit4 {n : Int} (h : 0 ≤ n ∧ n < 4294967296) : Wc.fitB n 4 = true := (Wc.fitB_iff (by decide)).2 ⟨h.1, by omega, by rw [show (4 : Int).toNat = 4 from rfl]; omega⟩

/-- The first bytes as a text. -/
def txt (xs : List Int) : ByteArray := ⟨((xs.take 4).map fun x => x.toNat.toUInt8).toArray⟩

theorem ofNat_toNat {x : Int} (h : 0 ≤ x ∧ x < 256) : (x.toNat.toUInt8.toNat : Int) = x := by
  have : x.toNat.toUInt8.toNat = x.toNat := by
    rw [Nat.toUInt8, UInt8.toNat_ofNat']
    omega
  rw [this]; omega

/-- string(b[:4]). -/
theorem convert_txt {w : World} {b off n cap : Nat} {xs : List Int} (hv : Wc.Bs w (.slice (some ⟨b, off, none⟩) n cap) xs) (hn : 4 ≤ n) :
    (convert 24 9 (.slice (some ⟨b, off, none⟩) 4 cap)).run Try.prog w = .ok (.string (txt xs)) w := by
  obtain ⟨hl, hc⟩ := Wc.bs_cells hv (by omega)
  have hb := Wc.bs_bytes hv
  have h4 : ((xs.take 4).map fun x => x.toNat.toUInt8).length = 4 := by simp; omega
  have := run_convert_bytes_back (P := Try.prog) w 24 9 5 ⟨b, off, none⟩ cap ((xs.take 4).map fun x => x.toNat.toUInt8) Try.underlying24 Try.underlying5 Try.underlying9 (by
    intro j hj
    rw [h4] at hj
    rw [Wc.add_none, hc j (by omega)]
    have hjl : j < xs.length := by omega
    have e : ((xs.take 4).map fun x => x.toNat.toUInt8)[j] = (xs[j]).toNat.toUInt8 := by simp
    rw [e, ofNat_toNat (hb _ (List.getElem_mem _))]
    simp [hjl])
  rw [h4] at this
  exact this

theorem u8_eq {x : Int} (h : 0 ≤ x ∧ x < 256) (k : UInt8) : x.toNat.toUInt8 = k ↔ x = (k.toNat : Int) := by
  have := ofNat_toNat h
  constructor
  · rintro rfl; exact this.symm
  · intro e
    apply UInt8.toNat_inj.1
    omega

set_option maxHeartbeats 1600000 in
theorem seal_any (base : Nat) (v : Value) (xs : List Int) (w : World) (hv : Wc.Ob 5 base w v xs) (h0 : 0 < xs.length) (h60 : xs.length ≤ 60) (hbase : base ≤ w.heap.size) :
    Calls Try.prog 33 #[v] w fun e w' => ∃ v', e = .returned v' ∧ Wc.Bs w' v' ((xs ++ List.replicate (60 - xs.length) 0) ++ Wc.enc 4 (Wc.more 0 (xs ++ List.replicate (60 - xs.length) 0))) ∧ Below base w w' := by
  obtain ⟨i0, hi, hz0, hz1, hz2⟩ := info_parts Try.infoU8
  have HV := Wc.hid hv
  obtain ⟨g0, c0, rfl⟩ := Wc.ob_form hv h0
  have HXB := Wc.hid (hv.2.2)
  clear hv
  obtain ⟨n, hn⟩ : ∃ n, xs.length = n := ⟨_, rfl⟩
  have HN := Wc.hid hn
  rw [hn] at h0 h60 HV ⊢
  clear hn
  go_enter Try.func33, Try.ntmps33
  go_wp2
  go_loopw [0] (fun u wr => ∃ k g c, u = .slice (some ⟨g, 0, none⟩) (n + k) c ∧ n + k ≤ 60 ∧ Hid (Wc.Ob 5 base wr (.slice (some ⟨g, 0, none⟩) (n + k) c) (xs ++ List.replicate k 0)) ∧ Hid (Below base w wr)) (fun u _ => 60 - Wc.slLen u)
  case atStart => exact ⟨0, g0, c0, rfl, by omega, Wc.hid (by simpa using HV.out), Wc.hid (Below.refl _ _)⟩
  case round =>
    obtain ⟨k, g, c, rfl, hk, HO, HB⟩ := hrel
    by_cases hlt : n + k < 60
    · have hAl := (Below.refl wr.heap.size wr).alloc (Nat.le_refl _) (.cells #[.int .u8 0] 5)
      have hbw := HB.out.size
      obtain ⟨u', w', hrun, hO', hb'⟩ := Wc.append_run (P := Try.prog) (ty := 24) (ys := [0]) Try.underlying24 hi hz0 hz1 hz2 (HO.out.keep hAl) (Wc.Bs.lit wr #[.int .u8 0] 5 1 [0] rfl (by omega) rfl (by decide)) (.inr ⟨_, _, _, rfl⟩) (by have := HN.out; simp; omega) (by simp; omega)
      rw [List.append_assoc, show List.replicate k (0 : Int) ++ [0] = List.replicate (k + 1) 0 from (List.replicate_succ' ..).symm] at hO'
      obtain ⟨g', c', rfl⟩ := Wc.ob_form hO' (by rw [List.length_append, List.length_replicate]; omega)
      have e1 : (xs ++ List.replicate (k + 1) (0 : Int)).length = n + (k + 1) := by have := HN.out; simp; omega
      rw [e1] at hrun hO'
      have HO' := Wc.hid hO'
      have HB' := Wc.hid ((HB.out.alloc (by omega) _).trans hb')
      have hlt2 : ((n : Int) + (k : Int) < 60) := by omega
      clear hAl hbw hO' hb' e1
      go_wp2_with (at_builtin; refine Wc.wp_append hrun rfl rfl rfl rfl ?_)
      clear hrun
      go_roundw
      case rel => exact ⟨k + 1, g', c', rfl, by omega, HO', HB'⟩
      case measure => simp only [Wc.slLen]; omega
    · obtain rfl : k = 60 - n := by omega
      have hb60 : n + (60 - n) = 60 := by omega
      rw [hb60] at HO ⊢
      obtain ⟨P, hP⟩ : ∃ P, xs ++ List.replicate (60 - n) (0 : Int) = P := ⟨_, rfl⟩
      rw [hP] at HO
      have HP := Wc.hid hP
      clear hP hlt hb60 hk
      go_wp2_with fail
      refine (refSum_any _ _ _ HO.out.bs).mono ?_
      rintro e w2 ⟨rfl, rfl⟩
      have hm := Wc.more_range 0 P HO.out.2.2
      obtain ⟨S, hS⟩ : ∃ S, Wc.more 0 P = S := ⟨_, rfl⟩
      rw [hS] at hm ⊢
      have HS := Wc.hid hS
      clear hS
      go_wp2_with fail
      refine (refBytes_any 4 S _ (by omega) hm.1 (by omega)).mono ?_
      rintro e w3 ⟨u, rfl, hu, hb3⟩
      have hel := Wc.enc_length 4 S
      obtain ⟨b3, o3, c3, rfl⟩ := Wc.bs_shape hu (by omega)
      have hPl : P.length = 60 := Wc.bs_len HO.out.bs
      obtain ⟨v', w4, hrun, hO4, hb4⟩ := Wc.append_run (P := Try.prog) (ty := 24) (ys := Wc.enc 4 S) Try.underlying24 hi hz0 hz1 hz2 (HO.out.keep hb3) hu (.inr ⟨_, _, _, rfl⟩) (by omega) (by have := HB.out.size; have := hb3.size; omega)
      have HB4 := Wc.hid ((HB.out.trans (hb3.mono (by have := HB.out.size; omega))).trans hb4)
      have HO4 := Wc.hid hO4
      clear hm hu hb3 hel hPl hO4 hb4
      go_wp2_with (at_builtin; refine Wc.wp_append hrun rfl rfl rfl rfl ?_)
      go_ret
      exact ⟨v', rfl, by rw [HP.out, HS.out]; exact HO4.out.bs, HB4.out⟩

end Go.Proofs.Ytblbldoeknihaaa
