/-
  What the page's Apply returns, for every right device and right steps.
-/
import Derived.Test.YtjacpmbdmbahhaaDapp
namespace Wd
open Go Go.RowKit

/-- A step that is right and no write changes nothing. -/
theorem one_flush {m : Int} {xs : List Int} {x : Io} (h : okIo m x = true) (h1 : ¬ x.kind = 1) : one xs x = xs := by
  rcases rightB_iff.1 h with ⟨h2, _⟩ | ⟨-, h2, h3⟩
  · exact absurd h2 h1
  · unfold one
    rw [List.eq_nil_of_length_eq_zero h3, lay_nil]

/-- Memory of the call's own that holds something is a block of its own. -/
theorem ob_block {e base : Nat} {w : World} {v : Value} {xs : List Int} (h : Wc.Ob e base w v xs) (h0 : 0 < xs.length) : ∃ g cap, v = .slice (some ⟨g, 0, none⟩) xs.length cap ∧ base ≤ g := by
  rcases h.1.2 with ⟨_, h1⟩ | ⟨g, cap, cur, hv, hb, _⟩
  · omega
  · exact ⟨g, cap, hv, hb⟩

end Wd
namespace Go.Proofs.Ytjacpmbdmbahhaa
open Go.RowKit

set_option maxRecDepth 100000 in
set_option maxHeartbeats 1600000 in
theorem refApply_any (ai : Option Addr) (ni ci m : Nat) (a : Option Addr) (n cap : Nat) (xs : List Int) (l : List Wd.Io) (w : World) (hv : Wc.Bs w (.slice ai ni ci) xs) (hsh : Wc.Shaped (.slice ai ni ci)) (hI : Wd.Is w (.slice a n cap) l)
    (hm : 0 < m) (hn : ni = m * 64) (hok : l.all (Wd.okIo m) = true) :
    Calls Try.prog 24 #[.slice ai ni ci, .slice a n cap] w fun e w' => ∃ ax cx, e = .returned (.slice ax ni cx) ∧ Wc.Bs w' (.slice ax ni cx) (Wd.app xs l) ∧ Below w.heap.size w w' := by
  have hni : ni ≤ 140737488355328 := by obtain ⟨_, _, _, h1, _, _, _, h5, _⟩ := hv; cases h1; exact h5
  have hxl := Wc.bs_len hv
  obtain ⟨i0, hi, hz0, hz1, hz2⟩ := info_parts Try.infoU8
  obtain ⟨v', w1, hrun, hO, hb⟩ := Wc.append_run (P := Try.prog) (ty := 22) Try.underlying22 hi hz0 hz1 hz2 (Wc.Ob.nil 5 w.heap.size w) hv hsh (by simpa [hxl] using hni) (Nat.le_refl _)
  rw [List.nil_append] at hO
  obtain ⟨g, gc, rfl, hg⟩ := Wd.ob_block hO (by omega)
  rw [hxl] at hrun hO
  have hgc := Wc.bs_cap hO.bs
  obtain ⟨a', n', cap', h1, hl, hcap, hcap2, hln, hpos⟩ := hI
  cases h1
  have HO0 := Wc.hid hO
  have HB0 := Wc.hid hb
  have HP := Wc.hid hpos
  have HL := Wc.hid hl
  have HOK := Wc.hid hok
  have HN := Wc.hid hn
  have HM := Wc.hid hm
  clear hO hb hpos hl hok hm hv hsh hxl hn
  go_enter Try.func24, Try.ntmps24
  go_wp2_with (at_builtin; refine Wc.wp_append hrun rfl rfl rfl rfl ?_)
  clear hrun hz0 hz1 hz2 hi
  go_loopw [6] (fun i wr => ∃ k : Nat, i = .int .i64 k ∧ k ≤ n ∧ Below w.heap.size w wr ∧ Hid (Wc.Ob 5 w.heap.size wr (.slice (some ⟨g, 0, none⟩) ni gc) (Wd.app xs (l.take k)))) (fun i _ => n - (intOf i).toNat)
  case atStart => exact ⟨0, rfl, by omega, HB0.out, by simpa [Wd.app] using HO0⟩
  case round =>
    obtain ⟨k, rfl, hk, hbr, HO⟩ := hrel
    by_cases hlt : k < n
    · obtain ⟨b, off, rfl, hblt, hcs⟩ := HP.out (by omega)
      obtain ⟨a', c', hx⟩ := hcs k hlt
      have hkl : k < l.length := by rw [HL.out]; exact hlt
      have hts := Wd.take_succ l k hkl
      have hxok := Wd.all_at HOK.out k hkl
      obtain ⟨x, hxe⟩ : ∃ x, l.getD k Wd.d0 = x := ⟨_, rfl⟩
      rw [hxe] at hx hts hxok
      obtain ⟨c0, c1, c2, c3, -⟩ := hx.keep hbr
      have HTS := Wc.hid hts
      by_cases hk1 : x.kind = 1
      · obtain ⟨p, hp, hp1, hp2⟩ := Wd.ok_fits hxok HM.out
        rw [hp] at c1
        rw [hk1] at c0
        have E1 := Wc.hid (Wd.one_pos (xs := Wd.app xs (l.take k)) hp)
        rw [← HN.out] at hp1 hp2
        have C3 := Wc.hid c3
        have HP1 := Wc.hid hp1
        have k1 : p * 64 ≤ gc := by omega
        have k2 : ¬ gc = p * 64 := by omega
        have k3 : p * 64 ≤ ni := by omega
        have k7 : IntKind.i64.wrap ((p : Int) * 64) = ((p * 64 : Nat) : Int) := by rw [IntKind.wrap_i64]; omega
        have hne : ¬ b = g := by omega
        have hbrs := hbr.size
        obtain ⟨q, hq⟩ : ∃ q, p * 64 = q := ⟨_, rfl⟩
        rw [hq] at k1 k2 k3 k7 HP1 E1
        have hsl := slice_from (some ⟨g, 0, none⟩) ni gc q k3 k2
        have HBR := Wc.hid hbr
        have hki : ((k : Int) < (n : Int)) := by omega
        clear hcs hx hts hxok hxe hp c3 hp1 hp2 hk1 hq hbr
        obtain ⟨dn, hdn⟩ : ∃ dn, x.data.length = dn := ⟨_, rfl⟩
        rw [hdn] at c2 C3
        clear hdn
        go_wp2
        go_region_held3 (fun w' => w'.cell? ⟨b, off + k * 3 + 1, none⟩ = some (.int .i64 p) ∧ w'.cell? ⟨b, off + k * 3 + 2, none⟩ = some (.slice a' dn c')) (go_keep) (first | (refine step_copy_ob w.heap.size rfl rfl rfl rfl (by exact HO.out) (by exact C3.out) HP1.out ?_; intro w2 hO2 hb2 hq2; have k5 := hq2 ⟨b, off + k * 3 + 1, none⟩ hne; have k6 := hq2 ⟨b, off + k * 3 + 2, none⟩ hne) | fail)
        have HB := Wc.hid (HBR.out.drew.trans hb2)
        have HO2 := Wc.hid hO2
        clear hb2 hO2 hq2 k5 k6 hsl c1 c2
        go_wp2
        go_roundw
        case rel =>
          refine ⟨k + 1, by go_num, by omega, HB.out, ?_⟩
          have := HTS.out
          refine Wc.hid ?_
          rw [this, Wd.app_snoc, E1.out]
          exact HO2.out
        case measure => simp only [intOf]; omega
      · have E1 := Wc.hid (Wd.one_flush (xs := Wd.app xs (l.take k)) hxok hk1)
        have hkb : (x.kind == 1) = false := by simpa using hk1
        clear hcs hx hts hxok hxe c3 hk1
        go_wp2
        go_roundw
        case rel =>
          refine ⟨k + 1, by go_num, by omega, hbr, ?_⟩
          have := HTS.out
          refine Wc.hid ?_
          rw [this, Wd.app_snoc, E1.out]
          exact HO.out
        case measure => simp only [intOf]; omega
    · obtain rfl : k = n := by omega
      go_wp2
      go_ret
      have := HO.out
      rw [List.take_of_length_le (by rw [HL.out]; exact Nat.le_refl _)] at this
      exact ⟨_, _, rfl, this.bs, hbr⟩

end Go.Proofs.Ytjacpmbdmbahhaa
