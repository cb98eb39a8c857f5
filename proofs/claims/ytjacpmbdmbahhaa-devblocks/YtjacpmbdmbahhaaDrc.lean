/-
  What the page's Crash returns, for every right device and right steps.
-/
import Derived.Test.YtjacpmbdmbahhaaDcrash
import Derived.Test.YtjacpmbdmbahhaaDra
namespace Wd
open Go Go.RowKit

theorem safe_kind (l : List Io) : ∀ cut j, safeN l cut ≤ j → j < cut → ¬ (l.getD j d0).kind = 2
  | 0, _, _, h => by omega
  | cut + 1, j, h, hj => by
    simp only [safeN] at h
    by_cases hk : (l.getD cut d0).kind = 2
    · rw [if_pos hk] at h; omega
    · rw [if_neg hk] at h
      by_cases hjc : j = cut
      · subst hjc; exact hk
      · exact safe_kind l cut j h (by omega)

theorem ok_write {m : Int} {x : Io} (h : okIo m x = true) (h2 : ¬ x.kind = 2) : x.kind = 1 := by
  rcases rightB_iff.1 h with ⟨h1, _⟩ | ⟨h1, _⟩
  · exact h1
  · exact absurd h1 h2

/-- The page's device behind k steps. -/
def refO (xs : List Int) (l : List Io) (ks : List Bool) (s k : Nat) : List Int :=
  if k ≤ s then app xs (l.take k) else crA ks l s (app xs (l.take s)) (k - s)

theorem refO_low {xs : List Int} {l : List Io} {ks : List Bool} {s k : Nat} (hk : k < s) (hl : k < l.length) : refO xs l ks s (k + 1) = one (refO xs l ks s k) (l.getD k d0) := by
  unfold refO
  rw [if_pos (by omega), if_pos (by omega), take_succ l k hl, app_snoc]

theorem refO_high {xs : List Int} {l : List Io} {ks : List Bool} {s k : Nat} (hk : s ≤ k) : refO xs l ks s (k + 1) = if ks.getD (k - s) false = true then one (refO xs l ks s k) (l.getD k d0) else refO xs l ks s k := by
  have e : refO xs l ks s k = crA ks l s (app xs (l.take s)) (k - s) := by
    unfold refO
    by_cases h : k ≤ s
    · obtain rfl : k = s := by omega
      rw [if_pos (Nat.le_refl _), Nat.sub_self]; rfl
    · rw [if_neg h]
  have e2 : s + (k - s) = k := by omega
  rw [e]
  unfold refO
  rw [if_neg (by omega), show k + 1 - s = k - s + 1 by omega]
  simp only [crA, e2]

theorem refO_end {xs : List Int} {l : List Io} {ks : List Bool} {cut : Nat} : refO xs l ks (safeN l cut) cut = crashL xs l cut ks := by
  unfold refO crashL
  by_cases h : cut ≤ safeN l cut
  · have e : safeN l cut = cut := by have := safe_le l cut; omega
    rw [if_pos h, e, Nat.sub_self]; rfl
  · rw [if_neg h]

end Wd
namespace Go.Proofs.Ytjacpmbdmbahhaa
open Go.RowKit

set_option maxRecDepth 100000 in
set_option maxHeartbeats 3200000 in
theorem refCrash_any (ai : Option Addr) (ni ci m : Nat) (a : Option Addr) (n cap cut : Nat) (ka : Option Addr) (kn kc : Nat) (xs : List Int) (l : List Wd.Io) (ks : List Bool) (w : World) (hv : Wc.Bs w (.slice ai ni ci) xs) (hsh : Wc.Shaped (.slice ai ni ci)) (hI : Wd.Is w (.slice a n cap) l) (hK : Kp w (.slice ka kn kc) ks)
    (hm : 0 < m) (hn : ni = m * 64) (hok : l.all (Wd.okIo m) = true) (hcut : cut ≤ n) :
    Calls Try.prog 25 #[.slice ai ni ci, .slice a n cap, .int .i64 cut, .slice ka kn kc] w fun e w' => ∃ ax cx, e = .returned (.slice ax ni cx) ∧ Wc.Bs w' (.slice ax ni cx) (Wd.crashL xs l cut ks) ∧ Below w.heap.size w w' := by
  have hni : ni ≤ 140737488355328 := by obtain ⟨_, _, _, h1, _, _, _, h5, _⟩ := hv; cases h1; exact h5
  have hkn : kn ≤ 17592186044416 := by obtain ⟨_, _, _, h1, _, _, _, h5, _⟩ := hK; cases h1; exact h5
  have hkl := Wv.rv_len hK
  have hxl := Wc.bs_len hv
  obtain ⟨i0, hi, hz0, hz1, hz2⟩ := info_parts Try.infoU8
  obtain ⟨v', w1, hrun, hO, hb⟩ := Wc.append_run (P := Try.prog) (ty := 22) Try.underlying22 hi hz0 hz1 hz2 (Wc.Ob.nil 5 w.heap.size w) hv hsh (by simpa [hxl] using hni) (Nat.le_refl _)
  rw [List.nil_append] at hO
  obtain ⟨g, gc, rfl, hg⟩ := Wd.ob_block hO (by omega)
  rw [hxl] at hrun hO
  have hgc := Wc.bs_cap hO.bs
  obtain ⟨a', n', cap', h1, hl, hcap, hcap2, hln, hpos⟩ := hI
  cases h1
  have HO0 := Wc.hid hO
  have HB0 := Wc.hid hb
  have HP := Wc.hid hpos
  have HL := Wc.hid hl
  have HOK := Wc.hid hok
  have HN := Wc.hid hn
  have HM := Wc.hid hm
  have HK := Wc.hid hK
  have HKL := Wc.hid hkl
  obtain ⟨s, hs⟩ : ∃ s, Wd.safeN l cut = s := ⟨_, rfl⟩
  have hsc : s ≤ cut := by rw [← hs]; exact Wd.safe_le l cut
  have HS := Wc.hid hs
  clear hO hb hpos hl hok hm hv hsh hxl hn hK hkl hs
  go_enter Try.func25, Try.ntmps25
  go_wp2_with (at_builtin; refine Wc.wp_append hrun rfl rfl rfl rfl ?_)
  clear hrun hz0 hz1 hz2 hi
  go_loopw [10, 11] (fun p i wr => ∃ k : Nat, i = .int .i64 k ∧ k ≤ cut ∧ w1 = wr ∧ p = .int .i64 (((Wd.safeN l k : Nat) : Int) - 1)) (fun _ i _ => cut - (intOf i).toNat)
  case atStart => exact ⟨0, rfl, by omega, rfl, by simp [Wd.safeN]⟩
  case round =>
    obtain ⟨k, rfl, hk, rfl, rfl⟩ := hrel
    by_cases hlt : k < cut
    · obtain ⟨b, off, rfl, hblt, hcs⟩ := HP.out (by omega)
      obtain ⟨a', c', hx⟩ := hcs k (by omega)
      have hsf : Wd.safeN l (k + 1) = if (l.getD k Wd.d0).kind = 2 then k + 1 else Wd.safeN l k := rfl
      obtain ⟨x, hxe⟩ : ∃ x, l.getD k Wd.d0 = x := ⟨_, rfl⟩
      rw [hxe] at hx hsf
      obtain ⟨c0, -, -, -, -⟩ := hx.keep HB0.out
      clear hcs hx hxe
      have hkn' : k < n := by omega
      by_cases hk2 : x.kind = 2
      · rw [if_pos hk2] at hsf
        rw [hk2] at c0
        have HSF := Wc.hid hsf
        clear hsf hk2
        go_wp2
        go_roundw
        case rel => exact ⟨k + 1, by go_num, by omega, (by trivial), by rw [HSF.out]; simp⟩
        case measure => simp only [intOf]; omega
      · rw [if_neg hk2] at hsf
        have hkb : (x.kind == 2) = false := by simpa using hk2
        have HSF := Wc.hid hsf
        clear hsf hk2
        go_wp2
        go_roundw
        case rel => exact ⟨k + 1, by go_num, by omega, (by trivial), by rw [HSF.out]⟩
        case measure => simp only [intOf]; omega
    · obtain rfl : k = cut := by omega
      go_wp2
      rw [HS.out]
      obtain ⟨L, hL⟩ : ∃ L : Int, (s : Int) - 1 = L := ⟨_, rfl⟩
      rw [hL]
      have HLL := Wc.hid hL
      clear hL
      go_loopw [12, 13] (fun p i wr => ∃ j : Nat, i = .int .i64 j ∧ j ≤ k ∧ p = .int .i64 ((j - s : Nat) : Int) ∧ Below w.heap.size w wr ∧ Hid (Wc.Ob 5 w.heap.size wr (.slice (some ⟨g, 0, none⟩) ni gc) (Wd.refO xs l ks s j))) (fun _ i _ => k - (intOf i).toNat)
      case atStart => exact ⟨0, rfl, by omega, by simp, HB0.out, by simpa [Wd.refO, Wd.app] using HO0⟩
      case round =>
        obtain ⟨j, rfl, hj, rfl, hbr, HO⟩ := hrel
        by_cases hjk : j < k
        · obtain ⟨b, off, rfl, hblt, hcs⟩ := HP.out (by omega)
          obtain ⟨a', c', hx⟩ := hcs j (by omega)
          have hxok := Wd.all_at HOK.out j (by rw [HL.out]; omega)
          have hjn : j < n := by omega
          have hbrs := hbr.size
          by_cases hjs : j < s
          · have hrf := Wd.refO_low (xs := xs) (ks := ks) hjs (by rw [HL.out]; exact hjn : j < l.length)
            obtain ⟨x, hxe⟩ : ∃ x, l.getD j Wd.d0 = x := ⟨_, rfl⟩
            rw [hxe] at hx hxok hrf
            obtain ⟨c0, c1, c2, c3, -⟩ := hx.keep hbr
            have HRF := Wc.hid hrf
            have g1 : decide (L < (j : Int)) = false := by have := HLL.out; simp; omega
            have hjz : j - s = 0 := by omega
            have hjz' : j + 1 - s = 0 := by omega
            rw [hjz]
            have HJZ := Wc.hid hjz'
            clear hcs hx hxe hrf hjz hjz'
            by_cases hk1 : x.kind = 1
            · obtain ⟨p, hp, hp1, hp2⟩ := Wd.ok_fits hxok HM.out
              rw [hp] at c1
              rw [hk1] at c0
              have E1 := Wc.hid (Wd.one_pos (xs := Wd.refO xs l ks s j) hp)
              rw [← HN.out] at hp1 hp2
              have C3 := Wc.hid c3
              have HP1 := Wc.hid hp1
              have k1 : p * 64 ≤ gc := by omega
              have k2 : ¬ gc = p * 64 := by omega
              have k3 : p * 64 ≤ ni := by omega
              have k7 : IntKind.i64.wrap ((p : Int) * 64) = ((p * 64 : Nat) : Int) := by rw [IntKind.wrap_i64]; omega
              have hne : ¬ b = g := by omega
              obtain ⟨q, hq⟩ : ∃ q, p * 64 = q := ⟨_, rfl⟩
              rw [hq] at k1 k2 k3 k7 HP1 E1
              have hsl := slice_from (some ⟨g, 0, none⟩) ni gc q k3 k2
              have HBR := Wc.hid hbr
              have hki : ((j : Int) < (n : Int)) := by omega
              clear hxok hp c3 hp1 hp2 hk1 hq hbr
              obtain ⟨dn, hdn⟩ : ∃ dn, x.data.length = dn := ⟨_, rfl⟩
              rw [hdn] at c2 C3
              clear hdn
              go_wp2
              go_region_held3 (fun w' => w'.cell? ⟨b, off + j * 3 + 1, none⟩ = some (.int .i64 p) ∧ w'.cell? ⟨b, off + j * 3 + 2, none⟩ = some (.slice a' dn c')) (go_keep) (first | (refine step_copy_ob w.heap.size rfl rfl rfl rfl (by exact HO.out) (by exact C3.out) HP1.out ?_; intro w2 hO2 hb2 hq2; have k5 := hq2 ⟨b, off + j * 3 + 1, none⟩ hne; have k6 := hq2 ⟨b, off + j * 3 + 2, none⟩ hne) | fail)
              have HB := Wc.hid (HBR.out.drew.trans hb2)
              have HO2 := Wc.hid hO2
              clear hb2 hO2 hq2 k5 k6 hsl c1 c2
              go_wp2
              go_roundw
              case rel =>
                refine ⟨j + 1, by go_num, by omega, (by rw [HJZ.out]), HB.out, ?_⟩
                refine Wc.hid ?_
                rw [HRF.out, E1.out]
                exact HO2.out
              case measure => simp only [intOf]; omega
            · have E1 := Wc.hid (Wd.one_flush (xs := Wd.refO xs l ks s j) hxok hk1)
              have hkb : (x.kind != 1) = true := by simpa using hk1
              clear hxok c3 hk1
              go_wp2
              go_roundw
              case rel =>
                refine ⟨j + 1, by go_num, by omega, (by rw [HJZ.out]), hbr, ?_⟩
                refine Wc.hid ?_
                rw [HRF.out, E1.out]
                exact HO.out
              case measure => simp only [intOf]; omega
          · have hrf := Wd.refO_high (xs := xs) (l := l) (ks := ks) (show s ≤ j by omega)
            have hk2 := Wd.safe_kind l k j (by rw [HS.out]; omega) hjk
            obtain ⟨x, hxe⟩ : ∃ x, l.getD j Wd.d0 = x := ⟨_, rfl⟩
            rw [hxe] at hx hxok hrf hk2
            have hk1 := Wd.ok_write hxok hk2
            obtain ⟨c0, c1, c2, c3, -⟩ := hx.keep hbr
            have g1 : decide (L < (j : Int)) = true := by have := HLL.out; simp; omega
            obtain ⟨t, ht⟩ : ∃ t, j - s = t := ⟨_, rfl⟩
            rw [ht] at hrf ⊢
            have HJZ := Wc.hid (show j + 1 - s = t + 1 by omega)
            have htb : t ≤ 1099511627776 := by omega
            clear hcs hx hxe hk2 ht
            by_cases htk : t < kn
            · have g2 : decide ((kn : Int) < (t : Int) + 1) = false := by simp; omega
              obtain ⟨a5, n5, c5, h1, hl5, -, -, -, hpos⟩ := HK.out
              cases h1
              obtain ⟨kb, ko, rfl, hkb, hkc⟩ := hpos (by omega)
              have c4 : wr.cell? ⟨kb, ko + t, none⟩ = some (.bool (ks.getD t false)) := (hbr.cell (p := ⟨kb, ko + t, none⟩) hkb).trans (hkc t htk)
              clear hpos hkc hl5
              cases hbb : ks.getD t false
              · rw [hbb] at c4 hrf
                have HRF := Wc.hid hrf
                rw [hk1] at c0
                clear hrf hbb hxok c3 hk1
                go_wp2
                go_roundw
                case rel =>
                  refine ⟨j + 1, by go_num, by omega, (by rw [HJZ.out]; simp), hbr, ?_⟩
                  refine Wc.hid ?_
                  rw [HRF.out]
                  exact HO.out
                case measure => simp only [intOf]; omega
              · rw [hbb] at c4 hrf
                have HRF := Wc.hid (hrf.trans (if_pos rfl))
                clear hrf hbb
                obtain ⟨p, hp, hp1, hp2⟩ := Wd.ok_fits hxok HM.out
                rw [hp] at c1
                rw [hk1] at c0
                have E1 := Wc.hid (Wd.one_pos (xs := Wd.refO xs l ks s j) hp)
                rw [← HN.out] at hp1 hp2
                have C3 := Wc.hid c3
                have HP1 := Wc.hid hp1
                have k1 : p * 64 ≤ gc := by omega
                have k2 : ¬ gc = p * 64 := by omega
                have k3 : p * 64 ≤ ni := by omega
                have k7 : IntKind.i64.wrap ((p : Int) * 64) = ((p * 64 : Nat) : Int) := by rw [IntKind.wrap_i64]; omega
                have hne : ¬ b = g := by omega
                obtain ⟨q, hq⟩ : ∃ q, p * 64 = q := ⟨_, rfl⟩
                rw [hq] at k1 k2 k3 k7 HP1 E1
                have hsl := slice_from (some ⟨g, 0, none⟩) ni gc q k3 k2
                have HBR := Wc.hid hbr
                have hki : ((j : Int) < (n : Int)) := by omega
                clear hxok hp c3 hp1 hp2 hk1 hq hbr
                obtain ⟨dn, hdn⟩ : ∃ dn, x.data.length = dn := ⟨_, rfl⟩
                rw [hdn] at c2 C3
                clear hdn
                go_wp2
                go_region_held3 (fun w' => w'.cell? ⟨b, off + j * 3 + 1, none⟩ = some (.int .i64 p) ∧ w'.cell? ⟨b, off + j * 3 + 2, none⟩ = some (.slice a' dn c')) (go_keep) (first | (refine step_copy_ob w.heap.size rfl rfl rfl rfl (by exact HO.out) (by exact C3.out) HP1.out ?_; intro w2 hO2 hb2 hq2; have k5 := hq2 ⟨b, off + j * 3 + 1, none⟩ hne; have k6 := hq2 ⟨b, off + j * 3 + 2, none⟩ hne) | fail)
                have HB := Wc.hid (HBR.out.drew.trans hb2)
                have HO2 := Wc.hid hO2
                clear hb2 hO2 hq2 k5 k6 hsl c1 c2
                go_wp2
                go_roundw
                case rel =>
                  refine ⟨j + 1, by go_num, by omega, (by rw [HJZ.out]; simp), HB.out, ?_⟩
                  refine Wc.hid ?_
                  rw [HRF.out, E1.out]
                  exact HO2.out
                case measure => simp only [intOf]; omega
            · have g2 : decide ((kn : Int) < (t : Int) + 1) = true := by simp; omega
              have hbb : ks.getD t false = false := by have := HKL.out; rw [List.getD_eq_getElem?_getD, List.getElem?_eq_none (by omega)]; rfl
              rw [hbb] at hrf
              have HRF := Wc.hid hrf
              rw [hk1] at c0
              clear hrf hbb hxok c3 hk1
              go_wp2
              go_roundw
              case rel =>
                refine ⟨j + 1, by go_num, by omega, (by rw [HJZ.out]; simp), hbr, ?_⟩
                refine Wc.hid ?_
                rw [HRF.out]
                exact HO.out
              case measure => simp only [intOf]; omega
        · obtain rfl : j = k := by omega
          go_wp2
          go_ret
          have := HO.out
          rw [← HS.out, Wd.refO_end] at this
          exact ⟨_, _, rfl, this.bs, hbr⟩

end Go.Proofs.Ytjacpmbdmbahhaa
