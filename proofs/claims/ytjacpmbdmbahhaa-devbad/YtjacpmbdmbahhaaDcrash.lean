/-
  What dev.Crash returns, for every input.
-/
import Derived.Test.YtjacpmbdmbahhaaDapp
import Derived.Test.YtjacpmbdmbahhaaDfl
namespace Wd
open Go Go.RowKit

/-- Of the steps from s on, the first k: those that are kept. -/
def crA (keep : List Bool) (l : List Io) (s : Nat) (xs : List Int) : Nat → List Int
  | 0 => xs
  | k + 1 => if keep.getD k false = true then one (crA keep l s xs k) (l.getD (s + k) d0) else crA keep l s xs k

/-- What a crash leaves. -/
def crashL (xs : List Int) (l : List Io) (cut : Nat) (keep : List Bool) : List Int :=
  crA keep l (safeN l cut) (app xs (l.take (safeN l cut))) (cut - safeN l cut)

def crE (n : Nat) (l : List Io) (cut : Int) : Int := if stepsE n l = 0 then (if 0 ≤ cut ∧ cut ≤ (l.length : Int) then 0 else 1) else stepsE n l
def crR (xs : List Int) (l : List Io) (cut : Int) (keep : List Bool) : List Int := if crE xs.length l cut = 0 then crashL xs l cut.toNat keep else []

theorem safe_take (l : List Io) (cut : Nat) : ∀ k, k ≤ cut → safeN (l.take cut) k = safeN l k
  | 0, _ => rfl
  | k + 1, h => by
    have e : (l.take cut).getD k d0 = l.getD k d0 := by
      have : k < cut := by omega
      simp [this]
    simp only [safeN]
    rw [e, safe_take l cut k (by omega)]

theorem all_take {l : List Io} {f : Io → Bool} (h : l.all f = true) (t : Nat) : (l.take t).all f = true := by
  rw [List.all_eq_true] at h ⊢
  exact fun x hx => h x (List.mem_of_mem_take hx)

theorem mid_getD (l : List Io) (s t k : Nat) (h : k < t - s) : ((l.drop s).take (t - s)).getD k d0 = l.getD (s + k) d0 := by simp [h]

end Wd
namespace Go.Proofs.Ytjacpmbdmbahhaa
open Go.RowKit

/-- A slice of bools. -/
abbrev Kp (w : World) (v : Value) (ks : List Bool) : Prop := Wv.Rv Value.bool false w v ks

set_option maxRecDepth 100000 in
set_option maxHeartbeats 3200000 in
theorem crash_ok (ai : Option Addr) (ni ci : Nat) (a : Option Addr) (n cap : Nat) (cut : Nat) (ka : Option Addr) (kn kc : Nat) (xs : List Int) (l : List Wd.Io) (ks : List Bool) (w : World) (hv : Wc.Bs w (.slice ai ni ci) xs) (hI : Wd.Is w (.slice a n cap) l) (hK : Kp w (.slice ka kn kc) ks)
    (hz : Wd.stepsE ni l = 0) (hcut : cut ≤ n) :
    Calls Try.prog 14 #[.slice ai ni ci, .slice a n cap, .int .i64 cut, .slice ka kn kc] w fun e w' => ∃ g, e = .returned (.tuple #[.slice (some ⟨g, 0, none⟩) ni ni, .int .i64 0]) ∧ Wc.Bs w' (.slice (some ⟨g, 0, none⟩) ni ni) (Wd.crashL xs l cut ks) ∧ Below w.heap.size w w' := by
  have hni : ni ≤ 140737488355328 := by obtain ⟨_, _, _, h1, _, _, _, h5, _⟩ := hv; cases h1; exact h5
  have hst := Wd.stepsE_zero hz
  have hd := Wd.devB_iff.1 hst.1
  obtain ⟨hcap, hcap2, hnn⟩ := Wd.is_cap hI
  have hkn : kn ≤ 17592186044416 := by obtain ⟨_, _, _, h1, _, _, _, h5, _⟩ := hK; cases h1; exact h5
  have hkl := Wv.rv_len hK
  obtain ⟨s, hs⟩ : ∃ s, Wd.safeN l cut = s := ⟨_, rfl⟩
  have hsc : s ≤ cut := by rw [← hs]; exact Wd.safe_le l cut
  have HL := Wc.hid (Wd.is_len hI)
  have HI2 := Wc.hid (is_to hI cut hcut)
  have HI3 := Wc.hid (is_to hI s (by omega))
  have HI4 := Wc.hid (is_part hI s cut hsc hcut)
  have hs1 := slice_to a n cap cut hcut hcap
  have hs2 := slice_to a n cap s (by omega) hcap
  have hs3 := slice_mid a n cap s cut hsc hcut hcap
  have HV := Wc.hid hv
  have HI := Wc.hid hI
  have HK := Wc.hid hK
  have HOK := Wc.hid hst.2.2
  have HD := Wc.hid hd
  have HS := Wc.hid hs
  have HKL := Wc.hid hkl
  have g1 : decide ((n : Int) < (cut : Int)) = false := by simp; omega
  have hes : ((Wd.safeN (l.take cut) (l.take cut).length : Nat) : Int) = (s : Int) := by
    have : (l.take cut).length = cut := by have := HL.out; simp; omega
    rw [this, Wd.safe_take l cut cut (Nat.le_refl _), hs]
  generalize (if cap = s then a else Option.map (fun x => x.add (s * 3)) a) = ap at hs3 HI4
  obtain ⟨t, ht⟩ : ∃ t, cut - s = t := ⟨_, rfl⟩
  rw [ht] at hs3 HI4
  have HT := Wc.hid ht
  have htb : t ≤ 1099511627776 := by omega
  clear ht
  clear hv hI hK hst hd hs hkl
  go_enter Try.func14, Try.ntmps14
  go_wp2_with fail
  refine (steps_any _ _ _ _ _ _ l _ hni HI.out).mono ?_
  rintro e w1 ⟨rfl, hb1⟩
  rw [hz]
  clear hz
  go_wp2_with fail
  refine (copied_any _ _ _ xs _ (HV.out.keep hb1)).mono ?_
  rintro e w2 ⟨g, rfl, hg, hO, hb2⟩
  have HO := Wc.hid hO
  have HB2 := Wc.hid hb2
  have HB1 := Wc.hid hb1
  clear hO hb2 hb1
  go_wp2_with fail
  refine (flushed_any _ _ _ (l.take cut) _ ((HI2.out.keep HB1.out).keep HB2.out)).mono ?_
  rintro e w3 ⟨rfl, hb3⟩
  rw [hes]
  have HB3 := Wc.hid (HB2.out.trans (hb3.mono HB2.out.size))
  have HO3 := Wc.hid (HO.out.keep hb3)
  clear hb3 HO HB2 hs1 hes
  go_wp2_with fail
  refine (writeAll_any w1 w3 g ni ni (ni / 64) _ _ _ xs (l.take s) (by have := HD.out; omega) (by have := HD.out; omega) HB3.out HO3.out (HI3.out.keep HB1.out) (Wd.all_take HOK.out s)).mono ?_
  rintro e w4 ⟨rfl, hO4, hb4⟩
  have HO4 := Wc.hid hO4
  have HB4 := Wc.hid hb4
  clear hO4 hb4 HO3 HB3
  go_wp2_with fail
  clear hs2 hs3
  go_loopw [45] (fun i wr => ∃ k : Nat, i = .int .i64 k ∧ k ≤ t ∧ Below w1.heap.size w1 wr ∧ Hid (Wc.Ob 5 w1.heap.size wr (.slice (some ⟨g, 0, none⟩) ni ni) (Wd.crA ks l s (Wd.app xs (l.take s)) k))) (fun i _ => t - (intOf i).toNat)
  case atStart => exact ⟨0, rfl, by omega, HB4.out, HO4⟩
  case round =>
    obtain ⟨k, rfl, hk, hbr, HO⟩ := hrel
    by_cases hlt : k < t
    · obtain ⟨a4, n4, c4, h1, hl4, -, -, -, hpos⟩ := HI4.out
      cases h1
      obtain ⟨b, off, rfl, hblt, hcs⟩ := hpos (by omega)
      obtain ⟨a', c', hx⟩ := hcs k hlt
      have hmid := Wd.mid_getD l s cut k (by rw [HT.out]; exact hlt)
      rw [HT.out] at hmid
      rw [hmid] at hx
      have hxok := Wd.all_at HOK.out (s + k) (by have h1 := HL.out; have h2 := HT.out; omega)
      have hcr : ∀ y, Wd.crA ks l s y (k + 1) = if ks.getD k false = true then Wd.one (Wd.crA ks l s y k) (l.getD (s + k) Wd.d0) else Wd.crA ks l s y k := fun _ => rfl
      obtain ⟨x, hxe⟩ : ∃ x, l.getD (s + k) Wd.d0 = x := ⟨_, rfl⟩
      rw [hxe] at hx hxok
      simp only [hxe] at hcr
      obtain ⟨c0, c1, c2, c3, -⟩ := (hx.keep HB1.out).keep hbr
      clear hpos hcs hx hmid hxe hl4
      by_cases hkk : k < kn
      · have g2 : decide ((k : Int) < (kn : Int)) = true := by simp; omega
        obtain ⟨a5, n5, c5, h1, hl5, -, -, -, hpos⟩ := HK.out
        cases h1
        obtain ⟨kb, ko, rfl, hkb, hkc⟩ := hpos (by omega)
        have c4 : wr.cell? ⟨kb, ko + k, none⟩ = some (.bool (ks.getD k false)) := (hbr.cell (p := ⟨kb, ko + k, none⟩) (Nat.lt_of_lt_of_le hkb HB1.out.size)).trans ((HB1.out.cell (p := ⟨kb, ko + k, none⟩) hkb).trans (hkc k hkk))
        replace c4 : ∀ o, (wr.alloc o).cell? ⟨kb, ko + k, none⟩ = some (.bool (ks.getD k false)) := fun o => (((Below.refl wr.heap.size wr).alloc (Nat.le_refl _) o).cell (p := ⟨kb, ko + k, none⟩) (Wc.cell_lt c4)).trans c4
        clear hpos hkc hl5
        cases hbb : ks.getD k false
        · rw [hbb] at c4 hcr
          have HCR := Wc.hid hcr
          clear hcr hbb hxok c3
          go_wp2_with fail
          go_roundw
          case rel =>
            refine ⟨k + 1, by go_num, by omega, hbr.alloc hbr.size _, Wc.hid ?_⟩
            rw [HCR.out]
            exact HO.out.keep ((Below.refl _ _).alloc (Nat.le_refl _) _)
          case measure => simp only [intOf]; omega
        · rw [hbb] at c4 hcr
          obtain ⟨p, hp, hp1, hp2⟩ := Wd.ok_fits hxok (by have := HD.out; omega)
          have hnn : ni / 64 * 64 = ni := by have := HD.out; omega
          rw [hnn] at hp1 hp2
          rw [hp] at c1
          simp only [Wd.one_pos hp] at hcr
          have HCR := Wc.hid hcr
          have C3 := Wc.hid c3
          have HP1 := Wc.hid hp1
          have HP2 := Wc.hid hp2
          clear hcr hbb hxok c3 hp hp1 hp2 hnn
          obtain ⟨dn, hdn⟩ : ∃ dn, x.data.length = dn := ⟨_, rfl⟩
          rw [hdn] at c2 C3
          clear hdn
          go_wp2_with (go_at_call 30; refine (write_any w1.heap.size g ni ni p dn c' x.kind a' _ _ _ (HO.out.keep ((Below.refl _ _).alloc (Nat.le_refl _) _)) (C3.out.keep ((Below.refl _ _).alloc (Nat.le_refl _) _)) HP1.out HP2.out (by have := hbr.size; simp; omega)).mono ?_; rintro e w5 ⟨rfl, hO5, hb5⟩)
          go_roundw
          case rel =>
            refine ⟨k + 1, by go_num, by omega, (hbr.alloc hbr.size _).trans hb5, Wc.hid ?_⟩
            rw [HCR.out]
            exact hO5
          case measure => simp only [intOf]; omega
      · have g2 : decide ((k : Int) < (kn : Int)) = false := by simp; omega
        have hbb : ks.getD k false = false := by have := HKL.out; rw [List.getD_eq_getElem?_getD, List.getElem?_eq_none (by omega)]; rfl
        rw [hbb] at hcr
        have HCR := Wc.hid hcr
        clear hcr hbb hxok c3
        go_wp2_with fail
        go_roundw
        case rel =>
          refine ⟨k + 1, by go_num, by omega, hbr.alloc hbr.size _, Wc.hid ?_⟩
          rw [HCR.out]
          exact HO.out.keep ((Below.refl _ _).alloc (Nat.le_refl _) _)
        case measure => simp only [intOf]; omega
    · obtain rfl : k = t := by omega
      go_wp2_with fail
      go_ret2
      have e : Wd.crashL xs l cut ks = Wd.crA ks l s (Wd.app xs (l.take s)) k := by
        unfold Wd.crashL
        rw [HS.out, HT.out]
      rw [e]
      exact ⟨_, rfl, HO.out.bs, Wc.step HB1.out (Nat.le_refl _) hbr⟩

end Go.Proofs.Ytjacpmbdmbahhaa
