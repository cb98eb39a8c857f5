/-
  What dev.writeAll leaves of a device; parts of slices of steps.
-/
import Derived.Test.YtifjbmknghjohaaDwrite
import Derived.Test.YtifjbmknghjohaaDrs
namespace Wd
open Go Go.RowKit

/-- One step, laid upon a device. -/
def one (xs : List Int) (x : Io) : List Int := lay xs (x.pos.toNat * 64) x.data
/-- All steps, in order. -/
def app (xs : List Int) (l : List Io) : List Int := l.foldl one xs

theorem app_nil (xs : List Int) : app xs [] = xs := rfl
theorem app_append (xs : List Int) (l k : List Io) : app xs (l ++ k) = app (app xs l) k := by simp [app]
theorem app_snoc (xs : List Int) (l : List Io) (x : Io) : app xs (l ++ [x]) = one (app xs l) x := by simp [app]

theorem take_succ (l : List Io) (k : Nat) (hk : k < l.length) : l.take (k + 1) = l.take k ++ [l.getD k d0] := by
  rw [List.take_add_one]; simp [hk]

theorem ok_fits {m : Nat} {x : Io} (h : okIo m x = true) (hm : 0 < m) : ∃ p : Nat, x.pos = p ∧ p * 64 + x.data.length ≤ m * 64 ∧ p * 64 < m * 64 := by
  rcases rightB_iff.1 h with ⟨-, h1, h2, h3⟩ | ⟨-, h1, h2⟩
  · exact ⟨x.pos.toNat, by omega, by omega, by omega⟩
  · exact ⟨0, by omega, by omega, by omega⟩

theorem one_pos {xs : List Int} {x : Io} {p : Nat} (h : x.pos = p) : one xs x = lay xs (p * 64) x.data := by
  unfold one; rw [h]; rfl

theorem add_zero (a : Addr) : a.add 0 = a := by
  unfold Addr.add; split <;> simp_all

end Wd
namespace Go.Proofs.Ytifjbmknghjohaa
open Go.RowKit

theorem Try.size38 : (Try.prog.info? 52).map (·.size) = some 3 := by kernel_rfl

theorem map_zero (a : Option Addr) : a.map (·.add (0 * 3)) = a := by
  cases a with
  | none => rfl
  | some x => simp [Wd.add_zero]

/-- The first t steps. -/
theorem slice_to (a : Option Addr) (n cap t : Nat) (h : t ≤ n) (hc : n ≤ cap) (w : World) :
    (Instr.slice 53 (.slice a n cap) none (some (.int .i64 (t : Int))) none).run Try.prog w = .ok (.slice a t cap) w := by
  have h0 := Try.size38
  have hm := map_zero a
  cases hq : Try.prog.info? 52 with
  | none => rw [hq] at h0; cases h0
  | some i =>
    have htc : t ≤ cap := by omega
    simp [Instr.slice, run_underlying Try.underlying53, Instr.sliceBounds, run_sliceBound, sizeOf, typeInfo, hq, htc]
    exact fun _ => by simpa using hm

/-- The steps from q on, up to t. -/
theorem slice_mid (a : Option Addr) (n cap q t : Nat) (h : q ≤ t) (ht : t ≤ n) (hc : n ≤ cap) (w : World) :
    (Instr.slice 53 (.slice a n cap) (some (.int .i64 (q : Int))) (some (.int .i64 (t : Int))) none).run Try.prog w = .ok (.slice (if cap = q then a else a.map (·.add (q * 3))) (t - q) (cap - q)) w := by
  have h0 := Try.size38
  cases hq : Try.prog.info? 52 with
  | none => rw [hq] at h0; cases h0
  | some i =>
    rw [hq] at h0
    have hi : i.size = 3 := by simpa using h0
    have htc : t ≤ cap := by omega
    have hqc : q ≤ cap := by omega
    simp [Instr.slice, run_underlying Try.underlying53, Instr.sliceBounds, run_sliceBound, sizeOf, typeInfo, hq, hi, htc, h]

theorem is_to {w : World} {a : Option Addr} {n cap : Nat} {l : List Wd.Io} (h : Wd.Is w (.slice a n cap) l) (t : Nat) (ht : t ≤ n) : Wd.Is w (.slice a t cap) (l.take t) := by
  obtain ⟨a', n', cap', h1, h2, h3, h4, h5, h7⟩ := h
  cases h1
  refine ⟨a, t, cap, rfl, by simp; omega, by omega, h4, by omega, fun h0 => ?_⟩
  obtain ⟨b, off, ha, hb, hc⟩ := h7 (by omega)
  refine ⟨b, off, ha, hb, fun i hi => ?_⟩
  have e : (l.take t).getD i Wd.d0 = l.getD i Wd.d0 := by simp [hi]
  rw [e]
  exact hc i (by omega)

theorem is_part {w : World} {a : Option Addr} {n cap : Nat} {l : List Wd.Io} (h : Wd.Is w (.slice a n cap) l) (q t : Nat) (hq : q ≤ t) (ht : t ≤ n) :
    Wd.Is w (.slice (if cap = q then a else a.map (·.add (q * 3))) (t - q) (cap - q)) ((l.drop q).take (t - q)) := by
  obtain ⟨a', n', cap', h1, h2, h3, h4, h5, h7⟩ := h
  cases h1
  refine ⟨_, t - q, cap - q, rfl, by simp; omega, by omega, by omega, by omega, fun h0 => ?_⟩
  obtain ⟨b, off, rfl, hb, hc⟩ := h7 (by omega)
  rw [if_neg (by omega)]
  refine ⟨b, off + q * 3, by simp [Wc.add_none], hb, fun i hi => ?_⟩
  have e : ((l.drop q).take (t - q)).getD i Wd.d0 = l.getD (q + i) Wd.d0 := by simp [hi]
  rw [e, show off + q * 3 + i * 3 = off + (q + i) * 3 by omega]
  exact hc (q + i) (by omega)

set_option maxHeartbeats 1600000 in
theorem writeAll_any (w0 w : World) (g n cap m : Nat) (a : Option Addr) (ln lcap : Nat) (xs : List Int) (l : List Wd.Io) (hm : 0 < m) (hn : n = m * 64) (hb : Below w0.heap.size w0 w)
    (hv : Wc.Ob 5 w0.heap.size w (.slice (some ⟨g, 0, none⟩) n cap) xs) (hI : Wd.Is w0 (.slice a ln lcap) l) (hok : l.all (Wd.okIo m) = true) :
    Calls Try.prog 35 #[.slice (some ⟨g, 0, none⟩) n cap, .slice a ln lcap] w fun e w' => e = .returned (.tuple #[]) ∧ Wc.Ob 5 w0.heap.size w' (.slice (some ⟨g, 0, none⟩) n cap) (Wd.app xs l) ∧ Below w0.heap.size w0 w' := by
  obtain ⟨a', n', cap', h1, hl, hcap, hcap2, hln, hpos⟩ := hI
  cases h1
  have HP := Wc.hid hpos
  have HL := Wc.hid hl
  have HV := Wc.hid hv
  have HOK := Wc.hid hok
  have HN := Wc.hid hn
  have HM := Wc.hid hm
  clear hpos hl hv hok hn hm
  go_enter Try.func35, Try.ntmps35
  go_wp2
  go_loopw [8] (fun i wr => ∃ k : Nat, i = .int .i64 k ∧ k ≤ ln ∧ Below w0.heap.size w0 wr ∧ Hid (Wc.Ob 5 w0.heap.size wr (.slice (some ⟨g, 0, none⟩) n cap) (Wd.app xs (l.take k)))) (fun i _ => ln - (intOf i).toNat)
  case atStart => exact ⟨0, rfl, by omega, hb, by simpa [Wd.app] using HV⟩
  case round =>
    obtain ⟨k, rfl, hk, hbr, HO⟩ := hrel
    by_cases hlt : k < ln
    · obtain ⟨b, off, rfl, hblt, hcs⟩ := HP.out (by omega)
      obtain ⟨a', c', hx⟩ := hcs k hlt
      have hkl : k < l.length := by rw [HL.out]; exact hlt
      have hts := Wd.take_succ l k hkl
      have hxok := Wd.all_at HOK.out k hkl
      obtain ⟨x, hxe⟩ : ∃ x, l.getD k Wd.d0 = x := ⟨_, rfl⟩
      rw [hxe] at hx hts hxok
      obtain ⟨c0, c1, c2, c3, -⟩ := hx.keep hbr
      obtain ⟨p, hp, hp1, hp2⟩ := Wd.ok_fits hxok HM.out
      rw [hp] at c1
      have E1 := Wc.hid (Wd.one_pos (xs := Wd.app xs (l.take k)) hp)
      rw [← HN.out] at hp1 hp2
      have HTS := Wc.hid hts
      have C3 := Wc.hid c3
      have HP1 := Wc.hid hp1
      have HP2 := Wc.hid hp2
      clear hcs hx hts hxok hxe hp c3 hp1 hp2
      obtain ⟨dn, hdn⟩ : ∃ dn, x.data.length = dn := ⟨_, rfl⟩
      rw [hdn] at c2 C3
      clear hdn
      go_wp2_with (go_at_call 50; refine (write_any w0.heap.size g n cap p dn c' x.kind a' _ _ _ (HO.out.keep ((Below.refl _ _).alloc (Nat.le_refl _) _)) (C3.out.keep ((Below.refl _ _).alloc (Nat.le_refl _) _)) HP1.out HP2.out (by have := hbr.size; simp; omega)).mono ?_; rintro e w2 ⟨rfl, hO2, hb2⟩)
      go_roundw
      case rel =>
        refine ⟨k + 1, by go_num, by omega, (hbr.alloc hbr.size _).trans hb2, ?_⟩
        have := HTS.out
        refine Wc.hid ?_
        rw [this, Wd.app_snoc, E1.out]
        exact hO2
      case measure => simp only [intOf]; omega
    · obtain rfl : k = ln := by omega
      go_wp2
      go_end0
      refine ⟨rfl, ?_, hbr⟩
      have := HO.out
      rw [List.take_of_length_le (by rw [HL.out]; exact Nat.le_refl _)] at this
      exact this

end Go.Proofs.Ytifjbmknghjohaa
