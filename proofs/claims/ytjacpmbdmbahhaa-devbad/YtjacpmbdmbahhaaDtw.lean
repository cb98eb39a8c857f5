/-
  What keep.Ints, keep.Ios, keep.TwinIos and dev.Flushes return, for every input.
-/
import Derived.Test.YtjacpmbdmbahhaaDsteps
import Derived.Deep.RegionHeld3
namespace Wd
open Go Go.RowKit

abbrev In (w : World) (v : Value) (xs : List Int) : Prop := Wv.Rv (Value.int .i64) 0 w v xs

/-- The places of flushes among the first k. -/
def flN (l : List Io) : Nat → List Int
  | 0 => []
  | k + 1 => if (l.getD k d0).kind = 2 then flN l k ++ [(k : Int)] else flN l k

theorem flN_length (l : List Io) : ∀ k, (flN l k).length ≤ k
  | 0 => Nat.le_refl _
  | k + 1 => by
    have := flN_length l k
    simp only [flN]
    split
    · simp; omega
    · omega

end Wd
namespace Go.Proofs.Ytjacpmbdmbahhaa
open Go.RowKit

set_option maxHeartbeats 400000 in
theorem ints_pos (b off n cap b' off' cap' : Nat) (xs ys : List Int) (w : World) (hn : n ≤ 17592186044416) (hl : xs.length = n) (hl' : ys.length = n)
   (hc : ∀ i, i < n → w.cell? ⟨b, off + i, none⟩ = some (.int .i64 (xs.getD i 0)))
   (hc' : ∀ i, i < n → w.cell? ⟨b', off' + i, none⟩ = some (.int .i64 (ys.getD i 0))) :
    Calls Try.prog 18 #[.slice (some ⟨b, off, none⟩) n cap, .slice (some ⟨b', off', none⟩) n cap'] w fun e w' => e = .returned (.bool (xs == ys)) ∧ Below w.heap.size w w' := by
  have HL := Wc.hid hl
  have HL' := Wc.hid hl'
  clear hl hl'
  go_enter Try.func18, Try.ntmps18
  go_wp2
  go_loopw [5] (fun i wr => ∃ k : Nat, i = .int .i64 k ∧ k ≤ n ∧ Below w.heap.size w wr ∧ Hid (∀ a, wr.cell? a = w.cell? a) ∧ Hid (∀ j, j < k → xs.getD j 0 = ys.getD j 0)) (fun i _ => n - (intOf i).toNat)
  case atStart => exact ⟨0, rfl, by omega, Below.refl _ _, fun _ => rfl, fun j h => by omega⟩
  case round =>
    obtain ⟨k, rfl, hk, hb, hcc, HZ⟩ := hrel
    by_cases hlt : k < n
    · have h1 : wr.cell? ⟨b, off + k, none⟩ = some (.int .i64 (xs.getD k 0)) := by rw [hcc.out]; exact hc k hlt
      have h2 : wr.cell? ⟨b', off' + k, none⟩ = some (.int .i64 (ys.getD k 0)) := by rw [hcc.out]; exact hc' k hlt
      by_cases hz : xs.getD k 0 = ys.getD k 0
      · have hzb : (xs[k]?.getD 0 != ys[k]?.getD 0) = false := by rw [getD_get, getD_get, hz]; simp
        have HZ0 := Wc.hid hz
        clear hz
        go_wp2
        go_quiet (fail)
        go_wp2
        go_roundw
        case rel =>
          refine ⟨k + 1, by go_num, by omega, below_drewN hb _, hcc, fun j hj => ?_⟩
          by_cases hjk : j = k
          · subst hjk; exact HZ0.out
          · exact HZ.out j (by omega)
        case measure => simp [intOf]; omega
      · have hzb : (xs[k]?.getD 0 != ys[k]?.getD 0) = true := by rw [getD_get, getD_get]; simpa using hz
        have HZ0 := Wc.hid hz
        clear hz
        go_wp2
        go_quiet (fail)
        go_wp2
        go_ret
        exact ⟨ret_bool (Wc.list_ne k HZ0.out).symm, below_drewN hb _⟩
    · go_wp2
      go_ret
      exact ⟨ret_bool (Wc.list_eq (by rw [HL.out, HL'.out]) (fun j hj => HZ.out j (by rw [HL.out] at hj; omega))).symm, hb⟩

set_option maxHeartbeats 400000 in
theorem ints_nil (a a' : Option Addr) (cap cap' : Nat) (w : World) :
    Calls Try.prog 18 #[.slice a 0 cap, .slice a' 0 cap'] w fun e w' => e = .returned (.bool true) ∧ Below w.heap.size w w' := by
  go_enter Try.func18, Try.ntmps18
  go_wp2
  go_loopw [5] (fun i wr => i = .int .i64 0 ∧ Below w.heap.size w wr) (fun _ _ => 0)
  case atStart => exact ⟨rfl, Below.refl _ _⟩
  case round =>
    obtain ⟨rfl, hb⟩ := hrel
    go_wp2
    go_ret
    exact ⟨rfl, hb⟩

set_option maxHeartbeats 400000 in
theorem ints_len (a a' : Option Addr) (n n' cap cap' : Nat) (w : World) (h : ((n : Int) != (n' : Int)) = true) :
    Calls Try.prog 18 #[.slice a n cap, .slice a' n' cap'] w fun e w' => e = .returned (.bool false) ∧ Below w.heap.size w w' := by
  go_enter Try.func18, Try.ntmps18
  go_wp2
  go_ret
  exact ⟨rfl, Below.refl _ _⟩

theorem ints_any (v v' : Value) (xs ys : List Int) (w : World) (hv : Wd.In w v xs) (hv' : Wd.In w v' ys) :
    Calls Try.prog 18 #[v, v'] w fun e w' => e = .returned (.bool (xs == ys)) ∧ Below w.heap.size w w' := by
  by_cases hlen : xs.length = ys.length
  · rcases hv.open with ⟨rfl, a, cap, rfl, _⟩ | ⟨b, off, n, cap, rfl, h0, hl, _, _, hn, _, hc⟩
    · obtain rfl : ys = [] := List.eq_nil_of_length_eq_zero hlen.symm
      rcases hv'.open with ⟨_, a', cap', rfl, _⟩ | ⟨b, off, n, cap, rfl, h0, hl, _⟩
      · exact ints_nil a a' cap cap' w
      · simp at hl; omega
    · rcases hv'.open with ⟨rfl, a', cap', rfl, _⟩ | ⟨b', off', n', cap', rfl, h0', hl', _, _, _, _, hc'⟩
      · simp at hlen; subst hlen; simp at hl; omega
      · obtain rfl : n = n' := by omega
        exact ints_pos b off n cap b' off' cap' xs ys w hn hl hl' hc hc'
  · rw [Wc.list_ne_len hlen]
    obtain ⟨a, n, cap, rfl, hl, -⟩ := hv
    obtain ⟨a', n', cap', rfl, hl', -⟩ := hv'
    exact ints_len a a' n n' cap cap' w (by rw [bne_iff_ne]; omega)

set_option maxHeartbeats 1600000 in
theorem flushes_any (a : Option Addr) (n cap : Nat) (l : List Wd.Io) (w : World) (hI : Wd.Is w (.slice a n cap) l) :
    Calls Try.prog 15 #[.slice a n cap] w fun e w' => ∃ x, e = .returned x ∧ Wd.In w' x (Wd.flN l l.length) ∧ Below w.heap.size w w' := by
  obtain ⟨i0, hi, hz0, hz1, hz2⟩ := info_parts Try.infoI64
  obtain ⟨a', n', cap', h1, hl, hcap, hcap2, hln, hpos⟩ := hI
  cases h1
  have HP := Wc.hid hpos
  have HL := Wc.hid hl
  clear hpos hl
  go_enter Try.func15, Try.ntmps15
  go_wp2
  go_loopw [3, 8] (fun v i wr => ∃ k : Nat, i = .int .i64 k ∧ k ≤ n ∧ Below w.heap.size w wr ∧ (∃ va vn vc, v = .slice va vn vc) ∧ Hid (Wv.Ov (Value.int .i64) 3 w.heap.size wr v (Wd.flN l k))) (fun _ i _ => n - (intOf i).toNat)
  case atStart => exact ⟨0, rfl, by omega, Below.refl _ _, ⟨_, _, _, rfl⟩, Wv.Ov.nil _ _ _⟩
  case round =>
    obtain ⟨k, rfl, hk, hbr, ⟨va, vn, vc, rfl⟩, HO⟩ := hrel
    by_cases hlt : k < n
    · obtain ⟨b, off, rfl, hblt, hcs⟩ := HP.out (by omega)
      obtain ⟨a', c', hx⟩ := hcs k hlt
      have hfl : Wd.flN l (k + 1) = if (l.getD k Wd.d0).kind = 2 then Wd.flN l k ++ [(k : Int)] else Wd.flN l k := rfl
      obtain ⟨x, hxe⟩ : ∃ x, l.getD k Wd.d0 = x := ⟨_, rfl⟩
      rw [hxe] at hx hfl
      obtain ⟨c0, c1, c2, -, -⟩ := hx.keep hbr
      clear hcs hx hxe
      by_cases hk2 : x.kind = 2
      · rw [if_pos hk2] at hfl
        have HF := Wc.hid hfl
        rw [hk2] at c0
        clear hfl hk2
        have hb2 : Below wr.heap.size wr ((wr.alloc (.cells #[.int .i64 2, .int .i64 x.pos, .slice a' x.data.length c'] 38)).alloc (.cells #[.int .i64 (k : Int)] 3)) := ((Below.refl _ _).alloc (Nat.le_refl _) _).alloc (by simp) _
        obtain ⟨v', w', hrun, hO', hb'⟩ := Wv.append_run (P := Try.prog) (ty := 35) (d := (0 : Int)) (ys := [(k : Int)]) Try.underlying35 hi hz0 hz1 hz2 rfl (by omega) (fun _ => rfl) (HO.out.keep hb2) (Wv.Rv.lit _ #[.int .i64 (k : Int)] 3 1 [(k : Int)] rfl (by omega) rfl) (.inr ⟨_, _, _, rfl⟩) (by have := Wd.flN_length l k; simp; omega) (by have := hbr.size; simp; omega)
        rw [World.size_alloc] at hrun
        have HO' := Wc.hid hO'
        have HB' := Wc.hid ((hbr.trans (hb2.mono hbr.size)).trans hb')
        clear hO' hb' hb2
        rcases HO'.out.shaped with rfl | ⟨sa, sn, sc, rfl⟩
        all_goals
          go_wp2_with (at_builtin; refine Wv.wp_append hrun rfl rfl rfl rfl ?_)
          go_roundw
          case rel =>
            refine ⟨k + 1, by go_num, by omega, HB'.out, ⟨_, _, _, rfl⟩, Wc.hid ?_⟩
            rw [HF.out]; exact HO'.out
          case measure => simp only [intOf]; omega
      · rw [if_neg hk2] at hfl
        have HF := Wc.hid hfl
        have hk2b : (x.kind == 2) = false := by simpa using hk2
        clear hfl hk2
        go_wp2
        go_roundw
        case rel =>
          refine ⟨k + 1, by go_num, by omega, hbr.alloc hbr.size _, ⟨_, _, _, rfl⟩, Wc.hid ?_⟩
          rw [HF.out]; exact HO.out.keep ((Below.refl _ _).alloc (Nat.le_refl _) _)
        case measure => simp only [intOf]; omega
    · obtain rfl : k = n := by omega
      go_wp2
      go_ret
      rw [HL.out]
      exact ⟨_, rfl, HO.out.rv, hbr⟩

end Go.Proofs.Ytjacpmbdmbahhaa
