/-
  The walk of the law GaugeLeast: for every slice of float64 and every int it returns true and turns nothing that was there.
-/
import Derived.Test.YtdebkkojeemlbaaGwake
import Derived.Deep.QuietTactic
import Derived.BigQuiet
import Derived.Deep.RegionHeld3
namespace Wf

theorem any_take (xs : List Nat) (f : Nat → Bool) (k : Nat) (h : k < xs.length) : (xs.take (k + 1)).any f = ((xs.take k).any f || f (xs.getD k 0)) := by
  rw [take_succ xs k h, List.any_append]; simp

theorem met_all {xs : List Nat} {r : Nat} (h : IsLeast xs r) (h0 : 0 < xs.length) : (xs.any fun z => sameB z r) = true := by
  obtain ⟨_, h⟩ := h
  rw [List.any_eq_true]
  rcases h with ⟨a, b⟩ | ⟨a, b, c⟩
  · have hm : xs[0] ∈ xs := List.getElem_mem h0
    exact ⟨xs[0], hm, sameB_nan (b _ hm) a⟩
  · exact ⟨r, b, sameB_refl r⟩

theorem any_all {xs : List Nat} {r : Nat} (h : IsLeast xs r) : (xs.any fun z => !nan z) = !nan r := by
  obtain ⟨_, h⟩ := h
  rcases h with ⟨a, b⟩ | ⟨a, b, c⟩
  · rw [a, Bool.not_true, List.any_eq_false]
    intro z hz
    rw [b z hz]; simp
  · rw [a, Bool.not_false, List.any_eq_true]
    exact ⟨r, b, by rw [a]; rfl⟩

theorem least_nlt {xs : List Nat} {r z : Nat} (h : IsLeast xs r) (hz : z ∈ xs) : nan z = true ∨ nan r = true ∨ key r ≤ key z := by
  obtain ⟨_, h⟩ := h
  rcases h with ⟨a, b⟩ | ⟨a, b, c⟩
  · exact .inr (.inl a)
  · cases hn : nan z with
    | true => exact .inl rfl
    | false => exact .inr (.inr (tk_key (c z hz hn)))

theorem turn_mem (xs : List Nat) (k : Nat) (z : Nat) : z ∈ xs ↔ z ∈ xs.drop k ++ xs.take k := by
  rw [List.mem_append]
  constructor
  · intro h
    rw [← List.take_append_drop k xs, List.mem_append] at h
    exact h.symm
  · rintro (h | h)
    · exact List.mem_of_mem_drop h
    · exact List.mem_of_mem_take h

end Wf
namespace Go.Proofs.Ytdebkkojeemlbaa
open Go.RowKit

theorem gaugeLeast_long (a : Option Addr) (n cap : Nat) (y : Int) (w : World) (hn : 100 < n) :
    Calls Try.prog 5 #[.slice a n cap, .int .i64 y] w fun e w' => e = .returned (.bool true) ∧ Below w.heap.size w w' := by
  go_enter Try.func5, Try.ntmps5
  go_wp2
  all_goals go_ret
  exact ⟨rfl, Below.refl _ _⟩

theorem gaugeLeast_none (a : Option Addr) (cap : Nat) (y : Int) (w : World) :
    Calls Try.prog 5 #[.slice a 0 cap, .int .i64 y] w fun e w' => e = .returned (.bool true) ∧ Below w.heap.size w w' := by
  go_enter Try.func5, Try.ntmps5
  go_wp2
  all_goals go_ret
  exact ⟨rfl, Below.refl _ _⟩

theorem lowN (m i : Int) (h0 : 0 < m) (h : m ≤ 4294967296) : ∃ A : Nat, ((A : Int) < m) ∧ wrap64 ((IntKind.u64.wrap i).tmod m) = A := by
  rw [IntKind.wrap_u64, Int.tmod_eq_emod_of_nonneg (by omega)]
  have h1 := Int.emod_nonneg (i % 18446744073709551616) (b := m) (by omega)
  have h2 := Int.emod_lt_of_pos (i % 18446744073709551616) (b := m) h0
  obtain ⟨A, hA⟩ := Int.eq_ofNat_of_zero_le h1
  refine ⟨A, by omega, ?_⟩
  rw [hA] at h2 ⊢
  unfold wrap64; omega

theorem info22L : (Try.prog.info? 22).map (fun i => (i.zero, i.size, i.bytes)) = some (some (.float .f64 0), 1, 8) := by kernel_rfl

theorem made_heap' (wr : World) : (wr.alloc (.cells #[] 22)).heap[wr.heap.size]? = some (.cells #[] 22 (0, 0)) := by
  show (wr.heap.push _)[wr.heap.size]? = _
  simp

theorem ov_empty {wr : World} {base : Nat} (h : base ≤ wr.heap.size) : Wv.Ov Wv.fl 22 base (wr.alloc (.cells #[] 22)) (.slice (some ⟨wr.heap.size, 0, none⟩) 0 0) [] :=
  ⟨⟨rfl, .inr ⟨wr.heap.size, 0, #[], rfl, h, made_heap' wr, Nat.le_refl _, by decide, rfl, rfl⟩⟩, by simp⟩

/-- Append to memory of the call's own, as one step of a region that draws its order. -/
theorem step_append_ov {ops : Array Oper} {o : Oper} {a : Act} {w : World} {K : Act → World → Prop} {Q : Exit → Act → World → Prop} {E : Prop} {s x : Operand} {v u : Value} {xs ys : List Nat} (base : Nat)
    (hgd : o.guard = none) (ho : o.op = .call { callee := .builtin .append, args := #[s, x], argTypes := #[23, 23] }) (hs : a.eval s = v) (hx : a.eval x = u)
    (hv : Wv.Ov Wv.fl 22 base w v xs) (hu : Wv.Rv Wv.fl 0 w u ys) (hsh : Wv.Shaped u) (hl : xs.length + ys.length ≤ 17592186044416) (hbase : base ≤ w.heap.size)
    (h : ∀ v' w', Wv.Ov Wv.fl 22 base w' v' (xs ++ ys) → Below base w w' → K (a.put o.dst v') w') :
    if Region.wanted o (yielded ops a.tmps) = true then Oper.wp Try.prog o a w K Q else E := by
  obtain ⟨i0, hi, hz0, hz1, hz2⟩ := info_parts info22L
  obtain ⟨v', w1, hrun, hO, hb1⟩ := Wv.append_run (P := Try.prog) (ty := o.type) Try.underlying23 hi hz0 hz1 hz2 rfl (by omega) (fun _ => rfl) hv hu hsh hl hbase
  have hw : Region.wanted o (yielded ops a.tmps) = true := by simp [Region.wanted, hgd]
  rw [if_pos hw]
  unfold Oper.wp
  simp [execOp, ho, resolve, invoke, builtin, hs, hx, hrun, Result.andThen]
  exact h v' w1 hO hb1

set_option maxRecDepth 100000 in
set_option maxHeartbeats 1600000 in
theorem gaugeLeast_pos (b off n cap : Nat) (y : Int) (xs : List Nat) (w : World) (h0 : 0 < n) (hn : n ≤ 100) (hv : Wv.Rv Wv.fl 0 w (.slice (some ⟨b, off, none⟩) n cap) xs) (hcap : n ≤ cap) (hcap2 : cap ≤ 9223372036854775807) (hxs : ∀ z ∈ xs, z < Wf.M64) :
    Calls Try.prog 5 #[.slice (some ⟨b, off, none⟩) n cap, .int .i64 y] w fun e w' => e = .returned (.bool true) ∧ Below w.heap.size w w' := by
  obtain ⟨hl, hc⟩ := Wv.rv_cells hv h0
  have hblt : b < w.heap.size := by
    have := hc 0 h0
    exact Wv.cell_lt this
  obtain ⟨t, ht, et⟩ := lowN (n : Int) y (by omega) (by omega)
  have HV := Wv.hid hv
  have HX := Wv.hid hxs
  have HC := Wv.hid hc
  have HL := Wv.hid hl
  clear hv hxs hc hl
  have g1 : decide ((100 : Int) < (n : Int)) = false := by simp; omega
  have g2 : ((n : Int) == 0) = false := by simp; omega
  go_enter Try.func5, Try.ntmps5
  go_wp2_with fail
  refine (least_any _ xs _ HV.out HX.out).mono ?_
  rintro e w' ⟨r, rfl, hr, rfl⟩
  have HR := Wv.hid hr
  clear hr
  go_wp2_with fail
  go_loopw [6, 7, 8] (fun p q i wr => ∃ k : Nat, k ≤ n ∧ i = .int .i64 k ∧ p = .bool ((xs.take k).any fun z => Wf.sameB z r) ∧ q = .bool ((xs.take k).any fun z => !Wf.nan z) ∧ Below w.heap.size w wr) (fun _ _ i _ => n - (intOf i).toNat)
  case atStart => exact ⟨0, by omega, rfl, rfl, rfl, Below.refl _ _⟩
  case round =>
    obtain ⟨k, hk, rfl, rfl, rfl, hbr⟩ := hrel
    by_cases hlt : k < n
    · have c1 : wr.cell? ⟨b, off + k, none⟩ = some (Wv.fl (xs.getD k 0)) := (hbr.cell (p := ⟨b, off + k, none⟩) hblt).trans (HC.out k hlt)
      have hkl : k < xs.length := by rw [HL.out]; exact hlt
      have HT1 := Wv.hid (Wf.any_take xs (fun z => Wf.sameB z r) k hkl)
      have HT2 := Wv.hid (Wf.any_take xs (fun z => !Wf.nan z) k hkl)
      have e1 := nlt_of (Wf.least_nlt HR.out (z := xs.getD k 0) (by rw [List.getD_eq_getElem?_getD, List.getElem?_eq_getElem hkl]; simp))
      have e2 : (FloatKind.f64.format.order (xs.getD k 0) (xs.getD k 0) == some .eq) = !Wf.nan (xs.getD k 0) := by rw [eq_eq]; cases Wf.nan (xs.getD k 0) <;> simp
      unfold Wv.fl at c1
      clear hkl
      generalize xs.getD k 0 = z at *
      generalize ((xs.take k).any fun z => Wf.sameB z r) = p at *
      generalize ((xs.take k).any fun z => !Wf.nan z) = q at *
      cases p
      · cases q
        · go_wp2_with (first | (go_at_call 15; refine (same_any _ _ _).mono ?_; rintro e w' ⟨rfl, rfl⟩))
          go_quiet (fail)
          go_wp2
          go_roundw
          case rel => exact ⟨k + 1, by omega, by go_num, by rw [HT1.out]; rfl, by rw [HT2.out]; rfl, below_drewN hbr _⟩
          case measure => simp [intOf]; omega
        · go_wp2_with (first | (go_at_call 15; refine (same_any _ _ _).mono ?_; rintro e w' ⟨rfl, rfl⟩))
          go_quiet (fail)
          go_wp2
          go_roundw
          case rel => exact ⟨k + 1, by omega, by go_num, by rw [HT1.out]; rfl, by rw [HT2.out]; rfl, below_drewN hbr _⟩
          case measure => simp [intOf]; omega
      · cases q
        · go_wp2
          go_quiet (fail)
          go_wp2
          go_roundw
          case rel => exact ⟨k + 1, by omega, by go_num, by rw [HT1.out]; rfl, by rw [HT2.out]; rfl, below_drewN hbr _⟩
          case measure => simp [intOf]; omega
        · go_wp2
          go_quiet (fail)
          go_wp2
          go_roundw
          case rel => exact ⟨k + 1, by omega, by go_num, by rw [HT1.out]; rfl, by rw [HT2.out]; rfl, below_drewN hbr _⟩
          case measure => simp [intOf]; omega
    · obtain rfl : k = n := by omega
      have m1 : ((xs.take k).any fun z => Wf.sameB z r) = true := by
        rw [List.take_of_length_le (by rw [HL.out]; omega)]; exact Wf.met_all HR.out (by rw [HL.out]; exact h0)
      have m2 : ((xs.take k).any fun z => !Wf.nan z) = !Wf.nan r := by
        rw [List.take_of_length_le (by rw [HL.out]; omega)]; exact Wf.any_all HR.out
      rw [m1, m2]
      clear m1 m2
      go_wp2_with fail
      rw [et]
      have tk1 : t ≤ k := by omega
      have tk2 : t ≤ cap := by omega
      have tk3 : ¬ cap = t := by omega
      have PHI : Hid (∀ W, Below w.heap.size w W → Wv.Rv Wv.fl 0 W (.slice (some ⟨b, off + t, none⟩) (k - t) (cap - t)) (xs.drop t)) := Wv.hid fun W hW => by
        have := Wv.rv_mid (HV.out.keep hW) t (k - t) (cap - t) (by omega) (by omega) (by omega)
        rwa [List.take_of_length_le (by rw [List.length_drop, HL.out]; omega)] at this
      have PLO : Hid (∀ W, Below w.heap.size w W → Wv.Rv Wv.fl 0 W (.slice (some ⟨b, off, none⟩) t cap) (xs.take t)) := Wv.hid fun W hW => by
        have := Wv.rv_mid (HV.out.keep hW) 0 t cap (by omega) (by omega) (by omega)
        rwa [Nat.add_zero, List.drop_zero] at this
      have HO0 : Hid (Wv.Ov Wv.fl 22 w.heap.size (wr.alloc (.cells #[] 22)) (.slice (some ⟨wr.heap.size, 0, none⟩) 0 0) []) := Wv.hid (ov_empty hbr.size)
      have HB0 : Hid (Below w.heap.size w (wr.alloc (.cells #[] 22)).drew) := Wv.hid (hbr.alloc hbr.size _).drew
      have HXX : Hid (∀ z ∈ [] ++ xs.drop t ++ xs.take t, z < Wf.M64) := Wv.hid fun z hz => HX.out z (by rw [List.nil_append] at hz; exact (Wf.turn_mem xs t z).2 hz)
      have HLD : Hid (([] : List Nat).length + (xs.drop t).length ≤ 17592186044416) := Wv.hid (by rw [List.length_nil, List.length_drop, HL.out]; omega)
      have HLT : Hid (([] ++ xs.drop t).length + (xs.take t).length ≤ 17592186044416) := Wv.hid (by rw [List.nil_append, List.length_drop, List.length_take, HL.out]; omega)
      clear hk hlt g1 g2 et HC
      go_region_held3 (fun _ => True) (trivial) (first | (refine step_append_ov w.heap.size rfl rfl rfl rfl (by exact hO1) (by exact PLO.out _ (HB0.out.trans hb1)) (.inr ⟨_, _, _, rfl⟩) HLT.out (HB0.out.trans hb1).size ?_; intro v2 w2 hO2 hb2) | (refine step_append_ov w.heap.size rfl rfl rfl rfl (by exact HO0.out) (by exact PHI.out _ HB0.out) (.inr ⟨_, _, _, rfl⟩) HLD.out HB0.out.size ?_; intro v1 w1 hO1 hb1) | (go_at_call 13; refine (least_any _ _ _ (by exact hO2.rv) HXX.out).mono ?_; rintro e w' ⟨s, rfl, hs, rfl⟩) | fail)
      rw [List.nil_append] at hs
      have hss := Wf.least_same (Wf.turn_mem xs t) HR.out hs
      have e2 : (FloatKind.f64.format.order r r == some .eq) = !Wf.nan r := by rw [eq_eq]; cases Wf.nan r <;> simp
      have HB := Wv.hid ((HB0.out.trans hb1).trans hb2)
      clear hs hb1 hb2 hO1 hO2 PHI PLO HO0 HB0 HXX HLD HLT
      generalize Wf.nan r = q at *
      cases q
      · go_wp2_with (first | (go_at_call 15; refine (same_any _ _ _).mono ?_; rintro e w' ⟨rfl, rfl⟩; rw [hss]) | (go_at_call 16; refine (wakes_any _).mono ?_; rintro e w' ⟨rfl, hbel⟩))
        all_goals go_ret
        exact ⟨rfl, Wv.step HB.out (Nat.le_refl _) hbel⟩
      · go_wp2_with (first | (go_at_call 15; refine (same_any _ _ _).mono ?_; rintro e w' ⟨rfl, rfl⟩; rw [hss]) | (go_at_call 16; refine (wakes_any _).mono ?_; rintro e w' ⟨rfl, hbel⟩))
        all_goals go_ret
        exact ⟨rfl, Wv.step HB.out (Nat.le_refl _) hbel⟩

end Go.Proofs.Ytdebkkojeemlbaa
