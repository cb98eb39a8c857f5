/-
  AllocParts: what the statement's function returns.
-/
import Derived.Test.YtiobegoiehjfiaaMb
import Derived.Test.YtiobegoiehjfiaaYa
import Derived.Deep.Cut
namespace Wl
theorem fre_lt (xs : List Int) : ∀ k, ∀ q ∈ fre xs k, q < (k : Int) := fun k q hq => by
  obtain ⟨j, rfl, -, h, -⟩ := fre_mem hq; omega
theorem fre_sorted (xs : List Int) : ∀ k, (fre xs k).Pairwise (· < ·)
  | 0 => List.Pairwise.nil
  | k + 1 => by
    have hi := fre_sorted xs k
    by_cases h : 2 ≤ k ∧ xs.getD k 0 = 0
    · rw [fre_yes h, List.pairwise_append]
      refine ⟨hi, by simp, fun q hq r hr => ?_⟩
      rw [List.mem_singleton] at hr
      have := fre_lt xs k q hq
      omega
    · rw [fre_no h]; exact hi
theorem fre_at {xs : List Int} {n k : Nat} (h : k < (fre xs n).length) : ∃ j : Nat, (fre xs n).getD k 0 = (j : Int) ∧ 2 ≤ j ∧ j < n ∧ xs.getD j 0 = 0 := by
  obtain ⟨j, h1, h2⟩ := fre_mem (xs := xs) (k := n) (p := (fre xs n).getD k 0) (by
    rw [List.getD_eq_getElem?_getD, List.getElem?_eq_getElem h]; exact List.getElem_mem h)
  exact ⟨j, h1, h2⟩
theorem fre_rises {xs : List Int} {n k : Nat} (h : k + 1 < (fre xs n).length) : (fre xs n).getD k 0 < (fre xs n).getD (k + 1) 0 := by
  have := List.pairwise_iff_getElem.1 (fre_sorted xs n) k (k + 1) (by omega) h (by omega)
  rwa [List.getD_eq_getElem?_getD, List.getD_eq_getElem?_getD, List.getElem?_eq_getElem h, List.getElem?_eq_getElem (show k < _ by omega)]
end Wl
namespace Go.Proofs.Ytiobegoiehjfiaa
open Go.RowKit

set_option maxHeartbeats 400000 in
/-- What TwinInts returns is memory of the call's own. -/
theorem twinInts_own (v : Value) (xs : List Int) (w : World) (hv : Wd.In w v xs) (hs : Wv.Shaped v) :
    Calls Try.prog 10 #[v] w fun e w' => ∃ a n c, e = .returned (.slice a n c) ∧ Wv.Ov (Value.int .i64) 3 w.heap.size w' (.slice a n c) xs ∧ Below w.heap.size w w' := by
  obtain ⟨i0, hi, hz0, hz1, hz2⟩ := info_parts infoI
  have hlen : xs.length ≤ 17592186044416 := by obtain ⟨_, n, _, _, h, _, _, h5, _⟩ := hv; omega
  obtain ⟨v', w', hrun, hO, hb⟩ := Wv.append_run (P := Try.prog) (ty := 22) (val := Value.int .i64) (d := 0) Try.underlying22 hi hz0 hz1 hz2 rfl (by omega) (fun _ => rfl) (Wv.Ov.nil 3 w.heap.size w) hv hs (by simpa using hlen) (Nat.le_refl _)
  have hO : Wv.Ov (Value.int .i64) 3 w.heap.size w' v' xs := hO
  have HO := Wc.hid hO
  have HB := Wc.hid hb
  clear hO hb hv
  go_enter Try.func10, Try.ntmps10
  go_wp2_with (at_builtin; refine Wv.wp_append hrun rfl rfl rfl rfl ?_)
  go_ret
  have hsh : ∃ a n c, v' = .slice a n c := by
    rcases HO.out.shaped with rfl | ⟨_, _, _, rfl⟩
    · exact ⟨_, _, _, rfl⟩
    · exact ⟨_, _, _, rfl⟩
  obtain ⟨a, n, c, rfl⟩ := hsh
  exact ⟨a, n, c, rfl, HO.out, HB.out⟩

set_option maxRecDepth 100000 in
set_option maxHeartbeats 6400000 in
theorem allocParts_far (a : Option Addr) (n cap : Nat) (p q : Int) (w : World) (hn : 400 < n ∨ n < 2) :
    Calls Try.prog 3 #[.slice a n cap, .int .i64 p, .int .i64 q] w fun e w' => e = .returned (.bool true) ∧ Below w.heap.size w w' := by
  rcases hn with hn | hn
  · go_enter Try.func3, Try.ntmps3
    go_wp2_with fail
    go_ret
    exact ⟨rfl, Below.refl _ _⟩
  · have h4 : ¬ 400 < n := by omega
    go_enter Try.func3, Try.ntmps3
    go_wp2_with fail
    go_ret
    exact ⟨rfl, Below.refl _ _⟩

set_option maxRecDepth 100000 in
set_option maxHeartbeats 6400000 in
theorem allocParts_bad (a : Option Addr) (n cap : Nat) (xs : List Int) (p q : Int) (w : World) (hv : Wd.In w (.slice a n cap) xs) (hn : 2 ≤ n ∧ n ≤ 400) (hok : Wl.okC xs = false) :
    Calls Try.prog 3 #[.slice a n cap, .int .i64 p, .int .i64 q] w fun e w' => e = .returned (.bool true) ∧ Below w.heap.size w w' := by
  have HV := Wc.hid hv
  have HOK := Wc.hid hok
  clear hv hok
  go_enter Try.func3, Try.ntmps3
  go_wp2_with fail
  refine (free13_any _ _ _ _ _ HV.out).mono ?_
  rintro e w1 ⟨hb1, -, hy⟩
  obtain rfl := hy HOK.out
  have B1 := Wc.hid hb1
  clear hy hb1
  go_wp2_with fail
  refine (wakes_any _).mono ?_
  rintro e w5 ⟨rfl, hb5⟩
  have B5 := Wc.hid (Wc.step B1.out (Nat.le_refl _) hb5)
  clear hb5
  go_wp2_with fail
  go_ret
  exact ⟨rfl, B5.out⟩

set_option maxRecDepth 100000 in
set_option maxHeartbeats 12800000 in
theorem allocParts_near (a : Option Addr) (n cap : Nat) (xs : List Int) (p q : Int) (w : World) (hv : Wd.In w (.slice a n cap) xs) (hn : 2 ≤ n ∧ n ≤ 400) (hok : Wl.okC xs = true) :
    Calls Try.prog 3 #[.slice a n cap, .int .i64 p, .int .i64 q] w fun e w' => e = .returned (.bool true) ∧ Below w.heap.size w w' := by
  have HV := Wc.hid hv
  have HOK := Wc.hid hok
  clear hv hok
  go_enter Try.func3, Try.ntmps3
  go_wp2_with fail
  refine (free13_any _ _ _ _ _ HV.out).mono ?_
  rintro e w1 ⟨hb1, hy, -⟩
  obtain ⟨al, nl, cl, rfl, hO⟩ := hy HOK.out
  obtain ⟨L, hL⟩ : ∃ L, Wl.fre xs n = L := ⟨_, rfl⟩
  rw [hL] at hO
  have HL := Wc.hid hL
  have hll := Wv.rv_len (val := Value.int .i64) (d := (0 : Int)) hO.rv
  have hnl : nl ≤ 400 := by rw [← hll, ← hL]; have := Wl.fre_len xs n; omega
  have HLL := Wc.hid hll
  have V1 := Wc.hid (HV.out.keep hb1)
  have L1 : Hid (Wd.In w1 (.slice al nl cl) L) := Wc.hid hO.rv
  have B1 := Wc.hid hb1
  clear hy hO hb1 hll hL
  go_wp2_with fail
  go_loop [9, 10] (fun u i => ∃ k : Nat, u = .int .i64 ((Wl.fre xs k).length : Nat) ∧ i = .int .i64 k ∧ 2 ≤ k ∧ k ≤ n) (fun _ i => n - (intOf i).toNat)
  case atStart => exact ⟨2, by rw [Wl.fre_low _ _ (Nat.le_refl _)]; rfl, rfl, by omega, by omega⟩
  case round =>
    obtain ⟨k, rfl, rfl, hk2, hk⟩ := hrel
    by_cases hlt : k < n
    · obtain ⟨b, off, rfl, hc⟩ := in_cell V1.out hlt
      obtain ⟨x, hx⟩ : ∃ x, xs.getD k 0 = x := ⟨_, rfl⟩
      rw [hx] at hc
      have hf := Wl.fre_len xs k
      obtain ⟨F, hF⟩ : ∃ F, (Wl.fre xs k).length = F := ⟨_, rfl⟩
      rw [hF] at hf ⊢
      by_cases h0 : x = 0
      · subst h0
        have hE : (Wl.fre xs (k + 1)).length = F + 1 := by rw [Wl.fre_yes ⟨hk2, hx⟩, List.length_append, hF]; rfl
        have HE := Wc.hid hE
        clear hE hx hF
        go_wp2_with fail
        go_round
        case rel => exact ⟨k + 1, by rw [HE.out]; go_num, by go_num, by omega, by omega⟩
        case measure => simp [intOf]; omega
      · have hE : (Wl.fre xs (k + 1)).length = F := by rw [Wl.fre_no (by rw [hx]; exact fun h => h0 h.2), hF]
        have HE := Wc.hid hE
        have hz : (x == 0) = false := by simpa using h0
        clear hE hx hF
        go_wp2_with fail
        go_round
        case rel => exact ⟨k + 1, by rw [HE.out], by go_num, by omega, by omega⟩
        case measure => simp [intOf]; omega
    · obtain rfl : k = n := by omega
      rw [HL.out, HLL.out]
      go_wp2_with fail
      go_loopw [11] (fun i wr => ∃ j : Nat, i = .int .i64 j ∧ j ≤ nl ∧ Hid (Below w1.heap.size w1 wr)) (fun i _ => nl - (intOf i).toNat)
      case atStart => exact ⟨0, rfl, by omega, Wc.hid (Below.refl _ _)⟩
      case round =>
        obtain ⟨j, rfl, hj, BJ⟩ := hrel
        by_cases hjl : j < nl
        · obtain ⟨y, hy, hy2, hyn, hy0⟩ := Wl.fre_at (xs := xs) (n := k) (k := j) (by rw [HL.out, HLL.out]; exact hjl)
          have hcl := in_cell (L1.out.keep BJ.out) hjl
          obtain ⟨bl, ol, rfl, hcl⟩ := hcl
          rw [← HL.out, hy] at hcl
          obtain ⟨b, off, rfl, hc⟩ := in_cell (V1.out.keep BJ.out) hyn
          rw [hy0] at hc
          have hg1 : ((y : Int) < 2) ↔ False := iff_false_intro (by omega)
          have hg2 : ((k : Int) ≤ (y : Int)) ↔ False := iff_false_intro (by omega)
          by_cases hj0 : j = 0
          · subst hj0
            rw [Nat.add_zero] at hcl
            clear hy hy0
            go_wp2_with fail
            go_quiet (fail)
            go_wp2_with fail
            go_roundw
            case rel => exact ⟨1, by go_num, by omega, Wc.hid (below_drewN BJ.out _)⟩
            case measure => simp [intOf]; omega
          · obtain ⟨i, rfl⟩ : ∃ i, j = i + 1 := ⟨j - 1, by omega⟩
            have hr := Wl.fre_rises (xs := xs) (n := k) (k := i) (by rw [HL.out, HLL.out]; exact hjl)
            rw [hy] at hr
            obtain ⟨_, _, he, hcp⟩ := in_cell (k := i) (L1.out.keep BJ.out) (by omega)
            cases he
            rw [← HL.out] at hcp
            obtain ⟨z, hz⟩ : ∃ z, (Wl.fre xs k).getD i 0 = z := ⟨_, rfl⟩
            rw [hz] at hr hcp
            have hg3 : ((y : Int) ≤ z) ↔ False := iff_false_intro (by omega)
            have hg4 : ((0 : Int) < (i : Int) + 1) ↔ True := iff_true_intro (by omega)
            clear hy hy0 hz
            go_wp2_with fail
            go_quiet (fail)
            go_wp2_with fail
            go_roundw
            case rel => exact ⟨i + 1 + 1, by go_num, by omega, Wc.hid (below_drewN BJ.out _)⟩
            case measure => simp [intOf]; omega
        · obtain rfl : j = nl := by omega
          have V2 := Wc.hid (V1.out.keep BJ.out)
          have L2 := Wc.hid (L1.out.keep BJ.out)
          have B2 := Wc.hid (Wc.step B1.out (Nat.le_refl _) BJ.out)
          go_upto_region 20 with fail
          obtain ⟨A, hA, hAe⟩ := lowN p (j + 1) (by omega) (by omega)
          rw [show ((j + 1 : Nat) : Int) = (j : Int) + 1 by omega] at hAe
          rw [hAe]
          clear hAe
          have hA' : A ≤ j := by omega
          go_wp2_with fail
          refine (take_yes al j cl A L _ L2.out hA').mono ?_
          rintro e w3 ⟨hb3, g3, h3, rfl, hO, hO'⟩
          have L3 := Wc.hid (L2.out.keep hb3)
          have P3 : Hid (Wd.In w3 (.slice (some ⟨g3, 0, none⟩) A A) (L.take A)) := Wc.hid hO.rv
          have Q3 : Hid (Wd.In w3 (.slice (some ⟨h3, 0, none⟩) (j - A) (j - A)) (L.drop A)) := Wc.hid hO'.rv
          have B3 := Wc.hid (Wc.step B2.out (Nat.le_refl _) hb3)
          clear hO hO' hb3
          go_upto_region 22 with fail
          obtain ⟨C, hC, hCe⟩ := lowN q (j - A + 1) (by omega) (by omega)
          rw [show ((j - A + 1 : Nat) : Int) = (j : Int) - (A : Int) + 1 by omega] at hCe
          rw [hCe]
          clear hCe
          have hC' : C ≤ j - A := by omega
          go_wp2_with fail
          refine (take_yes _ (j - A) (j - A) C (L.drop A) _ Q3.out hC').mono ?_
          rintro e w4 ⟨hb4, g4, h4, rfl, hO, hO'⟩
          have L4 := Wc.hid (L3.out.keep hb4)
          have P4 := Wc.hid (P3.out.keep hb4)
          have Q4 := Wc.hid (Q3.out.keep hb4)
          have R4 : Hid (Wd.In w4 (.slice (some ⟨g4, 0, none⟩) C C) ((L.drop A).take C)) := Wc.hid hO.rv
          have S4 : Hid (Wd.In w4 (.slice (some ⟨h4, 0, none⟩) (j - A - C) (j - A - C)) ((L.drop A).drop C)) := Wc.hid hO'.rv
          have B4 := Wc.hid (Wc.step B3.out (Nat.le_refl _) hb4)
          clear hO hO' hb4
          go_wp2_with fail
          rw [show (A : Int) + (C : Int) = ((A + C : Nat) : Int) by omega]
          have hAC : A + C ≤ j := by omega
          refine (take_yes al j cl (A + C) L _ L4.out hAC).mono ?_
          rintro e w5 ⟨hb5, g5, h5, rfl, hO, hO'⟩
          have L5 := Wc.hid (L4.out.keep hb5)
          have P5 := Wc.hid (P4.out.keep hb5)
          have Q5 := Wc.hid (Q4.out.keep hb5)
          have R5 := Wc.hid (R4.out.keep hb5)
          have S5 := Wc.hid (S4.out.keep hb5)
          have T5 : Hid (Wd.In w5 (.slice (some ⟨g5, 0, none⟩) (A + C) (A + C)) (L.take (A + C))) := Wc.hid hO.rv
          have U5 : Hid (Wd.In w5 (.slice (some ⟨h5, 0, none⟩) (j - (A + C)) (j - (A + C))) (L.drop (A + C))) := Wc.hid hO'.rv
          have B5 := Wc.hid (Wc.step B4.out (Nat.le_refl _) hb5)
          clear hO hO' hb5
          go_wp2_with fail
          refine (take_far al j cl _ _ (by omega)).mono ?_
          rintro e w6 ⟨rfl, rfl⟩
          go_wp2_with fail
          refine (twinInts_own _ (L.take A) _ P5.out (.inr ⟨_, _, _, rfl⟩)).mono ?_
          rintro e w7 ⟨a7, n7, c7, rfl, hO, hb7⟩
          have L7 := Wc.hid (L5.out.keep hb7)
          have P7 := Wc.hid (P5.out.keep hb7)
          have Q7 := Wc.hid (Q5.out.keep hb7)
          have R7 := Wc.hid (R5.out.keep hb7)
          have S7 := Wc.hid (S5.out.keep hb7)
          have T7 := Wc.hid (T5.out.keep hb7)
          have U7 := Wc.hid (U5.out.keep hb7)
          have B7 := Wc.hid (Wc.step B5.out (Nat.le_refl _) hb7)
          have G7 := Wc.hid hb7.size
          obtain ⟨i0, hi, hz0, hz1, hz2⟩ := info_parts infoI
          obtain ⟨v8, w8, hrun, hO8, hb8⟩ := Wv.append_run (P := Try.prog) (ty := 22) (val := Value.int .i64) (d := (0 : Int)) Try.underlying22 hi hz0 hz1 hz2 rfl (by omega) (fun _ => rfl) hO Q7.out (.inr ⟨_, _, _, rfl⟩) (by have := HLL.out; simp; omega) G7.out
          have hsh : ∃ a n c, v8 = .slice a n c := by
            rcases hO8.shaped with rfl | ⟨_, _, _, rfl⟩
            · exact ⟨_, _, _, rfl⟩
            · exact ⟨_, _, _, rfl⟩
          obtain ⟨a8, n8, c8, rfl⟩ := hsh
          rw [List.take_append_drop] at hO8
          have X8 : Hid (Wd.In w8 (.slice a8 n8 c8) L) := Wc.hid hO8.rv
          have L8 := Wc.hid (L5.out.keep ((hb7.mono (Nat.le_refl _)).trans hb8))
          have d8 := hb7.trans hb8
          have P8 := Wc.hid (P5.out.keep d8)
          have R8 := Wc.hid (R5.out.keep d8)
          have S8 := Wc.hid (S5.out.keep d8)
          have T8 := Wc.hid (T5.out.keep d8)
          have U8 := Wc.hid (U5.out.keep d8)
          have B8 := Wc.hid (Wc.step B5.out (Nat.le_refl _) d8)
          have HRUN := Wc.hid hrun
          clear hrun hO8 hb8 d8 hO hb7 hi hz0 hz1 hz2 L7 P7 Q7 R7 S7 T7 U7 B7
          go_wp2_with (at_builtin; refine Wv.wp_append HRUN.out rfl rfl rfl rfl ?_)
          refine (ints_any _ _ _ _ _ X8.out L8.out).mono ?_
          rintro e w9 ⟨rfl, hb9⟩
          rw [beq_self_eq_true]
          have P9 := Wc.hid (P8.out.keep hb9)
          have R9 := Wc.hid (R8.out.keep hb9)
          have S9 := Wc.hid (S8.out.keep hb9)
          have T9 := Wc.hid (T8.out.keep hb9)
          have U9 := Wc.hid (U8.out.keep hb9)
          have B9 := Wc.hid (Wc.step B8.out (Nat.le_refl _) hb9)
          clear hb9 X8 L8 P8 R8 S8 T8 U8
          go_wp2_with fail
          refine (twinInts_own _ (L.take A) _ P9.out (.inr ⟨_, _, _, rfl⟩)).mono ?_
          rintro e w10 ⟨a10, n10, c10, rfl, hO, hb10⟩
          have R10 := Wc.hid (R9.out.keep hb10)
          have G10 := Wc.hid hb10.size
          obtain ⟨i0, hi, hz0, hz1, hz2⟩ := info_parts infoI
          obtain ⟨v11, w11, hrun, hO11, hb11⟩ := Wv.append_run (P := Try.prog) (ty := 22) (val := Value.int .i64) (d := (0 : Int)) Try.underlying22 hi hz0 hz1 hz2 rfl (by omega) (fun _ => rfl) hO R10.out (.inr ⟨_, _, _, rfl⟩) (by have := HLL.out; simp; omega) G10.out
          have hsh : ∃ a n c, v11 = .slice a n c := by
            rcases hO11.shaped with rfl | ⟨_, _, _, rfl⟩
            · exact ⟨_, _, _, rfl⟩
            · exact ⟨_, _, _, rfl⟩
          obtain ⟨a11, n11, c11, rfl⟩ := hsh
          have hlist : L.take A ++ (L.drop A).take C = L.take (A + C) := by rw [List.take_add]
          rw [hlist] at hO11
          have X11 : Hid (Wd.In w11 (.slice a11 n11 c11) (L.take (A + C))) := Wc.hid hO11.rv
          have d11 := hb10.trans hb11
          have S11 := Wc.hid (S9.out.keep d11)
          have T11 := Wc.hid (T9.out.keep d11)
          have U11 := Wc.hid (U9.out.keep d11)
          have B11 := Wc.hid (Wc.step B9.out (Nat.le_refl _) d11)
          have HRUN := Wc.hid hrun
          clear hrun hO11 hb11 d11 hO hb10 hi hz0 hz1 hz2 R10 P9 R9 S9 T9 U9 hlist
          go_wp2_with (at_builtin; refine Wv.wp_append HRUN.out rfl rfl rfl rfl ?_)
          refine (ints_any _ _ _ _ _ X11.out T11.out).mono ?_
          rintro e w12 ⟨rfl, hb12⟩
          rw [beq_self_eq_true]
          have S12 := Wc.hid (S11.out.keep hb12)
          have U12 := Wc.hid (U11.out.keep hb12)
          have B12 := Wc.hid (Wc.step B11.out (Nat.le_refl _) hb12)
          clear hb12 X11 T11
          go_wp2_with fail
          refine (ints_any _ _ _ _ _ S12.out U12.out).mono ?_
          rintro e w13 ⟨rfl, hb13⟩
          rw [show ((L.drop A).drop C == L.drop (A + C)) = true by rw [List.drop_drop]; exact beq_self_eq_true _]
          have B13 := Wc.hid (Wc.step B12.out (Nat.le_refl _) hb13)
          clear hb13
          go_wp2_with fail
          refine (wakes_any _).mono ?_
          rintro e w14 ⟨rfl, hb14⟩
          have B14 := Wc.hid (Wc.step B13.out (Nat.le_refl _) hb14)
          clear hb14
          go_wp2_with fail
          go_ret
          exact ⟨rfl, B14.out⟩
end Go.Proofs.Ytiobegoiehjfiaa
