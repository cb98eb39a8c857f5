/-
  AllocBack: what the statement's function returns.
-/
import Derived.Test.YtiobegoiehjfiaaLw
import Derived.Deep.Cut
namespace Wl
theorem getD_set_self {xs : List Int} {A : Nat} {y : Int} (h : A < xs.length) : (xs.set A y).getD A 0 = y := by
  simp [List.getD_eq_getElem?_getD, h]
theorem getD_set_ne {xs : List Int} {A j : Nat} {y : Int} (h : ¬ j = A) : (xs.set A y).getD j 0 = xs.getD j 0 := by
  simp [List.getD_eq_getElem?_getD, Ne.symm h]
theorem fre_mem {xs : List Int} {p : Int} : ∀ {k : Nat}, p ∈ fre xs k → ∃ j : Nat, p = j ∧ 2 ≤ j ∧ j < k ∧ xs.getD j 0 = 0
  | 0, h => by cases h
  | k + 1, h => by
    have h : p ∈ fre xs k ++ (if 2 ≤ k ∧ xs.getD k 0 = 0 then [(k : Int)] else []) := h
    rcases List.mem_append.1 h with h | h
    · obtain ⟨j, h1, h2, h3, h4⟩ := fre_mem h
      exact ⟨j, h1, h2, by omega, h4⟩
    · split at h
      · rename_i hc
        rw [List.mem_singleton] at h
        exact ⟨k, h, hc.1, by omega, hc.2⟩
      · cases h
/-- One place less is free. -/
theorem fre_set {xs : List Int} {A : Nat} {y : Int} (hA : A < xs.length) (h2 : 2 ≤ A) (hy : ¬ y = 0) : ∀ k, (fre (xs.set A y) k).length + (if A < k ∧ xs.getD A 0 = 0 then 1 else 0) = (fre xs k).length
  | 0 => by simp [fre]
  | k + 1 => by
    have hi := fre_set hA h2 hy k
    by_cases hk : k = A
    · subst hk
      rw [if_neg (by omega)] at hi
      rw [fre_no (xs := xs.set k y) (by rw [getD_set_self hA]; omega)]
      by_cases hz : xs.getD k 0 = 0
      · rw [if_pos ⟨by omega, hz⟩, fre_yes ⟨h2, hz⟩, List.length_append]; simp; omega
      · rw [if_neg (fun h => hz h.2), fre_no (fun h => hz h.2)]; omega
    · have e : (if A < k + 1 ∧ xs.getD A 0 = 0 then (1 : Nat) else 0) = (if A < k ∧ xs.getD A 0 = 0 then 1 else 0) := by
        by_cases hz : xs.getD A 0 = 0
        · by_cases hlt : A < k
          · rw [if_pos ⟨by omega, hz⟩, if_pos ⟨hlt, hz⟩]
          · rw [if_neg (by omega), if_neg (by omega)]
        · rw [if_neg (fun h => hz h.2), if_neg (fun h => hz h.2)]
      rw [e]
      by_cases hz : 2 ≤ k ∧ xs.getD k 0 = 0
      · rw [fre_yes (xs := xs.set A y) (by rw [getD_set_ne hk]; exact hz), fre_yes hz, List.length_append, List.length_append, List.length_singleton]; omega
      · rw [fre_no (xs := xs.set A y) (by rw [getD_set_ne hk]; exact hz), fre_no hz]; exact hi
theorem okC_set {xs : List Int} {A : Nat} {y : Int} (h : okC xs = true) (hy : 0 ≤ y ∧ y ≤ 2147483647) : okC (xs.set A y) = true := by
  have hh := okC_iff.1 h
  refine okC_iff.2 ⟨by simpa using hh.1, fun x hx => ?_⟩
  rcases List.mem_or_eq_of_mem_set hx with h1 | h1
  · exact hh.2 x h1
  · rw [h1]; exact hy
/-- What More's answer 0 says. -/
theorem movE_zero {xs : List Int} {A : Nat} {last : Int} (h : movE xs A last = 0) : okC xs = true ∧ A < xs.length ∧ ¬ xs.getD A 0 = last := by
  unfold movE at h
  by_cases h1 : okC xs = false
  · rw [if_pos h1] at h; cases h
  · rw [if_neg h1] at h
    by_cases h2 : (A : Int) < 0 ∨ (xs.length : Int) ≤ A
    · rw [if_pos h2] at h; cases h
    · rw [if_neg h2] at h
      by_cases h3 : xs.getD (A : Int).toNat 0 = last
      · rw [if_pos h3] at h; cases h
      · exact ⟨by simpa using h1, by omega, h3⟩
theorem movE_ok {xs : List Int} {A : Nat} {last : Int} (h1 : okC xs = true) (h2 : A < xs.length) (h3 : ¬ xs.getD A 0 = last) : movE xs A last = 0 := by
  unfold movE
  rw [if_neg (by rw [h1]; simp), if_neg (by omega), if_neg (by rw [Int.toNat_natCast]; exact h3)]
theorem set_back {xs : List Int} {A : Nat} {y : Int} (h : A < xs.length) : (xs.set A y).set A (xs.getD A 0) = xs := by
  rw [List.set_set]
  refine List.ext_getElem? fun j => ?_
  rw [List.getElem?_set]
  by_cases hj : A = j
  · subst hj; simp [h, List.getD_eq_getElem?_getD]
  · rw [if_neg hj]
end Wl
namespace Go.Proofs.Ytiobegoiehjfiaa
open Go.RowKit

theorem lowN (i : Int) (m : Nat) (h0 : 0 < m) (h : (m : Int) ≤ 9223372036854775807) : ∃ A : Nat, A < m ∧ wrap64 ((IntKind.u64.wrap i).tmod (m : Int)) = (A : Int) := by
  rw [IntKind.wrap_u64, Int.tmod_eq_emod_of_nonneg (by omega)]
  have h1 := Int.emod_nonneg (i % 18446744073709551616) (b := (m : Int)) (by omega)
  have h2 := Int.emod_lt_of_pos (i % 18446744073709551616) (b := (m : Int)) (by omega)
  exact ⟨((i % 18446744073709551616) % (m : Int)).toNat, by omega, by unfold wrap64; omega⟩
theorem lowT (i : Int) (n : Nat) (h0 : 3 ≤ n) (h : n ≤ 400) : ∃ A : Nat, (2 ≤ A ∧ A < n) ∧ wrap64 (2 + wrap64 ((IntKind.u64.wrap i).tmod ((n : Int) - 2))) = (A : Int) := by
  obtain ⟨A, hA, e⟩ := lowN i (n - 2) (by omega) (by omega)
  rw [show ((n - 2 : Nat) : Int) = (n : Int) - 2 by omega] at e
  exact ⟨2 + A, by omega, by rw [e]; unfold wrap64; omega⟩
/-- A cell of a list of ints. -/
theorem in_cell {w : World} {a : Option Addr} {n cap k : Nat} {xs : List Int} (h : Wd.In w (.slice a n cap) xs) (hk : k < n) : ∃ b off, a = some ⟨b, off, none⟩ ∧ w.cell? ⟨b, off + k, none⟩ = some (.int .i64 (xs.getD k 0)) := by
  obtain ⟨_, _, _, he, -, -, -, -, hc⟩ := h
  cases he
  obtain ⟨b, off, rfl, -, hcc⟩ := hc (by omega)
  exact ⟨b, off, rfl, hcc k hk⟩

set_option maxRecDepth 100000 in
set_option maxHeartbeats 6400000 in
theorem allocBack_far (a : Option Addr) (n cap : Nat) (p : Int) (w : World) (hn : 400 < n ∨ n < 3) :
    Calls Try.prog 4 #[.slice a n cap, .int .i64 p] w fun e w' => e = .returned (.bool true) ∧ Below w.heap.size w w' := by
  rcases hn with hn | hn
  · go_enter Try.func4, Try.ntmps4
    go_wp2_with fail
    go_ret
    exact ⟨rfl, Below.refl _ _⟩
  · have h4 : ¬ 400 < n := by omega
    go_enter Try.func4, Try.ntmps4
    go_wp2_with fail
    go_ret
    exact ⟨rfl, Below.refl _ _⟩

set_option maxRecDepth 100000 in
set_option maxHeartbeats 6400000 in
theorem allocBack_near (a : Option Addr) (n cap : Nat) (xs : List Int) (p : Int) (w : World) (hv : Wd.In w (.slice a n cap) xs) (hn : 3 ≤ n ∧ n ≤ 400) :
    Calls Try.prog 4 #[.slice a n cap, .int .i64 p] w fun e w' => e = .returned (.bool true) ∧ Below w.heap.size w w' := by
  have HV := Wc.hid hv
  clear hv
  go_enter Try.func4, Try.ntmps4
  go_upto_region 4 with fail
  obtain ⟨A, hA, hAe⟩ := lowT p n hn.1 hn.2
  rw [hAe]
  clear hAe
  have HL := Wc.hid (Wv.rv_len HV.out)
  obtain ⟨x, hx⟩ : ∃ x, xs.getD A 0 = x := ⟨_, rfl⟩
  have HX := Wc.hid hx
  clear hx
  go_wp2_with fail
  by_cases hE : Wl.movE xs A 2147483647 = 0
  · have hz := Wl.movE_zero hE
    have hxb := Wl.okC_at hz.1 hz.2.1
    rw [HX.out] at hxb hz
    have HOK := Wc.hid hz.1
    obtain ⟨ys, hys⟩ : ∃ ys, xs.set A (x + 1) = ys := ⟨_, rfl⟩
    have hlen : A < xs.length := hz.2.1
    have HYL : Hid (ys.length = n) := Wc.hid (by rw [← hys, List.length_set]; exact HL.out)
    have HY : Hid (ys.getD A 0 = x + 1) := Wc.hid (by rw [← hys]; exact Wl.getD_set_self hlen)
    have HOY : Hid (Wl.okC ys = true) := Wc.hid (by rw [← hys]; exact Wl.okC_set hz.1 ⟨by omega, by omega⟩)
    have HB : Hid (ys.set A (x + 1 + -1) = xs) := Wc.hid (by
      rw [show x + 1 + -1 = xs.getD A 0 by rw [HX.out]; omega, ← hys]
      exact Wl.set_back hlen)
    have hF := Wl.fre_set (y := x + 1) hlen hA.1 (by omega) n
    rw [hys, HX.out] at hF
    obtain ⟨M, hM⟩ : ∃ M, Wl.fre ys n = M := ⟨_, rfl⟩
    obtain ⟨L, hL⟩ : ∃ L, Wl.fre xs n = L := ⟨_, rfl⟩
    have HNM : Hid (∀ q ∈ M, ¬ q = (A : Int)) := Wc.hid (fun q hq he => by
      rw [← hM] at hq
      obtain ⟨j, h1, h2, h3, h4⟩ := Wl.fre_mem hq
      obtain rfl : j = A := by omega
      rw [HY.out] at h4
      omega)
    rw [hM, hL] at hF
    have hm := more13_any a n cap xs A w HV.out
    have HE := Wc.hid hE
    have HM := Wc.hid hM
    have HLL := Wc.hid hL
    have HYS := Wc.hid hys
    have HF := Wc.hid hF
    have hfl : M.length ≤ 400 := by have := Wl.fre_len ys n; rw [hM] at this; omega
    have hll : L.length ≤ 400 := by have := Wl.fre_len xs n; rw [hL] at this; omega
    clear hE hz hys hlen hM hL hF
    refine hm.mono ?_
    rintro e w1 ⟨hb1, hy, -⟩
    obtain ⟨g, rfl, -, hO⟩ := hy HE.out
    rw [Int.toNat_natCast, HX.out, HYS.out] at hO
    have V1 := Wc.hid (HV.out.keep hb1)
    have Y1 : Hid (Wd.In w1 (.slice (some ⟨g, 0, none⟩) n n) ys) := Wc.hid hO.rv
    have B1 := Wc.hid hb1
    clear hy hO hb1 hm
    go_wp2_with fail
    refine (less13_any _ n n ys A _ Y1.out).mono ?_
    rintro e w2 ⟨hb2, hy, -⟩
    obtain ⟨g2, rfl, -, hO⟩ := hy (Wl.movE_ok HOY.out (by rw [HYL.out]; omega) (by rw [HY.out]; omega))
    rw [Int.toNat_natCast, HY.out, HB.out] at hO
    have V2 := Wc.hid (V1.out.keep hb2)
    have Y2 := Wc.hid (Y1.out.keep hb2)
    have X2 : Hid (Wd.In w2 (.slice (some ⟨g2, 0, none⟩) n n) xs) := Wc.hid hO.rv
    have B2 := Wc.hid (Wc.step B1.out (Nat.le_refl _) hb2)
    clear hy hO hb2
    go_wp2_with fail
    refine (free13_any _ _ _ _ _ V2.out).mono ?_
    rintro e w3 ⟨hb3, hy, -⟩
    obtain ⟨a3, n3, c3, rfl, hO⟩ := hy HOK.out
    rw [HLL.out] at hO
    have hl3 := Wv.rv_len (val := Value.int .i64) (d := (0 : Int)) hO.rv
    have L3 := Wc.hid hl3
    have hn3 : n3 ≤ 400 := by rw [← hl3]; exact hll
    have V3 := Wc.hid (V2.out.keep hb3)
    have Y3 := Wc.hid (Y2.out.keep hb3)
    have X3 := Wc.hid (X2.out.keep hb3)
    have B3 := Wc.hid (Wc.step B2.out (Nat.le_refl _) hb3)
    clear hy hO hb3 hl3
    go_wp2_with fail
    refine (free13_any _ _ _ _ _ Y3.out).mono ?_
    rintro e w4 ⟨hb4, hy, -⟩
    obtain ⟨a4, n4, c4, rfl, hO⟩ := hy HOY.out
    rw [HM.out] at hO
    have hl4 := Wv.rv_len (val := Value.int .i64) (d := (0 : Int)) hO.rv
    have L4 := Wc.hid hl4
    have hn4 : n4 ≤ 400 := by rw [← hl4]; exact hfl
    have V4 := Wc.hid (V3.out.keep hb4)
    have X4 := Wc.hid (X3.out.keep hb4)
    have M4 : Hid (Wd.In w4 (.slice a4 n4 c4) M) := Wc.hid hO.rv
    have B4 := Wc.hid (Wc.step B3.out (Nat.le_refl _) hb4)
    clear hy hO hb4 hl4
    go_wp2_with fail
    refine (ints_any _ _ _ _ _ X4.out V4.out).mono ?_
    rintro e w5 ⟨rfl, hb5⟩
    rw [beq_self_eq_true]
    have V5 := Wc.hid (V4.out.keep hb5)
    have M5 := Wc.hid (M4.out.keep hb5)
    have B5 := Wc.hid (Wc.step B4.out (Nat.le_refl _) hb5)
    clear hb5
    obtain ⟨b, off, rfl, hc⟩ := in_cell V5.out hA.2
    rw [HX.out] at hc
    obtain ⟨z, hz⟩ : ∃ z : Int, (if x = 0 then (n3 : Int) - 1 else (n3 : Int)) = z := ⟨_, rfl⟩
    have hzM : z = (n4 : Int) := by
      have h1 := HF.out
      rw [L3.out, L4.out] at h1
      rw [← hz]
      by_cases h0 : x = 0
      · rw [if_pos ⟨hA.2, h0⟩] at h1; rw [if_pos h0]; omega
      · rw [if_neg (fun h => h0 h.2)] at h1; rw [if_neg h0]; omega
    have HZ := Wc.hid hzM
    clear hzM
    by_cases h0 : x = 0
    · subst h0
      rw [if_pos rfl] at hz
      have HZ2 := Wc.hid (hz.trans HZ.out)
      clear hz
      go_wp2_with fail
      go_loop [14] (fun i => ∃ k : Nat, i = .int .i64 k ∧ k ≤ n4) (fun i => n4 - (intOf i).toNat)
      case atStart => exact ⟨0, rfl, by omega⟩
      case round =>
        obtain ⟨k, rfl, hk⟩ := hrel
        by_cases hlt : k < n4
        · obtain ⟨b4, o4, rfl, hc4⟩ := in_cell M5.out hlt
          have hne : (M.getD k 0 == (A : Int)) = false := by
            rw [beq_eq_false_iff_ne]
            refine HNM.out _ ?_
            have hk' : k < M.length := by rw [L4.out]; exact hlt
            rw [List.getD_eq_getElem?_getD, List.getElem?_eq_getElem hk']
            exact List.getElem_mem hk'
          obtain ⟨q, hq⟩ : ∃ q, M.getD k 0 = q := ⟨_, rfl⟩
          rw [hq] at hc4 hne
          clear hq
          go_wp2_with fail
          go_round
          case rel => exact ⟨k + 1, by go_num, by omega⟩
          case measure => simp [intOf]; omega
        · obtain rfl : k = n4 := by omega
          have hfin : ((k : Int) == (n3 : Int) - 1) = true := by rw [beq_iff_eq]; exact HZ2.out.symm
          go_wp2_with fail
          refine (wakes_any _).mono ?_
          rintro e w6 ⟨rfl, hb6⟩
          have B6 := Wc.hid (Wc.step B5.out (Nat.le_refl _) hb6)
          clear hb6
          go_wp2_with fail
          go_ret
          exact ⟨rfl, B6.out⟩
    · rw [if_neg h0] at hz
      have HZ2 := Wc.hid (hz.trans HZ.out)
      have hx0 : (x == 0) = false := by simpa using h0
      clear hz
      go_wp2_with fail
      go_loop [14] (fun i => ∃ k : Nat, i = .int .i64 k ∧ k ≤ n4) (fun i => n4 - (intOf i).toNat)
      case atStart => exact ⟨0, rfl, by omega⟩
      case round =>
        obtain ⟨k, rfl, hk⟩ := hrel
        by_cases hlt : k < n4
        · obtain ⟨b4, o4, rfl, hc4⟩ := in_cell M5.out hlt
          have hne : (M.getD k 0 == (A : Int)) = false := by
            rw [beq_eq_false_iff_ne]
            refine HNM.out _ ?_
            have hk' : k < M.length := by rw [L4.out]; exact hlt
            rw [List.getD_eq_getElem?_getD, List.getElem?_eq_getElem hk']
            exact List.getElem_mem hk'
          obtain ⟨q, hq⟩ : ∃ q, M.getD k 0 = q := ⟨_, rfl⟩
          rw [hq] at hc4 hne
          clear hq
          go_wp2_with fail
          go_round
          case rel => exact ⟨k + 1, by go_num, by omega⟩
          case measure => simp [intOf]; omega
        · obtain rfl : k = n4 := by omega
          have hfin : ((k : Int) == (n3 : Int)) = true := by rw [beq_iff_eq]; exact HZ2.out.symm
          go_wp2_with fail
          refine (wakes_any _).mono ?_
          rintro e w6 ⟨rfl, hb6⟩
          have B6 := Wc.hid (Wc.step B5.out (Nat.le_refl _) hb6)
          clear hb6
          go_wp2_with fail
          go_ret
          exact ⟨rfl, B6.out⟩
  · obtain ⟨E, hEE⟩ : ∃ E, Wl.movE xs A 2147483647 = E := ⟨_, rfl⟩
    have hm := more13_any a n cap xs A w HV.out
    unfold MovPost at hm
    rw [hEE] at hm hE
    have HNE := Wc.hid hE
    have hne : (E != 0) = true := by rw [bne_iff_ne]; exact hE
    clear hE
    refine hm.mono ?_
    rintro e w1 ⟨hb1, -, hy⟩
    obtain rfl := hy HNE.out
    have B1 := Wc.hid hb1
    clear hy hb1 hm
    go_wp2_with fail
    refine (wakes_any _).mono ?_
    rintro e w5 ⟨rfl, hb5⟩
    have B5 := Wc.hid (Wc.step B1.out (Nat.le_refl _) hb5)
    clear hb5
    go_wp2_with fail
    go_ret
    exact ⟨rfl, B5.out⟩
end Go.Proofs.Ytiobegoiehjfiaa
