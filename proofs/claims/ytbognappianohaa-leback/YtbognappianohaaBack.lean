/-
  The walk of the law LeBack: for every slice of bytes and every three numbers it returns true and turns nothing that was there.
-/
import Derived.Test.YtbognappianohaaWake
namespace Go.Proofs.Ytbognappianohaa
open Go.RowKit

theorem put_cases (xs : List Int) (p s m : Int) :
    (Wc.putR xs p s m = ([], 1) ∨ Wc.putR xs p s m = ([], 3)) ∨
    (Wc.rsB s = true ∧ Wc.fitB m s = true ∧ Wc.inB xs.length p s = true ∧ Wc.putR xs p s m = (Wc.putL xs p.toNat s.toNat m, 0)) := by
  unfold Wc.putR
  cases Wc.rsB s <;> cases Wc.fitB m s <;> cases Wc.inB xs.length p s <;> simp

theorem get_cases (xs : List Int) (p s : Int) :
    (Wc.getR xs p s = (0, 1) ∨ Wc.getR xs p s = (0, 3)) ∨
    (Wc.rsB s = true ∧ Wc.inB xs.length p s = true ∧ Wc.val ((xs.drop p.toNat).take s.toNat) ≤ 4611686018427387903 ∧ Wc.getR xs p s = (Wc.val ((xs.drop p.toNat).take s.toNat), 0)) := by
  unfold Wc.getR
  cases Wc.rsB s <;> cases Wc.inB xs.length p s <;> simp
  by_cases h : Wc.val ((xs.drop p.toNat).take s.toNat) ≤ 4611686018427387903
  · simp [h]
  · simp [h]; omega

/-- What is put is got. -/
theorem get_put (xs : List Int) (p s m : Int) (hs : Wc.rsB s = true) (hf : Wc.fitB m s = true) (hp : Wc.inB xs.length p s = true) :
    Wc.getR (Wc.putL xs p.toNat s.toNat m) p s = (m, 0) := by
  obtain ⟨p1, p2⟩ := Wc.inB_iff.1 hp
  obtain ⟨f1, f2, f3⟩ := (Wc.fitB_iff hs).1 hf
  have hs1 : 1 ≤ s := by rcases Wc.rsB_cases hs with h | h | h | h <;> omega
  have hl : p.toNat + s.toNat ≤ xs.length := by omega
  unfold Wc.getR
  rw [Wc.putL_length _ _ _ _ hl, hs, hp, Wc.putL_mid _ _ _ _ hl, Wc.val_enc _ _ f1 f3]
  simp [f2]

/-- What is got, put again, changes nothing. -/
theorem put_get (xs : List Int) (p s : Int) (hs : Wc.rsB s = true) (hp : Wc.inB xs.length p s = true) (hx : ∀ x ∈ xs, 0 ≤ x ∧ x < 256) (hm : Wc.val ((xs.drop p.toNat).take s.toNat) ≤ 4611686018427387903) :
    Wc.putR xs p s (Wc.val ((xs.drop p.toNat).take s.toNat)) = (xs, 0) := by
  obtain ⟨p1, p2⟩ := Wc.inB_iff.1 hp
  have hs1 : 1 ≤ s := by rcases Wc.rsB_cases hs with h | h | h | h <;> omega
  have hl : p.toNat + s.toNat ≤ xs.length := by omega
  have hb := Wc.val_bd ((xs.drop p.toNat).take s.toNat) (fun x h' => hx x (List.mem_of_mem_drop (List.mem_of_mem_take h')))
  have e : ((xs.drop p.toNat).take s.toNat).length = s.toNat := by simp; omega
  rw [e] at hb
  have hf := (Wc.fitB_iff hs (n := Wc.val ((xs.drop p.toNat).take s.toNat))).2 ⟨hb.1, hm, hb.2⟩
  unfold Wc.putR
  rw [hs, hf, hp, Wc.putL_back _ _ _ hl hx]
  simp

set_option maxHeartbeats 400000 in
theorem leBack_long (a : Option Addr) (n cap : Nat) (p s m : Int) (w : World) (hn : 500 < n) :
    Calls Try.prog 4 #[.slice a n cap, .int .i64 p, .int .i64 s, .int .i64 m] w fun e w' => e = .returned (.bool true) ∧ Below w.heap.size w w' := by
  go_enter Try.func4, Try.ntmps4
  go_wp2
  go_ret
  exact ⟨rfl, Below.refl _ _⟩

-- Put tells an error, Get does.
set_option maxHeartbeats 400000 in
theorem leBack_ee (a : Option Addr) (n cap : Nat) (xs : List Int) (p s m e1 e2 : Int) (w : World) (hn : n ≤ 500) (hv : Wc.Bs w (.slice a n cap) xs)
    (h1 : Wc.putR xs p s m = ([], e1)) (k1 : (e1 == 0) = false) (h2 : Wc.getR xs p s = (0, e2)) (k2 : (e2 != 0) = true) :
    Calls Try.prog 4 #[.slice a n cap, .int .i64 p, .int .i64 s, .int .i64 m] w fun e w' => e = .returned (.bool true) ∧ Below w.heap.size w w' := by
  have H1 := Wc.hid h1
  have H2 := Wc.hid h2
  have HV := Wc.hid hv
  clear h1 h2 hv
  go_enter Try.func4, Try.ntmps4
  go_wp2_with fail
  refine (put_any _ xs _ _ _ _ HV.out).mono ?_
  rintro e w1 ⟨x, rfl, hx, hb1⟩
  rw [H1.out]
  have HV1 := Wc.hid (HV.out.keep hb1)
  clear hx
  go_wp2_with fail
  refine (get_any _ xs _ _ _ HV1.out).mono ?_
  rintro e w2 ⟨rfl, rfl⟩
  rw [H2.out]
  go_wp2_with fail
  refine (wakes_any _).mono ?_
  rintro e w3 ⟨rfl, hb3⟩
  go_wp2_with fail
  go_ret
  exact ⟨rfl, Wc.step hb1 (Nat.le_refl _) hb3⟩

-- Put tells an error, Get tells a number.
set_option maxHeartbeats 400000 in
theorem leBack_eo (a : Option Addr) (n cap : Nat) (xs : List Int) (p s m e1 y : Int) (w : World) (hn : n ≤ 500) (hv : Wc.Bs w (.slice a n cap) xs)
    (h1 : Wc.putR xs p s m = ([], e1)) (k1 : (e1 == 0) = false) (h2 : Wc.getR xs p s = (y, 0)) (h3 : Wc.putR xs p s y = (xs, 0)) :
    Calls Try.prog 4 #[.slice a n cap, .int .i64 p, .int .i64 s, .int .i64 m] w fun e w' => e = .returned (.bool true) ∧ Below w.heap.size w w' := by
  have H1 := Wc.hid h1
  have H2 := Wc.hid h2
  have H3 := Wc.hid h3
  have HV := Wc.hid hv
  clear h1 h2 h3 hv
  go_enter Try.func4, Try.ntmps4
  go_wp2_with fail
  refine (put_any _ xs _ _ _ _ HV.out).mono ?_
  rintro e w1 ⟨x, rfl, hx, hb1⟩
  rw [H1.out]
  have HV1 := Wc.hid (HV.out.keep hb1)
  clear hx
  go_wp2_with fail
  refine (get_any _ xs _ _ _ HV1.out).mono ?_
  rintro e w2 ⟨rfl, rfl⟩
  rw [H2.out]
  go_wp2_with fail
  refine (put_any _ xs _ _ _ _ HV1.out).mono ?_
  rintro e w3 ⟨x3, rfl, hx3, hb3⟩
  rw [H3.out] at hx3
  rw [H3.out]
  have HV3 := Wc.hid (HV1.out.keep hb3)
  have hb3' := Wc.step hb1 (Nat.le_refl _) hb3
  clear hb3 hb1
  go_wp2_with fail
  refine (bytes_any _ _ xs xs _ hx3 HV3.out).mono ?_
  rintro e w4 ⟨rfl, hb4⟩
  rw [beq_self_eq_true]
  go_wp2_with fail
  refine (wakes_any _).mono ?_
  rintro e w5 ⟨rfl, hb5⟩
  go_wp2_with fail
  go_ret
  exact ⟨rfl, Wc.step (Wc.step hb3' (Nat.le_refl _) hb4) (Nat.le_refl _) hb5⟩

theorem putL_else (xs : List Int) (q t : Nat) (m : Int) (h : q + t ≤ xs.length) (k : Nat) (hk : k < q ∨ q + t ≤ k) : (Wc.putL xs q t m).getD k 0 = xs.getD k 0 := by
  rw [Wc.putL_getD _ _ _ _ h]
  rcases hk with hk | hk
  · rw [if_pos hk]
  · rw [if_neg (by omega), if_neg (by omega)]

-- Put answers, Get tells an error (the number that was there is above MaxId).
set_option maxHeartbeats 400000 in
theorem leBack_oe (b off n cap : Nat) (xs ys : List Int) (q t : Nat) (m e2 : Int) (w : World) (hn : n ≤ 500) (hv : Wc.Bs w (.slice (some ⟨b, off, none⟩) n cap) xs)
    (hqt : q + t ≤ n) (h0 : 0 < n) (h1 : Wc.putR xs q t m = (ys, 0)) (hl : ys.length = n) (h4 : Wc.getR ys q t = (m, 0)) (h5 : ∀ k, k < q ∨ q + t ≤ k → ys.getD k 0 = xs.getD k 0)
    (h2 : Wc.getR xs q t = (0, e2)) (k2 : (e2 != 0) = true) :
    Calls Try.prog 4 #[.slice (some ⟨b, off, none⟩) n cap, .int .i64 q, .int .i64 t, .int .i64 m] w fun e w' => e = .returned (.bool true) ∧ Below w.heap.size w w' := by
  have H1 := Wc.hid h1
  have H2 := Wc.hid h2
  have H4 := Wc.hid h4
  have H5 := Wc.hid h5
  have HL := Wc.hid hl
  have HV := Wc.hid hv
  have hdec : decide ((500 : Int) < (n : Int)) = false := by simp; omega
  clear h1 h2 h4 h5 hl hv
  go_enter Try.func4, Try.ntmps4
  go_wp2_with fail
  refine (put_any _ xs _ _ _ _ HV.out).mono ?_
  rintro e w1 ⟨x, rfl, hx, hb1⟩
  rw [H1.out] at hx
  rw [H1.out]
  have hx : Wc.Bs w1 x ys := hx
  have HV1 := Wc.hid (HV.out.keep hb1)
  have HX := Wc.hid hx
  rcases hx.open with ⟨h, -⟩ | ⟨b2, off2, n2, cap2, rfl, _, hl2, _, _, _, _, hb2, hc2⟩
  · have := HL.out; rw [h] at this; simp at this; omega
  rcases HV1.out.open with ⟨h, _, _, h', -⟩ | ⟨b3, off3, n3, cap3, h', _, hl3, _, _, _, _, hb3, hc3⟩
  · cases h'; omega
  cases h'
  obtain rfl : n2 = n := by rw [← hl2, HL.out]
  clear hx hl2 hl3
  go_wp2_with fail
  refine (get_any _ ys _ _ _ HX.out).mono ?_
  rintro e w2 ⟨rfl, rfl⟩
  rw [H4.out]
  go_wp2_with fail
  go_loopw [13] (fun i wr => ∃ k : Nat, k ≤ n2 ∧ i = .int .i64 k ∧ Below w1.heap.size w1 wr) (fun i _ => n2 - (intOf i).toNat)
  case atStart => exact ⟨0, by omega, rfl, Below.refl _ _⟩
  case round =>
    obtain ⟨k, hk, rfl, hbr⟩ := hrel
    by_cases hlt : k < n2
    · have c2 : wr.cell? ⟨b2, off2 + k, none⟩ = some (.int .u8 (ys.getD k 0)) := (hbr.cell (p := ⟨b2, off2 + k, none⟩) hb2).trans (hc2 k hlt)
      have c3 : wr.cell? ⟨b, off + k, none⟩ = some (.int .u8 (xs.getD k 0)) := (hbr.cell (p := ⟨b, off + k, none⟩) hb3).trans (hc3 k hlt)
      by_cases hin : k < q ∨ q + t ≤ k
      · have e := H5.out k hin
        have hzb : (ys[k]?.getD 0 != xs[k]?.getD 0) = false := by rw [getD_get, getD_get, e]; simp
        clear e
        rcases hin with hin | hin
        · have hd1 : decide ((k : Int) < (q : Int)) = true := by simp; omega
          go_wp2
          go_quiet (fail)
          go_wp2
          go_roundw
          case rel => exact ⟨k + 1, by omega, by go_num, below_drewN hbr _⟩
          case measure => simp [intOf]; omega
        · have hd1 : (k : Int) < (q : Int) ↔ False := iff_false_intro (by omega)
          have hd2 : decide ((q : Int) + (t : Int) ≤ (k : Int)) = true := by simp; omega
          go_wp2
          go_quiet (fail)
          go_wp2
          go_roundw
          case rel => exact ⟨k + 1, by omega, by go_num, below_drewN hbr _⟩
          case measure => simp [intOf]; omega
      · have hd1 : (k : Int) < (q : Int) ↔ False := iff_false_intro (by omega)
        have hd2 : (q : Int) + (t : Int) ≤ (k : Int) ↔ False := iff_false_intro (by omega)
        clear hin
        go_wp2
        go_quiet (fail)
        go_wp2
        go_roundw
        case rel => exact ⟨k + 1, by omega, by go_num, below_drewN hbr _⟩
        case measure => simp [intOf]; omega
    · have HV2 := Wc.hid (HV1.out.keep hbr)
      have hb2' := Wc.step hb1 (Nat.le_refl _) hbr
      clear hbr hc2 hc3
      go_wp2_with fail
      refine (get_any _ xs _ _ _ HV2.out).mono ?_
      rintro e w2 ⟨rfl, rfl⟩
      rw [H2.out]
      go_wp2_with fail
      refine (wakes_any _).mono ?_
      rintro e w3 ⟨rfl, hb3⟩
      go_wp2_with fail
      go_ret
      exact ⟨rfl, Wc.step hb2' (Nat.le_refl _) hb3⟩
-- Put answers, Get tells a number.
set_option maxHeartbeats 400000 in
theorem leBack_oo (b off n cap : Nat) (xs ys : List Int) (q t : Nat) (m y : Int) (w : World) (hn : n ≤ 500) (hv : Wc.Bs w (.slice (some ⟨b, off, none⟩) n cap) xs)
    (hqt : q + t ≤ n) (h0 : 0 < n) (h1 : Wc.putR xs q t m = (ys, 0)) (hl : ys.length = n) (h4 : Wc.getR ys q t = (m, 0)) (h5 : ∀ k, k < q ∨ q + t ≤ k → ys.getD k 0 = xs.getD k 0)
    (h2 : Wc.getR xs q t = (y, 0)) (h3 : Wc.putR xs q t y = (xs, 0)) :
    Calls Try.prog 4 #[.slice (some ⟨b, off, none⟩) n cap, .int .i64 q, .int .i64 t, .int .i64 m] w fun e w' => e = .returned (.bool true) ∧ Below w.heap.size w w' := by
  have H1 := Wc.hid h1
  have H2 := Wc.hid h2
  have H3 := Wc.hid h3
  have H4 := Wc.hid h4
  have H5 := Wc.hid h5
  have HL := Wc.hid hl
  have HV := Wc.hid hv
  have hdec : decide ((500 : Int) < (n : Int)) = false := by simp; omega
  clear h1 h2 h3 h4 h5 hl hv
  go_enter Try.func4, Try.ntmps4
  go_wp2_with fail
  refine (put_any _ xs _ _ _ _ HV.out).mono ?_
  rintro e w1 ⟨x, rfl, hx, hb1⟩
  rw [H1.out] at hx
  rw [H1.out]
  have hx : Wc.Bs w1 x ys := hx
  have HV1 := Wc.hid (HV.out.keep hb1)
  have HX := Wc.hid hx
  rcases hx.open with ⟨h, -⟩ | ⟨b2, off2, n2, cap2, rfl, _, hl2, _, _, _, _, hb2, hc2⟩
  · have := HL.out; rw [h] at this; simp at this; omega
  rcases HV1.out.open with ⟨h, _, _, h', -⟩ | ⟨b3, off3, n3, cap3, h', _, hl3, _, _, _, _, hb3, hc3⟩
  · cases h'; omega
  cases h'
  obtain rfl : n2 = n := by rw [← hl2, HL.out]
  clear hx hl2 hl3
  go_wp2_with fail
  refine (get_any _ ys _ _ _ HX.out).mono ?_
  rintro e w2 ⟨rfl, rfl⟩
  rw [H4.out]
  go_wp2_with fail
  go_loopw [13] (fun i wr => ∃ k : Nat, k ≤ n2 ∧ i = .int .i64 k ∧ Below w1.heap.size w1 wr) (fun i _ => n2 - (intOf i).toNat)
  case atStart => exact ⟨0, by omega, rfl, Below.refl _ _⟩
  case round =>
    obtain ⟨k, hk, rfl, hbr⟩ := hrel
    by_cases hlt : k < n2
    · have c2 : wr.cell? ⟨b2, off2 + k, none⟩ = some (.int .u8 (ys.getD k 0)) := (hbr.cell (p := ⟨b2, off2 + k, none⟩) hb2).trans (hc2 k hlt)
      have c3 : wr.cell? ⟨b, off + k, none⟩ = some (.int .u8 (xs.getD k 0)) := (hbr.cell (p := ⟨b, off + k, none⟩) hb3).trans (hc3 k hlt)
      by_cases hin : k < q ∨ q + t ≤ k
      · have e := H5.out k hin
        have hzb : (ys[k]?.getD 0 != xs[k]?.getD 0) = false := by rw [getD_get, getD_get, e]; simp
        clear e
        rcases hin with hin | hin
        · have hd1 : decide ((k : Int) < (q : Int)) = true := by simp; omega
          go_wp2
          go_quiet (fail)
          go_wp2
          go_roundw
          case rel => exact ⟨k + 1, by omega, by go_num, below_drewN hbr _⟩
          case measure => simp [intOf]; omega
        · have hd1 : (k : Int) < (q : Int) ↔ False := iff_false_intro (by omega)
          have hd2 : decide ((q : Int) + (t : Int) ≤ (k : Int)) = true := by simp; omega
          go_wp2
          go_quiet (fail)
          go_wp2
          go_roundw
          case rel => exact ⟨k + 1, by omega, by go_num, below_drewN hbr _⟩
          case measure => simp [intOf]; omega
      · have hd1 : (k : Int) < (q : Int) ↔ False := iff_false_intro (by omega)
        have hd2 : (q : Int) + (t : Int) ≤ (k : Int) ↔ False := iff_false_intro (by omega)
        clear hin
        go_wp2
        go_quiet (fail)
        go_wp2
        go_roundw
        case rel => exact ⟨k + 1, by omega, by go_num, below_drewN hbr _⟩
        case measure => simp [intOf]; omega
    · have HV2 := Wc.hid (HV1.out.keep hbr)
      have hb2' := Wc.step hb1 (Nat.le_refl _) hbr
      clear hbr hc2 hc3
      go_wp2_with fail
      refine (get_any _ xs _ _ _ HV2.out).mono ?_
      rintro e w2 ⟨rfl, rfl⟩
      rw [H2.out]
      go_wp2_with fail
      refine (put_any _ xs _ _ _ _ HV2.out).mono ?_
      rintro e w3 ⟨x3, rfl, hx3, hb3⟩
      rw [H3.out] at hx3
      rw [H3.out]
      have HV3 := Wc.hid (HV2.out.keep hb3)
      have hb3' := Wc.step hb2' (Nat.le_refl _) hb3
      clear hb3 hb2'
      go_wp2_with fail
      refine (bytes_any _ _ xs xs _ hx3 HV3.out).mono ?_
      rintro e w4 ⟨rfl, hb4⟩
      rw [beq_self_eq_true]
      go_wp2_with fail
      refine (wakes_any _).mono ?_
      rintro e w5 ⟨rfl, hb5⟩
      go_wp2_with fail
      go_ret
      exact ⟨rfl, Wc.step (Wc.step hb3' (Nat.le_refl _) hb4) (Nat.le_refl _) hb5⟩

theorem leBack_any (a : Option Addr) (n cap : Nat) (xs : List Int) (p s m : Int) (w : World) (hn : n ≤ 500) (hv : Wc.Bs w (.slice a n cap) xs) :
    Calls Try.prog 4 #[.slice a n cap, .int .i64 p, .int .i64 s, .int .i64 m] w fun e w' => e = .returned (.bool true) ∧ Below w.heap.size w w' := by
  obtain ⟨a', n', cap', h, hl, _, _, _, hx, hpos⟩ := id hv
  cases h
  rcases put_cases xs p s m with hp | ⟨hs, hf, hp, hput⟩
  · obtain ⟨e1, h1, k1⟩ : ∃ e1, Wc.putR xs p s m = ([], e1) ∧ (e1 == 0) = false := by
      rcases hp with h | h
      · exact ⟨1, h, by decide⟩
      · exact ⟨3, h, by decide⟩
    rcases get_cases xs p s with hg | ⟨gs, gp, gm, hget⟩
    · obtain ⟨e2, h2, k2⟩ : ∃ e2, Wc.getR xs p s = (0, e2) ∧ (e2 != 0) = true := by
        rcases hg with h | h
        · exact ⟨1, h, by decide⟩
        · exact ⟨3, h, by decide⟩
      exact leBack_ee a n cap xs p s m e1 e2 w hn hv h1 k1 h2 k2
    · exact leBack_eo a n cap xs p s m e1 _ w hn hv h1 k1 hget (put_get xs p s gs gp hx gm)
  · have hgp := get_put xs p s m hs hf hp
    have hput' := hput
    obtain ⟨p1, p2⟩ := Wc.inB_iff.1 hp
    have hs1 : 1 ≤ s := by rcases Wc.rsB_cases hs with h | h | h | h <;> omega
    obtain ⟨q, rfl⟩ := Int.eq_ofNat_of_zero_le p1
    obtain ⟨t, rfl⟩ := Int.eq_ofNat_of_zero_le (show 0 ≤ s by omega)
    rw [Int.toNat_natCast, Int.toNat_natCast] at hput hgp
    obtain ⟨b, off, rfl, _, _⟩ := hpos (by omega)
    have hlen := Wc.putL_length xs q t m (by omega)
    rcases get_cases xs q t with hg | ⟨gs, gp, gm, hget⟩
    · obtain ⟨e2, h2, k2⟩ : ∃ e2, Wc.getR xs q t = (0, e2) ∧ (e2 != 0) = true := by
        rcases hg with h | h
        · exact ⟨1, h, by decide⟩
        · exact ⟨3, h, by decide⟩
      exact leBack_oe b off n cap xs _ q t m e2 w hn hv (by omega) (by omega) hput (by omega) hgp (putL_else xs q t m (by omega)) h2 k2
    · exact leBack_oo b off n cap xs _ q t m _ w hn hv (by omega) (by omega) hput (by omega) hgp (putL_else xs q t m (by omega)) hget (put_get xs q t gs gp hx gm)
#print axioms leBack_any
end Go.Proofs.Ytbognappianohaa
