/-
  What super.inSlot and super.Pick return, for every device.
-/
import Derived.Test.YtkddnjpkkkknfaaSpar
import Derived.Test.YtkddnjpkkkknfaaDapp
namespace Go.Proofs.Ytkddnjpkkkknfaa
open Go.RowKit

theorem ret_cell1 {fn : Func} {tmps : Array Value} {w : World} {B : Nat} {s : Ws.Sup} (hr : fn.results = #[.cell 6 23]) (hp : tmps.getD 6 undef = .pointer (some ⟨B, 0, none⟩)) (h : Sc w B s) :
    (results fn tmps).run Try.prog w = .ok (sv s) w := by
  obtain ⟨c0, c1, c2, c3, c4⟩ := h
  have hp' : tmps[6]?.getD undef = .pointer (some ⟨B, 0, none⟩) := by simpa using hp
  simp only [results, hr]
  simp [hp', go_sem, c0, c1, c2, c3, c4, sv]

theorem rd_slot {n q : Nat} {xs : List Int} (hd : Wd.devB n = true) (hl : xs.length = n) (hq : q < 2) : Wd.rdE n (q : Int) = 0 ∧ Wd.rdR xs (q : Int) = (xs.drop (q * 64)).take 64 ∧ ((xs.drop (q * 64)).take 64).length = 64 := by
  have h := Wd.devB_iff.1 hd
  have e0 : Wd.rdE n (q : Int) = 0 := by unfold Wd.rdE; rw [if_pos hd, if_pos (by omega)]
  refine ⟨e0, ?_, by simp; omega⟩
  unfold Wd.rdR; rw [hl, if_pos e0]; rfl

set_option maxHeartbeats 1600000 in
theorem inslot_any (ai : Option Addr) (ni ci q : Nat) (m : Int) (xs : List Int) (w : World) (hv : Wc.Bs w (.slice ai ni ci) xs) (hd : Wd.devB ni = true) (hq : q < 2) :
    Calls Try.prog 27 #[.slice ai ni ci, .int .i64 q, .int .i64 m] w fun e w' => e = .returned (sv (Ws.slotS m ((xs.drop (q * 64)).take 64))) ∧ Below w.heap.size w w' := by
  have HL := Wc.hid (Wc.bs_len hv)
  have HR := Wc.hid (rd_slot hd HL.out hq)
  have HV := Wc.hid (hv.alloc (.cells #[.int .i64 0, .int .i64 0, .int .i64 0, .int .i64 0, .int .i64 0] 23))
  obtain ⟨B, hB⟩ : ∃ B, (xs.drop (q * 64)).take 64 = B := ⟨_, rfl⟩
  rw [hB] at HR ⊢
  clear hv hd hq hB
  go_enter Try.func27, Try.ntmps27
  go_wp2_with fail
  refine (read_any _ _ _ _ xs _ HV.out).mono ?_
  rintro e w2 ⟨ax, cx, rfl, hx, hb2⟩
  rw [HL.out, HR.out.1]
  rw [HR.out.2.1] at hx ⊢
  rw [HR.out.2.2] at hx ⊢
  have A2 := Wc.hid ((Sh.new w Ws.s0).keep hb2)
  have HB2 := Wc.hid (Wc.step ((Below.refl w.heap.size w).alloc (Nat.le_refl _) (.cells #[.int .i64 0, .int .i64 0, .int .i64 0, .int .i64 0, .int .i64 0] 23)) (Nat.le_refl _) hb2)
  have HX := Wc.hid hx
  clear hx hb2
  go_wp2_with fail
  refine (parse_any _ B _ HX.out).mono ?_
  rintro e w3 ⟨rfl, hb3⟩
  have A3 := Wc.hid (A2.out.keep hb3)
  have HB3 := Wc.hid (Wc.step HB2.out (Nat.le_refl _) hb3)
  clear hb3
  have HS : Hid (Ws.slotS m B = if Ws.parE B = 0 ∧ (Ws.par B).blocks = m then Ws.par B else Ws.s0) := Wc.hid rfl
  generalize Ws.par B = t at HS ⊢
  generalize Ws.parE B = E at HS ⊢
  have A4 := Wc.hid (A3.out.keep ((Below.refl _ _).alloc (Nat.le_refl _) (.cells #[.int .i64 t.gen, .int .i64 t.blocks, .int .i64 t.root, .int .i64 t.size, .int .i64 t.first] 23)))
  have HB4 := Wc.hid (HB3.out.alloc HB3.out.size (.cells #[.int .i64 t.gen, .int .i64 t.blocks, .int .i64 t.root, .int .i64 t.size, .int .i64 t.first] 23))
  have ⟨c0, c1, c2, c3, c4⟩ := A4.out.sc
  have f0 := A4.out.frozen 0
  have f1 := A4.out.frozen 1
  have f2 := A4.out.frozen 2
  have f3 := A4.out.frozen 3
  have f4 := A4.out.frozen 4
  unfold sv
  by_cases h1 : E = 0
  · subst h1
    by_cases h2 : t.blocks = m
    · have g2 : (t.blocks != m) = false := by simpa using h2
      have HE := Wc.hid (HS.out.trans (if_pos ⟨rfl, h2⟩))
      clear h2 HS
      go_wp2_with fail
      rw [HE.out]
      exact bodyPost_ret (ret_cell1 rfl rfl (A4.out.set t).sc) rfl ⟨rfl, below5 HB4.out (Nat.le_refl _) t⟩
    · have g2 : (t.blocks != m) = true := by simpa using h2
      have HE := Wc.hid (HS.out.trans (if_neg (fun h => h2 h.2)))
      clear h2 HS
      go_wp2_with fail
      rw [HE.out]
      exact bodyPost_ret (ret_cell1 rfl rfl (A4.out.set Ws.s0).sc) rfl ⟨rfl, below5 HB4.out (Nat.le_refl _) Ws.s0⟩
  · have g1 : (E != 0) = true := by simpa using h1
    have HE := Wc.hid (HS.out.trans (if_neg (fun h => h1 h.1)))
    clear h1 HS
    go_wp2_with fail
    rw [HE.out]
    exact bodyPost_ret (ret_cell1 rfl rfl (A4.out.set Ws.s0).sc) rfl ⟨rfl, below5 HB4.out (Nat.le_refl _) Ws.s0⟩

theorem ret_cell3 {fn : Func} {tmps : Array Value} {w : World} {B : Nat} {s : Ws.Sup} {v u : Value} (hr : fn.results = #[.cell 2 23, .tmp 3, .tmp 4]) (hp : tmps.getD 2 undef = .pointer (some ⟨B, 0, none⟩)) (hv : tmps.getD 3 undef = v) (hu : tmps.getD 4 undef = u) (h : Sc w B s) :
    (results fn tmps).run Try.prog w = .ok (.tuple #[sv s, v, u]) w := by
  obtain ⟨c0, c1, c2, c3, c4⟩ := h
  have hp' : tmps[2]?.getD undef = .pointer (some ⟨B, 0, none⟩) := by simpa using hp
  have hv' : tmps[3]?.getD undef = v := by simpa using hv
  have hu' : tmps[4]?.getD undef = u := by simpa using hu
  simp only [results, hr]
  simp [hp', hv', hu', go_sem, c0, c1, c2, c3, c4, sv]

/-- What is picked behind k slots. -/
def pst (f : Nat → Ws.Sup) : Nat → Ws.Sup × Int
  | 0 => (Ws.s0, 0)
  | k + 1 => if (pst f k).1.gen < (f k).gen then (f k, (k : Int)) else pst f k

theorem pst_picks (f : Nat → Ws.Sup) : Ws.picks (f 0) (f 1) = if (pst f 2).1.gen = 0 then (Ws.s0, 0, 8) else ((pst f 2).1, (pst f 2).2, 0) := by
  have e1 : pst f 1 = if 0 < (f 0).gen then (f 0, 0) else (Ws.s0, 0) := rfl
  have e2 : pst f 2 = if (pst f 1).1.gen < (f 1).gen then (f 1, 1) else pst f 1 := rfl
  have e3 : Ws.s0.gen = 0 := rfl
  unfold Ws.picks
  by_cases h0 : 0 < (f 0).gen
  · rw [if_pos h0] at e1
    rw [e1] at e2
    by_cases h1 : (f 0).gen < (f 1).gen
    · rw [if_pos (show ((f 0, (0 : Int)) : Ws.Sup × Int).1.gen < (f 1).gen from h1)] at e2
      rw [if_pos h0, if_pos h1, e2, if_neg (by show ¬ (f 1).gen = 0; omega)]
    · rw [if_neg (show ¬ ((f 0, (0 : Int)) : Ws.Sup × Int).1.gen < (f 1).gen from h1)] at e2
      rw [if_pos h0, if_neg h1, if_pos h0, e2, if_neg (by show ¬ (f 0).gen = 0; omega)]
  · rw [if_neg h0] at e1
    rw [e1] at e2
    by_cases h1 : 0 < (f 1).gen
    · rw [if_pos (show ((Ws.s0, (0 : Int)) : Ws.Sup × Int).1.gen < (f 1).gen from h1)] at e2
      rw [if_neg h0, if_pos (by rw [e3]; exact h1), e2, if_neg (by show ¬ (f 1).gen = 0; omega)]
    · rw [if_neg (show ¬ ((Ws.s0, (0 : Int)) : Ws.Sup × Int).1.gen < (f 1).gen from h1)] at e2
      rw [if_neg h0, if_neg (by rw [e3]; exact h1), if_neg h0, e2, if_pos (show Ws.s0.gen = 0 from rfl)]

/-- What Pick tells. -/
def pickA (xs : List Int) : Ws.Sup × Int × Int := if Wd.devB xs.length = true then Ws.pickR xs else (Ws.s0, 0, 2)

theorem pickA_yes {xs : List Int} {f : Nat → Ws.Sup} (h : Wd.devB xs.length = true) (hf : ∀ k, f k = Ws.slotS ((xs.length / 64 : Nat) : Int) ((xs.drop (k * 64)).take 64)) :
    pickA xs = if (pst f 2).1.gen = 0 then (Ws.s0, 0, 8) else ((pst f 2).1, (pst f 2).2, 0) := by
  rw [pickA, if_pos h, ← pst_picks f, hf 0, hf 1]
  simp [Ws.pickR]

set_option maxHeartbeats 3200000 in
theorem pick_any (ai : Option Addr) (ni ci : Nat) (xs : List Int) (w : World) (hv : Wc.Bs w (.slice ai ni ci) xs) :
    Calls Try.prog 11 #[.slice ai ni ci] w fun e w' => e = .returned (.tuple #[sv (pickA xs).1, .int .i64 (pickA xs).2.1, .int .i64 (pickA xs).2.2]) ∧ Below w.heap.size w w' := by
  have hni : ni ≤ 140737488355328 := by obtain ⟨_, _, _, h1, _, _, _, h5, _⟩ := hv; cases h1; exact h5
  have HL := Wc.hid (Wc.bs_len hv)
  have HV := Wc.hid hv
  clear hv
  by_cases hd : Wd.devB ni = true
  · have hN := (Wd.chk_yes (Wd.devB_iff.1 hd)).1.symm
    have hE := (Wd.chk_yes (Wd.devB_iff.1 hd)).2.symm
    obtain ⟨m, hm⟩ : ∃ m : Int, (ni : Int) / 64 = m := ⟨_, rfl⟩
    have HM : Hid (((xs.length / 64 : Nat) : Int) = m) := Wc.hid (by rw [HL.out]; omega)
    rw [hm] at hN
    clear hm
    obtain ⟨f, hf⟩ : ∃ f : Nat → Ws.Sup, ∀ k, f k = Ws.slotS m ((xs.drop (k * 64)).take 64) := ⟨_, fun _ => rfl⟩
    have HF := Wc.hid hf
    have HP := Wc.hid (pickA_yes (f := f) (by rw [HL.out]; exact hd) (by rw [HM.out]; exact hf))
    have HD := Wc.hid hd
    clear hf hd
    go_enter Try.func11, Try.ntmps11
    go_wp2_with (go_at_call 26; refine (check_any _ _ _ _ hni).mono ?_; rintro e w' ⟨rfl, rfl⟩; rw [hN, hE])
    clear hN hE
    go_loopw [3, 17] (fun sl i wr => ∃ (k : Nat) (s : Ws.Sup) (q : Int), i = .int .i64 k ∧ k ≤ 2 ∧ sl = .int .i64 q ∧ Hid (pst f k = (s, q)) ∧ Hid (Sh wr w.heap.size s) ∧ Hid (Below w.heap.size w wr)) (fun _ i _ => 2 - (intOf i).toNat)
    case atStart => exact ⟨0, Ws.s0, 0, rfl, by omega, rfl, Wc.hid rfl, Wc.hid (Sh.new w Ws.s0), Wc.hid ((Below.refl w.heap.size w).alloc (Nat.le_refl _) _)⟩
    case round =>
      obtain ⟨k, s, q, rfl, hk, rfl, HQ, HS, HB⟩ := hrel
      by_cases hlt : k < 2
      · go_wp2_with fail
        refine (inslot_any _ _ _ k m xs _ (HV.out.keep HB.out) HD.out hlt).mono ?_
        rintro e w2 ⟨rfl, hb2⟩
        rw [← HF.out k]
        have HN : Hid (pst f (k + 1) = if s.gen < (f k).gen then (f k, (k : Int)) else (s, q)) := Wc.hid (by show (if (pst f k).1.gen < (f k).gen then (f k, (k : Int)) else pst f k) = _; rw [HQ.out])
        generalize f k = t at HN ⊢
        have A2 := Wc.hid ((HS.out.keep hb2).keep ((Below.refl _ _).alloc (Nat.le_refl _) (.cells #[.int .i64 t.gen, .int .i64 t.blocks, .int .i64 t.root, .int .i64 t.size, .int .i64 t.first] 23)))
        have hbb := Wc.step HB.out (Nat.le_refl _) hb2
        have HB2 := Wc.hid (hbb.alloc hbb.size (.cells #[.int .i64 t.gen, .int .i64 t.blocks, .int .i64 t.root, .int .i64 t.size, .int .i64 t.first] 23))
        have ⟨c0, c1, c2, c3, c4⟩ := A2.out.sc
        have f0 := A2.out.frozen 0
        have f1 := A2.out.frozen 1
        have f2 := A2.out.frozen 2
        have f3 := A2.out.frozen 3
        have f4 := A2.out.frozen 4
        clear hbb hb2
        unfold sv
        by_cases hgt : s.gen < t.gen
        · rw [if_pos hgt] at HN
          go_wp2_with fail
          go_roundw
          case rel => exact ⟨k + 1, t, k, by go_num, by omega, rfl, HN, Wc.hid (A2.out.set t), Wc.hid (below5 HB2.out (Nat.le_refl _) t)⟩
          case measure => simp only [intOf]; omega
        · rw [if_neg hgt] at HN
          go_wp2_with fail
          go_roundw
          case rel => exact ⟨k + 1, s, q, by go_num, by omega, rfl, HN, A2, HB2⟩
          case measure => simp only [intOf]; omega
      · obtain rfl : k = 2 := by omega
        have ⟨c0, c1, c2, c3, c4⟩ := HS.out.sc
        have f0 := HS.out.frozen 0
        have f1 := HS.out.frozen 1
        have f2 := HS.out.frozen 2
        have f3 := HS.out.frozen 3
        have f4 := HS.out.frozen 4
        by_cases h0 : s.gen = 0
        · have g0 : (s.gen == 0) = true := by simpa using h0
          have HA : Hid (pickA xs = (Ws.s0, 0, 8)) := Wc.hid (by rw [HP.out, HQ.out, if_pos h0])
          clear h0 hlt
          go_wp2_with fail
          rw [HA.out]
          exact bodyPost_ret (ret_cell3 rfl rfl rfl rfl (HS.out.set Ws.s0).sc) rfl ⟨rfl, below5 HB.out (Nat.le_refl _) Ws.s0⟩
        · have g0 : (s.gen == 0) = false := by simpa using h0
          have HA : Hid (pickA xs = (s, q, 0)) := Wc.hid (by rw [HP.out, HQ.out, if_neg h0])
          clear h0 hlt
          go_wp2_with fail
          rw [HA.out]
          exact bodyPost_ret (ret_cell3 rfl rfl rfl rfl (HS.out.set s).sc) rfl ⟨rfl, below5 HB.out (Nat.le_refl _) s⟩
  · have hE := (Wd.chk_no (fun h => hd (Wd.devB_iff.2 h))).2.symm
    have HA : Hid (pickA xs = (Ws.s0, 0, 2)) := Wc.hid (by rw [pickA, HL.out, if_neg hd])
    clear hd
    go_enter Try.func11, Try.ntmps11
    go_wp2_with (go_at_call 26; refine (check_any _ _ _ _ hni).mono ?_; rintro e w' ⟨rfl, rfl⟩; rw [hE])
    rw [HA.out]
    exact bodyPost_ret (ret_cell3 rfl rfl rfl rfl (Sc.new w Ws.s0 23)) rfl ⟨rfl, (Below.refl w.heap.size w).alloc (Nat.le_refl _) _⟩

end Go.Proofs.Ytkddnjpkkkknfaa
