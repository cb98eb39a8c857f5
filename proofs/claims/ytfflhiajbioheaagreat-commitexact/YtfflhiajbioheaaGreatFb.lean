/-
  What the statement's right returns: why a commit may not be made.
-/
import Derived.Test.YtfflhiajbioheaaGreatEj
import Derived.BigQuiet
import Derived.Deep.QuietTactic
namespace Wq
theorem nxt_one {s : Ws.Sup} {root size first : Int} (h : Ws.supB s = true) (hg : s.gen < 1099511627776) : Ws.supB (nxt s root size first) = Ws.supB ⟨1, s.blocks, root, size, first⟩ := by
  have hs := (Ws.supB_iff.1 h).1
  rw [Bool.eq_iff_iff, Ws.supB_iff, Ws.supB_iff]
  constructor
  · exact fun k => ⟨⟨by show (1 : Int) ≤ 1; decide, by show (1 : Int) ≤ 1099511627776; decide⟩, k.2⟩
  · exact fun k => ⟨⟨by show (1 : Int) ≤ s.gen + 1; omega, by show s.gen + 1 ≤ 1099511627776; omega⟩, k.2⟩
theorem sE_not {s : Ws.Sup} {t : Int} {l : List Wd.Io} {root size first : Int} (h : ¬ (Ws.supB s = true ∧ s.gen < 1099511627776 ∧ 0 ≤ t ∧ t ≤ 1)) : sE s t l root size first = 8 := by
  unfold sE
  rw [if_neg (fun e => h (rdyB_iff.1 e))]
end Wq
namespace Go.Proofs.YtfflhiajbioheaaGreat
open Go.RowKit

set_option maxRecDepth 100000 in
set_option maxHeartbeats 12800000 in
theorem right15_any (s : Ws.Sup) (t : Int) (v : Value) (a : Option Addr) (n cap : Nat) (l : List Wd.Io) (root size first : Int) (w : World) (hI : Wd.Is w (.slice a n cap) l) :
    Calls Tryz.prog 9 #[stv s t v, .slice a n cap, .int .i64 root, .int .i64 size, .int .i64 first] w fun e w' => e = .returned (.int .i64 (Wq.sE s t l root size first)) ∧ Below w.heap.size w w' := by
  have bA := (Below.refl w.heap.size w).alloc (Nat.le_refl _) (.cells #[.int .i64 s.gen, .int .i64 s.blocks, .int .i64 s.root, .int .i64 s.size, .int .i64 s.first, .int .i64 t, v] 26)
  have Z := Zh.new w s t v
  have HI := Wc.hid (hI.keep bA)
  have HL := Wc.hid (Wd.is_len hI)
  have hnn := (Wd.is_cap hI).2.2
  obtain ⟨W1, hW1⟩ : ∃ W1, w.alloc (.cells #[.int .i64 s.gen, .int .i64 s.blocks, .int .i64 s.root, .int .i64 s.size, .int .i64 s.first, .int .i64 t, v] 26) = W1 := ⟨_, rfl⟩
  rw [hW1] at bA Z HI
  have HW1 := Wc.hid hW1
  have BA := Wc.hid bA
  have HZ := Wc.hid Z
  clear hW1 bA Z hI
  cases h1 : Ws.supB s
  case false =>
    have hE := Wc.hid (Wq.sE_not (s := s) (t := t) (l := l) (root := root) (size := size) (first := first) (fun h => by rw [h1] at h; exact absurd h.1 (by decide)))
    unfold stv
    go_enter Tryz.func9, Tryz.ntmps9
    go_wp2_with fail
    rw [HW1.out]
    have ⟨z0, z1, z2, z3, z4, z5, z6⟩ := HZ.out.zc
    go_wp2_with (go_at_call 25; refine (refSuper_any s _).mono ?_; rintro e w2 ⟨rfl, hb2⟩; rw [h1]; have HB2 := Wc.hid hb2; clear hb2)
    go_ret
    exact ⟨by rw [hE.out]; rfl, Wc.step BA.out (Nat.le_refl _) HB2.out⟩
  by_cases h2 : s.gen < 1099511627776 ∧ (t = 0 ∨ t = 1)
  case neg =>
    have hE := Wc.hid (Wq.sE_not (s := s) (t := t) (l := l) (root := root) (size := size) (first := first) (fun h => h2 ⟨h.2.1, by omega⟩))
    unfold stv
    go_enter Tryz.func9, Tryz.ntmps9
    go_wp2_with fail
    rw [HW1.out]
    have ⟨z0, z1, z2, z3, z4, z5, z6⟩ := HZ.out.zc
    by_cases h3 : (1099511627776 : Int) ≤ s.gen
    · clear h2
      go_wp2_with fail
      refine (refSuper_any s _).mono ?_
      rintro e w2 ⟨rfl, hb2⟩
      rw [h1]
      have ⟨y0, y1, y2, y3, y4, y5, y6⟩ := (HZ.out.keep hb2).zc
      have B2 := Wc.hid (Wc.step BA.out (Nat.le_refl _) hb2)
      clear hb2 z0 z1 z2 z3 z4 z5 z6
      go_wp2_with fail
      go_ret
      exact ⟨by rw [hE.out]; rfl, B2.out⟩
    · have h4 : ¬ t = 0 := fun h => h2 ⟨by omega, .inl h⟩
      have h5 : ¬ t = 1 := fun h => h2 ⟨by omega, .inr h⟩
      clear h2
      go_wp2_with fail
      refine (refSuper_any s _).mono ?_
      rintro e w2 ⟨rfl, hb2⟩
      rw [h1]
      have ⟨y0, y1, y2, y3, y4, y5, y6⟩ := (HZ.out.keep hb2).zc
      have B2 := Wc.hid (Wc.step BA.out (Nat.le_refl _) hb2)
      clear hb2 z0 z1 z2 z3 z4 z5 z6
      go_wp2_with fail
      all_goals first
        | (go_ret; exact ⟨by rw [hE.out]; rfl, B2.out⟩)
        | (exfalso; have hx := ‹s.gen < 1099511627776 ∧ ((t != 0) = false ∨ (t != 1) = false)›; rcases hx.2 with hx | hx <;> simp at hx <;> omega)
  have hrd : Wq.rdyB s t = true := Wq.rdyB_iff.2 ⟨h1, h2.1, by omega, by omega⟩
  have hnx := Wq.nxt_one (root := root) (size := size) (first := first) h1 h2.1
  have h3 : ¬ (1099511627776 : Int) ≤ s.gen := by omega
  have h45 := h2.2
  cases h6 : Ws.supB ⟨1, s.blocks, root, size, first⟩
  case false =>
    have hE := Wc.hid (sE_arg (l := l) hrd (hnx.trans h6))
    unfold stv
    go_enter Tryz.func9, Tryz.ntmps9
    go_wp2_with fail
    rw [HW1.out]
    have ⟨z0, z1, z2, z3, z4, z5, z6⟩ := HZ.out.zc
    rcases h45 with ht | ht
    all_goals
      subst ht
      clear h2 hrd hnx
      go_wp2_with fail
      refine (refSuper_any s _).mono ?_
      rintro e w2 ⟨rfl, hb2⟩
      rw [h1]
      have ⟨y0, y1, y2, y3, y4, y5, y6⟩ := (HZ.out.keep hb2).zc
      have B2 := Wc.hid (Wc.step BA.out (Nat.le_refl _) hb2)
      clear hb2 z0 z1 z2 z3 z4 z5 z6
      go_wp2_with fail
      refine (refSuper_any ⟨1, s.blocks, root, size, first⟩ _).mono ?_
      rintro e w3 ⟨rfl, hb3⟩
      rw [h6]
      have B3 := Wc.hid (Wc.step B2.out (Nat.le_refl _) hb3)
      clear hb3 y0 y1 y2 y3 y4 y5 y6
      go_wp2_with fail
      go_ret
      exact ⟨by rw [hE.out]; rfl, B3.out⟩
  have HBAD := Wc.hid (fun h => sE_io (l := l) hrd (hnx.trans h6) h)
  have HGOOD := Wc.hid (fun h => sE_ok (l := l) hrd (hnx.trans h6) h)
  obtain ⟨c, hcv⟩ : ∃ c, Wq.sE s t l root size first = c := ⟨_, rfl⟩
  rw [hcv] at HBAD HGOOD ⊢
  clear hcv
  unfold stv
  go_enter Tryz.func9, Tryz.ntmps9
  go_wp2_with fail
  rw [HW1.out]
  have ⟨z0, z1, z2, z3, z4, z5, z6⟩ := HZ.out.zc
  rcases h45 with ht | ht
  all_goals
    subst ht
    clear h2 hrd hnx
    go_wp2_with fail
    refine (refSuper_any s _).mono ?_
    rintro e w2 ⟨rfl, hb2⟩
    rw [h1]
    have Z2 := Wc.hid (HZ.out.keep hb2)
    have I2 := Wc.hid (HI.out.keep hb2)
    have ⟨y0, y1, y2, y3, y4, y5, y6⟩ := (HZ.out.keep hb2).zc
    have B2 := Wc.hid (Wc.step BA.out (Nat.le_refl _) hb2)
    clear hb2 z0 z1 z2 z3 z4 z5 z6
    go_wp2_with fail
    refine (refSuper_any ⟨1, s.blocks, root, size, first⟩ _).mono ?_
    rintro e w3 ⟨rfl, hb3⟩
    rw [h6]
    have B3 := Wc.hid (Wc.step B2.out (Nat.le_refl _) hb3)
    have Z3 := Wc.hid (Z2.out.keep hb3)
    have I3 := Wc.hid (I2.out.keep hb3)
    clear hb3 y0 y1 y2 y3 y4 y5 y6
    go_wp2_with fail
    go_loopw [11] (fun i wr => ∃ (k : Nat), i = .int .i64 k ∧ k ≤ n ∧ Hid (∀ j, j < k → Wq.okW s.blocks (l.getD j Wd.d0) = true) ∧ Hid (Below w3.heap.size w3 wr)) (fun i _ => n - (intOf i).toNat)
    case atStart => exact ⟨0, rfl, Nat.zero_le _, Wc.hid (fun j h => by omega), Wc.hid (Below.refl _ _)⟩
    case round =>
      obtain ⟨k, rfl, hk, HZk, BR⟩ := hrel
      by_cases hlt : k < n
      · obtain ⟨b, off, rfl, hbl, hcs⟩ : ∃ b off, a = some ⟨b, off, none⟩ ∧ b < w3.heap.size ∧ ∀ i, i < n → ∃ a' c', Wd.At w3 b (off + i * 3) (l.getD i Wd.d0) a' c' := by
          obtain ⟨_, _, _, h1, _, _, _, _, h6⟩ := I3.out; cases h1; exact h6 (by omega)
        obtain ⟨ax, cx, hx⟩ := hcs k hlt
        have hkl : k < l.length := by rw [HL.out]; exact hlt
        have hbad : Wq.okW s.blocks (l.getD k Wd.d0) = false → l.all (Wq.okW s.blocks) = false := fun h => Wq.all_bad hkl h
        obtain ⟨x, hxe⟩ : ∃ x, l.getD k Wd.d0 = x := ⟨_, rfl⟩
        rw [hxe] at hx hbad
        obtain ⟨c0, c1, c2, c3, c4⟩ := hx.keep BR.out
        have HXE := Wc.hid hxe
        have HOKX : Hid (Wq.okW s.blocks x = true ↔ x.kind = 1 ∧ 2 ≤ x.pos ∧ x.pos ≤ s.blocks - 1 ∧ x.data.length = 64) := Wc.hid Wq.okW_iff
        have HBB := Wc.hid (fun h => HBAD.out (hbad h))
        obtain ⟨kd, hkd⟩ : ∃ kd, x.kind = kd := ⟨_, rfl⟩
        obtain ⟨ps, hps⟩ : ∃ ps, x.pos = ps := ⟨_, rfl⟩
        obtain ⟨dl, hdl⟩ : ∃ dl, x.data.length = dl := ⟨_, rfl⟩
        rw [hkd] at c0 HOKX
        rw [hps] at c1 HOKX
        rw [hdl] at c2 HOKX
        have ⟨z0, z1, z2, z3, z4, z5, z6⟩ := (Z3.out.keep BR.out).zc
        have hlt2 : (k : Int) < (n : Int) := by omega
        have HRET := Wc.hid (Wc.step B3.out (Nat.le_refl _) BR.out)
        have HN : Hid (Wq.okW s.blocks x = true → ∀ j, j < k + 1 → Wq.okW s.blocks (l.getD j Wd.d0) = true) := Wc.hid (fun h j hj => by
          by_cases hjk : j = k
          · subst hjk; rw [HXE.out]; exact h
          · exact HZk.out j (by omega))
        clear hcs hx hxe hbad hkl c3 c4 hbl z0 z2 z3 z4 z5 z6 hkd hps hdl hlt
        have HRB : Hid (∀ k0, Wq.okW s.blocks x = k0 → k0 = false → c = 1) := Wc.hid (fun k0 h h0 => HBB.out (by rw [h, h0]))
        by_cases e1 : kd = 1
        · by_cases e2 : ps < 2
          · have d1 : (kd != 1) = false := by rw [e1]; rfl
            have d2 : decide (ps < 2) = true := decide_eq_true e2
            have d0 : decide ((k : Int) < (n : Int)) = true := decide_eq_true hlt2
            have hc : c = 1 := HRB.out _ rfl (by rw [Bool.eq_false_iff]; intro h; have := HOKX.out.1 h; omega)
            subst hc
            clear e1 e2
            go_wp2_with fail
            go_big_quiet (fail)
            go_wp2_with fail
            go_ret
            exact ⟨rfl, below_drewN HRET.out _⟩
          · by_cases e3 : s.blocks ≤ ps
            · have d1 : (kd != 1) = false := by rw [e1]; rfl
              have d2 : decide (ps < 2) = false := decide_eq_false e2
              have d3 : decide (s.blocks ≤ ps) = true := decide_eq_true e3
              have hc : c = 1 := HRB.out _ rfl (by rw [Bool.eq_false_iff]; intro h; have := HOKX.out.1 h; omega)
              subst hc
              clear e1 e2 e3
              go_wp2_with fail
              go_big_quiet (fail)
              go_wp2_with fail
              go_ret
              exact ⟨rfl, below_drewN HRET.out _⟩
            · have d1 : (kd != 1) = false := by rw [e1]; rfl
              have d2 : decide (ps < 2) = false := decide_eq_false e2
              have d3 : decide (s.blocks ≤ ps) = false := decide_eq_false e3
              by_cases e4 : dl = 64
              · have hgood := HN.out (HOKX.out.2 ⟨e1, by omega, by omega, e4⟩)
                have HGD := Wc.hid hgood
                subst e4
                clear e1 e2 e3 hgood
                go_wp2_with fail
                go_big_quiet (fail)
                go_wp2_with fail
                go_roundw
                case rel => exact ⟨k + 1, by go_num, by omega, HGD, Wc.hid (BR.out.trans (below_drewN (Below.refl _ _) _))⟩
                case measure => simp [intOf]; omega
              · have d4 : ((dl : Int) != 64) = true := by simp; omega
                have hc : c = 1 := HRB.out _ rfl (by rw [Bool.eq_false_iff]; intro h; have := HOKX.out.1 h; omega)
                subst hc
                clear e1 e2 e3 e4
                go_wp2_with fail
                go_big_quiet (fail)
                go_wp2_with fail
                go_ret
                exact ⟨rfl, below_drewN HRET.out _⟩
        · have d1 : (kd != 1) = true := by simpa using e1
          have hc : c = 1 := HRB.out _ rfl (by rw [Bool.eq_false_iff]; intro h; have := HOKX.out.1 h; omega)
          subst hc
          clear e1
          go_wp2_with fail
          go_big_quiet (fail)
          go_wp2_with fail
          go_ret
          exact ⟨rfl, below_drewN HRET.out _⟩
      · obtain rfl : k = n := by omega
        have hg : c = 0 := HGOOD.out (Wq.all_good (fun j hj => HZk.out j (by rw [HL.out] at hj; exact hj)))
        subst hg
        have hlt3 : ¬ (k : Int) < (k : Int) := by omega
        go_wp2_with fail
        go_ret
        exact ⟨rfl, Wc.step B3.out (Nat.le_refl _) BR.out⟩
end Go.Proofs.YtfflhiajbioheaaGreat
