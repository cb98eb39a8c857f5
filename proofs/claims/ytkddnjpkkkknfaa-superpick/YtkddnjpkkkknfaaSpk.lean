/-
  SuperPick returns true, for every three ints.
-/
import Derived.Test.YtkddnjpkkkknfaaStwo
import Derived.Test.YtkddnjpkkkknfaaSbnd
namespace Go.Proofs.Ytkddnjpkkkknfaa
open Go.RowKit

theorem made384 : ∃ (xs : List Int) (Z : Array Value), (∀ X Y : List Int, X.length = 64 → Y.length = 64 → Wd.stepsE xs.length (two X Y) = 0 ∧ (Wd.appR xs (two X Y)).length = 384 ∧ pickA (Wd.appR xs (two X Y)) = Ws.picks (Ws.slotS 6 X) (Ws.slotS 6 Y)) ∧
    (∀ w : World, (Instr.makeSlice 24 (.int .i64 384) (.int .i64 384)).run Try.prog w = .ok (.slice (some ⟨w.heap.size, 0, none⟩) 384 384) (w.alloc (.cells Z 5))) ∧
    ∀ (w : World) (g : Nat), g = w.heap.size → Wc.Bs (w.alloc (.cells Z 5)) (.slice (some ⟨g, 0, none⟩) 384 384) xs := by
  obtain ⟨xs, Z, hx, hm, hb⟩ := made 384 (by omega)
  exact ⟨xs, Z, fun X Y h1 h2 => by rw [hx]; exact two_pick X Y 384 rfl h1 h2, hm, hb⟩

/-- Bytes of a superblock that is right: the block is told by what it holds alone. -/
theorem bytes6_ex (s : Ws.Sup) (w : World) (hs : Ws.supB s = true) :
    Calls Try.prog 9 #[.agg #[.int .i64 s.gen, .int .i64 s.blocks, .int .i64 s.root, .int .i64 s.size, .int .i64 s.first]] w fun e w' => ∃ g, e = .returned (.tuple #[.slice (some ⟨g, 0, none⟩) 64 64, .int .i64 0]) ∧ w.heap.size ≤ g ∧ Rb w' g (Ws.blk s) ∧ Below w.heap.size w w' :=
  bytes6_ok s w hs

theorem Rb.set {w : World} {g : Nat} {X : List Int} (h : Rb w g X) (hX : X.length = 64) (i : Nat) (hi : i < 64) (q : Int) : Rb (w.setCell ⟨g, i, none⟩ (.int .u8 q)) g (X.set i q) := by
  refine (World.rowIs.set h i (.int .u8 q)).congr fun j hj => ?_
  by_cases hji : j = i
  · subst hji
    rw [if_pos rfl]
    simp [hX, hi]
  · rw [if_neg hji]
    simp [Ne.symm hji]

theorem bs_other {w : World} {b off n cap g i : Nat} {xs : List Int} {u : Value} (h : Wc.Bs w (.slice (some ⟨b, off, none⟩) n cap) xs) (hne : ¬ b = g) : Wc.Bs (w.setCell ⟨g, i, none⟩ u) (.slice (some ⟨b, off, none⟩) n cap) xs := by
  obtain ⟨a', n', cap', h1, h2, h3, h4, h5, h6, h7⟩ := h
  cases h1
  refine ⟨_, n, cap, rfl, h2, h3, h4, h5, h6, fun h0 => ?_⟩
  obtain ⟨b', off', ha, hb, hc⟩ := h7 h0
  cases ha
  refine ⟨b, off, rfl, by simpa using hb, fun j hj => ?_⟩
  rw [World.cell?_setCell_other w ⟨g, i, none⟩ ⟨b, off + j, none⟩ u (fun e => hne (by have := congrArg Addr.block e; simpa using this.symm))]
  exact hc j hj

theorem picks_one {a b : Ws.Sup} (h : 1 ≤ a.gen) (hb : ¬ a.gen < b.gen) : Ws.picks a b = (a, 0, 0) := by
  unfold Ws.picks
  rw [if_pos (show 0 < a.gen by omega), if_neg hb, if_pos (by omega)]

theorem picks_two {a b : Ws.Sup} (h : 0 ≤ a.gen) (hb : a.gen < b.gen) : Ws.picks a b = (b, 1, 0) := by
  unfold Ws.picks
  by_cases h0 : 0 < a.gen
  · rw [if_pos h0, if_pos hb]
  · rw [if_neg h0, if_pos (show Ws.s0.gen < b.gen from by show 0 < b.gen; omega)]

set_option maxRecDepth 100000 in
set_option maxHeartbeats 6400000 in
theorem superPick_any (a b how : Int) (w : World) :
    Calls Try.prog 5 #[.int .i64 a, .int .i64 b, .int .i64 how] w fun e w' => e = .returned (.bool true) ∧ Below w.heap.size w w' := by
  obtain ⟨A, ⟨hA0, hA1⟩, eA⟩ := lowW 1000 a (by omega) (by omega)
  obtain ⟨B, ⟨hB0, hB1⟩, eB⟩ := lowW 1000 b (by omega) (by omega)
  have HX : Hid (Ws.supB ⟨1 + A, 6, 0, 1, 0⟩ = true) := Wc.hid (Ws.supB_iff.2 ⟨⟨show (1 : Int) ≤ 1 + A by omega, show 1 + A ≤ (1099511627776 : Int) by omega⟩, ⟨show (4 : Int) ≤ 6 by omega, show (6 : Int) ≤ 4096 by omega⟩, ⟨show (0 : Int) ≤ 1 by omega, show (1 : Int) ≤ 512 by omega⟩, .inl rfl, .inl rfl⟩)
  have HY : Hid (Ws.supB ⟨1 + B, 6, 0, 2, 0⟩ = true) := Wc.hid (Ws.supB_iff.2 ⟨⟨show (1 : Int) ≤ 1 + B by omega, show 1 + B ≤ (1099511627776 : Int) by omega⟩, ⟨show (4 : Int) ≤ 6 by omega, show (6 : Int) ≤ 4096 by omega⟩, ⟨show (0 : Int) ≤ 2 by omega, show (2 : Int) ≤ 512 by omega⟩, .inl rfl, .inl rfl⟩)
  have HZ : Hid (Ws.supB ⟨2000, 7, 0, 3, 0⟩ = true) := Wc.hid (Ws.supB_iff.2 ⟨⟨show (1 : Int) ≤ 2000 by omega, show 2000 ≤ (1099511627776 : Int) by omega⟩, ⟨show (4 : Int) ≤ 7 by omega, show (7 : Int) ≤ 4096 by omega⟩, ⟨show (0 : Int) ≤ 3 by omega, show (3 : Int) ≤ 512 by omega⟩, .inl rfl, .inl rfl⟩)
  obtain ⟨xs, Z, hpk, hmk, hzb⟩ := made384
  have HPK := Wc.hid hpk
  have HZB := Wc.hid (hzb w _ rfl)
  have HB0 := Wc.hid ((Below.refl w.heap.size w).alloc (Nat.le_refl _) (.cells Z 5))
  clear hpk hzb
  go_enter Try.func5, Try.ntmps5
  go_wp2_with fail
  clear hmk
  obtain ⟨X, hX⟩ : ∃ X, Ws.blk ⟨1 + A, 6, 0, 1, 0⟩ = X := ⟨_, rfl⟩
  obtain ⟨Y, hY⟩ : ∃ Y, Ws.blk ⟨1 + B, 6, 0, 2, 0⟩ = Y := ⟨_, rfl⟩
  obtain ⟨V, hV⟩ : ∃ V, Ws.blk ⟨2000, 7, 0, 3, 0⟩ = V := ⟨_, rfl⟩
  have HLX : Hid (X.length = 64 ∧ ∀ x ∈ X, 0 ≤ x ∧ x < 256) := Wc.hid (by rw [← hX]; exact ⟨Ws.blk_length _, Ws.blk_bd _⟩)
  have HLY : Hid (Y.length = 64 ∧ ∀ x ∈ Y, 0 ≤ x ∧ x < 256) := Wc.hid (by rw [← hY]; exact ⟨Ws.blk_length _, Ws.blk_bd _⟩)
  have HLV : Hid (V.length = 64 ∧ ∀ x ∈ V, 0 ≤ x ∧ x < 256) := Wc.hid (by rw [← hV]; exact ⟨Ws.blk_length _, Ws.blk_bd _⟩)
  have SX : Hid (Ws.slotS 6 X = ⟨1 + A, 6, 0, 1, 0⟩) := Wc.hid (by rw [← hX]; exact slot_own HX.out 6 rfl)
  have SY : Hid (Ws.slotS 6 Y = ⟨1 + B, 6, 0, 2, 0⟩) := Wc.hid (by rw [← hY]; exact slot_own HY.out 6 rfl)
  have SV : Hid (Ws.slotS 6 V = Ws.s0) := Wc.hid (by rw [← hV]; exact slot_other HZ.out 6 (show ¬ (7 : Int) = 6 by omega))
  have SB : Hid (∀ q, (0 ≤ q ∧ q < 256) → ¬ q = X.getD 9 0 → Ws.slotS 6 (X.set 9 q) = Ws.s0) := Wc.hid (by rw [← hX]; exact fun q h1 h2 => slot_bent HX.out 6 q h1 h2)
  have hbx := bytes6_ex _ (w.alloc (.cells Z 5)) HX.out
  rw [hX] at hbx
  refine hbx.mono ?_
  clear hbx hX
  rintro e w1 ⟨g1, rfl, hg1, hr1, hb1⟩
  have R1 := Wc.hid hr1
  have V1 := Wc.hid (HZB.out.keep hb1)
  have B1 := Wc.hid (Wc.step HB0.out (Nat.le_refl _) hb1)
  clear hr1 hb1 HZB HB0
  go_wp2_with fail
  have hby := bytes6_ex _ w1 HY.out
  rw [hY] at hby
  refine hby.mono ?_
  clear hby hY
  rintro e w2 ⟨g2, rfl, hg2, hr2, hb2⟩
  have R2 := Wc.hid (R1.out.keep hb2)
  have Q2 := Wc.hid hr2
  have V2 := Wc.hid (V1.out.keep hb2)
  have B2 := Wc.hid (Wc.step B1.out (Nat.le_refl _) hb2)
  have hne12 : ¬ g1 = g2 := by have := R1.out.lt; omega
  clear hr2 hb2 R1 V1 B1
  go_wp2_with fail
  have hbz := bytes6_ex _ w2 HZ.out
  rw [hV] at hbz
  refine hbz.mono ?_
  clear hbz hV
  rintro e w3 ⟨g3, rfl, hg3, hr3, hb3⟩
  have R3 := Wc.hid (R2.out.keep hb3)
  have Q3 := Wc.hid (Q2.out.keep hb3)
  have P3 := Wc.hid hr3
  have V3 := Wc.hid (V2.out.keep hb3)
  have B3 := Wc.hid (Wc.step B2.out (Nat.le_refl _) hb3)
  clear hr3 hb3 R2 Q2 V2 B2
  have hx9 := R3.out.cell (i := 9) (by omega)
  have hfz := R3.out.frozen 9
  obtain ⟨v, hv⟩ : ∃ v, X.getD 9 0 = v := ⟨_, rfl⟩
  rw [hv] at hx9 SB
  have HVB : Hid (0 ≤ v ∧ v < 256) := Wc.hid (by rw [← hv]; exact HLX.out.2 _ (by have := HLX.out.1; rw [List.getD_eq_getElem?_getD, List.getElem?_eq_getElem (by omega)]; simp))
  clear hv
  go_wp2_with fail
  · have HSL : Hid (pickA (Wd.appR xs (two X Y)) = (⟨1 + B, 6, 0, 2, 0⟩, 1, 0)) := Wc.hid (by rw [(HPK.out X Y HLX.out.1 HLY.out.1).2.2, SX.out, SY.out]; exact picks_two (show (0 : Int) ≤ 1 + A by omega) (show (1 : Int) + A < 1 + B by omega))
    have HST := Wc.hid (HPK.out X Y HLX.out.1 HLY.out.1).1
    have HLN := Wc.hid (HPK.out X Y HLX.out.1 HLY.out.1).2.1
    clear HPK
    refine (apply_any _ _ _ _ _ _ xs (two X Y) _ (V3.out.alloc _) (two_is _ _ _ _ _ _ X Y (R3.out.bs HLX.out.1 HLX.out.2) (Q3.out.bs HLY.out.1 HLY.out.2) (.inr ⟨_, _, _, rfl⟩) (.inr ⟨_, _, _, rfl⟩) _ (by simp))).mono ?_
    rintro e w4 ⟨ax, cx, rfl, hx4, hb4⟩
    rw [HST.out, HLN.out]
    rw [HLN.out] at hx4
    have HX4 := Wc.hid hx4
    have B4 := Wc.hid (Wc.step (B3.out.alloc B3.out.size _) (Nat.le_refl _) hb4)
    clear hx4 hb4
    go_wp2_with fail
    refine (pick_any _ _ _ _ _ HX4.out).mono ?_
    rintro e w5 ⟨rfl, hb5⟩
    rw [HSL.out]
    have B5 := Wc.hid (Wc.step B4.out (Nat.le_refl _) hb5)
    clear hb5
    unfold sv
    go_wp2_with fail
    refine (wakes_any _).mono ?_
    rintro e w6 ⟨rfl, hb6⟩
    go_wp2_with fail
    go_ret
    exact ⟨rfl, Wc.step (B5.out.alloc B5.out.size _) (Nat.le_refl _) hb6⟩
  · have HSL : Hid (pickA (Wd.appR xs (two X Y)) = (⟨1 + A, 6, 0, 1, 0⟩, 0, 0)) := Wc.hid (by rw [(HPK.out X Y HLX.out.1 HLY.out.1).2.2, SX.out, SY.out]; exact picks_one (show (1 : Int) ≤ 1 + A by omega) (show ¬ (1 : Int) + A < 1 + B by omega))
    have HST := Wc.hid (HPK.out X Y HLX.out.1 HLY.out.1).1
    have HLN := Wc.hid (HPK.out X Y HLX.out.1 HLY.out.1).2.1
    clear HPK
    refine (apply_any _ _ _ _ _ _ xs (two X Y) _ (V3.out.alloc _) (two_is _ _ _ _ _ _ X Y (R3.out.bs HLX.out.1 HLX.out.2) (Q3.out.bs HLY.out.1 HLY.out.2) (.inr ⟨_, _, _, rfl⟩) (.inr ⟨_, _, _, rfl⟩) _ (by simp))).mono ?_
    rintro e w4 ⟨ax, cx, rfl, hx4, hb4⟩
    rw [HST.out, HLN.out]
    rw [HLN.out] at hx4
    have HX4 := Wc.hid hx4
    have B4 := Wc.hid (Wc.step (B3.out.alloc B3.out.size _) (Nat.le_refl _) hb4)
    clear hx4 hb4
    go_wp2_with fail
    refine (pick_any _ _ _ _ _ HX4.out).mono ?_
    rintro e w5 ⟨rfl, hb5⟩
    rw [HSL.out]
    have B5 := Wc.hid (Wc.step B4.out (Nat.le_refl _) hb5)
    clear hb5
    unfold sv
    go_wp2_with fail
    refine (wakes_any _).mono ?_
    rintro e w6 ⟨rfl, hb6⟩
    go_wp2_with fail
    go_ret
    exact ⟨rfl, Wc.step (B5.out.alloc B5.out.size _) (Nat.le_refl _) hb6⟩
  · have hq : 0 ≤ (v + 1) % 256 ∧ (v + 1) % 256 < 256 := by omega
    have HXS := Wc.hid (SB.out ((v + 1) % 256) hq (by have := HVB.out; omega))
    have HLS : Hid ((X.set 9 ((v + 1) % 256)).length = 64 ∧ ∀ x ∈ X.set 9 ((v + 1) % 256), 0 ≤ x ∧ x < 256) := Wc.hid ⟨by rw [List.length_set]; exact HLX.out.1, fun x hx => by rcases List.mem_or_eq_of_mem_set hx with h | h; exact HLX.out.2 x h; rw [h]; exact hq⟩
    have RS := Wc.hid (R3.out.set HLX.out.1 9 (by omega) ((v + 1) % 256))
    have QS : Hid (Rb (w3.setCell ⟨g1, 9, none⟩ (.int .u8 ((v + 1) % 256))) g2 Y) := Wc.hid (World.rowIs.setOther Q3.out (by exact fun e => hne12 e.symm) _)
    have VS : Hid (Wc.Bs (w3.setCell ⟨g1, 9, none⟩ (.int .u8 ((v + 1) % 256))) (.slice (some ⟨w.heap.size, 0, none⟩) 384 384) xs) := Wc.hid (bs_other V3.out (by simp at hg1; omega))
    have BS : Hid (Below w.heap.size w (w3.setCell ⟨g1, 9, none⟩ (.int .u8 ((v + 1) % 256)))) := Wc.hid (B3.out.setCell (by simp at hg1; show w.heap.size ≤ g1; omega) _)
    clear hq
    have HSL : Hid (pickA (Wd.appR xs (two (X.set 9 ((v + 1) % 256)) Y)) = (⟨1 + B, 6, 0, 2, 0⟩, 1, 0)) := Wc.hid (by rw [(HPK.out (X.set 9 ((v + 1) % 256)) Y HLS.out.1 HLY.out.1).2.2, HXS.out, SY.out]; exact picks_two (show (0 : Int) ≤ 0 by omega) (show (0 : Int) < 1 + B by omega))
    have HST := Wc.hid (HPK.out (X.set 9 ((v + 1) % 256)) Y HLS.out.1 HLY.out.1).1
    have HLN := Wc.hid (HPK.out (X.set 9 ((v + 1) % 256)) Y HLS.out.1 HLY.out.1).2.1
    clear HPK
    refine (apply_any _ _ _ _ _ _ xs (two (X.set 9 ((v + 1) % 256)) Y) _ (VS.out.alloc _) (two_is _ _ _ _ _ _ (X.set 9 ((v + 1) % 256)) Y (RS.out.bs HLS.out.1 HLS.out.2) (QS.out.bs HLY.out.1 HLY.out.2) (.inr ⟨_, _, _, rfl⟩) (.inr ⟨_, _, _, rfl⟩) _ (by simp))).mono ?_
    rintro e w4 ⟨ax, cx, rfl, hx4, hb4⟩
    rw [HST.out, HLN.out]
    rw [HLN.out] at hx4
    have HX4 := Wc.hid hx4
    have B4 := Wc.hid (Wc.step (BS.out.alloc BS.out.size _) (Nat.le_refl _) hb4)
    clear hx4 hb4
    go_wp2_with fail
    refine (pick_any _ _ _ _ _ HX4.out).mono ?_
    rintro e w5 ⟨rfl, hb5⟩
    rw [HSL.out]
    have B5 := Wc.hid (Wc.step B4.out (Nat.le_refl _) hb5)
    clear hb5
    unfold sv
    go_wp2_with fail
    refine (wakes_any _).mono ?_
    rintro e w6 ⟨rfl, hb6⟩
    go_wp2_with fail
    go_ret
    exact ⟨rfl, Wc.step (B5.out.alloc B5.out.size _) (Nat.le_refl _) hb6⟩
  · have HSL : Hid (pickA (Wd.appR xs (two X V)) = (⟨1 + A, 6, 0, 1, 0⟩, 0, 0)) := Wc.hid (by rw [(HPK.out X V HLX.out.1 HLV.out.1).2.2, SX.out, SV.out]; exact picks_one (show (1 : Int) ≤ 1 + A by omega) (show ¬ (1 : Int) + A < 0 by omega))
    have HST := Wc.hid (HPK.out X V HLX.out.1 HLV.out.1).1
    have HLN := Wc.hid (HPK.out X V HLX.out.1 HLV.out.1).2.1
    clear HPK
    refine (apply_any _ _ _ _ _ _ xs (two X V) _ (V3.out.alloc _) (two_is _ _ _ _ _ _ X V (R3.out.bs HLX.out.1 HLX.out.2) (P3.out.bs HLV.out.1 HLV.out.2) (.inr ⟨_, _, _, rfl⟩) (.inr ⟨_, _, _, rfl⟩) _ (by simp))).mono ?_
    rintro e w4 ⟨ax, cx, rfl, hx4, hb4⟩
    rw [HST.out, HLN.out]
    rw [HLN.out] at hx4
    have HX4 := Wc.hid hx4
    have B4 := Wc.hid (Wc.step (B3.out.alloc B3.out.size _) (Nat.le_refl _) hb4)
    clear hx4 hb4
    go_wp2_with fail
    refine (pick_any _ _ _ _ _ HX4.out).mono ?_
    rintro e w5 ⟨rfl, hb5⟩
    rw [HSL.out]
    have B5 := Wc.hid (Wc.step B4.out (Nat.le_refl _) hb5)
    clear hb5
    unfold sv
    go_wp2_with fail
    refine (wakes_any _).mono ?_
    rintro e w6 ⟨rfl, hb6⟩
    go_wp2_with fail
    go_ret
    exact ⟨rfl, Wc.step (B5.out.alloc B5.out.size _) (Nat.le_refl _) hb6⟩
  · have HSL : Hid (pickA (Wd.appR xs (two V Y)) = (⟨1 + B, 6, 0, 2, 0⟩, 1, 0)) := Wc.hid (by rw [(HPK.out V Y HLV.out.1 HLY.out.1).2.2, SV.out, SY.out]; exact picks_two (show (0 : Int) ≤ 0 by omega) (show (0 : Int) < 1 + B by omega))
    have HST := Wc.hid (HPK.out V Y HLV.out.1 HLY.out.1).1
    have HLN := Wc.hid (HPK.out V Y HLV.out.1 HLY.out.1).2.1
    clear HPK
    refine (apply_any _ _ _ _ _ _ xs (two V Y) _ (V3.out.alloc _) (two_is _ _ _ _ _ _ V Y (P3.out.bs HLV.out.1 HLV.out.2) (Q3.out.bs HLY.out.1 HLY.out.2) (.inr ⟨_, _, _, rfl⟩) (.inr ⟨_, _, _, rfl⟩) _ (by simp))).mono ?_
    rintro e w4 ⟨ax, cx, rfl, hx4, hb4⟩
    rw [HST.out, HLN.out]
    rw [HLN.out] at hx4
    have HX4 := Wc.hid hx4
    have B4 := Wc.hid (Wc.step (B3.out.alloc B3.out.size _) (Nat.le_refl _) hb4)
    clear hx4 hb4
    go_wp2_with fail
    refine (pick_any _ _ _ _ _ HX4.out).mono ?_
    rintro e w5 ⟨rfl, hb5⟩
    rw [HSL.out]
    have B5 := Wc.hid (Wc.step B4.out (Nat.le_refl _) hb5)
    clear hb5
    unfold sv
    go_wp2_with fail
    refine (wakes_any _).mono ?_
    rintro e w6 ⟨rfl, hb6⟩
    go_wp2_with fail
    go_ret
    exact ⟨rfl, Wc.step (B5.out.alloc B5.out.size _) (Nat.le_refl _) hb6⟩

end Go.Proofs.Ytkddnjpkkkknfaa
