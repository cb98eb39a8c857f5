/-
  CommitCrash: what the statement's function returns.
-/
import Derived.Test.YtfflhiajbioheaaEm
import Derived.Test.YtfflhiajbioheaaEk
namespace Go.Proofs.Ytfflhiajbioheaa
open Go.RowKit

theorem ob_set15 {base g n k i : Nat} {w : World} {xs : List Int} (h : Wc.Ob 5 base w (.slice (some ⟨g, 0, none⟩) n k) xs) {z : Int} (hz : 0 ≤ z ∧ z < 256) : Wc.Ob 5 base (w.setCell ⟨g, i, none⟩ (.int .u8 z)) (.slice (some ⟨g, 0, none⟩) n k) (xs.set i z) := by
  obtain ⟨⟨h1, h2⟩, h3, h4⟩ := h
  rcases h2 with ⟨hn, _⟩ | ⟨g', cap, cur, hv, hbg, hg, c1, c2, c3, c4⟩
  · cases hn
  · injection hv with e1 e2 e3
    injection e1 with e1
    injection e1 with e1
    subst e1 e2 e3
    refine ⟨⟨by simp, .inr ⟨g, k, cur.setIfInBounds i (.int .u8 z), by simp, hbg, heap_setCell_same w g i cur 5 _ hg, by simpa using c1, c2, by simpa using c3, ?_⟩⟩, by simpa using h3, ?_⟩
    · rw [List.length_set, Array.toList_setIfInBounds, List.take_set, c4, List.map_set]
    · intro x hx
      rcases List.mem_or_eq_of_mem_set hx with h | h
      · exact h4 x h
      · rw [h]; exact hz
theorem ob_frozen15 {base g n k i : Nat} {w : World} {xs : List Int} (h : Wc.Ob 5 base w (.slice (some ⟨g, 0, none⟩) n k) xs) : w.frozen? ⟨g, i, none⟩ = false := by
  rcases h.1.2 with ⟨hn, _⟩ | ⟨g', cap, cur, hv, hbg, hg, _⟩
  · cases hn
  · injection hv with e1
    injection e1 with e1
    injection e1 with e1
    subst e1
    simp [World.frozen?, hg]
theorem lowV (i : Int) (m : Nat) (h0 : 0 < m) (h : (m : Int) ≤ 9223372036854775807) : ∃ A : Nat, A < m ∧ wrap64 ((IntKind.u64.wrap i).tmod (m : Int)) = (A : Int) := lowN i m h0 h

set_option maxRecDepth 100000 in
set_option maxHeartbeats 800000 in
theorem cc_long (b size cut : Int) (a : Option Addr) (nl cl : Nat) (ka : Option Addr) (kn kc : Nat) (c : Int) (w : World) (h : 40 < nl ∨ 100 < kn) :
    Calls Try.prog 3 #[.int .i64 b, .int .i64 size, .int .i64 cut, .slice a nl cl, .slice ka kn kc, .int .u8 c] w fun e w' => e = .returned (.bool true) ∧ Below w.heap.size w w' := by
  by_cases h1 : 40 < nl
  · go_enter Try.func3, Try.ntmps3
    go_wp2_with fail
    go_ret
    exact ⟨rfl, Below.refl _ _⟩
  · have h2 : 100 < kn := by omega
    go_enter Try.func3, Try.ntmps3
    go_wp2_with fail
    go_ret
    exact ⟨rfl, Below.refl _ _⟩

set_option maxRecDepth 100000 in
set_option maxHeartbeats 12800000 in
theorem cc_any (b size cut : Int) (a : Option Addr) (nl cl : Nat) (L : List Int) (ka : Option Addr) (kn kc : Nat) (ks : List Bool) (c : Int) (w : World) (hl : Wd.In w (.slice a nl cl) L) (hk : Kp w (.slice ka kn kc) ks) (hn : nl ≤ 40) (hkn : kn ≤ 100) (hc : 0 ≤ c ∧ c < 256) :
    Calls Try.prog 3 #[.int .i64 b, .int .i64 size, .int .i64 cut, .slice a nl cl, .slice ka kn kc, .int .u8 c] w fun e w' => e = .returned (.bool true) ∧ Below w.heap.size w w' := by
  obtain ⟨A, hA, eA⟩ := lowN b 40 (by omega) (by omega)
  obtain ⟨q, hq, eq⟩ := lowN size 513 (by omega) (by omega)
  have eA' : wrap64 ((IntKind.u64.wrap b).tmod 40) = (A : Int) := eA
  have eq' : wrap64 ((IntKind.u64.wrap size).tmod 513) = (q : Int) := eq
  have eB : wrap64 (8 + (A : Int)) = ((8 + A : Nat) : Int) := by unfold wrap64; omega
  obtain ⟨B, hB⟩ : ∃ B, 8 + A = B := ⟨_, rfl⟩
  rw [hB] at eB
  have h8 : 8 ≤ B ∧ B ≤ 48 := by omega
  obtain ⟨N, hN⟩ : ∃ N, B * 64 = N := ⟨_, rfl⟩
  obtain ⟨M, hM⟩ : ∃ M, B - 2 = M := ⟨_, rfl⟩
  have HN := Wc.hid hN
  have H8 := Wc.hid h8
  have HM := Wc.hid hM
  have HQ : Hid (q ≤ 512) := Wc.hid (by omega)
  have HL := Wc.hid hl
  have HLL := Wc.hid (Wv.rv_len hl)
  have HK := Wc.hid hk
  have HC := Wc.hid hc
  clear eA eq hB hA hN hM hq hl hk hc
  go_enter Try.func3, Try.ntmps3
  go_wp2_with fail
  rw [eA', eq', eB]
  clear eA' eq' eB
  refine (new_yes B N _ (by have := H8.out; omega) (by have := H8.out; omega) HN.out).mono ?_
  rintro e w1 ⟨g, rfl, hg, hO, hb1⟩
  have HX1 := Wc.hid hO.bs
  have BR1 := Wc.hid hb1
  have HLx := Wc.hid (HL.out.keep hb1)
  have HKx := Wc.hid (HK.out.keep hb1)
  have HSL := Wc.hid (new_slots (m := B) (by have := H8.out; omega) (by have := H8.out; omega))
  have HSO := Wc.hid (Wi.newS_ok (m := B) (by have := H8.out; omega) (by have := H8.out; omega))
  obtain ⟨o1, o2, o3, o4⟩ := cdv_empty (Wq.Cdv.new (m := B) (by have := H8.out; omega) (by have := H8.out; omega)) rfl rfl
  obtain ⟨X, hX⟩ : ∃ X, Wi.newI B = X := ⟨_, rfl⟩
  obtain ⟨S, hS⟩ : ∃ S, Wi.newS B = S := ⟨_, rfl⟩
  have HSF : Hid (S.gen = 1 ∧ S.blocks = (B : Int)) := Wc.hid (by rw [← hS]; exact ⟨rfl, rfl⟩)
  rw [hX] at o1 o2 o3 o4 HX1 HSL
  rw [hS] at o2 HSL HSO
  have o3 : opnT X = 0 := o3
  clear hg hO hb1 hX hS h8
  go_wp2_with fail
  refine (oopen_any _ X _ HX1.out).mono ?_
  rintro e w2 ⟨a2, m2, c2, rfl, hR, hb2⟩
  rw [o1, o2, o3]
  simp only [stv]
  have bA : Below w2.heap.size w2 (w2.alloc (.cells #[.int .i64 S.gen, .int .i64 S.blocks, .int .i64 S.root, .int .i64 S.size, .int .i64 S.first, .int .i64 0, .slice a2 m2 c2] 33)) := (Below.refl _ _).alloc (Nat.le_refl _) _
  have Z2 := Wc.hid (Zh.new w2 S 0 (.slice a2 m2 c2))
  have bB := Wc.step hb2 (Nat.le_refl _) bA
  have BR2 := Wc.hid (Wc.step BR1.out (Nat.le_refl _) bB)
  have HX2 := Wc.hid (HX1.out.keep bB)
  have HL2 := Wc.hid (HLx.out.keep bB)
  have HK2 := Wc.hid (HKx.out.keep bB)
  obtain ⟨W2, hW2⟩ : ∃ W2, w2.alloc (.cells #[.int .i64 S.gen, .int .i64 S.blocks, .int .i64 S.root, .int .i64 S.size, .int .i64 S.first, .int .i64 0, .slice a2 m2 c2] 33) = W2 := ⟨_, rfl⟩
  have HW2 := Wc.hid hW2
  rw [hW2] at Z2 BR2 HX2 HL2 HK2
  have HO0 := Wc.hid (Wd.Oi.nil 38 5 W2.heap.size W2)
  have BW0 := Wc.hid (Below.refl W2.heap.size W2)
  obtain ⟨P, hP⟩ : ∃ P, w2.heap.size = P := ⟨_, rfl⟩
  have HP := Wc.hid hP
  rw [hP] at Z2
  clear hb2 bA bB hR o1 o2 o3 o4 hW2 hP HLx HKx
  go_wp2_with fail
  rw [HW2.out, HP.out]
  go_loopw [17, 18] (fun ws i wr => ∃ (k : Nat) (xa : Option Addr) (xc : Nat) (Wl : List Wd.Io), i = .int .i64 (k : Int) ∧ k ≤ nl ∧ ws = .slice xa k xc ∧ Hid (Wd.Oi 38 5 W2.heap.size wr (.slice xa k xc) Wl) ∧ Hid (Wl.length = k ∧ Wl.all (Wq.okW (B : Int)) = true) ∧ Hid (Below W2.heap.size W2 wr)) (fun _ i _ => nl - (intOf i).toNat)
  case atStart => exact ⟨0, none, 0, [], rfl, Nat.zero_le _, rfl, HO0, Wc.hid ⟨rfl, rfl⟩, BW0⟩
  case round =>
    obtain ⟨k, xa, xc, Wl, rfl, hk, rfl, HO, HW, BW⟩ := hrel
    by_cases hlt : k < nl
    · have htm : (k : Int).tmod 64 = (k : Int) := by rw [Int.tmod_eq_emod_of_nonneg (by omega)]; omega
      obtain ⟨W3, G, hmk, hG, hO3, b3⟩ : ∃ W3 G, (Instr.makeSlice 25 (.int .i64 64) (.int .i64 64)).run Try.prog wr = .ok (.slice (some ⟨G, 0, none⟩) 64 64) W3 ∧ wr.heap.size = G ∧ Wc.Ob 5 wr.heap.size W3 (.slice (some ⟨G, 0, none⟩) 64 64) (List.replicate 64 0) ∧ Below wr.heap.size wr W3 :=
        ⟨_, _, makeN 64 (by decide) wr, rfl, made_ob 64 (by decide) wr, (Below.refl wr.heap.size wr).alloc (Nat.le_refl _) _⟩
      have hc3 : W3.cell? ⟨G, k, none⟩ = some (.int .u8 0) := by
        rcases hO3.bs.open with ⟨h, -⟩ | ⟨b', o', n', c', e, -, -, -, -, -, -, -, h⟩
        · exact absurd (congrArg List.length h) (by simp)
        · cases e
          have := h k (by omega)
          rw [Nat.zero_add] at this
          rw [this, List.getD_eq_getElem?_getD, List.getElem?_replicate, if_pos (by omega)]; rfl
      have hf3 := ob_frozen15 (i := k) hO3
      have hO4 := ob_set15 (i := k) hO3 HC.out
      have b4 := b3.setCell (p := ⟨G, k, none⟩) (by rw [hG]; exact Nat.le_refl _) (.int .u8 c)
      obtain ⟨W4, hW4⟩ : ∃ W4, W3.setCell ⟨G, k, none⟩ (.int .u8 c) = W4 := ⟨_, rfl⟩
      have HW4 := Wc.hid hW4
      have hs4 : W3.heap.size = W4.heap.size := by rw [← hW4]; simp
      rw [hW4] at hO4 b4
      obtain ⟨bl, off, rfl, hbl, hcl⟩ : ∃ b off, a = some ⟨b, off, none⟩ ∧ b < W2.heap.size ∧ ∀ i, i < nl → W2.cell? ⟨b, off + i, none⟩ = some (.int .i64 (L.getD i 0)) := by
        obtain ⟨_, _, _, h1, _, _, _, _, h6⟩ := HL2.out; cases h1; exact h6 (by omega)
      have hz4 := (b4.cell (p := ⟨bl, off + k, none⟩) (Nat.lt_of_lt_of_le hbl BW.out.size)).trans ((BW.out.cell (p := ⟨bl, off + k, none⟩) hbl).trans (hcl k hlt))
      obtain ⟨z, hz⟩ : ∃ z, L.getD k 0 = z := ⟨_, rfl⟩
      rw [hz] at hz4
      obtain ⟨p, hp, ep⟩ := lowN z M (by have := HM.out; have := H8.out; omega) (by have := HM.out; have := H8.out; omega)
      have hU : IntKind.u64.wrap ((B : Int) - 2) = (M : Int) := by rw [IntKind.wrap_u64]; have := HM.out; have := H8.out; omega
      have hM0 : ¬ (M : Int) = 0 := by have := HM.out; have := H8.out; omega
      have hMp : 2 + p < B ∧ B ≤ 48 := by have := HM.out; have := H8.out; omega
      have hxl : ((List.replicate 64 (0 : Int)).set k c).length = 64 := by simp
      obtain ⟨D, hD⟩ : ∃ D, (List.replicate 64 (0 : Int)).set k c = D := ⟨_, rfl⟩
      rw [hD] at hO4 hxl
      have BW4 := Wc.hid (Wc.step BW.out (Nat.le_refl _) b4)
      have HD4 := Wc.hid (hO4.base (base' := W2.heap.size) BW.out.size)
      have HI4 := Wc.hid (HO.out.keep b4)
      have hkL : Wl.length + 1 ≤ 1048576 := by rw [HW.out.1]; omega
      obtain ⟨za, zc, w5, hrun, hO5, hb5⟩ := push_io15 W4 W3.heap.size W2.heap.size hs4 (.slice xa k xc) Wl 1 (2 + (p : Int)) G D hxl HI4.out HD4.out hkL BW4.out.size
      rw [HW.out.1] at hrun hO5
      have HO5 := Wc.hid hO5
      have BW5 := Wc.hid ((BW4.out.alloc BW4.out.size (.cells #[.int .i64 1, .int .i64 (2 + (p : Int)), .slice (some ⟨G, 0, none⟩) 64 64] 38)).trans hb5)
      have HW5 : Hid ((Wl ++ ([⟨1, 2 + (p : Int), D⟩] : List Wd.Io)).length = k + 1 ∧ (Wl ++ ([⟨1, 2 + (p : Int), D⟩] : List Wd.Io)).all (Wq.okW (B : Int)) = true) := Wc.hid (by
        refine ⟨by rw [List.length_append, HW.out.1]; rfl, ?_⟩
        rw [List.all_append, HW.out.2, Bool.true_and, List.all_cons, List.all_nil, Bool.and_true, Wq.okW_iff]
        refine ⟨rfl, ?_, ?_, hxl⟩
        · show (2 : Int) ≤ 2 + (p : Int); omega
        · show 2 + (p : Int) ≤ (B : Int) - 1; omega)
      rw [← HW4.out] at hrun hz4
      clear hb5 hO5 hkL hO4 b4 hbl hcl hz hD hxl hW4 hG hO3 b3 hs4
      go_wp2_with (at_builtin; refine Wv.wp_append hrun rfl rfl rfl rfl ?_)
      go_roundw
      case rel => exact ⟨k + 1, za, zc, _, by go_num, by omega, rfl, HO5, HW5, BW5⟩
      case measure => simp [intOf]; omega
    · obtain rfl : k = nl := by omega
      have hrd : Wq.rdyB S 0 = true := Wq.rdyB_iff.2 ⟨HSO.out, by rw [HSF.out.1]; decide, by decide, by decide⟩
      have hnx : Ws.supB (Wq.nxt S 0 (q : Int) 0) = true := Wq.nxt_ok HSO.out (by rw [HSF.out.1]; decide) (by omega) (by have := HQ.out; omega)
      have hsE := sE_ok (l := Wl) hrd hnx (by rw [HSF.out.2]; exact HW.out.2)
      have HSE := Wc.hid hsE
      have HNX := Wc.hid hnx
      have Z3 := Wc.hid (Z2.out.keep BW.out)
      have ⟨z0, z1, z2, z3, z4, z5, z6⟩ := Z3.out.zc
      have HX3 := Wc.hid (HX2.out.keep BW.out)
      have HK3 := Wc.hid (HK2.out.keep BW.out)
      have BR3 := Wc.hid (Wc.step BR2.out (Nat.le_refl _) BW.out)
      clear hrd hnx hsE
      go_wp2_with fail
      refine (steps15_any S 0 (.slice a2 m2 c2) xa k xc Wl 0 (q : Int) 0 _ HO.out.is (by omega)).mono ?_
      rintro e w5 ⟨hb5, hy, -⟩
      obtain ⟨al, al2, rfl, hO5⟩ := hy HSE.out
      rw [HW.out.1] at hO5 ⊢
      obtain ⟨K, hK⟩ : ∃ K, k + 3 = K := ⟨_, rfl⟩
      rw [hK] at hO5 ⊢
      have HO5 := Wc.hid hO5
      have Z5 := Wc.hid (Z3.out.keep hb5)
      have HX5 := Wc.hid (HX3.out.keep hb5)
      have HK5 := Wc.hid (HK3.out.keep hb5)
      have BR5 := Wc.hid (Wc.step BR3.out (Nat.le_refl _) hb5)
      have HKk := Wc.hid hK
      obtain ⟨C, hC, eC⟩ := lowN cut (K + 1) (by omega) (by omega)
      have hU : IntKind.u64.wrap ((K : Int) + 1) = ((K + 1 : Nat) : Int) := by rw [IntKind.wrap_u64]; omega
      have hK0 : ¬ ((K + 1 : Nat) : Int) = 0 := by omega
      have hK3 : (k : Int) + 3 = (K : Int) := by omega
      have hK43 : K ≤ 43 := by omega
      have eC' : wrap64 ((IntKind.u64.wrap cut).tmod ((K : Int) + 1)) = (C : Int) := by exact eC
      have hXl : X.length = N := Wc.bs_len HX5.out
      have h8 := H8.out
      have hok : Wd.stepsE X.length (Wq.sts S 0 Wl 0 (q : Int) 0) = 0 := by
        rw [hXl]
        exact Wq.sts_ok (B := B) (by omega) (by omega) HN.out (by decide) (by decide) HW.out.2 (by rw [HW.out.1]; omega)
      have hln : (Wq.sts S 0 Wl 0 (q : Int) 0).length = K := by rw [(Wq.sts_at (s := S) (t := 0) (l := Wl) (root := 0) (size := (q : Int)) (first := 0)).2.2.2.2, HW.out.1, HKk.out]
      have hcE : Wd.crE X.length (Wq.sts S 0 Wl 0 (q : Int) 0) (C : Int) = 0 := by
        unfold Wd.crE
        rw [if_pos hok, if_pos ⟨by omega, by rw [hln]; omega⟩]
      have hcR : Wd.crR X (Wq.sts S 0 Wl 0 (q : Int) 0) (C : Int) ks = Wd.crashL X (Wq.sts S 0 Wl 0 (q : Int) 0) C ks := by
        unfold Wd.crR
        rw [if_pos hcE, Int.toNat_natCast]
      have hpk := crash_pick (by omega) (by omega) HSO.out HSF.out.2 HW.out.2 HNX.out HSL.out (ks := ks) (cut := C) (by rw [HW.out.1]; omega)
      rw [HW.out.1, HKk.out] at hpk
      obtain ⟨Y, hY⟩ : ∃ Y, Wd.crashL X (Wq.sts S 0 Wl 0 (q : Int) 0) C ks = Y := ⟨_, rfl⟩
      rw [hY] at hcR hpk
      have HCE := Wc.hid hcE
      have HCR := Wc.hid hcR
      have HPK := Wc.hid hpk
      have hCK : C ≤ K := by omega
      clear hb5 hO5 hy z0 z1 z2 z3 z4 z5 z6 hK eC hok hln hcE hcR hpk hXl hY h8
      go_wp2_with fail
      rw [eC']
      refine (crash_any _ N N al K al2 (C : Int) ka kn kc X _ ks _ HX5.out HO5.out.is HK5.out).mono ?_
      rintro e w6 ⟨ax, cx, rfl, hY6, hb6⟩
      rw [HCE.out]
      rw [HCR.out] at hY6 ⊢
      obtain ⟨yl, hyl⟩ : ∃ yl, Y.length = yl := ⟨_, rfl⟩
      rw [hyl] at hY6 ⊢
      have HY6 := Wc.hid hY6
      have Z6 := Wc.hid (Z5.out.keep hb6)
      have BR6 := Wc.hid (Wc.step BR5.out (Nat.le_refl _) hb6)
      clear hb6 hY6 hyl eC'
      go_wp2_with fail
      refine (pick_any ax yl cx Y _ HY6.out).mono ?_
      rintro e w7 ⟨rfl, hb7⟩
      have Z7 := Wc.hid (Z6.out.keep hb7)
      have BR7 := Wc.hid (Wc.step BR6.out (Nat.le_refl _) hb7)
      have ⟨z0, z1, z2, z3, z4, z5, z6⟩ := Z7.out.zc
      have hPw : P < w7.heap.size := Z7.out.lt
      have hg1 := HSF.out.1
      clear hb7
      rcases HPK.out with ⟨hlo, hp⟩ | ⟨hhi, hp⟩
      · rw [hp]
        simp only [sv]
        have heq := eql_sup S S
        have hee : supEq S S = true := by unfold supEq; simp
        rw [hee] at heq
        have hCne : ¬ (C : Int) = (K : Int) := by omega
        by_cases hck : C ≤ k + 1
        · have hck' : (C : Int) ≤ (k : Int) + 1 := by omega
          go_wp2_with (go_at_call 12; refine (wakes15_any _).mono ?_; rintro e w9 ⟨rfl, hb9⟩)
          all_goals go_ret
          all_goals exact ⟨rfl, Wc.step (BR7.out.alloc BR7.out.size _) (Nat.le_refl _) hb9⟩
        · have hck' : ¬ (C : Int) ≤ (k : Int) + 1 := by omega
          go_wp2_with (go_at_call 12; refine (wakes15_any _).mono ?_; rintro e w9 ⟨rfl, hb9⟩)
          all_goals go_ret
          all_goals exact ⟨rfl, Wc.step (BR7.out.alloc BR7.out.size _) (Nat.le_refl _) hb9⟩
      · rw [hp]
        simp only [sv, Wq.nxt]
        have heq := eql_sup (Wq.nxt S 0 (q : Int) 0) S
        have hee : supEq (Wq.nxt S 0 (q : Int) 0) S = false := supEq_no (fun e => by have h : S.gen + 1 = S.gen := congrArg Ws.Sup.gen e; omega)
        rw [hee] at heq
        simp only [Wq.nxt] at heq
        by_cases hck : C = K
        · have hck' : (C : Int) = (K : Int) := by omega
          go_wp2_with (go_at_call 12; refine (wakes15_any _).mono ?_; rintro e w9 ⟨rfl, hb9⟩)
          all_goals go_ret
          all_goals exact ⟨rfl, Wc.step (BR7.out.alloc BR7.out.size _) (Nat.le_refl _) hb9⟩
        · have hCne : ¬ (C : Int) = (K : Int) := by omega
          have hck' : ¬ (C : Int) ≤ (k : Int) + 1 := by omega
          go_wp2_with (go_at_call 12; refine (wakes15_any _).mono ?_; rintro e w9 ⟨rfl, hb9⟩)
          all_goals go_ret
          all_goals exact ⟨rfl, Wc.step (BR7.out.alloc BR7.out.size _) (Nat.le_refl _) hb9⟩
end Go.Proofs.Ytfflhiajbioheaa
