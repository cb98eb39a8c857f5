/-
  CommitTurns: what the statement's function returns.
-/
import Derived.Test.YtfflhiajbioheaaEj
namespace Wq
theorem nxt_ok {s : Ws.Sup} {size : Int} (hs : Ws.supB s = true) (hg : s.gen < 1099511627776) (h0 : 0 ≤ size) (h1 : size ≤ 512) : Ws.supB (nxt s 0 size 0) = true := by
  rw [Ws.supB_iff] at hs ⊢
  refine ⟨⟨?_, ?_⟩, hs.2.1, ⟨h0, h1⟩, .inl rfl, .inl rfl⟩
  · show (1 : Int) ≤ s.gen + 1; omega
  · show s.gen + 1 ≤ (1099511627776 : Int); omega
theorem sE_none {s : Ws.Sup} {t size : Int} (hs : Ws.supB s = true) (hg : s.gen < 1099511627776) (ht0 : 0 ≤ t) (ht1 : t ≤ 1) (h0 : 0 ≤ size) (h1 : size ≤ 512) : sE s t [] 0 size 0 = 0 := by
  unfold sE
  rw [if_pos (rdyB_iff.2 ⟨hs, hg, ht0, ht1⟩), if_pos (nxt_ok hs hg h0 h1)]
  rfl
end Wq
namespace Go.Proofs.Ytfflhiajbioheaa
open Go.RowKit

set_option maxRecDepth 100000 in
set_option maxHeartbeats 6400000 in
theorem turns_any (b n size : Int) (w : World) :
    Calls Try.prog 4 #[.int .i64 b, .int .i64 n, .int .i64 size] w fun e w' => e = .returned (.bool true) ∧ Below w.heap.size w w' := by
  obtain ⟨A, hA, eA⟩ := lowN b 20 (by omega) (by omega)
  obtain ⟨N, hN, eN⟩ := lowN n 20 (by omega) (by omega)
  have eA' : wrap64 ((IntKind.u64.wrap b).tmod 20) = (A : Int) := eA
  have eN' : wrap64 ((IntKind.u64.wrap n).tmod 20) = (N : Int) := eN
  have eB : wrap64 (4 + (A : Int)) = ((4 + A : Nat) : Int) := by unfold wrap64; omega
  obtain ⟨B, hB⟩ : ∃ B, 4 + A = B := ⟨_, rfl⟩
  rw [hB] at eB
  have h4 : 4 ≤ B := by omega
  have h24 : B ≤ 24 := by omega
  obtain ⟨L, hL⟩ : ∃ L, B * 64 = L := ⟨_, rfl⟩
  have HL := Wc.hid hL
  have H4 := Wc.hid h4
  have H24 := Wc.hid h24
  clear eA eN hB hA hL
  go_enter Try.func4, Try.ntmps4
  go_wp2_with fail
  rw [eA', eN', eB]
  clear eA' eN' eB
  refine (new_yes B L _ H4.out (by have := H24.out; omega) HL.out).mono ?_
  rintro e w1 ⟨g, rfl, hg, hO, hb1⟩
  have HX0 := Wc.hid hO.bs
  have HC0 := Wc.hid (Wq.Cdv.new (m := B) H4.out (by have := H24.out; omega))
  have HB1 := Wc.hid hb1
  have HR1 := Wc.hid (Below.refl w1.heap.size w1)
  clear hg hO hb1 h4 h24
  go_wp2_with fail
  go_loopw [7, 9] (fun img i wr => ∃ (k gk : Nat) (X : List Int) (S : Ws.Sup) (bl : Nat → List Int), i = .int .i64 (k : Int) ∧ k ≤ N ∧ img = .slice (some ⟨gk, 0, none⟩) L L ∧ Hid (Wc.Bs wr (.slice (some ⟨gk, 0, none⟩) L L) X) ∧ Hid (Wq.Cdv X B S (k % 2) bl) ∧ Hid (S.gen = (k : Int) + 1 ∧ S.root = 0 ∧ S.first = 0) ∧ Hid (Below w1.heap.size w1 wr)) (fun _ i _ => N - (intOf i).toNat)
  case atStart => exact ⟨0, g, _, _, _, rfl, Nat.zero_le _, rfl, HX0, HC0, Wc.hid ⟨rfl, rfl, rfl⟩, HR1⟩
  case round =>
    obtain ⟨k, gk, X, S, bl, rfl, hk, rfl, HX, HC, HS, BR⟩ := hrel
    obtain ⟨o1, o2, o3, o4⟩ := cdv_empty HC.out HS.out.2.1 HS.out.2.2
    have htm : (k : Int).tmod 2 = ((k % 2 : Nat) : Int) := by rw [Int.tmod_eq_emod_of_nonneg (by omega)]; omega
    have hgk := HS.out.1
    by_cases hlt : k < N
    · obtain ⟨q, hq, eq⟩ := lowN (wrap64 (size + (k : Int))) 513 (by omega) (by omega)
      have eq' : wrap64 ((IntKind.u64.wrap (wrap64 (size + (k : Int)))).tmod 513) = (q : Int) := eq
      have EQ := Wc.hid eq'
      have hsE := Wq.sE_none (t := ((k % 2 : Nat) : Int)) (size := (q : Int)) HC.out.hs (by omega) (by omega) (by omega) (by omega) (by omega)
      have HSE := Wc.hid hsE
      have HNX := Wc.hid (Wq.nxt_ok (size := (q : Int)) HC.out.hs (by omega) (by omega) (by omega))
      have HO1 := Wc.hid o1
      have HO2 := Wc.hid o2
      have HO3 := Wc.hid o3
      have HTM := Wc.hid htm
      have HGK := Wc.hid hgk
      clear eq eq' hsE o1 o2 o3 o4 hq htm hgk
      go_wp2_with fail
      refine (oopen_any _ X _ HX.out).mono ?_
      rintro e w2 ⟨a, m, c, rfl, hR, hb2⟩
      rw [HO1.out, HO2.out, HO3.out]
      obtain ⟨t, ht⟩ : ∃ t, ((k % 2 : Nat) : Int) = t := ⟨_, rfl⟩
      rw [ht]
      simp only [stv]
      have bA : Below w2.heap.size w2 (w2.alloc (.cells #[.int .i64 S.gen, .int .i64 S.blocks, .int .i64 S.root, .int .i64 S.size, .int .i64 S.first, .int .i64 t, .slice a m c] 33)) := (Below.refl _ _).alloc (Nat.le_refl _) _
      have Z2 := Wc.hid (Zh.new w2 S t (.slice a m c))
      have BR2 := Wc.hid (Wc.step (Wc.step BR.out (Nat.le_refl _) hb2) (Nat.le_refl _) bA)
      have HX2 := Wc.hid ((HX.out.keep hb2).keep bA)
      have HT := Wc.hid ht
      clear hb2 bA hR ht
      have ⟨z0, z1, z2, z3, z4, z5, z6⟩ := Z2.out.zc
      go_wp2_with fail
      rw [EQ.out]
      refine (steps15_any S t (.slice a m c) none 0 0 [] 0 (q : Int) 0 _ (Wd.Is.nil _) (by decide)).mono ?_
      rintro e w3 ⟨hb3, hy, -⟩
      rw [← HT.out] at hy
      obtain ⟨al, cl, rfl, hO⟩ := hy HSE.out
      simp only [List.length_nil, Nat.zero_add] at hO ⊢
      have HO := Wc.hid hO
      have BR3 := Wc.hid (Wc.step BR2.out (Nat.le_refl _) hb3)
      have HX3 := Wc.hid (HX2.out.keep hb3)
      have Z3 := Wc.hid (Z2.out.keep hb3)
      clear hb3 hy hO z0 z1 z2 z3 z4 z5 z6
      go_wp2_with fail
      refine (apply_ob _ L _ _ _ _ X _ _ HX3.out HO.out.is (Wq.sts_ok (B := B) H4.out (by have := H24.out; omega) HL.out (by omega) (by omega) rfl (by decide))).mono ?_
      rintro e w4 ⟨g4, rfl, hg4, hO4, hb4⟩
      obtain ⟨bl', p0, -⟩ := step_open HC.out (q : Int) ((k % 2 : Nat) : Int) rfl HNX.out
      have HP := Wc.hid p0
      have HX4 := Wc.hid hO4.bs
      have BR4 := Wc.hid (Wc.step BR3.out (Nat.le_refl _) hb4)
      have ⟨y0, y1, y2, y3, y4, y5, y6⟩ := (Z3.out.keep hb4).zc
      rw [HGK.out] at y0
      rw [← HT.out, ← HTM.out] at y5
      clear hb4 hg4 hO4 p0
      go_wp2_with fail
      go_roundw
      case rel => exact ⟨k + 1, g4, _, Wq.nxt S 0 (q : Int) 0, bl', by go_num, by omega, rfl, HX4, Wc.hid (by rw [show (k + 1) % 2 = 1 - k % 2 by omega]; exact HP.out), Wc.hid ⟨by show S.gen + 1 = _; rw [HGK.out]; omega, rfl, rfl⟩, BR4⟩
      case measure => simp [intOf]; omega
    · obtain rfl : k = N := by omega
      have HO1 := Wc.hid o1
      have HO2 := Wc.hid o2
      have HO3 := Wc.hid o3
      have HTM := Wc.hid htm
      have HGK := Wc.hid hgk
      clear o1 o2 o3 o4 htm hgk
      go_wp2_with fail
      refine (oopen_any _ X _ HX.out).mono ?_
      rintro e w2 ⟨a, m, c, rfl, hR, hb2⟩
      rw [HO1.out, HO2.out, HO3.out]
      simp only [stv]
      rw [HGK.out, ← HTM.out]
      have BR2 := Wc.hid (Wc.step HB1.out (Nat.le_refl _) (Wc.step BR.out (Nat.le_refl _) hb2))
      clear hb2 hR
      go_wp2_with (go_at_call 12; refine (wakes15_any _).mono ?_; rintro e w9 ⟨rfl, hb9⟩)
      all_goals go_ret
      all_goals exact ⟨rfl, Wc.step (BR2.out.alloc BR2.out.size _) (Nat.le_refl _) hb9⟩
end Go.Proofs.Ytfflhiajbioheaa
