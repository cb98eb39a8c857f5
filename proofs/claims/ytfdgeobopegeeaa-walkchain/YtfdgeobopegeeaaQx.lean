/-
  What woodcutlaw11.Records returns: a device with records one behind the other.
-/
import Derived.Test.YtfdgeobopegeeaaQv
namespace Go.Proofs.Ytfdgeobopegeeaa
open Go.RowKit

set_option maxRecDepth 100000 in
set_option maxHeartbeats 3200000 in
theorem lrecs_any (b a n N : Nat) (id : Int) (w : World) (h4 : 4 ≤ b) (hb : b ≤ 4096) (ha : 2 ≤ a) (h : a + n ≤ b) (hn : n ≤ 100) (h1 : 1 ≤ id) (h2 : id ≤ 1000000) (hN : b * 64 = N) :
    Calls Try.prog 22 #[.int .i64 (b : Int), .int .i64 (a : Int), .int .i64 (n : Int), .int .i64 id] w fun e w' => ∃ g, e = .returned (.slice (some ⟨g, 0, none⟩) N N) ∧ Wc.Ob 5 w.heap.size w' (.slice (some ⟨g, 0, none⟩) N N) (Wi.rcX b a n (Wi.fr n a id)) ∧ Below w.heap.size w w' := by
  have eN : (b : Int) * 64 = (N : Int) := by omega
  have mk := makeN N (by omega)
  have bA := (Below.refl w.heap.size w).alloc (Nat.le_refl _) (.cells (madeCells #[Value.int .u8 0] N) 5)
  have bB := (Below.refl (w.alloc (.cells (madeCells #[Value.int .u8 0] N) 5)).heap.size (w.alloc (.cells (madeCells #[Value.int .u8 0] N) 5))).alloc (Nat.le_refl _) (.cells #[] 59)
  have HO := Wc.hid ((made_ob N (by omega) w).keep bB)
  have HB := Wc.hid (Wc.step bA (Nat.le_refl _) bB)
  have HI := Wc.hid (Wd.Oi.empty 59 5 w.heap.size (w.alloc (.cells (madeCells #[Value.int .u8 0] N) 5)) (w.heap.size + 1) (by simp) (by omega))
  have HN := Wc.hid hN
  obtain ⟨f, hf⟩ : ∃ f, Wi.fr n a id = f := ⟨_, rfl⟩
  rw [hf]
  have HF := Wc.hid hf
  have HRC : Hid (∀ i, i < n → Wr.recB (f i) = true) := Wc.hid (fun i hi => by rw [← hf]; exact Wi.fr_ok ha (by omega) h1 h2 hi)
  clear bA bB hN hf HI HO HB
  go_enter Try.func22, Try.ntmps22
  go_wp2_with fail
  obtain ⟨W1, hW1⟩ : ∃ W1, w.alloc (.cells (madeCells #[Value.int .u8 0] N) 5) = W1 := ⟨_, rfl⟩
  have hO1 := made_ob N (by omega) w
  have b1 := (Below.refl w.heap.size w).alloc (Nat.le_refl _) (.cells (madeCells #[Value.int .u8 0] N) 5)
  have hs1 : W1.heap.size = w.heap.size + 1 := by rw [← hW1]; simp
  rw [hW1] at hO1 b1 ⊢
  have HS1 := Wc.hid hs1
  have HO1 := Wc.hid hO1
  have HB1 := Wc.hid b1
  have bB := (Below.refl W1.heap.size W1).alloc (Nat.le_refl _) (.cells #[] 59)
  have HI := Wc.hid (Wd.Oi.empty 59 5 W1.heap.size W1 (w.heap.size + 1) hs1.symm (by omega))
  have HBB := Wc.hid bB
  clear mk eN hW1 hs1 hO1 b1 bB
  go_loopw [10, 11] (fun l i wr => ∃ (k : Nat) (xa : Option Addr) (xn xc : Nat), i = .int .i64 k ∧ k ≤ n ∧ l = .slice xa xn xc ∧ Hid (Wd.Oi 59 5 W1.heap.size wr (.slice xa xn xc) (Wi.stp a f k)) ∧ Hid (Below W1.heap.size W1 wr)) (fun _ i _ => n - (intOf i).toNat)
  case atStart => exact ⟨0, _, _, _, rfl, by omega, rfl, HI, HBB⟩
  case round =>
    obtain ⟨k, xa, xn, xc, rfl, hk, rfl, RI, RB⟩ := hrel
    by_cases hlt : k < n
    · by_cases hl : k + 1 < n
      · have hfk : f k = ⟨(a : Int) + k + 1, id + k, 0, 0, 0, 0, 0, 0⟩ := by rw [← HF.out]; unfold Wi.fr; rw [if_pos hl]; congr 1
        have hrec := HRC.out k hlt
        rw [hfk] at hrec
        have HFK := Wc.hid hfk
        have HREC := Wc.hid hrec
        have bR := (Below.refl wr.heap.size wr).alloc (Nat.le_refl _) (.cells #[.int .i64 ((a : Int) + k + 1), .int .i64 (id + k), .int .i64 0, .int .i64 0, .int .i64 0, .int .i64 0, .int .i64 0, .int .i64 0] 67)
        have HI1 := Wc.hid (RI.out.keep bR)
        have HB1' := Wc.hid (Wc.step RB.out (Nat.le_refl _) bR)
        have ⟨c0, c1, c2, c3, c4, c5, c6, c7⟩ := (Rh.new wr ⟨(a : Int) + k + 1, id + k, 0, 0, 0, 0, 0, 0⟩).rc
        simp only at c0 c1 c2 c3 c4 c5 c6 c7
        clear hfk hrec bR
        go_wp2_with fail
        refine (bytes8_ok ⟨(a : Int) + k + 1, id + k, 0, 0, 0, 0, 0, 0⟩ _ HREC.out).mono ?_
        rintro e w2 ⟨g2, rfl, hg2, hr2, hb2⟩
        have hD2 := Wd.row_ob (base := W1.heap.size) hr2 (Wr.blk_length _) (by decide) (Wr.blk_bd _) (by have := HB1'.out.size; omega)
        have hI2 := HI1.out.keep hb2
        have hB2 := Wc.step HB1'.out (Nat.le_refl _) hb2
        obtain ⟨ya, yn, yc, w3, hrun, hI3, hb3⟩ := pushio_run w2 w2.heap.size W1.heap.size rfl (.slice xa xn xc) (Wi.stp a f k) 1 ((a : Int) + k) g2 64 _ (Wr.blk_length _) hI2 hD2 (by rw [Wi.stp_length]; omega) hB2.size
        have hb3' := (hB2.alloc hB2.size (.cells #[.int .i64 1, .int .i64 ((a : Int) + k), .slice (some ⟨g2, 0, none⟩) 64 64] 59)).trans hb3
        rw [← HFK.out, ← show ((a + k : Nat) : Int) = (a : Int) + k from Int.natCast_add a k, ← Wi.stp_succ] at hI3
        have HI3 := Wc.hid hI3
        have HB3 := Wc.hid hb3'
        clear hg2 hr2 hb2 hD2 hI2 hB2 hI3 hb3 hb3' c0 c1 c2 c3 c4 c5 c6 c7
        go_wp2_with (at_builtin; refine Wv.wp_append hrun rfl rfl rfl rfl ?_)
        go_roundw
        case rel => exact ⟨k + 1, ya, yn, yc, by go_num, by omega, rfl, HI3, HB3⟩
        case measure => simp [intOf]; omega
      · have hfk : f k = ⟨0, id + k, 0, 0, 0, 0, 0, 0⟩ := by rw [← HF.out]; unfold Wi.fr; rw [if_neg hl]
        have hrec := HRC.out k hlt
        rw [hfk] at hrec
        have HFK := Wc.hid hfk
        have HREC := Wc.hid hrec
        have bR := (Below.refl wr.heap.size wr).alloc (Nat.le_refl _) (.cells #[.int .i64 (0), .int .i64 (id + k), .int .i64 0, .int .i64 0, .int .i64 0, .int .i64 0, .int .i64 0, .int .i64 0] 67)
        have HI1 := Wc.hid (RI.out.keep bR)
        have HB1' := Wc.hid (Wc.step RB.out (Nat.le_refl _) bR)
        have ⟨c0, c1, c2, c3, c4, c5, c6, c7⟩ := (Rh.new wr ⟨0, id + k, 0, 0, 0, 0, 0, 0⟩).rc
        simp only at c0 c1 c2 c3 c4 c5 c6 c7
        clear hfk hrec bR
        go_wp2_with fail
        refine (bytes8_ok ⟨0, id + k, 0, 0, 0, 0, 0, 0⟩ _ HREC.out).mono ?_
        rintro e w2 ⟨g2, rfl, hg2, hr2, hb2⟩
        have hD2 := Wd.row_ob (base := W1.heap.size) hr2 (Wr.blk_length _) (by decide) (Wr.blk_bd _) (by have := HB1'.out.size; omega)
        have hI2 := HI1.out.keep hb2
        have hB2 := Wc.step HB1'.out (Nat.le_refl _) hb2
        obtain ⟨ya, yn, yc, w3, hrun, hI3, hb3⟩ := pushio_run w2 w2.heap.size W1.heap.size rfl (.slice xa xn xc) (Wi.stp a f k) 1 ((a : Int) + k) g2 64 _ (Wr.blk_length _) hI2 hD2 (by rw [Wi.stp_length]; omega) hB2.size
        have hb3' := (hB2.alloc hB2.size (.cells #[.int .i64 1, .int .i64 ((a : Int) + k), .slice (some ⟨g2, 0, none⟩) 64 64] 59)).trans hb3
        rw [← HFK.out, ← show ((a + k : Nat) : Int) = (a : Int) + k from Int.natCast_add a k, ← Wi.stp_succ] at hI3
        have HI3 := Wc.hid hI3
        have HB3 := Wc.hid hb3'
        clear hg2 hr2 hb2 hD2 hI2 hB2 hI3 hb3 hb3' c0 c1 c2 c3 c4 c5 c6 c7
        go_wp2_with (at_builtin; refine Wv.wp_append hrun rfl rfl rfl rfl ?_)
        go_roundw
        case rel => exact ⟨k + 1, ya, yn, yc, by go_num, by omega, rfl, HI3, HB3⟩
        case measure => simp [intOf]; omega
    · have hkn : k = n := by omega
      subst hkn
      by_cases h0 : k = 0
      · have hS : Wi.rcS b a k = ⟨1, b, 0, 0, 0⟩ := by unfold Wi.rcS; rw [if_pos h0]
        have hok := Wi.rcS_ok (n := k) h4 hb ha h
        rw [hS] at hok
        have HS := Wc.hid hS
        have HOK := Wc.hid hok
        have bR := (Below.refl wr.heap.size wr).alloc (Nat.le_refl _) (.cells #[.int .i64 1, .int .i64 (b : Int), .int .i64 0, .int .i64 0, .int .i64 (0)] 33)
        have HI1 := Wc.hid (RI.out.keep bR)
        have HB1' := Wc.hid (Wc.step RB.out (Nat.le_refl _) bR)
        have ⟨c0, c1, c2, c3, c4⟩ := (Sh.new wr ⟨1, b, 0, 0, 0⟩).sc
        simp only at c0 c1 c2 c3 c4
        clear hS hok bR
        go_wp2_with fail
        refine (bytes6_ok ⟨1, b, 0, 0, 0⟩ _ HOK.out).mono ?_
        rintro e w2 ⟨g2, rfl, hg2, hr2, hb2⟩
        have hD2 := Wd.row_ob (base := W1.heap.size) hr2 (Ws.blk_length _) (by decide) (Ws.blk_bd _) (by have := HB1'.out.size; omega)
        have hI2 := HI1.out.keep hb2
        have hB2 := Wc.step HB1'.out (Nat.le_refl _) hb2
        obtain ⟨ya, yn, yc, w3, hrun, hI3, hb3⟩ := pushio_run w2 w2.heap.size W1.heap.size rfl (.slice xa xn xc) (Wi.stp a f k) 1 0 g2 64 _ (Ws.blk_length _) hI2 hD2 (by rw [Wi.stp_length]; omega) hB2.size
        have hb3' := (hB2.alloc hB2.size (.cells #[.int .i64 1, .int .i64 0, .slice (some ⟨g2, 0, none⟩) 64 64] 59)).trans hb3
        rw [← HS.out] at hI3
        have HI3 := Wc.hid hI3
        have HB3 := Wc.hid hb3'
        clear hg2 hr2 hb2 hD2 hI2 hB2 hI3 hb3 hb3' c0 c1 c2 c3 c4
        go_wp2_with (at_builtin; refine Wv.wp_append hrun rfl rfl rfl rfl ?_)
        refine (apply_ob _ _ _ _ _ _ (List.replicate N 0) (Wi.stp a f k ++ [⟨1, 0, Ws.blk (Wi.rcS b a k)⟩]) _ (HO1.out.keep HB3.out).bs HI3.out.is (by rw [← HN.out]; exact Wi.stp_ok h4 hb h (by omega))).mono ?_
        rintro e w4 ⟨g4, rfl, hg4, hO4, hb4⟩
        have HB4 := Wc.hid (Wc.step HB3.out (Nat.le_refl _) hb4)
        have HO4 := Wc.hid (hO4.base (base' := w.heap.size) (by have := HB3.out.size; have := HS1.out; omega))
        clear hg4 hO4 hb4
        go_wp2_with fail
        go_ret
        refine ⟨g4, rfl, ?_, HB1.out.trans (HB4.out.mono (by have := HS1.out; omega))⟩
        have := HO4.out
        rw [← HN.out] at this ⊢
        exact this
      · have hS : Wi.rcS b a k = ⟨1, b, 0, 0, (a : Int)⟩ := by unfold Wi.rcS; rw [if_neg h0]
        have hok := Wi.rcS_ok (n := k) h4 hb ha h
        rw [hS] at hok
        have HS := Wc.hid hS
        have HOK := Wc.hid hok
        have bR := (Below.refl wr.heap.size wr).alloc (Nat.le_refl _) (.cells #[.int .i64 1, .int .i64 (b : Int), .int .i64 0, .int .i64 0, .int .i64 ((a : Int))] 33)
        have HI1 := Wc.hid (RI.out.keep bR)
        have HB1' := Wc.hid (Wc.step RB.out (Nat.le_refl _) bR)
        have ⟨c0, c1, c2, c3, c4⟩ := (Sh.new wr ⟨1, b, 0, 0, (a : Int)⟩).sc
        simp only at c0 c1 c2 c3 c4
        clear hS hok bR
        go_wp2_with fail
        refine (bytes6_ok ⟨1, b, 0, 0, (a : Int)⟩ _ HOK.out).mono ?_
        rintro e w2 ⟨g2, rfl, hg2, hr2, hb2⟩
        have hD2 := Wd.row_ob (base := W1.heap.size) hr2 (Ws.blk_length _) (by decide) (Ws.blk_bd _) (by have := HB1'.out.size; omega)
        have hI2 := HI1.out.keep hb2
        have hB2 := Wc.step HB1'.out (Nat.le_refl _) hb2
        obtain ⟨ya, yn, yc, w3, hrun, hI3, hb3⟩ := pushio_run w2 w2.heap.size W1.heap.size rfl (.slice xa xn xc) (Wi.stp a f k) 1 0 g2 64 _ (Ws.blk_length _) hI2 hD2 (by rw [Wi.stp_length]; omega) hB2.size
        have hb3' := (hB2.alloc hB2.size (.cells #[.int .i64 1, .int .i64 0, .slice (some ⟨g2, 0, none⟩) 64 64] 59)).trans hb3
        rw [← HS.out] at hI3
        have HI3 := Wc.hid hI3
        have HB3 := Wc.hid hb3'
        clear hg2 hr2 hb2 hD2 hI2 hB2 hI3 hb3 hb3' c0 c1 c2 c3 c4
        go_wp2_with (at_builtin; refine Wv.wp_append hrun rfl rfl rfl rfl ?_)
        refine (apply_ob _ _ _ _ _ _ (List.replicate N 0) (Wi.stp a f k ++ [⟨1, 0, Ws.blk (Wi.rcS b a k)⟩]) _ (HO1.out.keep HB3.out).bs HI3.out.is (by rw [← HN.out]; exact Wi.stp_ok h4 hb h (by omega))).mono ?_
        rintro e w4 ⟨g4, rfl, hg4, hO4, hb4⟩
        have HB4 := Wc.hid (Wc.step HB3.out (Nat.le_refl _) hb4)
        have HO4 := Wc.hid (hO4.base (base' := w.heap.size) (by have := HB3.out.size; have := HS1.out; omega))
        clear hg4 hO4 hb4
        go_wp2_with fail
        go_ret
        refine ⟨g4, rfl, ?_, HB1.out.trans (HB4.out.mono (by have := HS1.out; omega))⟩
        have := HO4.out
        rw [← HN.out] at this ⊢
        exact this

end Go.Proofs.Ytfdgeobopegeeaa
