/-
  What commit.Records returns, for every input: the writes, the first record's block, what is left.
-/
import Derived.Test.YtfflhiajbioheaaGreatEe
namespace Go.Proofs.YtfflhiajbioheaaGreat
open Go.RowKit

/-- A step with a block of bytes is put behind memory of the call's own. -/
theorem push_io15 (w : World) (gb base : Nat) (hgb : gb = w.heap.size) (v : Value) (l : List Wd.Io) (k p : Int) (g : Nat) (xs : List Int) (hl : xs.length = 64) (hO : Wd.Oi 50 5 base w v l) (hD : Wc.Ob 5 base w (.slice (some ⟨g, 0, none⟩) 64 64) xs) (hn : l.length + 1 ≤ 1048576) (hb : base ≤ w.heap.size) :
    ∃ a c w', Sem.run Tryz.prog (Builtin.append_ #[27, 27] 27 #[v, .slice (some ⟨gb, 0, none⟩) 1 1]) (w.alloc (.cells #[.int .i64 k, .int .i64 p, .slice (some ⟨g, 0, none⟩) 64 64] 50)) = .ok (.slice a (l.length + 1) c) w' ∧
      Wd.Oi 50 5 base w' (.slice a (l.length + 1) c) (l ++ [⟨k, p, xs⟩]) ∧ Below base (w.alloc (.cells #[.int .i64 k, .int .i64 p, .slice (some ⟨g, 0, none⟩) 64 64] 50)) w' := by
  subst hgb
  obtain ⟨i0, hi, hz0, hz1, hz2⟩ := info_parts Tryz.info38
  have bA := (Below.refl w.heap.size w).alloc (Nat.le_refl _) (.cells #[.int .i64 k, .int .i64 p, .slice (some ⟨g, 0, none⟩) 64 64] 50)
  have hD' : Wc.Ob 5 base (w.alloc (.cells #[.int .i64 k, .int .i64 p, .slice (some ⟨g, 0, none⟩) 64 64] 50)) (.slice (some ⟨g, 0, none⟩) xs.length 64) xs := by rw [hl]; exact hD.keep bA
  obtain ⟨v', w', k1, k2, k3⟩ := Wd.append_io (P := Tryz.prog) (ty := 27) (c := 1) (q := (⟨k, p, xs⟩, (some ⟨g, 0, none⟩, 64))) Tryz.underlying27 hi hz0 hz1 hz2 rfl (by omega) (by decide) (hO.keep bA) (lit_io64 w k p g xs hl 50) hD' hn (by have := bA.size; omega)
  obtain ⟨a, c, rfl⟩ := k2.slice
  rw [List.length_append] at k1 k2
  exact ⟨a, c, w', k1, k2, k3⟩

/-- What Records returns. -/
def CrPost (old : List Wr.Rec) (bl : List Int) (n : Int) (r : Wr.Rec) (b : Bool) (F : List Int) (w : World) : Ending → World → Prop := fun e w' =>
  Below w.heap.size w w' ∧
    (Wq.cE old bl n r b F = 0 → ∃ al cl ar cr, e = .returned (.tuple #[.slice al (Wq.news old n.toNat r b).length cl, .int .i64 (Wq.nx (Wq.stay bl n.toNat) F (Wq.news old n.toNat r b).length), .slice ar (F.length - (Wq.news old n.toNat r b).length) cr, .int .i64 0]) ∧
      Wd.Oi 50 5 w.heap.size w' (.slice al (Wq.news old n.toNat r b).length cl) (Wq.ws (Wq.news old n.toNat r b) (Wq.stay bl n.toNat) F (Wq.news old n.toNat r b).length) ∧
      Wv.Ov (Value.int .i64) 3 w.heap.size w' (.slice ar (F.length - (Wq.news old n.toNat r b).length) cr) (F.drop (Wq.news old n.toNat r b).length)) ∧
    (¬ Wq.cE old bl n r b F = 0 → e = .returned (.tuple #[.slice none 0 0, .int .i64 0, .slice none 0 0, .int .i64 (Wq.cE old bl n r b F)]))

set_option maxRecDepth 100000 in
set_option maxHeartbeats 12800000 in
theorem records15_good (a : Option Addr) (len cap : Nat) (old : List Wr.Rec) (a' : Option Addr) (len' cap' : Nat) (bl : List Int) (n : Nat) (r : Wr.Rec) (b : Bool) (a2 : Option Addr) (len2 cap2 : Nat) (F : List Int) (w : World)
    (ho : Wi.Rs w (.slice a len cap) old) (hb : Wd.In w (.slice a' len' cap') bl) (hF : Wd.In w (.slice a2 len2 cap2) F) (hlen : len ≤ 900) (hyes : Wq.mayB old bl (n : Int) r b F = true) :
    Calls Tryz.prog 11 #[.slice a len cap, .slice a' len' cap', .int .i64 (n : Int), rv r, .bool b, .slice a2 len2 cap2] w (CrPost old bl (n : Int) r b F w) := by
  unfold CrPost
  rw [Int.toNat_natCast]
  obtain ⟨hc, -, hn, hr, hfr⟩ := Wq.mayB_iff.1 hyes
  have hL := Wi.rs_len ho
  have hnl : n ≤ len := by omega
  have hnle : n ≤ old.length := by omega
  have hM := Wv.rv_len hb
  have hcl := (Wq.chB_iff.1 hc).1
  have hnb : n ≤ len' := by omega
  have hF2 := Wv.rv_len hF
  obtain ⟨m, hm⟩ : ∃ m, n - 1 = m := ⟨_, rfl⟩
  have hKl := Wq.news_len hnle r b
  have hlk := fun k hk h => Wq.lk_ok (F := F) (k := k) hyes hk h
  have bA := (Below.refl w.heap.size w).alloc (Nat.le_refl _) (.cells #[.int .i64 r.next, .int .i64 r.id, .int .i64 r.parent, .int .i64 r.root, .int .i64 r.size, .int .i64 r.kind, .int .i64 r.frames, .int .i64 r.digest] 39)
  have BA := Wc.hid bA
  have HO := Wc.hid (ho.keep bA)
  have HB := Wc.hid (hb.keep bA)
  have HF := Wc.hid (hF.keep bA)
  have HR := Wc.hid (Rh.new w r)
  have HCE := Wc.hid (Wq.cE_good (b := b) hyes)
  have HCS := Wc.hid (Wq.cE_space (b := b) hyes)
  have HNW : Hid (Wq.news old n r b = (old.take m).reverse ++ (if b then [r] else [])) := Wc.hid (by rw [← hm]; rfl)
  have hml : ((old.take m).reverse).length ≤ 1000 := by rw [List.length_reverse, List.length_take]; omega
  obtain ⟨L3, hL3⟩ : ∃ L3, (old.take m).reverse = L3 := ⟨_, rfl⟩
  rw [hL3] at HNW hml
  have HL3 := Wc.hid hL3
  have g0 : ¬ (n : Int) < 0 := by omega
  have g1 : ¬ (len : Int) < (n : Int) := by omega
  clear hL3
  obtain ⟨W1, hW1⟩ : ∃ W1, w.alloc (.cells #[.int .i64 r.next, .int .i64 r.id, .int .i64 r.parent, .int .i64 r.root, .int .i64 r.size, .int .i64 r.kind, .int .i64 r.frames, .int .i64 r.digest] 39) = W1 := ⟨_, rfl⟩
  have HW1 := Wc.hid hW1
  have HS1 : Hid (W1.heap.size = w.heap.size + 1) := Wc.hid (by rw [← hW1]; simp)
  rw [hW1] at BA HO HB HF HR
  obtain ⟨N, hN⟩ : ∃ N, Wq.news old n r b = N := ⟨_, rfl⟩
  rw [hN] at HNW HCE HCS hlk hKl ⊢
  obtain ⟨K, hK⟩ : ∃ K, N.length = K := ⟨_, rfl⟩
  rw [hK] at HCE HCS hlk hKl ⊢
  obtain ⟨P, hP⟩ : ∃ P, Wq.stay bl n = P := ⟨_, rfl⟩
  have HP := Wc.hid hP
  rw [hP] at hlk ⊢
  have HLK := Wc.hid hlk
  have HK := Wc.hid hK
  have HML := Wc.hid hml
  have HK9 : Hid (K ≤ 1000) := Wc.hid (by rw [hKl]; split <;> omega)
  have HF2 := Wc.hid hF2
  have HM' := Wc.hid hm
  have HNL := Wc.hid hnl
  have HNB := Wc.hid hnb
  obtain ⟨c, hcv⟩ : ∃ c, Wq.cE old bl (n : Int) r b F = c := ⟨_, rfl⟩
  rw [hcv] at HCE HCS ⊢
  clear hcv bA ho hb hF hyes hn hL hnle hM hcl hm hKl hlk hml hW1 hN hK hP hnl hnb
  cases b with
  | false =>
    clear hr
    unfold rv
    go_enter Tryz.func11, Tryz.ntmps11
    go_wp2_with fail
    rw [HW1.out]
    go_wp2_with (first | (go_at_call 27; refine (rightChain15_any _ _ _ old _ _ _ bl _ HO.out HB.out).mono ?_; rintro e w1 ⟨rfl, hb1⟩; rw [hc]; have HB1 := Wc.hid hb1; have HO1 := Wc.hid (HO.out.keep hb1); have HBK1 := Wc.hid (HB.out.keep hb1); have HF1 := Wc.hid (HF.out.keep hb1); have HR1 := Wc.hid (HR.out.keep hb1); have ⟨d0, d1, d2, d3, d4, d5, d6, d7⟩ := (HR.out.keep hb1).rc; clear hb1) | (go_at_call 28; refine (rightFirst15_any r _).mono ?_; rintro e w2 ⟨rfl, hb2⟩; rw [hr]; have HB2 := Wc.hid hb2; clear hb2) | (go_at_call 29; refine (rightFree15_any _ _ _ F _ (HF1.out)).mono ?_; rintro e w' ⟨rfl, rfl⟩; rw [hfr]) | (go_at_call 30; fail))
    have HO2 := HO1
    have HBK2 := HBK1
    have HF3 := HF1
    have HR2 := HR1
    have BB := Wc.hid (Wc.step BA.out (Nat.le_refl _) HB1.out)
    refine (moved15_any a len cap n m old _ HO2.out HNL.out HM'.out (by omega)).mono ?_
    rintro e w4 ⟨v, rfl, hOr, hb3⟩
    rw [HL3.out] at hOr
    obtain ⟨ya, yc, rfl⟩ := hOr.slice
    clear g0 g1
    have HOR := Wc.hid hOr
    have BB3 := Wc.hid (Wc.step BB.out (Nat.le_refl _) hb3)
    have HBK3 := Wc.hid (HBK2.out.keep hb3)
    have HF4 := Wc.hid (HF3.out.keep hb3)
    have HN4 : Hid (Wi.Or 39 w1.heap.size w4 (.slice ya L3.length yc) N) := Wc.hid (by rw [HNW.out]; simpa using hOr)
    obtain ⟨yn, hyn⟩ : ∃ yn, L3.length = yn := ⟨_, rfl⟩
    have BB4 := BB3
    have HBK4 := HBK3
    have HF5 := HF4
    rw [hyn] at HN4 ⊢
    clear hOr hb3 hyn HOR
    go_wp2_with fail
    have hyn : N.length = yn := Wi.rs_len HN4.out.rs
    rw [HK.out] at hyn
    subst hyn
    clear HK
    by_cases hKF : K ≤ len2
    · have hKF' : K ≤ F.length := by rw [HF2.out]; exact hKF
      refine (take_yes a2 len2 cap2 K F _ HF5.out hKF).mono ?_
      rintro e w5 ⟨hb5, g, h, rfl, hOg, hOh⟩
      have HN5 := Wc.hid ((HN4.out.keep hb5).rs)
      have HBK5 := Wc.hid (HBK4.out.keep hb5)
      have BB5 := Wc.hid (Wc.step BB4.out (Nat.le_refl _) hb5)
      have HG : Hid (Wd.In w5 (.slice (some ⟨g, 0, none⟩) K K) (F.take K)) := Wc.hid hOg.rv
      have HH := Wc.hid (hOh.base BB4.out.size)
      have HKF := Wc.hid hKF
      have HKF' := Wc.hid hKF'
      clear hb5 hOg hOh hKF hKF' HN4 HBK4 HF5 BB4
      go_wp2_with fail
      refine (stays15_any _ _ _ n bl _ HBK5.out HNB.out).mono ?_
      rintro e w6 ⟨rfl, rfl⟩
      rw [HP.out]
      have HI0 := Wc.hid (Wd.Oi.nil 50 5 w5.heap.size w5)
      have BR0 := Wc.hid (Below.refl w5.heap.size w5)
      go_wp2_with fail
      go_loopw [12, 13, 71] (fun l z i wr => ∃ (k : Nat) (xa : Option Addr) (xc : Nat), i = .int .i64 k ∧ k ≤ K ∧ z = .int .i64 (Wq.nx P F k) ∧ l = .slice xa k xc ∧ Hid (Wd.Oi 50 5 w5.heap.size wr (.slice xa k xc) (Wq.ws N P F k)) ∧ Hid (Below w5.heap.size w5 wr)) (fun _ _ i _ => K - (intOf i).toNat)
      case atStart => exact ⟨0, none, 0, rfl, Nat.zero_le _, rfl, rfl, HI0, BR0⟩
      case round =>
        obtain ⟨k, xa, xc, rfl, hk, rfl, rfl, HI, BR⟩ := hrel
        by_cases hlt : k < K
        · obtain ⟨bN, oN, rfl, hbl, hcs⟩ : ∃ b off, ya = some ⟨b, off, none⟩ ∧ b < w5.heap.size ∧ ∀ i, i < K → Wi.Ra w5 b (off + i * 8) (N.getD i Wr.r0) := by
            obtain ⟨_, _, _, h1, _, _, _, _, h6⟩ := HN5.out; cases h1; exact h6 (by omega)
          have hcg : g < w5.heap.size ∧ w5.cell? ⟨g, k, none⟩ = some (.int .i64 (F.getD k 0)) := by
            obtain ⟨_, _, _, h1, _, _, _, _, h6⟩ := HG.out
            cases h1
            obtain ⟨b2, o2, e2, h7, h8⟩ := h6 (by omega)
            cases e2
            have := h8 k hlt
            rw [Wq.getD_take hlt, Nat.zero_add] at this
            exact ⟨h7, this⟩
          obtain ⟨c0, c1, c2, c3, c4, c5, c6, c7⟩ := (hcs k hlt).keep BR.out
          have cg := (BR.out.cell (p := ⟨g, k, none⟩) hcg.1).trans hcg.2
          have hgr : g < wr.heap.size := Nat.lt_of_lt_of_le hcg.1 BR.out.size
          have hrec := HLK.out k hlt HKF'.out
          obtain ⟨x, hx⟩ : ∃ x, N.getD k Wr.r0 = x := ⟨_, rfl⟩
          obtain ⟨y, hy⟩ : ∃ y, F.getD k 0 = y := ⟨_, rfl⟩
          obtain ⟨z, hz⟩ : ∃ z, Wq.nx P F k = z := ⟨_, rfl⟩
          have hlk : Wq.lk N P F k = ⟨z, x.id, x.parent, x.root, x.size, x.kind, x.frames, x.digest⟩ := by unfold Wq.lk; rw [hx, hz]
          have hnx : Wq.nx P F (k + 1) = y := by unfold Wq.nx; rw [if_neg (by omega), Nat.add_sub_cancel, hy]
          have hws : Wq.ws N P F (k + 1) = Wq.ws N P F k ++ [⟨1, y, Wr.blk ⟨z, x.id, x.parent, x.root, x.size, x.kind, x.frames, x.digest⟩⟩] := by rw [Wq.ws_succ, hlk, hy]
          rw [hlk] at hrec
          rw [hx] at c0 c1 c2 c3 c4 c5 c6 c7
          rw [hy] at cg
          rw [hz]
          have HWS := Wc.hid hws
          have HNX := Wc.hid hnx
          have HREC := Wc.hid hrec
          have HLW : Hid ((Wq.ws N P F k).length + 1 ≤ 1048576) := Wc.hid (by rw [Wq.ws_length]; have := HK9.out; omega)
          have bA := (Below.refl wr.heap.size wr).alloc (Nat.le_refl _) (.cells #[.int .i64 z, .int .i64 x.id, .int .i64 x.parent, .int .i64 x.root, .int .i64 x.size, .int .i64 x.kind, .int .i64 x.frames, .int .i64 x.digest] 39)
          have HI7 := Wc.hid (HI.out.keep bA)
          have BR7 := Wc.hid (Wc.step BR.out (Nat.le_refl _) bA)
          have R7 := Wc.hid (Rh.new wr ⟨z, x.id, x.parent, x.root, x.size, x.kind, x.frames, x.digest⟩)
          obtain ⟨W7, hW7⟩ : ∃ W7, wr.alloc (.cells #[.int .i64 z, .int .i64 x.id, .int .i64 x.parent, .int .i64 x.root, .int .i64 x.size, .int .i64 x.kind, .int .i64 x.frames, .int .i64 x.digest] 39) = W7 := ⟨_, rfl⟩
          have HW7 := Wc.hid hW7
          rw [hW7] at HI7 BR7 R7
          clear hx hy hz hlk hnx hws hrec hcs hbl hcg bA hW7
          go_wp2_with fail
          rw [HW7.out]
          refine (bytesOf15_any ⟨z, x.id, x.parent, x.root, x.size, x.kind, x.frames, x.digest⟩ _ HREC.out).mono ?_
          rintro e w8 ⟨g8, rfl, hg8, hr8, hb8⟩
          have BR8 := Wc.hid (Wc.step BR7.out (Nat.le_refl _) hb8)
          have HI8 := Wc.hid (HI7.out.keep hb8)
          have hD8 := Wq.row_own (base := w5.heap.size) hr8 (Wr.blk_length _) (by decide) (Wr.blk_bd _) (by have := BR7.out.size; omega)
          have HD8 := Wc.hid hD8
          clear c0 c1 c2 c3 c4 c5 c6 c7 cg hgr hb8 hr8 hg8 hD8
          go_wp2_with fail
          refine (write15_any _ _ _ _ _).mono ?_
          rintro e w9 ⟨rfl, hb9⟩
          have BR9 := Wc.hid (Wc.step BR8.out (Nat.le_refl _) hb9)
          obtain ⟨za, zc, w10, hrun, hO10, hb10⟩ := push_io15 w9 w9.heap.size w5.heap.size rfl (.slice xa k xc) (Wq.ws N P F k) 1 y g8 _ (Wr.blk_length _) (HI8.out.keep hb9) (HD8.out.keep hb9) HLW.out BR9.out.size
          rw [← HWS.out, Wq.ws_length] at hO10
          rw [Wq.ws_length] at hrun
          have BR10 := Wc.hid ((BR9.out.alloc BR9.out.size (.cells #[.int .i64 1, .int .i64 y, .slice (some ⟨g8, 0, none⟩) 64 64] 50)).trans hb10)
          have HI10 := Wc.hid hO10
          clear hb9 hO10 hb10
          have hkb : K ≤ 1000 := HK9.out
          go_wp2_with (at_builtin; refine Wv.wp_append hrun rfl rfl rfl rfl ?_)
          go_roundw
          case rel => exact ⟨k + 1, za, zc, by go_num, by omega, by rw [HNX.out], rfl, HI10, BR10⟩
          case measure => simp [intOf]; omega
        · obtain rfl : k = K := by omega
          go_wp2_with fail
          refine bodyPost_ret (results_four rfl _ _ _) rfl ⟨BB5.out.trans (BR.out.mono BB5.out.size), fun _ => ⟨xa, xc, some ⟨h, 0, none⟩, len2 - k, ?_, Wq.oi_down HI.out BB5.out.size, ?_⟩, fun h => absurd (HCE.out HKF'.out) h⟩
          · rw [HF2.out]; rfl
          · rw [HF2.out]; exact HH.out.keep BR.out
    · have hz : (len2 : Int) < (K : Int) := by omega
      refine (take_far a2 len2 cap2 (K : Int) _ hz).mono ?_
      rintro e w5 ⟨rfl, rfl⟩
      have h9 := HCS.out (by rw [HF2.out]; exact hKF)
      subst h9
      clear HN4 HBK4 HF5
      go_wp2_with fail
      refine bodyPost_ret (results_four rfl _ _ _) rfl ⟨BB4.out, fun h => absurd h (by decide), fun _ => rfl⟩
  | true =>
    replace hr := hr rfl
    unfold rv
    go_enter Tryz.func11, Tryz.ntmps11
    go_wp2_with fail
    rw [HW1.out]
    go_wp2_with (first | (go_at_call 27; refine (rightChain15_any _ _ _ old _ _ _ bl _ HO.out HB.out).mono ?_; rintro e w1 ⟨rfl, hb1⟩; rw [hc]; have HB1 := Wc.hid hb1; have HO1 := Wc.hid (HO.out.keep hb1); have HBK1 := Wc.hid (HB.out.keep hb1); have HF1 := Wc.hid (HF.out.keep hb1); have HR1 := Wc.hid (HR.out.keep hb1); have ⟨d0, d1, d2, d3, d4, d5, d6, d7⟩ := (HR.out.keep hb1).rc; clear hb1) | (go_at_call 28; refine (rightFirst15_any r _).mono ?_; rintro e w2 ⟨rfl, hb2⟩; rw [hr]; have HB2 := Wc.hid hb2; clear hb2) | (go_at_call 29; refine (rightFree15_any _ _ _ F _ (HF1.out.keep HB2.out)).mono ?_; rintro e w' ⟨rfl, rfl⟩; rw [hfr]) | (go_at_call 30; fail))
    have HO2 := Wc.hid (HO1.out.keep HB2.out)
    have HBK2 := Wc.hid (HBK1.out.keep HB2.out)
    have HF3 := Wc.hid (HF1.out.keep HB2.out)
    have HR2 := Wc.hid (HR1.out.keep HB2.out)
    have BB := Wc.hid (Wc.step (Wc.step BA.out (Nat.le_refl _) HB1.out) (Nat.le_refl _) HB2.out)
    refine (moved15_any a len cap n m old _ HO2.out HNL.out HM'.out (by omega)).mono ?_
    rintro e w3 ⟨v, rfl, hOr, hb3⟩
    rw [HL3.out] at hOr
    obtain ⟨va, vc, rfl⟩ := hOr.slice
    clear g0 g1
    have HOR := Wc.hid hOr
    have BB3 := Wc.hid (Wc.step BB.out (Nat.le_refl _) hb3)
    have HBK3 := Wc.hid (HBK2.out.keep hb3)
    have HF4 := Wc.hid (HF3.out.keep hb3)
    have ⟨f0, f1, f2, f3, f4, f5, f6, f7⟩ := (HR2.out.keep hb3).rc
    obtain ⟨ya, yn, yc, w4, hrun, hO4, hb4, -⟩ := pushr_run w3 w3 w3.heap.size w2.heap.size rfl _ L3 r hOr (Below.refl _ _) HML.out hb3.size
    have hN4 : Wi.Or 39 w2.heap.size w4 (.slice ya yn yc) N := by rw [HNW.out]; exact hO4
    have hb4' := ((Below.refl w3.heap.size w3).alloc (Nat.le_refl _) (.cells #[.int .i64 r.next, .int .i64 r.id, .int .i64 r.parent, .int .i64 r.root, .int .i64 r.size, .int .i64 r.kind, .int .i64 r.frames, .int .i64 r.digest] 39))
    have hb5 := (((Below.refl w2.heap.size w2).trans hb3).alloc hb3.size (.cells #[.int .i64 r.next, .int .i64 r.id, .int .i64 r.parent, .int .i64 r.root, .int .i64 r.size, .int .i64 r.kind, .int .i64 r.frames, .int .i64 r.digest] 39)).trans hb4
    have HN4 := Wc.hid hN4
    have BB4 := Wc.hid (Wc.step BB.out (Nat.le_refl _) hb5)
    have HBK4 := Wc.hid (HBK2.out.keep hb5)
    have HF5 := Wc.hid (HF3.out.keep hb5)
    clear hb3 hOr hO4 hb4 hN4 hb4' hb5
    go_wp2_with (at_builtin; refine Wv.wp_append hrun rfl rfl rfl rfl ?_)
    have hyn : N.length = yn := Wi.rs_len HN4.out.rs
    rw [HK.out] at hyn
    subst hyn
    clear HK
    by_cases hKF : K ≤ len2
    · have hKF' : K ≤ F.length := by rw [HF2.out]; exact hKF
      refine (take_yes a2 len2 cap2 K F _ HF5.out hKF).mono ?_
      rintro e w5 ⟨hb5, g, h, rfl, hOg, hOh⟩
      have HN5 := Wc.hid ((HN4.out.keep hb5).rs)
      have HBK5 := Wc.hid (HBK4.out.keep hb5)
      have BB5 := Wc.hid (Wc.step BB4.out (Nat.le_refl _) hb5)
      have HG : Hid (Wd.In w5 (.slice (some ⟨g, 0, none⟩) K K) (F.take K)) := Wc.hid hOg.rv
      have HH := Wc.hid (hOh.base BB4.out.size)
      have HKF := Wc.hid hKF
      have HKF' := Wc.hid hKF'
      clear hb5 hOg hOh hKF hKF' HN4 HBK4 HF5 BB4
      go_wp2_with fail
      refine (stays15_any _ _ _ n bl _ HBK5.out HNB.out).mono ?_
      rintro e w6 ⟨rfl, rfl⟩
      rw [HP.out]
      have HI0 := Wc.hid (Wd.Oi.nil 50 5 w5.heap.size w5)
      have BR0 := Wc.hid (Below.refl w5.heap.size w5)
      go_wp2_with fail
      go_loopw [12, 13, 71] (fun l z i wr => ∃ (k : Nat) (xa : Option Addr) (xc : Nat), i = .int .i64 k ∧ k ≤ K ∧ z = .int .i64 (Wq.nx P F k) ∧ l = .slice xa k xc ∧ Hid (Wd.Oi 50 5 w5.heap.size wr (.slice xa k xc) (Wq.ws N P F k)) ∧ Hid (Below w5.heap.size w5 wr)) (fun _ _ i _ => K - (intOf i).toNat)
      case atStart => exact ⟨0, none, 0, rfl, Nat.zero_le _, rfl, rfl, HI0, BR0⟩
      case round =>
        obtain ⟨k, xa, xc, rfl, hk, rfl, rfl, HI, BR⟩ := hrel
        by_cases hlt : k < K
        · obtain ⟨bN, oN, rfl, hbl, hcs⟩ : ∃ b off, ya = some ⟨b, off, none⟩ ∧ b < w5.heap.size ∧ ∀ i, i < K → Wi.Ra w5 b (off + i * 8) (N.getD i Wr.r0) := by
            obtain ⟨_, _, _, h1, _, _, _, _, h6⟩ := HN5.out; cases h1; exact h6 (by omega)
          have hcg : g < w5.heap.size ∧ w5.cell? ⟨g, k, none⟩ = some (.int .i64 (F.getD k 0)) := by
            obtain ⟨_, _, _, h1, _, _, _, _, h6⟩ := HG.out
            cases h1
            obtain ⟨b2, o2, e2, h7, h8⟩ := h6 (by omega)
            cases e2
            have := h8 k hlt
            rw [Wq.getD_take hlt, Nat.zero_add] at this
            exact ⟨h7, this⟩
          obtain ⟨c0, c1, c2, c3, c4, c5, c6, c7⟩ := (hcs k hlt).keep BR.out
          have cg := (BR.out.cell (p := ⟨g, k, none⟩) hcg.1).trans hcg.2
          have hgr : g < wr.heap.size := Nat.lt_of_lt_of_le hcg.1 BR.out.size
          have hrec := HLK.out k hlt HKF'.out
          obtain ⟨x, hx⟩ : ∃ x, N.getD k Wr.r0 = x := ⟨_, rfl⟩
          obtain ⟨y, hy⟩ : ∃ y, F.getD k 0 = y := ⟨_, rfl⟩
          obtain ⟨z, hz⟩ : ∃ z, Wq.nx P F k = z := ⟨_, rfl⟩
          have hlk : Wq.lk N P F k = ⟨z, x.id, x.parent, x.root, x.size, x.kind, x.frames, x.digest⟩ := by unfold Wq.lk; rw [hx, hz]
          have hnx : Wq.nx P F (k + 1) = y := by unfold Wq.nx; rw [if_neg (by omega), Nat.add_sub_cancel, hy]
          have hws : Wq.ws N P F (k + 1) = Wq.ws N P F k ++ [⟨1, y, Wr.blk ⟨z, x.id, x.parent, x.root, x.size, x.kind, x.frames, x.digest⟩⟩] := by rw [Wq.ws_succ, hlk, hy]
          rw [hlk] at hrec
          rw [hx] at c0 c1 c2 c3 c4 c5 c6 c7
          rw [hy] at cg
          rw [hz]
          have HWS := Wc.hid hws
          have HNX := Wc.hid hnx
          have HREC := Wc.hid hrec
          have HLW : Hid ((Wq.ws N P F k).length + 1 ≤ 1048576) := Wc.hid (by rw [Wq.ws_length]; have := HK9.out; omega)
          have bA := (Below.refl wr.heap.size wr).alloc (Nat.le_refl _) (.cells #[.int .i64 z, .int .i64 x.id, .int .i64 x.parent, .int .i64 x.root, .int .i64 x.size, .int .i64 x.kind, .int .i64 x.frames, .int .i64 x.digest] 39)
          have HI7 := Wc.hid (HI.out.keep bA)
          have BR7 := Wc.hid (Wc.step BR.out (Nat.le_refl _) bA)
          have R7 := Wc.hid (Rh.new wr ⟨z, x.id, x.parent, x.root, x.size, x.kind, x.frames, x.digest⟩)
          obtain ⟨W7, hW7⟩ : ∃ W7, wr.alloc (.cells #[.int .i64 z, .int .i64 x.id, .int .i64 x.parent, .int .i64 x.root, .int .i64 x.size, .int .i64 x.kind, .int .i64 x.frames, .int .i64 x.digest] 39) = W7 := ⟨_, rfl⟩
          have HW7 := Wc.hid hW7
          rw [hW7] at HI7 BR7 R7
          clear hx hy hz hlk hnx hws hrec hcs hbl hcg bA hW7
          go_wp2_with fail
          rw [HW7.out]
          refine (bytesOf15_any ⟨z, x.id, x.parent, x.root, x.size, x.kind, x.frames, x.digest⟩ _ HREC.out).mono ?_
          rintro e w8 ⟨g8, rfl, hg8, hr8, hb8⟩
          have BR8 := Wc.hid (Wc.step BR7.out (Nat.le_refl _) hb8)
          have HI8 := Wc.hid (HI7.out.keep hb8)
          have hD8 := Wq.row_own (base := w5.heap.size) hr8 (Wr.blk_length _) (by decide) (Wr.blk_bd _) (by have := BR7.out.size; omega)
          have HD8 := Wc.hid hD8
          clear c0 c1 c2 c3 c4 c5 c6 c7 cg hgr hb8 hr8 hg8 hD8
          go_wp2_with fail
          refine (write15_any _ _ _ _ _).mono ?_
          rintro e w9 ⟨rfl, hb9⟩
          have BR9 := Wc.hid (Wc.step BR8.out (Nat.le_refl _) hb9)
          obtain ⟨za, zc, w10, hrun, hO10, hb10⟩ := push_io15 w9 w9.heap.size w5.heap.size rfl (.slice xa k xc) (Wq.ws N P F k) 1 y g8 _ (Wr.blk_length _) (HI8.out.keep hb9) (HD8.out.keep hb9) HLW.out BR9.out.size
          rw [← HWS.out, Wq.ws_length] at hO10
          rw [Wq.ws_length] at hrun
          have BR10 := Wc.hid ((BR9.out.alloc BR9.out.size (.cells #[.int .i64 1, .int .i64 y, .slice (some ⟨g8, 0, none⟩) 64 64] 50)).trans hb10)
          have HI10 := Wc.hid hO10
          clear hb9 hO10 hb10
          have hkb : K ≤ 1000 := HK9.out
          go_wp2_with (at_builtin; refine Wv.wp_append hrun rfl rfl rfl rfl ?_)
          go_roundw
          case rel => exact ⟨k + 1, za, zc, by go_num, by omega, by rw [HNX.out], rfl, HI10, BR10⟩
          case measure => simp [intOf]; omega
        · obtain rfl : k = K := by omega
          go_wp2_with fail
          refine bodyPost_ret (results_four rfl _ _ _) rfl ⟨BB5.out.trans (BR.out.mono BB5.out.size), fun _ => ⟨xa, xc, some ⟨h, 0, none⟩, len2 - k, ?_, Wq.oi_down HI.out BB5.out.size, ?_⟩, fun h => absurd (HCE.out HKF'.out) h⟩
          · rw [HF2.out]; rfl
          · rw [HF2.out]; exact HH.out.keep BR.out
    · have hz : (len2 : Int) < (K : Int) := by omega
      refine (take_far a2 len2 cap2 (K : Int) _ hz).mono ?_
      rintro e w5 ⟨rfl, rfl⟩
      have h9 := HCS.out (by rw [HF2.out]; exact hKF)
      subst h9
      clear HN4 HBK4 HF5
      go_wp2_with fail
      refine bodyPost_ret (results_four rfl _ _ _) rfl ⟨BB4.out, fun h => absurd h (by decide), fun _ => rfl⟩

/-- What Records returns, for every input. -/
theorem records15_any (a : Option Addr) (len cap : Nat) (old : List Wr.Rec) (a' : Option Addr) (len' cap' : Nat) (bl : List Int) (n : Int) (r : Wr.Rec) (b : Bool) (a2 : Option Addr) (len2 cap2 : Nat) (F : List Int) (w : World)
    (ho : Wi.Rs w (.slice a len cap) old) (hb : Wd.In w (.slice a' len' cap') bl) (hF : Wd.In w (.slice a2 len2 cap2) F) (hlen : len ≤ 900) :
    Calls Tryz.prog 11 #[.slice a len cap, .slice a' len' cap', .int .i64 n, rv r, .bool b, .slice a2 len2 cap2] w (CrPost old bl n r b F w) := by
  cases h : Wq.mayB old bl n r b F
  · refine (records15_bad a len cap old a' len' cap' bl n r b a2 len2 cap2 F w ho hb hF h).mono ?_
    rintro e w1 ⟨rfl, hb1⟩
    have hE := Wq.cE_bad h
    unfold CrPost
    rw [hE]
    exact ⟨hb1, fun h0 => absurd h0 (by decide), fun _ => rfl⟩
  · obtain ⟨k, rfl⟩ : ∃ k : Nat, n = k := ⟨n.toNat, by have := (Wq.mayB_iff.1 h).2.1; omega⟩
    exact records15_good a len cap old a' len' cap' bl k r b a2 len2 cap2 F w ho hb hF hlen h
end Go.Proofs.YtfflhiajbioheaaGreat
