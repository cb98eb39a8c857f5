/-
  What the page's Chain returns, where the records may be written.
-/
import Derived.Test.YtfflhiajbioheaaGreatFa
import Derived.Test.YtfflhiajbioheaaGreatPk
import Derived.Test.YtfflhiajbioheaaGreatEf
namespace Wq
open Wr
theorem take_succ_rec {l : List Rec} {k : Nat} (hk : k < l.length) : l.take (k + 1) = l.take k ++ [l.getD k r0] := by
  rw [List.take_add_one, List.getElem?_eq_getElem hk, show l.getD k r0 = l[k] by simp [hk]]; rfl
theorem rev_at {old : List Rec} {m j : Nat} (hm : m ≤ old.length) (hj : j < m) : ((old.take m).reverse).getD j r0 = old.getD (m - 1 - j) r0 := by
  rw [List.getD_eq_getElem?_getD, List.getElem?_reverse (by rw [List.length_take]; omega), List.length_take, Nat.min_eq_left hm, List.getElem?_take, if_pos (by omega), ← List.getD_eq_getElem?_getD]
end Wq
namespace Go.Proofs.YtfflhiajbioheaaGreat
open Go.RowKit

/-- A row that is not empty, opened. -/
theorem in_opened {w : World} {v : Value} {xs : List Int} (h : Wd.In w v xs) (h0 : 0 < xs.length) : ∃ b off cap, v = .slice (some ⟨b, off, none⟩) xs.length cap ∧ b < w.heap.size ∧ ∀ i, i < xs.length → w.cell? ⟨b, off + i, none⟩ = some (.int .i64 (xs.getD i 0)) := by
  rcases h.open with ⟨hn, -⟩ | ⟨b, off, n, cap, h1, -, h3, -, -, -, h7, h8⟩
  · rw [hn] at h0; exact absurd h0 (by decide)
  · subst h3
    exact ⟨b, off, cap, h1, h7, h8⟩
/-- What is left of a list of ints, in a new place. -/
theorem rest15_any (a : Option Addr) (n cap q : Nat) (F : List Int) (w : World) (h : Wd.In w (.slice a n cap) F) (hq : q ≤ n) :
    ∃ ax, (∀ w, (Instr.slice 28 (.slice a n cap) (some (.int .i64 (q : Int))) none none).run Tryz.prog w = .ok (.slice ax (n - q) (cap - q)) w) ∧
      ∃ ar cr w', Sem.run Tryz.prog (Builtin.append_ #[28, 28] 28 #[.slice none 0 0, .slice ax (n - q) (cap - q)]) w = .ok (.slice ar (n - q) cr) w' ∧ Wd.In w' (.slice ar (n - q) cr) (F.drop q) ∧ Below w.heap.size w w' := by
  refine ⟨_, fun w => slice_ints a n cap q hq w, ?_⟩
  have hd := in_drop h q hq
  obtain ⟨ax, hax⟩ : ∃ ax, (if cap = q then a else a.map (·.add q)) = ax := ⟨_, rfl⟩
  rw [hax] at hd ⊢
  obtain ⟨i, hi, hzz⟩ := Option.map_eq_some_iff.1 Tryz.infoI
  simp only [Prod.mk.injEq] at hzz
  obtain ⟨hz, hs, hby⟩ := hzz
  have hl := Wv.rv_len hd
  by_cases h0 : n - q = 0
  · have hnil := List.eq_nil_of_length_eq_zero (hl.trans h0)
    rw [hnil, h0]
    refine ⟨none, 0, w, ?_, Wv.Rv.nil w, Below.refl _ _⟩
    simp [Builtin.append_, run_underlying Tryz.underlying28, sizeOf, typeInfo, hi, Builtin.lenOf, Builtin.firstCells]
    cases ax <;> simp [loadCells, loadCellsFrom]
  · obtain ⟨b, off, c, he, hb, hc⟩ := in_opened hd (by omega)
    rw [hl] at he hc
    have hnn : n ≤ 17592186044416 := by obtain ⟨_, _, _, h1, _, _, _, h5, _⟩ := h; cases h1; exact h5
    rw [he]
    obtain ⟨v', w', k1, k2, k3, k4⟩ := run_append_own (P := Tryz.prog) w w.heap.size 28 28 3 i (.int .i64 0) 1 8 Tryz.underlying28 hi hz hs hby rfl (by decide) (.slice none 0 0) 0 [] (World.ownsRow_nil _ _ _ _) ⟨b, off, none⟩ (n - q) c ((F.drop q).map (Value.int .i64)) (by rw [List.length_map, hl, Nat.mul_one]) (by
      intro j u hj
      have hjn : j < n - q := by have := (List.getElem?_eq_some_iff.1 hj).1; rw [List.length_map, hl] at this; exact this
      rw [Wc.add_none, hc j hjn]
      rw [List.getElem?_map] at hj
      obtain ⟨x, hx, rfl⟩ := Option.map_eq_some_iff.1 hj
      rw [List.getD_eq_getElem?_getD, hx]; rfl) (by intro u hu; obtain ⟨x, _, rfl⟩ := List.mem_map.1 hu; rfl) (by unfold maxLen; omega) (by omega) (Nat.le_refl _)
    have hO : Wv.Ov (Value.int .i64) 3 w.heap.size w' v' (F.drop q) := ⟨by rw [hl]; simpa using k2, by omega⟩
    have hB : Below w.heap.size w w' := (Below.refl _ _).grown k3 (Nat.le_refl _) (fun g hg => by simp [Value.ownBlock] at hg)
    have hR : Wd.In w' v' (F.drop q) := hO.rv
    obtain ⟨ar, nr, cr, rfl, hn2, -⟩ := id hR
    rw [hl] at hn2
    rw [← hn2] at hR k1
    exact ⟨ar, cr, w', k1, hR, hB⟩

theorem lit_io64c (w : World) (k p : Int) (g c : Nat) (xs : List Int) (hl : xs.length = 64) (e : Nat) : ∀ j u, (Wd.cells3 (⟨k, p, xs⟩, (some ⟨g, 0, none⟩, c)))[j]? = some u →
    (w.alloc (.cells #[.int .i64 k, .int .i64 p, .slice (some ⟨g, 0, none⟩) 64 c] e)).cell? ((⟨w.heap.size, 0, none⟩ : Addr).add j) = some u := by
  have h := lit_cells w (⟨k, p, xs⟩, (some ⟨g, 0, none⟩, c)) e
  simp only [Wd.cells3, hl] at h ⊢
  exact h
/-- A step with a block of bytes is put behind memory of the call's own. -/
theorem push_io15c (w : World) (gb base : Nat) (hgb : gb = w.heap.size) (v : Value) (l : List Wd.Io) (k p : Int) (g c : Nat) (xs : List Int) (hl : xs.length = 64) (hO : Wd.Oi 50 5 base w v l) (hD : Wc.Ob 5 base w (.slice (some ⟨g, 0, none⟩) 64 c) xs) (hn : l.length + 1 ≤ 1048576) (hb : base ≤ w.heap.size) :
    ∃ a c' w', Sem.run Tryz.prog (Builtin.append_ #[27, 27] 27 #[v, .slice (some ⟨gb, 0, none⟩) 1 1]) (w.alloc (.cells #[.int .i64 k, .int .i64 p, .slice (some ⟨g, 0, none⟩) 64 c] 50)) = .ok (.slice a (l.length + 1) c') w' ∧
      Wd.Oi 50 5 base w' (.slice a (l.length + 1) c') (l ++ [⟨k, p, xs⟩]) ∧ Below base (w.alloc (.cells #[.int .i64 k, .int .i64 p, .slice (some ⟨g, 0, none⟩) 64 c] 50)) w' := by
  subst hgb
  obtain ⟨i0, hi, hz0, hz1, hz2⟩ := info_parts Tryz.info38
  have bA := (Below.refl w.heap.size w).alloc (Nat.le_refl _) (.cells #[.int .i64 k, .int .i64 p, .slice (some ⟨g, 0, none⟩) 64 c] 50)
  have hD' : Wc.Ob 5 base (w.alloc (.cells #[.int .i64 k, .int .i64 p, .slice (some ⟨g, 0, none⟩) 64 c] 50)) (.slice (some ⟨g, 0, none⟩) xs.length c) xs := by rw [hl]; exact hD.keep bA
  have hlit := lit_io64c w k p g c xs hl 50
  obtain ⟨v', w', k1, k2, k3⟩ := Wd.append_io (P := Tryz.prog) (ty := 27) (c := 1) (q := (⟨k, p, xs⟩, (some ⟨g, 0, none⟩, c))) Tryz.underlying27 hi hz0 hz1 hz2 rfl (by omega) (by decide) (hO.keep bA) hlit hD' hn (by have := bA.size; omega)
  obtain ⟨a, c2, rfl⟩ := k2.slice
  rw [List.length_append] at k1 k2
  exact ⟨a, c2, w', k1, k2, k3⟩
theorem refRecordBytes15 (r : Wr.Rec) (w : World) (hs : Wr.recB r = true) :
    Calls Tryz.prog 40 #[rv r] w fun e w' => ∃ g c, e = .returned (.slice (some ⟨g, 0, none⟩) 64 c) ∧ Wc.Ob 5 w.heap.size w' (.slice (some ⟨g, 0, none⟩) 64 c) (Wr.blk r) ∧ Below w.heap.size w w' := by
  refine (refRecordBytes_ob r w hs).mono ?_
  rintro e w' ⟨v, rfl, hO, hb⟩
  obtain ⟨g, c, rfl⟩ := Wc.ob_form hO (by rw [Wr.blk_length]; decide)
  rw [Wr.blk_length] at hO ⊢
  exact ⟨g, c, rfl, hO, hb⟩

/-- What the page's Chain returns. -/
def RCPost (K : Nat) (ws : List Wd.Io) (z : Int) (F : List Int) (w : World) : Ending → World → Prop := fun e w' =>
  Below w.heap.size w w' ∧
    (K ≤ F.length → ∃ al cl ar cr, e = .returned (.tuple #[.slice al K cl, .int .i64 z, .slice ar (F.length - K) cr, .bool true]) ∧ Wd.Is w' (.slice al K cl) ws ∧ Wd.In w' (.slice ar (F.length - K) cr) (F.drop K)) ∧
    (F.length < K → e = .returned (.tuple #[.slice none 0 0, .int .i64 0, .slice none 0 0, .bool false]))

set_option maxRecDepth 100000 in
set_option maxHeartbeats 12800000 in
theorem refChain_any (a : Option Addr) (len cap : Nat) (old : List Wr.Rec) (a' : Option Addr) (len' cap' : Nat) (bl : List Int) (n : Nat) (r : Wr.Rec) (b : Bool) (a2 : Option Addr) (len2 cap2 : Nat) (F : List Int) (w : World)
    (ho : Wi.Rs w (.slice a len cap) old) (hb : Wd.In w (.slice a' len' cap') bl) (hF : Wd.In w (.slice a2 len2 cap2) F) (hlen : len ≤ 900) (hyes : Wq.mayB old bl (n : Int) r b F = true) :
    Calls Tryz.prog 15 #[.slice a len cap, .slice a' len' cap', .int .i64 (n : Int), rv r, .bool b, .slice a2 len2 cap2] w
      (RCPost (Wq.news old n r b).length (Wq.ws (Wq.news old n r b) (Wq.stay bl n) F (Wq.news old n r b).length) (Wq.nx (Wq.stay bl n) F (Wq.news old n r b).length) F w) := by
  unfold RCPost
  obtain ⟨hc, -, hn, hr, hfr⟩ := Wq.mayB_iff.1 hyes
  have hL := Wi.rs_len ho
  have hnl : n ≤ len := by omega
  have hnle : n ≤ old.length := by omega
  have hM := Wv.rv_len hb
  have hcl := (Wq.chB_iff.1 hc).1
  have hnb : len' = len := by omega
  have hF2 := Wv.rv_len hF
  obtain ⟨m, hm⟩ : ∃ m, n - 1 = m := ⟨_, rfl⟩
  have hml : m ≤ len := by omega
  have hKl := Wq.news_len hnle r b
  have hlk := fun k hk h => Wq.lk_ok (F := F) (k := k) hyes hk h
  have bA := (Below.refl w.heap.size w).alloc (Nat.le_refl _) (.cells #[.int .i64 r.next, .int .i64 r.id, .int .i64 r.parent, .int .i64 r.root, .int .i64 r.size, .int .i64 r.kind, .int .i64 r.frames, .int .i64 r.digest] 39)
  have BA := Wc.hid bA
  have HO := Wc.hid (ho.keep bA)
  have HB := Wc.hid (hb.keep bA)
  have HF := Wc.hid (hF.keep bA)
  have HR := Wc.hid (Rh.new w r)
  have HNW : Hid (Wq.news old n r b = (old.take m).reverse ++ (if b then [r] else [])) := Wc.hid (by rw [← hm]; rfl)
  have HL3l : Hid ((old.take m).reverse.length = m) := Wc.hid (by rw [List.length_reverse, List.length_take]; omega)
  have HRV : Hid (∀ j, j < m → ((old.take m).reverse).getD j Wr.r0 = old.getD (m - 1 - j) Wr.r0) := Wc.hid (fun j hj => Wq.rev_at (by omega) hj)
  obtain ⟨L3, hL3⟩ : ∃ L3, (old.take m).reverse = L3 := ⟨_, rfl⟩
  rw [hL3] at HNW HL3l HRV
  clear hL3
  obtain ⟨W1, hW1⟩ : ∃ W1, w.alloc (.cells #[.int .i64 r.next, .int .i64 r.id, .int .i64 r.parent, .int .i64 r.root, .int .i64 r.size, .int .i64 r.kind, .int .i64 r.frames, .int .i64 r.digest] 39) = W1 := ⟨_, rfl⟩
  have HW1 := Wc.hid hW1
  have HS1 : Hid (W1.heap.size = w.heap.size + 1) := Wc.hid (by rw [← hW1]; simp)
  rw [hW1] at BA HO HB HF HR
  have BW1 := Wc.hid (Below.refl W1.heap.size W1)
  have O1 := Wc.hid (Wi.Or.nil 39 W1.heap.size W1)
  obtain ⟨N, hN⟩ : ∃ N, Wq.news old n r b = N := ⟨_, rfl⟩
  rw [hN] at HNW hlk hKl ⊢
  obtain ⟨K, hK⟩ : ∃ K, N.length = K := ⟨_, rfl⟩
  rw [hK] at hlk hKl ⊢
  obtain ⟨P, hP⟩ : ∃ P, Wq.stay bl n = P := ⟨_, rfl⟩
  have hat : (n < len ∧ ∃ bb ob, a' = some ⟨bb, ob, none⟩ ∧ W1.cell? ⟨bb, ob + n, none⟩ = some (.int .i64 P)) ∨ (n = len ∧ P = 0) := by
    by_cases h : n < len
    · obtain ⟨bb, ob, h1, h2⟩ := in_cell HB.out (k := n) (by omega)
      exact .inl ⟨h, bb, ob, h1, by rw [h2, ← hP]; rfl⟩
    · refine .inr ⟨by omega, ?_⟩
      rw [← hP]; unfold Wq.stay; rw [List.getD_eq_getElem?_getD, List.getElem?_eq_none (by omega)]; rfl
  rw [hP] at hlk ⊢
  have HLK := Wc.hid hlk
  have HK := Wc.hid hK
  have HK9 : Hid (K ≤ 1000) := Wc.hid (by rw [hKl]; split <;> omega)
  have HF2 := Wc.hid hF2
  have HM' := Wc.hid hm
  have HNL := Wc.hid hnl
  have HML := Wc.hid hml
  have HNB : Hid (len' = len) := Wc.hid hnb
  clear bA ho hb hF hyes hn hL hnle hM hcl hm hKl hlk hW1 hN hK hP hml hnb hF2 hc hr hfr
  unfold rv
  go_enter Tryz.func15, Tryz.ntmps15
  rcases hat with ⟨h1, bb, ob, rfl, hcell⟩ | ⟨h1, rfl⟩
  · have hlt0 : (n : Int) < (len : Int) := by omega
    have hlt1 : n < len' := by rw [HNB.out]; exact h1
    rw [← HW1.out] at hcell
    clear h1
    go_wp2_with fail
    rw [HW1.out]
    go_loopw [16, 17] (fun o i wr => ∃ (j : Nat) (xa : Option Addr) (xc : Nat), o = .slice xa j xc ∧ i = .int .i64 ((n : Int) - 2 - (j : Int)) ∧ j ≤ m ∧ Hid (Wi.Or 39 W1.heap.size wr (.slice xa j xc) (L3.take j)) ∧ Hid (Below W1.heap.size W1 wr)) (fun _ i _ => (intOf i + 1).toNat)
    case atStart => exact ⟨0, none, 0, rfl, by simp, Nat.zero_le _, O1, BW1⟩
    case round =>
      obtain ⟨j, xa, xc, rfl, rfl, hj, HOr, BR⟩ := hrel
      by_cases hlt : j < m
      · have hmn := HM'.out
        have hml := HML.out
        obtain ⟨q, hq⟩ : ∃ q : Nat, (n : Int) - 2 - (j : Int) = (q : Int) := ⟨n - 2 - j, by omega⟩
        rw [hq]
        obtain ⟨bo, oo, rfl, hbl, hcs⟩ : ∃ b off, a = some ⟨b, off, none⟩ ∧ b < W1.heap.size ∧ ∀ i, i < len → Wi.Ra W1 b (off + i * 8) (old.getD i Wr.r0) := by
          obtain ⟨_, _, _, h1, _, _, _, _, h6⟩ := HO.out; cases h1; exact h6 (by omega)
        have hql : q < len := by omega
        obtain ⟨c0, c1, c2, c3, c4, c5, c6, c7⟩ := (hcs q hql).keep BR.out
        have hel := HRV.out j hlt
        rw [show m - 1 - j = q by omega] at hel
        obtain ⟨x, hx⟩ : ∃ x, old.getD q Wr.r0 = x := ⟨_, rfl⟩
        rw [hx] at hel c0 c1 c2 c3 c4 c5 c6 c7
        have hts : L3.take (j + 1) = L3.take j ++ [x] := by rw [Wq.take_succ_rec (by rw [HL3l.out]; exact hlt), hel]
        have hlj : (L3.take j).length = j := by rw [List.length_take, HL3l.out]; omega
        obtain ⟨ya, yn, yc, w4, hrun, hO4, hb4, -⟩ := pushr_run wr wr wr.heap.size W1.heap.size rfl (.slice xa j xc) (L3.take j) x HOr.out (Below.refl _ _) (by rw [hlj]; omega) BR.out.size
        rw [← hts] at hO4
        have hyn := Wi.rs_len hO4.rs
        rw [List.length_take, HL3l.out, Nat.min_eq_left (by omega)] at hyn
        subst hyn
        have HO4 := Wc.hid hO4
        have BR4 := Wc.hid ((BR.out.alloc BR.out.size (.cells #[.int .i64 x.next, .int .i64 x.id, .int .i64 x.parent, .int .i64 x.root, .int .i64 x.size, .int .i64 x.kind, .int .i64 x.frames, .int .i64 x.digest] 39)).trans hb4)
        have hqj : (q : Int) - 1 = (n : Int) - 2 - ((j + 1 : Nat) : Int) := by omega
        have hjm : j + 1 ≤ m := hlt
        clear hcs hbl hel hx hts hlj hO4 hb4 hmn hml
        go_wp2_with (at_builtin; refine Wv.wp_append hrun rfl rfl rfl rfl ?_)
        go_roundw
        case rel => exact ⟨j + 1, ya, yc, rfl, by rw [← hqj]; go_num, hjm, HO4, BR4⟩
        case measure => simp [intOf]; omega
      · obtain rfl : j = m := by omega
        have hneg : ¬ (0 : Int) ≤ (n : Int) - 2 - (j : Int) := by have := HM'.out; omega
        have hO4 : Wi.Or 39 W1.heap.size wr (.slice xa j xc) L3 := by
          have := HOr.out
          rw [List.take_of_length_le (by rw [HL3l.out]; exact Nat.le_refl _)] at this
          exact this
        have HR2 := Wc.hid (HR.out.keep BR.out)
        have HOR := Wc.hid hO4
        clear hO4
        cases b with
        | false =>
          have HN4 : Hid (Wi.Or 39 W1.heap.size wr (.slice xa j xc) N) := Wc.hid (by rw [HNW.out]; simpa using HOR.out)
          have BB4 := BR
          obtain ⟨w4, hw4⟩ : ∃ w4, wr = w4 := ⟨_, rfl⟩
          rw [hw4] at HN4 BB4 ⊢
          obtain ⟨ya, hya⟩ : ∃ ya, ya = xa := ⟨_, rfl⟩
          subst hya
          clear HOR HOr HR2 BR hw4
          have hyn := Wi.rs_len HN4.out.rs
          rw [HK.out] at hyn
          subst hyn
          clear HK
          by_cases hKF : K ≤ len2
          · have hKF2 : ¬ (len2 : Int) < (K : Int) := by omega
            have hKF' : K ≤ F.length := by rw [HF2.out]; exact hKF
            have HKF := Wc.hid hKF
            have HKF' := Wc.hid hKF'
            have HI0 := Wc.hid (Wd.Oi.nil 50 5 w4.heap.size w4)
            have BR0 := Wc.hid (Below.refl w4.heap.size w4)
            have HN5 := Wc.hid (HN4.out.rs)
            have HF4 := Wc.hid (HF.out.keep BB4.out)
            have hKF3 : ¬ len2 < K := by omega
            clear hKF hKF' HN4
            go_wp2_with fail
            go_loopw [12, 13, 18] (fun l z i wr => ∃ (k : Nat) (xa : Option Addr) (xc : Nat), i = .int .i64 k ∧ k ≤ K ∧ z = .int .i64 (Wq.nx P F k) ∧ l = .slice xa k xc ∧ Hid (Wd.Oi 50 5 w4.heap.size wr (.slice xa k xc) (Wq.ws N P F k)) ∧ Hid (Below w4.heap.size w4 wr)) (fun _ _ i _ => K - (intOf i).toNat)
            case atStart => exact ⟨0, none, 0, rfl, Nat.zero_le _, rfl, rfl, HI0, BR0⟩
            case round =>
              obtain ⟨k, xa, xc, rfl, hk, rfl, rfl, HI, BR⟩ := hrel
              by_cases hlt : k < K
              · obtain ⟨bN, oN, rfl, hbl, hcs⟩ : ∃ b off, ya = some ⟨b, off, none⟩ ∧ b < w4.heap.size ∧ ∀ i, i < K → Wi.Ra w4 b (off + i * 8) (N.getD i Wr.r0) := by
                  obtain ⟨_, _, _, h1, _, _, _, _, h6⟩ := HN5.out; cases h1; exact h6 (by omega)
                obtain ⟨gb, go, rfl, hcg⟩ := in_cell (HF4.out.keep BR.out) (k := k) (Nat.lt_of_lt_of_le hlt HKF.out)
                obtain ⟨c0, c1, c2, c3, c4, c5, c6, c7⟩ := (hcs k hlt).keep BR.out
                have hrec := HLK.out k hlt HKF'.out
                have hgr : gb < wr.heap.size := Wc.cell_lt hcg
                have hlt2 : k < len2 := Nat.lt_of_lt_of_le hlt HKF.out
                obtain ⟨x, hx⟩ : ∃ x, N.getD k Wr.r0 = x := ⟨_, rfl⟩
                obtain ⟨y, hy⟩ : ∃ y, F.getD k 0 = y := ⟨_, rfl⟩
                obtain ⟨z, hz⟩ : ∃ z, Wq.nx P F k = z := ⟨_, rfl⟩
                have hlk : Wq.lk N P F k = ⟨z, x.id, x.parent, x.root, x.size, x.kind, x.frames, x.digest⟩ := by unfold Wq.lk; rw [hx, hz]
                have hnx : Wq.nx P F (k + 1) = y := by unfold Wq.nx; rw [if_neg (by omega), Nat.add_sub_cancel, hy]
                have hws : Wq.ws N P F (k + 1) = Wq.ws N P F k ++ [⟨1, y, Wr.blk ⟨z, x.id, x.parent, x.root, x.size, x.kind, x.frames, x.digest⟩⟩] := by rw [Wq.ws_succ, hlk, hy]
                rw [hlk] at hrec
                rw [hx] at c0 c1 c2 c3 c4 c5 c6 c7
                rw [hy] at hcg
                rw [hz]
                have HWS := Wc.hid hws
                have HNX := Wc.hid hnx
                have HREC := Wc.hid hrec
                have HLW : Hid ((Wq.ws N P F k).length + 1 ≤ 1048576) := Wc.hid (by rw [Wq.ws_length]; have := HK9.out; omega)
                have bA := (Below.refl wr.heap.size wr).alloc (Nat.le_refl _) (.cells #[.int .i64 z, .int .i64 x.id, .int .i64 x.parent, .int .i64 x.root, .int .i64 x.size, .int .i64 x.kind, .int .i64 x.frames, .int .i64 x.digest] 39)
                have HI7 := Wc.hid (HI.out.keep bA)
                have BR7 := Wc.hid (Wc.step BR.out (Nat.le_refl _) bA)
                have R7 := Wc.hid (Rh.new wr ⟨z, x.id, x.parent, x.root, x.size, x.kind, x.frames, x.digest⟩)
                obtain ⟨W7, hW7⟩ : ∃ W7, wr.alloc (.cells #[.int .i64 z, .int .i64 x.id, .int .i64 x.parent, .int .i64 x.root, .int .i64 x.size, .int .i64 x.kind, .int .i64 x.frames, .int .i64 x.digest] 39) = W7 := ⟨_, rfl⟩
                have HW7 := Wc.hid hW7
                rw [hW7] at HI7 BR7 R7
                clear hx hy hz hlk hnx hws hrec hcs hbl bA hW7
                go_wp2_with fail
                rw [HW7.out]
                refine (refRecordBytes15 ⟨z, x.id, x.parent, x.root, x.size, x.kind, x.frames, x.digest⟩ _ HREC.out).mono ?_
                rintro e w8 ⟨g8, c8, rfl, hD8, hb8⟩
                have BR8 := Wc.hid (Wc.step BR7.out (Nat.le_refl _) hb8)
                have HI8 := Wc.hid (HI7.out.keep hb8)
                obtain ⟨za, zc, w10, hrun, hO10, hb10⟩ := push_io15c w8 w8.heap.size w4.heap.size rfl (.slice xa k xc) (Wq.ws N P F k) 1 y g8 c8 _ (Wr.blk_length _) HI8.out (hD8.base (by have := BR7.out.size; omega)) HLW.out BR8.out.size
                rw [← HWS.out, Wq.ws_length] at hO10
                rw [Wq.ws_length] at hrun
                have BR10 := Wc.hid ((BR8.out.alloc BR8.out.size (.cells #[.int .i64 1, .int .i64 y, .slice (some ⟨g8, 0, none⟩) 64 c8] 50)).trans hb10)
                have HI10 := Wc.hid hO10
                have hkb : K ≤ 1000 := HK9.out
                clear c0 c1 c2 c3 c4 c5 c6 c7 hcg hgr hb8 hD8 hO10 hb10
                go_wp2_with (at_builtin; refine Wv.wp_append hrun rfl rfl rfl rfl ?_)
                go_roundw
                case rel => exact ⟨k + 1, za, zc, by go_num, by omega, by rw [HNX.out], rfl, HI10, BR10⟩
                case measure => simp [intOf]; omega
              · obtain rfl : k = K := by omega
                obtain ⟨ax, hsl, arr, crr, w8, hrun, hIn, hb8⟩ := rest15_any a2 len2 cap2 k F wr (HF4.out.keep BR.out) HKF.out
                have HIN := Wc.hid hIn
                have HI8 := Wc.hid (HI.out.keep hb8).is
                have BB8 := Wc.hid (Wc.step (Wc.step BB4.out (Nat.le_refl _) BR.out) (Nat.le_refl _) hb8)
                have HRUN := Wc.hid hrun
                have hkl : k ≤ len2 := HKF.out
                clear hIn hb8 hrun
                go_wp2_with (at_builtin; refine Wv.wp_append HRUN.out rfl rfl rfl rfl ?_)
                refine bodyPost_ret (results_four rfl _ _ _) rfl ?_
                refine ⟨Wc.step BA.out (Nat.le_refl _) BB8.out, fun _ => ⟨xa, xc, arr, crr, ?_, HI8.out, ?_⟩, fun h => ?_⟩
                · rw [HF2.out]; rfl
                · rw [HF2.out]; exact HIN.out
                · rw [HF2.out] at h; exact absurd HKF.out (by omega)
          · have hKF2 : (len2 : Int) < (K : Int) := by omega
            have hKF3 : len2 < K := by omega
            have HKF := Wc.hid hKF
            clear HN4 hKF
            go_wp2_with fail
            refine bodyPost_ret (results_four rfl _ _ _) rfl ?_
            refine ⟨Wc.step BA.out (Nat.le_refl _) BB4.out, fun h => ?_, fun _ => rfl⟩
            rw [HF2.out] at h
            exact absurd h HKF.out
        | true =>
          obtain ⟨f0, f1, f2, f3, f4, f5, f6, f7⟩ := HR2.out.rc
          have hjn : j ≤ 900 := by have := HML.out; omega
          obtain ⟨ya, yn, yc, w4, hrun, hO4, hb4, -⟩ := pushr_run wr wr wr.heap.size W1.heap.size rfl (.slice xa j xc) L3 r HOR.out (Below.refl _ _) (by rw [HL3l.out]; omega) BR.out.size
          have HN4 : Hid (Wi.Or 39 W1.heap.size w4 (.slice ya yn yc) N) := Wc.hid (by rw [HNW.out]; exact hO4)
          have BB4 := Wc.hid ((BR.out.alloc BR.out.size (.cells #[.int .i64 r.next, .int .i64 r.id, .int .i64 r.parent, .int .i64 r.root, .int .i64 r.size, .int .i64 r.kind, .int .i64 r.frames, .int .i64 r.digest] 39)).trans hb4)
          have HRUN1 := Wc.hid hrun
          clear hO4 hb4 HOR HOr BR HR2 hrun
          have hyn := Wi.rs_len HN4.out.rs
          rw [HK.out] at hyn
          subst hyn
          clear HK
          by_cases hKF : K ≤ len2
          · have hKF2 : ¬ (len2 : Int) < (K : Int) := by omega
            have hKF' : K ≤ F.length := by rw [HF2.out]; exact hKF
            have HKF := Wc.hid hKF
            have HKF' := Wc.hid hKF'
            have HI0 := Wc.hid (Wd.Oi.nil 50 5 w4.heap.size w4)
            have BR0 := Wc.hid (Below.refl w4.heap.size w4)
            have HN5 := Wc.hid (HN4.out.rs)
            have HF4 := Wc.hid (HF.out.keep BB4.out)
            have hKF3 : ¬ len2 < K := by omega
            clear hKF hKF' HN4
            go_wp2_with (at_builtin; refine Wv.wp_append HRUN1.out rfl rfl rfl rfl ?_)
            go_loopw [12, 13, 18] (fun l z i wr => ∃ (k : Nat) (xa : Option Addr) (xc : Nat), i = .int .i64 k ∧ k ≤ K ∧ z = .int .i64 (Wq.nx P F k) ∧ l = .slice xa k xc ∧ Hid (Wd.Oi 50 5 w4.heap.size wr (.slice xa k xc) (Wq.ws N P F k)) ∧ Hid (Below w4.heap.size w4 wr)) (fun _ _ i _ => K - (intOf i).toNat)
            case atStart => exact ⟨0, none, 0, rfl, Nat.zero_le _, rfl, rfl, HI0, BR0⟩
            case round =>
              obtain ⟨k, xa, xc, rfl, hk, rfl, rfl, HI, BR⟩ := hrel
              by_cases hlt : k < K
              · obtain ⟨bN, oN, rfl, hbl, hcs⟩ : ∃ b off, ya = some ⟨b, off, none⟩ ∧ b < w4.heap.size ∧ ∀ i, i < K → Wi.Ra w4 b (off + i * 8) (N.getD i Wr.r0) := by
                  obtain ⟨_, _, _, h1, _, _, _, _, h6⟩ := HN5.out; cases h1; exact h6 (by omega)
                obtain ⟨gb, go, rfl, hcg⟩ := in_cell (HF4.out.keep BR.out) (k := k) (Nat.lt_of_lt_of_le hlt HKF.out)
                obtain ⟨c0, c1, c2, c3, c4, c5, c6, c7⟩ := (hcs k hlt).keep BR.out
                have hrec := HLK.out k hlt HKF'.out
                have hgr : gb < wr.heap.size := Wc.cell_lt hcg
                have hlt2 : k < len2 := Nat.lt_of_lt_of_le hlt HKF.out
                obtain ⟨x, hx⟩ : ∃ x, N.getD k Wr.r0 = x := ⟨_, rfl⟩
                obtain ⟨y, hy⟩ : ∃ y, F.getD k 0 = y := ⟨_, rfl⟩
                obtain ⟨z, hz⟩ : ∃ z, Wq.nx P F k = z := ⟨_, rfl⟩
                have hlk : Wq.lk N P F k = ⟨z, x.id, x.parent, x.root, x.size, x.kind, x.frames, x.digest⟩ := by unfold Wq.lk; rw [hx, hz]
                have hnx : Wq.nx P F (k + 1) = y := by unfold Wq.nx; rw [if_neg (by omega), Nat.add_sub_cancel, hy]
                have hws : Wq.ws N P F (k + 1) = Wq.ws N P F k ++ [⟨1, y, Wr.blk ⟨z, x.id, x.parent, x.root, x.size, x.kind, x.frames, x.digest⟩⟩] := by rw [Wq.ws_succ, hlk, hy]
                rw [hlk] at hrec
                rw [hx] at c0 c1 c2 c3 c4 c5 c6 c7
                rw [hy] at hcg
                rw [hz]
                have HWS := Wc.hid hws
                have HNX := Wc.hid hnx
                have HREC := Wc.hid hrec
                have HLW : Hid ((Wq.ws N P F k).length + 1 ≤ 1048576) := Wc.hid (by rw [Wq.ws_length]; have := HK9.out; omega)
                have bA := (Below.refl wr.heap.size wr).alloc (Nat.le_refl _) (.cells #[.int .i64 z, .int .i64 x.id, .int .i64 x.parent, .int .i64 x.root, .int .i64 x.size, .int .i64 x.kind, .int .i64 x.frames, .int .i64 x.digest] 39)
                have HI7 := Wc.hid (HI.out.keep bA)
                have BR7 := Wc.hid (Wc.step BR.out (Nat.le_refl _) bA)
                have R7 := Wc.hid (Rh.new wr ⟨z, x.id, x.parent, x.root, x.size, x.kind, x.frames, x.digest⟩)
                obtain ⟨W7, hW7⟩ : ∃ W7, wr.alloc (.cells #[.int .i64 z, .int .i64 x.id, .int .i64 x.parent, .int .i64 x.root, .int .i64 x.size, .int .i64 x.kind, .int .i64 x.frames, .int .i64 x.digest] 39) = W7 := ⟨_, rfl⟩
                have HW7 := Wc.hid hW7
                rw [hW7] at HI7 BR7 R7
                clear hx hy hz hlk hnx hws hrec hcs hbl bA hW7
                go_wp2_with fail
                rw [HW7.out]
                refine (refRecordBytes15 ⟨z, x.id, x.parent, x.root, x.size, x.kind, x.frames, x.digest⟩ _ HREC.out).mono ?_
                rintro e w8 ⟨g8, c8, rfl, hD8, hb8⟩
                have BR8 := Wc.hid (Wc.step BR7.out (Nat.le_refl _) hb8)
                have HI8 := Wc.hid (HI7.out.keep hb8)
                obtain ⟨za, zc, w10, hrun, hO10, hb10⟩ := push_io15c w8 w8.heap.size w4.heap.size rfl (.slice xa k xc) (Wq.ws N P F k) 1 y g8 c8 _ (Wr.blk_length _) HI8.out (hD8.base (by have := BR7.out.size; omega)) HLW.out BR8.out.size
                rw [← HWS.out, Wq.ws_length] at hO10
                rw [Wq.ws_length] at hrun
                have BR10 := Wc.hid ((BR8.out.alloc BR8.out.size (.cells #[.int .i64 1, .int .i64 y, .slice (some ⟨g8, 0, none⟩) 64 c8] 50)).trans hb10)
                have HI10 := Wc.hid hO10
                have hkb : K ≤ 1000 := HK9.out
                clear c0 c1 c2 c3 c4 c5 c6 c7 hcg hgr hb8 hD8 hO10 hb10
                go_wp2_with (at_builtin; refine Wv.wp_append hrun rfl rfl rfl rfl ?_)
                go_roundw
                case rel => exact ⟨k + 1, za, zc, by go_num, by omega, by rw [HNX.out], rfl, HI10, BR10⟩
                case measure => simp [intOf]; omega
              · obtain rfl : k = K := by omega
                obtain ⟨ax, hsl, arr, crr, w8, hrun, hIn, hb8⟩ := rest15_any a2 len2 cap2 k F wr (HF4.out.keep BR.out) HKF.out
                have HIN := Wc.hid hIn
                have HI8 := Wc.hid (HI.out.keep hb8).is
                have BB8 := Wc.hid (Wc.step (Wc.step BB4.out (Nat.le_refl _) BR.out) (Nat.le_refl _) hb8)
                have HRUN := Wc.hid hrun
                have hkl : k ≤ len2 := HKF.out
                clear hIn hb8 hrun
                go_wp2_with (at_builtin; refine Wv.wp_append HRUN.out rfl rfl rfl rfl ?_)
                refine bodyPost_ret (results_four rfl _ _ _) rfl ?_
                refine ⟨Wc.step BA.out (Nat.le_refl _) BB8.out, fun _ => ⟨xa, xc, arr, crr, ?_, HI8.out, ?_⟩, fun h => ?_⟩
                · rw [HF2.out]; rfl
                · rw [HF2.out]; exact HIN.out
                · rw [HF2.out] at h; exact absurd HKF.out (by omega)
          · have hKF2 : (len2 : Int) < (K : Int) := by omega
            have hKF3 : len2 < K := by omega
            have HKF := Wc.hid hKF
            clear HN4 hKF
            go_wp2_with (at_builtin; refine Wv.wp_append HRUN1.out rfl rfl rfl rfl ?_)
            refine bodyPost_ret (results_four rfl _ _ _) rfl ?_
            refine ⟨Wc.step BA.out (Nat.le_refl _) BB4.out, fun h => ?_, fun _ => rfl⟩
            rw [HF2.out] at h
            exact absurd h HKF.out
  · have hlt0 : ¬ (n : Int) < (len : Int) := by omega
    clear h1
    go_wp2_with fail
    rw [HW1.out]
    go_loopw [16, 17] (fun o i wr => ∃ (j : Nat) (xa : Option Addr) (xc : Nat), o = .slice xa j xc ∧ i = .int .i64 ((n : Int) - 2 - (j : Int)) ∧ j ≤ m ∧ Hid (Wi.Or 39 W1.heap.size wr (.slice xa j xc) (L3.take j)) ∧ Hid (Below W1.heap.size W1 wr)) (fun _ i _ => (intOf i + 1).toNat)
    case atStart => exact ⟨0, none, 0, rfl, by simp, Nat.zero_le _, O1, BW1⟩
    case round =>
      obtain ⟨j, xa, xc, rfl, rfl, hj, HOr, BR⟩ := hrel
      by_cases hlt : j < m
      · have hmn := HM'.out
        have hml := HML.out
        obtain ⟨q, hq⟩ : ∃ q : Nat, (n : Int) - 2 - (j : Int) = (q : Int) := ⟨n - 2 - j, by omega⟩
        rw [hq]
        obtain ⟨bo, oo, rfl, hbl, hcs⟩ : ∃ b off, a = some ⟨b, off, none⟩ ∧ b < W1.heap.size ∧ ∀ i, i < len → Wi.Ra W1 b (off + i * 8) (old.getD i Wr.r0) := by
          obtain ⟨_, _, _, h1, _, _, _, _, h6⟩ := HO.out; cases h1; exact h6 (by omega)
        have hql : q < len := by omega
        obtain ⟨c0, c1, c2, c3, c4, c5, c6, c7⟩ := (hcs q hql).keep BR.out
        have hel := HRV.out j hlt
        rw [show m - 1 - j = q by omega] at hel
        obtain ⟨x, hx⟩ : ∃ x, old.getD q Wr.r0 = x := ⟨_, rfl⟩
        rw [hx] at hel c0 c1 c2 c3 c4 c5 c6 c7
        have hts : L3.take (j + 1) = L3.take j ++ [x] := by rw [Wq.take_succ_rec (by rw [HL3l.out]; exact hlt), hel]
        have hlj : (L3.take j).length = j := by rw [List.length_take, HL3l.out]; omega
        obtain ⟨ya, yn, yc, w4, hrun, hO4, hb4, -⟩ := pushr_run wr wr wr.heap.size W1.heap.size rfl (.slice xa j xc) (L3.take j) x HOr.out (Below.refl _ _) (by rw [hlj]; omega) BR.out.size
        rw [← hts] at hO4
        have hyn := Wi.rs_len hO4.rs
        rw [List.length_take, HL3l.out, Nat.min_eq_left (by omega)] at hyn
        subst hyn
        have HO4 := Wc.hid hO4
        have BR4 := Wc.hid ((BR.out.alloc BR.out.size (.cells #[.int .i64 x.next, .int .i64 x.id, .int .i64 x.parent, .int .i64 x.root, .int .i64 x.size, .int .i64 x.kind, .int .i64 x.frames, .int .i64 x.digest] 39)).trans hb4)
        have hqj : (q : Int) - 1 = (n : Int) - 2 - ((j + 1 : Nat) : Int) := by omega
        have hjm : j + 1 ≤ m := hlt
        clear hcs hbl hel hx hts hlj hO4 hb4 hmn hml
        go_wp2_with (at_builtin; refine Wv.wp_append hrun rfl rfl rfl rfl ?_)
        go_roundw
        case rel => exact ⟨j + 1, ya, yc, rfl, by rw [← hqj]; go_num, hjm, HO4, BR4⟩
        case measure => simp [intOf]; omega
      · obtain rfl : j = m := by omega
        have hneg : ¬ (0 : Int) ≤ (n : Int) - 2 - (j : Int) := by have := HM'.out; omega
        have hO4 : Wi.Or 39 W1.heap.size wr (.slice xa j xc) L3 := by
          have := HOr.out
          rw [List.take_of_length_le (by rw [HL3l.out]; exact Nat.le_refl _)] at this
          exact this
        have HR2 := Wc.hid (HR.out.keep BR.out)
        have HOR := Wc.hid hO4
        clear hO4
        cases b with
        | false =>
          have HN4 : Hid (Wi.Or 39 W1.heap.size wr (.slice xa j xc) N) := Wc.hid (by rw [HNW.out]; simpa using HOR.out)
          have BB4 := BR
          obtain ⟨w4, hw4⟩ : ∃ w4, wr = w4 := ⟨_, rfl⟩
          rw [hw4] at HN4 BB4 ⊢
          obtain ⟨ya, hya⟩ : ∃ ya, ya = xa := ⟨_, rfl⟩
          subst hya
          clear HOR HOr HR2 BR hw4
          have hyn := Wi.rs_len HN4.out.rs
          rw [HK.out] at hyn
          subst hyn
          clear HK
          by_cases hKF : K ≤ len2
          · have hKF2 : ¬ (len2 : Int) < (K : Int) := by omega
            have hKF' : K ≤ F.length := by rw [HF2.out]; exact hKF
            have HKF := Wc.hid hKF
            have HKF' := Wc.hid hKF'
            have HI0 := Wc.hid (Wd.Oi.nil 50 5 w4.heap.size w4)
            have BR0 := Wc.hid (Below.refl w4.heap.size w4)
            have HN5 := Wc.hid (HN4.out.rs)
            have HF4 := Wc.hid (HF.out.keep BB4.out)
            have hKF3 : ¬ len2 < K := by omega
            clear hKF hKF' HN4
            go_wp2_with fail
            go_loopw [12, 13, 18] (fun l z i wr => ∃ (k : Nat) (xa : Option Addr) (xc : Nat), i = .int .i64 k ∧ k ≤ K ∧ z = .int .i64 (Wq.nx 0 F k) ∧ l = .slice xa k xc ∧ Hid (Wd.Oi 50 5 w4.heap.size wr (.slice xa k xc) (Wq.ws N 0 F k)) ∧ Hid (Below w4.heap.size w4 wr)) (fun _ _ i _ => K - (intOf i).toNat)
            case atStart => exact ⟨0, none, 0, rfl, Nat.zero_le _, rfl, rfl, HI0, BR0⟩
            case round =>
              obtain ⟨k, xa, xc, rfl, hk, rfl, rfl, HI, BR⟩ := hrel
              by_cases hlt : k < K
              · obtain ⟨bN, oN, rfl, hbl, hcs⟩ : ∃ b off, ya = some ⟨b, off, none⟩ ∧ b < w4.heap.size ∧ ∀ i, i < K → Wi.Ra w4 b (off + i * 8) (N.getD i Wr.r0) := by
                  obtain ⟨_, _, _, h1, _, _, _, _, h6⟩ := HN5.out; cases h1; exact h6 (by omega)
                obtain ⟨gb, go, rfl, hcg⟩ := in_cell (HF4.out.keep BR.out) (k := k) (Nat.lt_of_lt_of_le hlt HKF.out)
                obtain ⟨c0, c1, c2, c3, c4, c5, c6, c7⟩ := (hcs k hlt).keep BR.out
                have hrec := HLK.out k hlt HKF'.out
                have hgr : gb < wr.heap.size := Wc.cell_lt hcg
                have hlt2 : k < len2 := Nat.lt_of_lt_of_le hlt HKF.out
                obtain ⟨x, hx⟩ : ∃ x, N.getD k Wr.r0 = x := ⟨_, rfl⟩
                obtain ⟨y, hy⟩ : ∃ y, F.getD k 0 = y := ⟨_, rfl⟩
                obtain ⟨z, hz⟩ : ∃ z, Wq.nx 0 F k = z := ⟨_, rfl⟩
                have hlk : Wq.lk N 0 F k = ⟨z, x.id, x.parent, x.root, x.size, x.kind, x.frames, x.digest⟩ := by unfold Wq.lk; rw [hx, hz]
                have hnx : Wq.nx 0 F (k + 1) = y := by unfold Wq.nx; rw [if_neg (by omega), Nat.add_sub_cancel, hy]
                have hws : Wq.ws N 0 F (k + 1) = Wq.ws N 0 F k ++ [⟨1, y, Wr.blk ⟨z, x.id, x.parent, x.root, x.size, x.kind, x.frames, x.digest⟩⟩] := by rw [Wq.ws_succ, hlk, hy]
                rw [hlk] at hrec
                rw [hx] at c0 c1 c2 c3 c4 c5 c6 c7
                rw [hy] at hcg
                rw [hz]
                have HWS := Wc.hid hws
                have HNX := Wc.hid hnx
                have HREC := Wc.hid hrec
                have HLW : Hid ((Wq.ws N 0 F k).length + 1 ≤ 1048576) := Wc.hid (by rw [Wq.ws_length]; have := HK9.out; omega)
                have bA := (Below.refl wr.heap.size wr).alloc (Nat.le_refl _) (.cells #[.int .i64 z, .int .i64 x.id, .int .i64 x.parent, .int .i64 x.root, .int .i64 x.size, .int .i64 x.kind, .int .i64 x.frames, .int .i64 x.digest] 39)
                have HI7 := Wc.hid (HI.out.keep bA)
                have BR7 := Wc.hid (Wc.step BR.out (Nat.le_refl _) bA)
                have R7 := Wc.hid (Rh.new wr ⟨z, x.id, x.parent, x.root, x.size, x.kind, x.frames, x.digest⟩)
                obtain ⟨W7, hW7⟩ : ∃ W7, wr.alloc (.cells #[.int .i64 z, .int .i64 x.id, .int .i64 x.parent, .int .i64 x.root, .int .i64 x.size, .int .i64 x.kind, .int .i64 x.frames, .int .i64 x.digest] 39) = W7 := ⟨_, rfl⟩
                have HW7 := Wc.hid hW7
                rw [hW7] at HI7 BR7 R7
                clear hx hy hz hlk hnx hws hrec hcs hbl bA hW7
                go_wp2_with fail
                rw [HW7.out]
                refine (refRecordBytes15 ⟨z, x.id, x.parent, x.root, x.size, x.kind, x.frames, x.digest⟩ _ HREC.out).mono ?_
                rintro e w8 ⟨g8, c8, rfl, hD8, hb8⟩
                have BR8 := Wc.hid (Wc.step BR7.out (Nat.le_refl _) hb8)
                have HI8 := Wc.hid (HI7.out.keep hb8)
                obtain ⟨za, zc, w10, hrun, hO10, hb10⟩ := push_io15c w8 w8.heap.size w4.heap.size rfl (.slice xa k xc) (Wq.ws N 0 F k) 1 y g8 c8 _ (Wr.blk_length _) HI8.out (hD8.base (by have := BR7.out.size; omega)) HLW.out BR8.out.size
                rw [← HWS.out, Wq.ws_length] at hO10
                rw [Wq.ws_length] at hrun
                have BR10 := Wc.hid ((BR8.out.alloc BR8.out.size (.cells #[.int .i64 1, .int .i64 y, .slice (some ⟨g8, 0, none⟩) 64 c8] 50)).trans hb10)
                have HI10 := Wc.hid hO10
                have hkb : K ≤ 1000 := HK9.out
                clear c0 c1 c2 c3 c4 c5 c6 c7 hcg hgr hb8 hD8 hO10 hb10
                go_wp2_with (at_builtin; refine Wv.wp_append hrun rfl rfl rfl rfl ?_)
                go_roundw
                case rel => exact ⟨k + 1, za, zc, by go_num, by omega, by rw [HNX.out], rfl, HI10, BR10⟩
                case measure => simp [intOf]; omega
              · obtain rfl : k = K := by omega
                obtain ⟨ax, hsl, arr, crr, w8, hrun, hIn, hb8⟩ := rest15_any a2 len2 cap2 k F wr (HF4.out.keep BR.out) HKF.out
                have HIN := Wc.hid hIn
                have HI8 := Wc.hid (HI.out.keep hb8).is
                have BB8 := Wc.hid (Wc.step (Wc.step BB4.out (Nat.le_refl _) BR.out) (Nat.le_refl _) hb8)
                have HRUN := Wc.hid hrun
                have hkl : k ≤ len2 := HKF.out
                clear hIn hb8 hrun
                go_wp2_with (at_builtin; refine Wv.wp_append HRUN.out rfl rfl rfl rfl ?_)
                refine bodyPost_ret (results_four rfl _ _ _) rfl ?_
                refine ⟨Wc.step BA.out (Nat.le_refl _) BB8.out, fun _ => ⟨xa, xc, arr, crr, ?_, HI8.out, ?_⟩, fun h => ?_⟩
                · rw [HF2.out]; rfl
                · rw [HF2.out]; exact HIN.out
                · rw [HF2.out] at h; exact absurd HKF.out (by omega)
          · have hKF2 : (len2 : Int) < (K : Int) := by omega
            have hKF3 : len2 < K := by omega
            have HKF := Wc.hid hKF
            clear HN4 hKF
            go_wp2_with fail
            refine bodyPost_ret (results_four rfl _ _ _) rfl ?_
            refine ⟨Wc.step BA.out (Nat.le_refl _) BB4.out, fun h => ?_, fun _ => rfl⟩
            rw [HF2.out] at h
            exact absurd h HKF.out
        | true =>
          obtain ⟨f0, f1, f2, f3, f4, f5, f6, f7⟩ := HR2.out.rc
          have hjn : j ≤ 900 := by have := HML.out; omega
          obtain ⟨ya, yn, yc, w4, hrun, hO4, hb4, -⟩ := pushr_run wr wr wr.heap.size W1.heap.size rfl (.slice xa j xc) L3 r HOR.out (Below.refl _ _) (by rw [HL3l.out]; omega) BR.out.size
          have HN4 : Hid (Wi.Or 39 W1.heap.size w4 (.slice ya yn yc) N) := Wc.hid (by rw [HNW.out]; exact hO4)
          have BB4 := Wc.hid ((BR.out.alloc BR.out.size (.cells #[.int .i64 r.next, .int .i64 r.id, .int .i64 r.parent, .int .i64 r.root, .int .i64 r.size, .int .i64 r.kind, .int .i64 r.frames, .int .i64 r.digest] 39)).trans hb4)
          have HRUN1 := Wc.hid hrun
          clear hO4 hb4 HOR HOr BR HR2 hrun
          have hyn := Wi.rs_len HN4.out.rs
          rw [HK.out] at hyn
          subst hyn
          clear HK
          by_cases hKF : K ≤ len2
          · have hKF2 : ¬ (len2 : Int) < (K : Int) := by omega
            have hKF' : K ≤ F.length := by rw [HF2.out]; exact hKF
            have HKF := Wc.hid hKF
            have HKF' := Wc.hid hKF'
            have HI0 := Wc.hid (Wd.Oi.nil 50 5 w4.heap.size w4)
            have BR0 := Wc.hid (Below.refl w4.heap.size w4)
            have HN5 := Wc.hid (HN4.out.rs)
            have HF4 := Wc.hid (HF.out.keep BB4.out)
            have hKF3 : ¬ len2 < K := by omega
            clear hKF hKF' HN4
            go_wp2_with (at_builtin; refine Wv.wp_append HRUN1.out rfl rfl rfl rfl ?_)
            go_loopw [12, 13, 18] (fun l z i wr => ∃ (k : Nat) (xa : Option Addr) (xc : Nat), i = .int .i64 k ∧ k ≤ K ∧ z = .int .i64 (Wq.nx 0 F k) ∧ l = .slice xa k xc ∧ Hid (Wd.Oi 50 5 w4.heap.size wr (.slice xa k xc) (Wq.ws N 0 F k)) ∧ Hid (Below w4.heap.size w4 wr)) (fun _ _ i _ => K - (intOf i).toNat)
            case atStart => exact ⟨0, none, 0, rfl, Nat.zero_le _, rfl, rfl, HI0, BR0⟩
            case round =>
              obtain ⟨k, xa, xc, rfl, hk, rfl, rfl, HI, BR⟩ := hrel
              by_cases hlt : k < K
              · obtain ⟨bN, oN, rfl, hbl, hcs⟩ : ∃ b off, ya = some ⟨b, off, none⟩ ∧ b < w4.heap.size ∧ ∀ i, i < K → Wi.Ra w4 b (off + i * 8) (N.getD i Wr.r0) := by
                  obtain ⟨_, _, _, h1, _, _, _, _, h6⟩ := HN5.out; cases h1; exact h6 (by omega)
                obtain ⟨gb, go, rfl, hcg⟩ := in_cell (HF4.out.keep BR.out) (k := k) (Nat.lt_of_lt_of_le hlt HKF.out)
                obtain ⟨c0, c1, c2, c3, c4, c5, c6, c7⟩ := (hcs k hlt).keep BR.out
                have hrec := HLK.out k hlt HKF'.out
                have hgr : gb < wr.heap.size := Wc.cell_lt hcg
                have hlt2 : k < len2 := Nat.lt_of_lt_of_le hlt HKF.out
                obtain ⟨x, hx⟩ : ∃ x, N.getD k Wr.r0 = x := ⟨_, rfl⟩
                obtain ⟨y, hy⟩ : ∃ y, F.getD k 0 = y := ⟨_, rfl⟩
                obtain ⟨z, hz⟩ : ∃ z, Wq.nx 0 F k = z := ⟨_, rfl⟩
                have hlk : Wq.lk N 0 F k = ⟨z, x.id, x.parent, x.root, x.size, x.kind, x.frames, x.digest⟩ := by unfold Wq.lk; rw [hx, hz]
                have hnx : Wq.nx 0 F (k + 1) = y := by unfold Wq.nx; rw [if_neg (by omega), Nat.add_sub_cancel, hy]
                have hws : Wq.ws N 0 F (k + 1) = Wq.ws N 0 F k ++ [⟨1, y, Wr.blk ⟨z, x.id, x.parent, x.root, x.size, x.kind, x.frames, x.digest⟩⟩] := by rw [Wq.ws_succ, hlk, hy]
                rw [hlk] at hrec
                rw [hx] at c0 c1 c2 c3 c4 c5 c6 c7
                rw [hy] at hcg
                rw [hz]
                have HWS := Wc.hid hws
                have HNX := Wc.hid hnx
                have HREC := Wc.hid hrec
                have HLW : Hid ((Wq.ws N 0 F k).length + 1 ≤ 1048576) := Wc.hid (by rw [Wq.ws_length]; have := HK9.out; omega)
                have bA := (Below.refl wr.heap.size wr).alloc (Nat.le_refl _) (.cells #[.int .i64 z, .int .i64 x.id, .int .i64 x.parent, .int .i64 x.root, .int .i64 x.size, .int .i64 x.kind, .int .i64 x.frames, .int .i64 x.digest] 39)
                have HI7 := Wc.hid (HI.out.keep bA)
                have BR7 := Wc.hid (Wc.step BR.out (Nat.le_refl _) bA)
                have R7 := Wc.hid (Rh.new wr ⟨z, x.id, x.parent, x.root, x.size, x.kind, x.frames, x.digest⟩)
                obtain ⟨W7, hW7⟩ : ∃ W7, wr.alloc (.cells #[.int .i64 z, .int .i64 x.id, .int .i64 x.parent, .int .i64 x.root, .int .i64 x.size, .int .i64 x.kind, .int .i64 x.frames, .int .i64 x.digest] 39) = W7 := ⟨_, rfl⟩
                have HW7 := Wc.hid hW7
                rw [hW7] at HI7 BR7 R7
                clear hx hy hz hlk hnx hws hrec hcs hbl bA hW7
                go_wp2_with fail
                rw [HW7.out]
                refine (refRecordBytes15 ⟨z, x.id, x.parent, x.root, x.size, x.kind, x.frames, x.digest⟩ _ HREC.out).mono ?_
                rintro e w8 ⟨g8, c8, rfl, hD8, hb8⟩
                have BR8 := Wc.hid (Wc.step BR7.out (Nat.le_refl _) hb8)
                have HI8 := Wc.hid (HI7.out.keep hb8)
                obtain ⟨za, zc, w10, hrun, hO10, hb10⟩ := push_io15c w8 w8.heap.size w4.heap.size rfl (.slice xa k xc) (Wq.ws N 0 F k) 1 y g8 c8 _ (Wr.blk_length _) HI8.out (hD8.base (by have := BR7.out.size; omega)) HLW.out BR8.out.size
                rw [← HWS.out, Wq.ws_length] at hO10
                rw [Wq.ws_length] at hrun
                have BR10 := Wc.hid ((BR8.out.alloc BR8.out.size (.cells #[.int .i64 1, .int .i64 y, .slice (some ⟨g8, 0, none⟩) 64 c8] 50)).trans hb10)
                have HI10 := Wc.hid hO10
                have hkb : K ≤ 1000 := HK9.out
                clear c0 c1 c2 c3 c4 c5 c6 c7 hcg hgr hb8 hD8 hO10 hb10
                go_wp2_with (at_builtin; refine Wv.wp_append hrun rfl rfl rfl rfl ?_)
                go_roundw
                case rel => exact ⟨k + 1, za, zc, by go_num, by omega, by rw [HNX.out], rfl, HI10, BR10⟩
                case measure => simp [intOf]; omega
              · obtain rfl : k = K := by omega
                obtain ⟨ax, hsl, arr, crr, w8, hrun, hIn, hb8⟩ := rest15_any a2 len2 cap2 k F wr (HF4.out.keep BR.out) HKF.out
                have HIN := Wc.hid hIn
                have HI8 := Wc.hid (HI.out.keep hb8).is
                have BB8 := Wc.hid (Wc.step (Wc.step BB4.out (Nat.le_refl _) BR.out) (Nat.le_refl _) hb8)
                have HRUN := Wc.hid hrun
                have hkl : k ≤ len2 := HKF.out
                clear hIn hb8 hrun
                go_wp2_with (at_builtin; refine Wv.wp_append HRUN.out rfl rfl rfl rfl ?_)
                refine bodyPost_ret (results_four rfl _ _ _) rfl ?_
                refine ⟨Wc.step BA.out (Nat.le_refl _) BB8.out, fun _ => ⟨xa, xc, arr, crr, ?_, HI8.out, ?_⟩, fun h => ?_⟩
                · rw [HF2.out]; rfl
                · rw [HF2.out]; exact HIN.out
                · rw [HF2.out] at h; exact absurd HKF.out (by omega)
          · have hKF2 : (len2 : Int) < (K : Int) := by omega
            have hKF3 : len2 < K := by omega
            have HKF := Wc.hid hKF
            clear HN4 hKF
            go_wp2_with (at_builtin; refine Wv.wp_append HRUN1.out rfl rfl rfl rfl ?_)
            refine bodyPost_ret (results_four rfl _ _ _) rfl ?_
            refine ⟨Wc.step BA.out (Nat.le_refl _) BB4.out, fun h => ?_, fun _ => rfl⟩
            rw [HF2.out] at h
            exact absurd h HKF.out
end Go.Proofs.YtfflhiajbioheaaGreat
