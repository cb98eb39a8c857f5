/-
  CommitExact: what it returns.
-/
import Derived.Test.YtfflhiajbioheaaGreatFb
import Derived.Test.YtfflhiajbioheaaGreatFc
import Derived.Test.YtfflhiajbioheaaGreatFd
import Derived.Test.YtfflhiajbioheaaGreatXo
import Derived.Deep.Cut
import Derived.Deep.CutRange
import Derived.Deep.Light
namespace Wq
open Wr
/-- The statement's first record. -/
def fst15 (size : Int) : Rec := ⟨0, 1 + size.tmod 1000, 0, 0, size, 0, 0, 0⟩
/-- What the statement tells of a chain before it looks at each. -/
def m0B (lo lb : Nat) (k : Int) (b : Bool) (r : Rec) : Bool := decide (lb = lo) && (decide (0 ≤ k) && (decide (k ≤ (lb : Int)) && (!b || recB r)))
def okG (F : List Int) (j : Nat) : Bool := decide (2 ≤ F.getD j 0) && (decide (F.getD j 0 < 4096) && (decide (j = 0) || decide (F.getD (j - 1) 0 < F.getD j 0)))
theorem okG_iff {F : List Int} {j : Nat} : okG F j = true ↔ okF F j = true := by
  rw [okF_iff]
  unfold okG prv
  rw [Bool.and_eq_true, Bool.and_eq_true, Bool.or_eq_true, decide_eq_true_eq, decide_eq_true_eq, decide_eq_true_eq, decide_eq_true_eq]
  by_cases h : j = 0
  · rw [if_pos h]; simp [h]; omega
  · rw [if_neg h]; simp [h]; omega
theorem may_iff {old : List Rec} {bl : List Int} {k : Int} {r : Rec} {b : Bool} {F : List Int} (hr : bare r = r) : mayB old bl k r b F = true ↔
    m0B old.length bl.length k b r = true ∧ (∀ j, j < old.length → recB (old.getD j r0) = true) ∧ (∀ j, j < bl.length → bkB (bl.getD j 0) = true) ∧ ∀ j, j < F.length → okG F j = true := by
  rw [mayB_iff, chB_iff, frB_iff, hr]
  unfold m0B
  rw [Bool.and_eq_true, Bool.and_eq_true, Bool.and_eq_true, Bool.or_eq_true, Bool.not_eq_true', decide_eq_true_eq, decide_eq_true_eq, decide_eq_true_eq]
  constructor
  · rintro ⟨⟨h1, h2⟩, h3, h4, h5, h6⟩
    refine ⟨⟨h1.symm, h3, by omega, ?_⟩, fun j hj => ?_, fun j hj => ?_, fun j hj => okG_iff.2 (h6 j hj)⟩
    · cases b with
      | false => exact .inl rfl
      | true => exact .inr (h5 rfl)
    · have := h2 j hj; unfold okC at this; rw [Bool.and_eq_true] at this; exact this.1
    · have := h2 j (by omega); unfold okC at this; rw [Bool.and_eq_true] at this; exact this.2
  · rintro ⟨⟨h1, h3, h4, h5⟩, h2, h7, h6⟩
    refine ⟨⟨h1.symm, fun j hj => ?_⟩, h3, by omega, fun hb => ?_, fun j hj => okG_iff.1 (h6 j hj)⟩
    · unfold okC; rw [h2 j hj, h7 j (by omega)]; rfl
    · rcases h5 with h5 | h5
      · rw [hb] at h5; cases h5
      · exact h5
end Wq
namespace Wd
open Go Go.RowKit
theorem Raw.keep {w w' : World} {a : Option Addr} {n cap : Nat} {l : List Io} (h : Raw w a n cap l) (hb : Below w.heap.size w w') : Raw w' a n cap l := by
  obtain ⟨h1, h2, h3, h4⟩ := h
  refine ⟨h1, h2, h3, fun h0 => ?_⟩
  obtain ⟨b, off, ha, hlt, hc⟩ := h4 h0
  refine ⟨b, off, ha, Nat.lt_of_lt_of_le hlt hb.size, fun i hi => ?_⟩
  obtain ⟨a', c', c0, c1, c2, r1, r2, r3, r4, r5, r6⟩ := hc i hi
  refine ⟨a', c', (hb.cell (p := ⟨b, off + i * 3, none⟩) hlt).trans c0, (hb.cell (p := ⟨b, off + i * 3 + 1, none⟩) hlt).trans c1, (hb.cell (p := ⟨b, off + i * 3 + 2, none⟩) hlt).trans c2, r1, r2, r3, r4, r5, fun h0 => ?_⟩
  obtain ⟨b2, o2, ha2, hlt2, hc2⟩ := r6 h0
  exact ⟨b2, o2, ha2, Nat.lt_of_lt_of_le hlt2 hb.size, fun j hj => (hb.cell (p := ⟨b2, o2 + j, none⟩) hlt2).trans (hc2 j hj)⟩
end Wd
namespace Go.Proofs.YtfflhiajbioheaaGreat
open Go.RowKit

/-- What Records returns, told by its values. -/
theorem records15_told (a : Option Addr) (len cap : Nat) (old : List Wr.Rec) (a' : Option Addr) (len' cap' : Nat) (bl : List Int) (n : Int) (r : Wr.Rec) (b : Bool) (a2 : Option Addr) (len2 cap2 : Nat) (F : List Int) (w : World)
    (ho : Wi.Rs w (.slice a len cap) old) (hb : Wd.In w (.slice a' len' cap') bl) (hF : Wd.In w (.slice a2 len2 cap2) F) (hlen : len ≤ 900) :
    Calls Tryz.prog 11 #[.slice a len cap, .slice a' len' cap', .int .i64 n, rv r, .bool b, .slice a2 len2 cap2] w fun e w' => ∃ Y A R f, e = .returned (.tuple #[Y, A, R, .int .i64 f]) ∧ f = Wq.cE old bl n r b F ∧ Below w.heap.size w w' ∧
      (f = 0 → ∃ al cl ar cr, Y = .slice al (Wq.news old n.toNat r b).length cl ∧ A = .int .i64 (Wq.nx (Wq.stay bl n.toNat) F (Wq.news old n.toNat r b).length) ∧ R = .slice ar (F.length - (Wq.news old n.toNat r b).length) cr ∧
        Wd.Is w' (.slice al (Wq.news old n.toNat r b).length cl) (Wq.ws (Wq.news old n.toNat r b) (Wq.stay bl n.toNat) F (Wq.news old n.toNat r b).length) ∧ Wd.In w' (.slice ar (F.length - (Wq.news old n.toNat r b).length) cr) (F.drop (Wq.news old n.toNat r b).length)) ∧
      (¬ f = 0 → Y = .slice none 0 0 ∧ A = .int .i64 0 ∧ R = .slice none 0 0) := by
  refine (records15_any a len cap old a' len' cap' bl n r b a2 len2 cap2 F w ho hb hF hlen).mono ?_
  rintro e w' ⟨hB, h0, h1⟩
  by_cases hc : Wq.cE old bl n r b F = 0
  · obtain ⟨al, cl, ar, cr, rfl, hO, hV⟩ := h0 hc
    exact ⟨_, _, _, 0, rfl, hc.symm, hB, fun _ => ⟨al, cl, ar, cr, rfl, rfl, rfl, hO.is, hV.rv⟩, fun h => absurd rfl h⟩
  · exact ⟨_, _, _, _, h1 hc, rfl, hB, fun h => absurd h hc, fun _ => ⟨rfl, rfl, rfl⟩⟩

/-- What Steps returns, told by its values. -/
theorem steps15_told (s : Ws.Sup) (t : Int) (v : Value) (a : Option Addr) (n cap : Nat) (l : List Wd.Io) (root size first : Int) (w : World) (hI : Wd.Is w (.slice a n cap) l) (hn : n ≤ 1000000) :
    Calls Tryz.prog 7 #[stv s t v, .slice a n cap, .int .i64 root, .int .i64 size, .int .i64 first] w fun e w' => ∃ X, e = .returned (.tuple #[X, .int .i64 (Wq.sE s t l root size first)]) ∧ Below w.heap.size w w' ∧
      (Wq.sE s t l root size first = 0 → ∃ al cl, X = .slice al (l.length + 3) cl ∧ Wd.Is w' (.slice al (l.length + 3) cl) (Wq.sts s t l root size first)) ∧
      (¬ Wq.sE s t l root size first = 0 → X = .slice none 0 0) := by
  refine (steps15_any s t v a n cap l root size first w hI hn).mono ?_
  rintro e w' ⟨hB, h0, h1⟩
  by_cases hc : Wq.sE s t l root size first = 0
  · obtain ⟨al, cl, rfl, hO⟩ := h0 hc
    rw [hc]
    exact ⟨_, rfl, hB, fun _ => ⟨al, cl, rfl, hO.is⟩, fun h => absurd rfl h⟩
  · exact ⟨_, h1 hc, hB, fun h => absurd h hc, fun _ => rfl⟩
theorem sE_zero {s : Ws.Sup} {t : Int} {l : List Wd.Io} {root size first : Int} (h : Wq.sE s t l root size first = 0) : Ws.supB (Wq.nxt s root size first) = true ∧ 0 ≤ t ∧ t ≤ 1 := by
  unfold Wq.sE at h
  split at h
  · next h1 =>
    split at h
    · next h2 => have := Wq.rdyB_iff.1 h1; exact ⟨h2, this.2.2.1, this.2.2.2⟩
    · cases h
  · cases h

theorem tm1000 (x : Int) : -1000 < x.tmod 1000 ∧ x.tmod 1000 < 1000 := by
  rcases Int.le_total 0 x with h | h
  · have h1 := Int.tmod_lt_of_pos x (show (0 : Int) < 1000 by decide)
    have h2 := Int.tmod_nonneg 1000 h
    omega
  · have h1 := Int.tmod_lt_of_pos (-x) (show (0 : Int) < 1000 by decide)
    have h2 := Int.tmod_nonneg 1000 (show 0 ≤ -x by omega)
    rw [Int.neg_tmod] at h1 h2
    omega

set_option maxRecDepth 100000 in
set_option maxHeartbeats 25600000 in
theorem exact_any (s : Ws.Sup) (t : Int) (ar : Option Addr) (nr cr : Nat) (old : List Wr.Rec) (a : Option Addr) (n cap : Nat) (l : List Wd.Io) (root size first : Int) (ab : Option Addr) (nb cb : Nat) (bl : List Int) (k : Int) (af : Option Addr) (nf cf : Nat) (F : List Int) (w : World)
    (hR : Wi.RawR w ar nr cr old) (hI : Wd.Raw w a n cap l) (hB : Wd.In w (.slice ab nb cb) bl) (hsB : Wv.Shaped (.slice ab nb cb)) (hF : Wd.In w (.slice af nf cf) F) (hsF : Wv.Shaped (.slice af nf cf)) (hh : Wd.heavyB 0 l = false) (h70 : nr ≤ 70) (h80 : nb ≤ 80) (h100 : nf ≤ 100) :
    Calls Tryz.prog 3 #[stv s t (.slice ar nr cr), .slice a n cap, .int .i64 root, .int .i64 size, .int .i64 first, .slice ab nb cb, .int .i64 k, .slice af nf cf] w fun e w' => e = .returned (.bool true) ∧ Below w.heap.size w w' := by
  have hIs := hI.light hh
  have hl4 := (Wd.heavy_no hh).2.1
  have hll := Wd.is_len hIs
  have hn : n ≤ 400 := by omega
  have hRs := hR.rs (by omega)
  have bA := (Below.refl w.heap.size w).alloc (Nat.le_refl _) (.cells #[.int .i64 s.gen, .int .i64 s.blocks, .int .i64 s.root, .int .i64 s.size, .int .i64 s.first, .int .i64 t, .slice ar nr cr] 26)
  have Z1 := Zh.new w s t (.slice ar nr cr)
  have I1 := Wc.hid (hIs.keep bA)
  have R1 := Wc.hid (hRs.keep bA)
  have B1 := Wc.hid (hB.keep bA)
  have F1 := Wc.hid (hF.keep bA)
  obtain ⟨W1, hW1⟩ : ∃ W1, w.alloc (.cells #[.int .i64 s.gen, .int .i64 s.blocks, .int .i64 s.root, .int .i64 s.size, .int .i64 s.first, .int .i64 t, .slice ar nr cr] 26) = W1 := ⟨_, rfl⟩
  have HS1 : Hid (W1.heap.size = w.heap.size + 1) := Wc.hid (by rw [← hW1]; simp)
  rw [hW1] at bA Z1 I1 R1 B1 F1
  obtain ⟨bx, hbx⟩ : ∃ bx, w.heap.size = bx := ⟨_, rfl⟩
  have HW1 := Wc.hid hW1
  have HBX := Wc.hid hbx
  have BA := Wc.hid bA
  rw [hbx] at Z1
  have HZ1 := Wc.hid Z1
  have HH := Wc.hid hh
  have HSB := Wc.hid hsB
  have HSF := Wc.hid hsF
  have HLL := Wc.hid hll
  have g70 : ¬ (70 : Int) < (nr : Int) := by omega
  have g80 : ¬ (80 : Int) < (nb : Int) := by omega
  have g100 : ¬ (100 : Int) < (nf : Int) := by omega
  have H70 := Wc.hid h70
  clear hW1 bA Z1 hI hIs hR hRs hB hF hl4 hll hbx hsB hsF hh h70 h80 h100
  unfold stv
  go_enter Tryz.func3, Tryz.ntmps3
  go_wp2_with fail
  rw [HW1.out, HBX.out]
  have ⟨z0, z1, z2, z3, z4, z5, z6⟩ := HZ1.out.zc
  refine (heavy_any none 0 0 a n cap l _ (by omega) I1.out).mono ?_
  rintro e w' ⟨rfl, rfl⟩
  rw [HH.out]
  go_wp2_with fail
  clear g70 g80 g100 z0 z1 z2 z3 z4 z5 z6
  refine (twinIos_any a n cap l _ I1.out (by omega)).mono ?_
  rintro e w2 ⟨xa, xc, rfl, hO2, hb2⟩
  have T2 := Wc.hid hO2.is
  have I2 := Wc.hid (I1.out.keep hb2)
  have R2 := Wc.hid (R1.out.keep hb2)
  have B2 := Wc.hid (B1.out.keep hb2)
  have F2 := Wc.hid (F1.out.keep hb2)
  have Z2 := Wc.hid (HZ1.out.keep hb2)
  have K2 := Wc.hid (Wc.step BA.out (Nat.le_refl _) hb2)
  clear hO2 hb2 I1 R1 B1 F1 HZ1
  go_wp2_with fail
  refine (twinInts_own _ bl _ B2.out HSB.out).mono ?_
  rintro e w3 ⟨pa, pn, pc, rfl, hO3, hb3⟩
  have T3 := Wc.hid (T2.out.keep hb3)
  have P3 : Hid (Wd.In w3 (.slice pa pn pc) bl) := Wc.hid hO3.rv
  have I3 := Wc.hid (I2.out.keep hb3)
  have R3 := Wc.hid (R2.out.keep hb3)
  have B3 := Wc.hid (B2.out.keep hb3)
  have F3 := Wc.hid (F2.out.keep hb3)
  have Z3 := Wc.hid (Z2.out.keep hb3)
  have K3 := Wc.hid (Wc.step K2.out (Nat.le_refl _) hb3)
  clear hO3 hb3 I2 R2 B2 F2 Z2 T2 K2
  go_wp2_with fail
  refine (twinInts_own _ F _ F3.out HSF.out).mono ?_
  rintro e w4 ⟨qa, qn, qc, rfl, hO4, hb4⟩
  have T4 := Wc.hid (T3.out.keep hb4)
  have P4 := Wc.hid (P3.out.keep hb4)
  have Q4 : Hid (Wd.In w4 (.slice qa qn qc) F) := Wc.hid hO4.rv
  have I4 := Wc.hid (I3.out.keep hb4)
  have R4 := Wc.hid (R3.out.keep hb4)
  have B4 := Wc.hid (B3.out.keep hb4)
  have F4 := Wc.hid (F3.out.keep hb4)
  have Z4 := Wc.hid (Z3.out.keep hb4)
  have K4 := Wc.hid (Wc.step K3.out (Nat.le_refl _) hb4)
  have ⟨z0, z1, z2, z3, z4, z5, z6⟩ := Z4.out.zc
  clear hO4 hb4 I3 R3 B3 F3 Z3 T3 P3 K3
  go_wp2_with fail
  refine (steps15_told s t _ xa n xc l root size first _ T4.out (by omega)).mono ?_
  rintro e w5 ⟨X, rfl, hb5, hX0, hX1⟩
  have HX0 := Wc.hid hX0
  have HX1 := Wc.hid hX1
  have K5 := Wc.hid hb5
  have ⟨y0, y1, y2, y3, y4, y5, y6⟩ := (Z4.out.keep hb5).zc
  clear hX0 hX1 hb5 z0 z1 z2 z3 z4 z5 z6
  obtain ⟨c, hc⟩ : ∃ c, Wq.sE s t l root size first = c := ⟨_, rfl⟩
  rw [hc] at HX0 HX1 ⊢
  have HC := Wc.hid hc
  clear hc
  go_wp2_with fail
  refine (ios_same xa n xc a cap l _ (T4.out.keep K5.out) (I4.out.keep K5.out)).mono ?_
  rintro e w6 ⟨rfl, hb6⟩
  have K6 := Wc.hid (Wc.step K5.out (Nat.le_refl _) hb6)
  have HX6 : Hid (c = 0 → ∃ al cl, X = .slice al (l.length + 3) cl ∧ Wd.Is w6 (.slice al (l.length + 3) cl) (Wq.sts s t l root size first)) := Wc.hid (fun h => by
    obtain ⟨al, cl, h1, h2⟩ := HX0.out h
    exact ⟨al, cl, h1, h2.keep hb6⟩)
  clear y0 y1 y2 y3 y4 y5 y6 hb6 HX0 K5
  have ⟨z0, z1, z2, z3, z4, z5, z6⟩ := (Z4.out.keep K6.out).zc
  go_wp2_with fail
  refine (right15_any s t _ a n cap l root size first _ (I4.out.keep K6.out)).mono ?_
  rintro e w7 ⟨rfl, hb7⟩
  rw [HC.out]
  have K7 := Wc.hid (Wc.step K6.out (Nat.le_refl _) hb7)
  have HX7 : Hid (c = 0 → ∃ al cl, X = .slice al (l.length + 3) cl ∧ Wd.Is w7 (.slice al (l.length + 3) cl) (Wq.sts s t l root size first)) := Wc.hid (fun h => by
    obtain ⟨al, cl, h1, h2⟩ := HX6.out h
    exact ⟨al, cl, h1, h2.keep hb7⟩)
  clear z0 z1 z2 z3 z4 z5 z6 hb7 HX6 K6
  go_upto_if 81 with fail
  go_cut [] from 37 (fun wx => Hid (Below w4.heap.size w4 wx))
  case first =>
    by_cases hc0 : c = 0
    · obtain ⟨al, cl, rfl, hIs⟩ := HX7.out hc0
      have hz := Wc.hid (sE_zero (HC.out.trans hc0))
      have HIS := Wc.hid hIs
      have ⟨z0, z1, z2, z3, z4, z5, z6⟩ := (Z4.out.keep K7.out).zc
      clear hIs
      subst hc0
      go_wp2_with fail
      refine (refCommit_any s t _ a n cap l root size first _ (I4.out.keep K7.out) (by omega) hz.out.1 hz.out.2.1 hz.out.2.2).mono ?_
      rintro e w8 ⟨al2, cl2, rfl, hI8, hb8⟩
      have HI8 := Wc.hid hI8
      have HIS8 := Wc.hid (HIS.out.keep hb8)
      have K8 := Wc.hid (Wc.step K7.out (Nat.le_refl _) hb8)
      clear hI8 hb8 z0 z1 z2 z3 z4 z5 z6
      go_wp2_with fail
      refine (ios_same al (l.length + 3) cl al2 cl2 _ _ HIS8.out HI8.out).mono ?_
      rintro e w9 ⟨rfl, hb9⟩
      have K9 := Wc.hid (Wc.step K8.out (Nat.le_refl _) hb9)
      clear hb9
      go_wp2_with fail
      go_meet
      case rel => exact K9
    · obtain rfl := HX1.out hc0
      go_wp2_with fail
      go_meet
      case rel => exact K7
  case rest =>
    have K5 := hcut
    have ⟨z0, z1, z2, z3, z4, z5, z6⟩ := (Z4.out.keep K5.out).zc
    have hbc : bx < wc.heap.size := (Z4.out.keep K5.out).lt
    have hsz := tm1000 size
    have bA := (Below.refl wc.heap.size wc).alloc (Nat.le_refl _) (.cells #[.int .i64 0, .int .i64 (1 + size.tmod 1000), .int .i64 0, .int .i64 0, .int .i64 size, .int .i64 0, .int .i64 0, .int .i64 0] 39)
    have RH := Wc.hid (Rh.new wc (Wq.fst15 size))
    have K6 := Wc.hid (Wc.step K5.out (Nat.le_refl _) bA)
    go_upto_region 14 with fail
    obtain ⟨W6, hW6⟩ : ∃ W6, wc.alloc (.cells #[.int .i64 0, .int .i64 (1 + size.tmod 1000), .int .i64 0, .int .i64 0, .int .i64 size, .int .i64 0, .int .i64 0, .int .i64 0] 39) = W6 := ⟨_, rfl⟩
    have RH6 : Hid (Rh W6 wc.heap.size (Wq.fst15 size)) := Wc.hid (by rw [← hW6]; exact RH.out)
    rw [hW6] at K6 ⊢
    obtain ⟨rx, hrx⟩ : ∃ rx, wc.heap.size = rx := ⟨_, rfl⟩
    rw [hrx] at RH6 ⊢
    clear z0 z1 z2 z3 z4 z5 z6 hbc hsz bA RH hW6 hrx K5 hcut HX1 HX7 HC K7
    obtain ⟨r, hr⟩ : ∃ r, Wq.fst15 size = r := ⟨_, rfl⟩
    have hbr : Hid (Wq.bare r = r) := Wc.hid (by rw [← hr]; rfl)
    obtain ⟨b, hb⟩ : ∃ b, (k.tmod 2 == 0) = b := ⟨_, rfl⟩
    rw [hr] at RH6
    rw [hb]
    clear hr hb
    have ⟨z0, z1, z2, z3, z4, z5, z6⟩ := (Z4.out.keep K6.out).zc
    have ⟨r0, r1, r2, r3, r4, r5, r6, r7⟩ := RH6.out.rc
    have h70 := H70.out
    go_wp2_with fail
    refine (records15_told ar nr cr old pa pn pc bl k r b qa qn qc F _ (R4.out.keep K6.out) (P4.out.keep K6.out) (Q4.out.keep K6.out) (by omega)).mono ?_
    rintro e w7 ⟨Y, A, R, f, rfl, hf, hb7, hy0, hy1⟩
    have HF := Wc.hid hf
    have HY0 := Wc.hid hy0
    have HY1 := Wc.hid hy1
    have K7 := Wc.hid (Wc.step K6.out (Nat.le_refl _) hb7)
    have RH7 := Wc.hid (RH6.out.keep hb7)
    clear hf hy0 hy1 hb7 z0 z1 z2 z3 z4 z5 z6 r0 r1 r2 r3 r4 r5 r6 r7 RH6
    go_wp2_with fail
    refine (ints_any _ _ bl bl _ (P4.out.keep K7.out) (B4.out.keep K7.out)).mono ?_
    rintro e w8 ⟨rfl, hb8⟩
    rw [beq_self_eq_true]
    have K8 := Wc.hid (Wc.step K7.out (Nat.le_refl _) hb8)
    have RH8 := Wc.hid (RH7.out.keep hb8)
    have HY8 : Hid (f = 0 → ∃ al cl ar cr, Y = .slice al (Wq.news old k.toNat r b).length cl ∧ A = .int .i64 (Wq.nx (Wq.stay bl k.toNat) F (Wq.news old k.toNat r b).length) ∧ R = .slice ar (F.length - (Wq.news old k.toNat r b).length) cr ∧
        Wd.Is w8 (.slice al (Wq.news old k.toNat r b).length cl) (Wq.ws (Wq.news old k.toNat r b) (Wq.stay bl k.toNat) F (Wq.news old k.toNat r b).length) ∧ Wd.In w8 (.slice ar (F.length - (Wq.news old k.toNat r b).length) cr) (F.drop (Wq.news old k.toNat r b).length)) := Wc.hid (fun h => by
      obtain ⟨al, cl, ar, cr, h1, h2, h3, h4, h5⟩ := HY0.out h
      exact ⟨al, cl, ar, cr, h1, h2, h3, h4.keep hb8, h5.keep hb8⟩)
    clear hb8 RH7 HY0
    go_wp2_with fail
    refine (ints_any _ _ F F _ (Q4.out.keep K8.out) (F4.out.keep K8.out)).mono ?_
    rintro e w9 ⟨rfl, hb9⟩
    rw [beq_self_eq_true]
    have K9 := Wc.hid (Wc.step K8.out (Nat.le_refl _) hb9)
    have RH9 := Wc.hid (RH8.out.keep hb9)
    have HY9 : Hid (f = 0 → ∃ al cl ar cr, Y = .slice al (Wq.news old k.toNat r b).length cl ∧ A = .int .i64 (Wq.nx (Wq.stay bl k.toNat) F (Wq.news old k.toNat r b).length) ∧ R = .slice ar (F.length - (Wq.news old k.toNat r b).length) cr ∧
        Wd.Is w9 (.slice al (Wq.news old k.toNat r b).length cl) (Wq.ws (Wq.news old k.toNat r b) (Wq.stay bl k.toNat) F (Wq.news old k.toNat r b).length) ∧ Wd.In w9 (.slice ar (F.length - (Wq.news old k.toNat r b).length) cr) (F.drop (Wq.news old k.toNat r b).length)) := Wc.hid (fun h => by
      obtain ⟨al, cl, ar, cr, h1, h2, h3, h4, h5⟩ := HY8.out h
      exact ⟨al, cl, ar, cr, h1, h2, h3, h4.keep hb9, h5.keep hb9⟩)
    clear hb9 RH8 HY8
    have ⟨z0, z1, z2, z3, z4, z5, z6⟩ := (Z4.out.keep K9.out).zc
    go_upto_region 17 with fail
    have KR := Wc.hid (Below.refl w9.heap.size w9)
    go_cut [29] from 37 (fun m wx => ∃ q, m = .bool q ∧ Hid (q = Wq.m0B nr nb k b r) ∧ Hid (Below w9.heap.size w9 wx))
    case first =>
      rename_i J2 K2 hJ2 hM2
      revert hJ2 hM2
      go_light
      intro hJ2 hM2
      by_cases e1 : nb = nr
      · have d1 : ((nb : Int) == (nr : Int)) = true := by simp [e1]
        by_cases e2 : 0 ≤ k
        · have d2 : decide (0 ≤ k) = true := decide_eq_true e2
          by_cases e3 : k ≤ (nb : Int)
          · have d3 : decide (k ≤ (nb : Int)) = true := decide_eq_true e3
            cases b with
            | false =>
              have HM : Hid (Wq.m0B nr nb k false r = true) := Wc.hid (by unfold Wq.m0B; rw [decide_eq_true e1, d2, d3]; rfl)
              clear e1
              as_aux_lemma =>
                go_wp2_with fail
                go_meet
                case rel => exact ⟨true, rfl, Wc.hid HM.out.symm, KR⟩
            | true =>
              have HM : Hid (Wq.m0B nr nb k true r = Wr.recB r) := Wc.hid (by unfold Wq.m0B; rw [decide_eq_true e1, d2, d3]; rfl)
              have ⟨r0, r1, r2, r3, r4, r5, r6, r7⟩ := RH9.out.rc
              clear e1
              as_aux_lemma =>
                go_wp2_with fail
                refine (refRecord_any r _).mono ?_
                rintro e w10 ⟨rfl, hb10⟩
                have KR2 := Wc.hid hb10
                obtain ⟨q, hq⟩ : ∃ q, Wr.recB r = q := ⟨_, rfl⟩
                rw [hq] at HM ⊢
                clear hb10 hq r0 r1 r2 r3 r4 r5 r6 r7
                go_wp2_with fail
                go_meet
                case rel => exact ⟨q, rfl, Wc.hid HM.out.symm, KR2⟩
          · have d3 : decide (k ≤ (nb : Int)) = false := decide_eq_false e3
            have HM : Hid (Wq.m0B nr nb k b r = false) := Wc.hid (by unfold Wq.m0B; rw [decide_eq_true e1, d2, d3]; rfl)
            clear e1
            as_aux_lemma =>
              go_wp2_with fail
              go_meet
              case rel => exact ⟨false, rfl, Wc.hid HM.out.symm, KR⟩
        · have d2 : decide (0 ≤ k) = false := decide_eq_false e2
          have HM : Hid (Wq.m0B nr nb k b r = false) := Wc.hid (by unfold Wq.m0B; rw [decide_eq_true e1, d2]; rfl)
          clear e1
          as_aux_lemma =>
            go_wp2_with fail
            go_meet
            case rel => exact ⟨false, rfl, Wc.hid HM.out.symm, KR⟩
      · have d1 : ((nb : Int) == (nr : Int)) = false := by simp; omega
        have HM : Hid (Wq.m0B nr nb k b r = false) := Wc.hid (by unfold Wq.m0B; rw [decide_eq_false e1]; rfl)
        as_aux_lemma =>
          go_wp2_with fail
          go_meet
          case rel => exact ⟨false, rfl, Wc.hid HM.out.symm, KR⟩
    case rest =>
      obtain ⟨q, rfl, HQ, KC⟩ := hcut
      obtain ⟨wq, hwq⟩ : ∃ wq, wc = wq := ⟨_, rfl⟩
      rw [hwq] at KC ⊢
      clear hwq
      have KD := Wc.hid (Wc.step K9.out (Nat.le_refl _) KC.out)
      have RHC := Wc.hid (RH9.out.keep KC.out)
      have HYC : Hid (f = 0 → ∃ al cl ar cr, Y = .slice al (Wq.news old k.toNat r b).length cl ∧ A = .int .i64 (Wq.nx (Wq.stay bl k.toNat) F (Wq.news old k.toNat r b).length) ∧ R = .slice ar (F.length - (Wq.news old k.toNat r b).length) cr ∧
          Wd.Is wq (.slice al (Wq.news old k.toNat r b).length cl) (Wq.ws (Wq.news old k.toNat r b) (Wq.stay bl k.toNat) F (Wq.news old k.toNat r b).length) ∧ Wd.In wq (.slice ar (F.length - (Wq.news old k.toNat r b).length) cr) (F.drop (Wq.news old k.toNat r b).length)) := Wc.hid (fun h => by
        obtain ⟨al, cl, ar, cr, h1, h2, h3, h4, h5⟩ := HY9.out h
        exact ⟨al, cl, ar, cr, h1, h2, h3, h4.keep KC.out, h5.keep KC.out⟩)
      have BW := Wc.hid (Below.refl wq.heap.size wq)
      have HM1 := Wc.hid (Wi.rs_len R4.out)
      have HM2 := Wc.hid (Wv.rv_len B4.out)
      have HM3 := Wc.hid (Wv.rv_len F4.out)
      clear HY9 RH9 KC K9 KR z0 z1 z2 z3 z4 z5 z6 h70
      rename_i J2 K2 hJ2 hM2
      revert hJ2 hM2
      go_light
      intro hJ2 hM2
      go_wp2_with fail
      go_loopw [29, 30] (fun m i wr => ∃ (j : Nat) (p : Bool), i = .int .i64 j ∧ j ≤ nr ∧ m = .bool p ∧ Hid (p = true ↔ q = true ∧ ∀ x, x < j → Wr.recB (old.getD x Wr.r0) = true) ∧ Hid (Below wq.heap.size wq wr)) (fun _ i _ => nr - (intOf i).toNat)
      case atStart => exact ⟨0, q, rfl, Nat.zero_le _, rfl, Wc.hid ⟨fun h => ⟨h, fun x hx => absurd hx (Nat.not_lt_zero x)⟩, fun h => h.1⟩, BW⟩
      case round =>
        obtain ⟨j, p1, rfl, hj, rfl, HP1, BR⟩ := hrel
        have ⟨z0, z1, z2, z3, z4, z5, z6⟩ := (Z4.out.keep (Wc.step KD.out (Nat.le_refl _) BR.out)).zc
        by_cases hlt : j < nr
        · have hlt2 : (j : Int) < (nr : Int) := by omega
          cases p1 with
          | false =>
            have HP2 : Hid (false = true ↔ q = true ∧ ∀ x, x < j + 1 → Wr.recB (old.getD x Wr.r0) = true) := Wc.hid ⟨fun h => (by cases h), fun h => HP1.out.2 ⟨h.1, fun x hx => h.2 x (by omega)⟩⟩
            as_aux_lemma =>
              go_wp2_with fail
              go_roundw
              case rel => exact ⟨j + 1, false, by go_num, by omega, rfl, HP2, BR⟩
              case measure => simp [intOf]; omega
          | true =>
            obtain ⟨bo, oo, hao, hbl, hcs⟩ : ∃ b off, ar = some ⟨b, off, none⟩ ∧ b < w4.heap.size ∧ ∀ i, i < nr → Wi.Ra w4 b (off + i * 8) (old.getD i Wr.r0) := by
              obtain ⟨_, _, _, h1, _, _, _, _, h6⟩ := R4.out; cases h1; exact h6 (by omega)
            subst hao
            obtain ⟨c0, c1, c2, c3, c4, c5, c6, c7⟩ := (hcs j hlt).keep (Wc.step KD.out (Nat.le_refl _) BR.out)
            have HPt := Wc.hid (HP1.out.1 rfl)
            have HP2 : Hid (Wr.recB (old.getD j Wr.r0) = true ↔ q = true ∧ ∀ x, x < j + 1 → Wr.recB (old.getD x Wr.r0) = true) := Wc.hid ⟨fun h => ⟨HPt.out.1, fun x hx => by
              by_cases e : x = j
              · subst e; exact h
              · exact HPt.out.2 x (by omega)⟩, fun h => h.2 j (by omega)⟩
            obtain ⟨x, hx⟩ : ∃ x, old.getD j Wr.r0 = x := ⟨_, rfl⟩
            rw [hx] at HP2 c0 c1 c2 c3 c4 c5 c6 c7
            clear hx hcs hbl
            as_aux_lemma =>
              go_wp2_with fail
              refine (refRecord_any x _).mono ?_
              rintro e w10 ⟨rfl, hb10⟩
              have BR2 := Wc.hid (Wc.step BR.out (Nat.le_refl _) hb10)
              obtain ⟨q2, hq2⟩ : ∃ q2, Wr.recB x = q2 := ⟨_, rfl⟩
              rw [hq2] at HP2 ⊢
              clear hb10 hq2 c0 c1 c2 c3 c4 c5 c6 c7 z0 z1 z2 z3 z4 z5 z6
              go_wp2_with fail
              go_roundw
              case rel => exact ⟨j + 1, q2, by go_num, by omega, rfl, HP2, BR2⟩
              case measure => simp [intOf]; omega
        · obtain rfl : nr = j := by omega
          clear hlt hj
          go_wp2_with fail
          clear z0 z1 z2 z3 z4 z5 z6
          go_loopw [29, 31] (fun m i wr => ∃ (j : Nat) (p : Bool), i = .int .i64 j ∧ j ≤ nb ∧ m = .bool p ∧ Hid (p = true ↔ p1 = true ∧ ∀ x, x < j → Wq.bkB (bl.getD x 0) = true) ∧ Hid (Below wq.heap.size wq wr)) (fun _ i _ => nb - (intOf i).toNat)
          case atStart => exact ⟨0, p1, rfl, Nat.zero_le _, rfl, Wc.hid ⟨fun h => ⟨h, fun x hx => absurd hx (Nat.not_lt_zero x)⟩, fun h => h.1⟩, BR⟩
          case round =>
            clear BR
            obtain ⟨j2, p2, rfl, hj, rfl, HP2, BR⟩ := hrel
            by_cases hlt : j2 < nb
            · have hlt2 : (j2 : Int) < (nb : Int) := by omega
              cases p2 with
              | false =>
                have HPn : Hid (false = true ↔ p1 = true ∧ ∀ x, x < j2 + 1 → Wq.bkB (bl.getD x 0) = true) := Wc.hid ⟨fun h => (by cases h), fun h => HP2.out.2 ⟨h.1, fun x hx => h.2 x (by omega)⟩⟩
                as_aux_lemma =>
                  go_wp2_with fail
                  go_roundw
                  case rel => exact ⟨j2 + 1, false, by go_num, by omega, rfl, HPn, BR⟩
                  case measure => simp [intOf]; omega
              | true =>
                obtain ⟨gb, go, hab, hcg⟩ := in_cell (B4.out.keep (Wc.step KD.out (Nat.le_refl _) BR.out)) (k := j2) hlt
                subst hab
                have hgr := Wc.cell_lt hcg
                have HPt := Wc.hid (HP2.out.1 rfl)
                have HPn : Hid (Wq.bkB (bl.getD j2 0) = true ↔ p1 = true ∧ ∀ x, x < j2 + 1 → Wq.bkB (bl.getD x 0) = true) := Wc.hid ⟨fun h => ⟨HPt.out.1, fun x hx => by
                  by_cases e : x = j2
                  · subst e; exact h
                  · exact HPt.out.2 x (by omega)⟩, fun h => h.2 j2 (by omega)⟩
                obtain ⟨y, hy⟩ : ∃ y, bl.getD j2 0 = y := ⟨_, rfl⟩
                rw [hy] at HPn hcg
                clear hy
                by_cases e1 : 2 ≤ y
                · have d1 : decide (2 ≤ y) = true := decide_eq_true e1
                  by_cases e2 : y < 4096
                  · have d2 : decide (y < 4096) = true := decide_eq_true e2
                    have hb : Wq.bkB y = true := Wq.bkB_iff.2 ⟨e1, by omega⟩
                    rw [hb] at HPn
                    clear hb
                    as_aux_lemma =>
                      go_wp2_with fail
                      go_roundw
                      case rel => exact ⟨j2 + 1, true, by go_num, by omega, rfl, HPn, BR⟩
                      case measure => simp [intOf]; omega
                  · have d2 : decide (y < 4096) = false := decide_eq_false e2
                    have hb : Wq.bkB y = false := Wq.bkB_no (.inr (by omega))
                    rw [hb] at HPn
                    clear hb
                    as_aux_lemma =>
                      go_wp2_with fail
                      go_roundw
                      case rel => exact ⟨j2 + 1, false, by go_num, by omega, rfl, HPn, BR⟩
                      case measure => simp [intOf]; omega
                · have d1 : decide (2 ≤ y) = false := decide_eq_false e1
                  have hb : Wq.bkB y = false := Wq.bkB_no (.inl (by omega))
                  rw [hb] at HPn
                  clear hb
                  as_aux_lemma =>
                    go_wp2_with fail
                    go_roundw
                    case rel => exact ⟨j2 + 1, false, by go_num, by omega, rfl, HPn, BR⟩
                    case measure => simp [intOf]; omega
            · obtain rfl : nb = j2 := by omega
              clear hlt hj
              go_wp2_with fail
              go_loopw [29, 32] (fun m i wr => ∃ (j : Nat) (p : Bool), i = .int .i64 j ∧ j ≤ nf ∧ m = .bool p ∧ Hid (p = true ↔ p2 = true ∧ ∀ x, x < j → Wq.okG F x = true) ∧ Hid (Below wq.heap.size wq wr)) (fun _ i _ => nf - (intOf i).toNat)
              case atStart => exact ⟨0, p2, rfl, Nat.zero_le _, rfl, Wc.hid ⟨fun h => ⟨h, fun x hx => absurd hx (Nat.not_lt_zero x)⟩, fun h => h.1⟩, BR⟩
              case round =>
                clear BR
                obtain ⟨j3, p3, rfl, hj, rfl, HP3, BR⟩ := hrel
                by_cases hlt : j3 < nf
                · have hlt2 : (j3 : Int) < (nf : Int) := by omega
                  cases p3 with
                  | false =>
                    have HPn : Hid (false = true ↔ p2 = true ∧ ∀ x, x < j3 + 1 → Wq.okG F x = true) := Wc.hid ⟨fun h => (by cases h), fun h => HP3.out.2 ⟨h.1, fun x hx => h.2 x (by omega)⟩⟩
                    as_aux_lemma =>
                      go_wp2_with fail
                      go_big_quiet (fail)
                      go_wp2_with fail
                      go_roundw
                      case rel => exact ⟨j3 + 1, false, by go_num, by omega, rfl, HPn, Wc.hid (BR.out.trans (below_drewN (Below.refl _ _) _))⟩
                      case measure => simp [intOf]; omega
                  | true =>
                    have HF5 := Wc.hid (F4.out.keep (Wc.step KD.out (Nat.le_refl _) BR.out))
                    obtain ⟨gb, go, haf, hcg⟩ := in_cell HF5.out (k := j3) hlt
                    subst haf
                    have hgr := Wc.cell_lt hcg
                    have HPt := Wc.hid (HP3.out.1 rfl)
                    obtain ⟨y, hy⟩ : ∃ y, F.getD j3 0 = y := ⟨_, rfl⟩
                    have HPn : Hid ((decide (2 ≤ y) && (decide (y < 4096) && (decide (j3 = 0) || decide (F.getD (j3 - 1) 0 < y)))) = true ↔ p2 = true ∧ ∀ x, x < j3 + 1 → Wq.okG F x = true) := Wc.hid (by
                      rw [← hy]
                      exact ⟨fun h => ⟨HPt.out.1, fun x hx => by
                        by_cases e : x = j3
                        · subst e; exact h
                        · exact HPt.out.2 x (by omega)⟩, fun h => h.2 j3 (by omega)⟩)
                    rw [hy] at hcg
                    clear hy
                    by_cases e1 : 2 ≤ y
                    · have d1 : decide (2 ≤ y) = true := decide_eq_true e1
                      by_cases e2 : y < 4096
                      · have d2 : decide (y < 4096) = true := decide_eq_true e2
                        by_cases e3 : j3 = 0
                        · have d3 : ((j3 : Int) == 0) = true := by simp [e3]
                          have d4 : decide ((j3 : Int) = 0) = true := decide_eq_true (by omega)
                          have HPk : Hid (true = true ↔ p2 = true ∧ ∀ x, x < j3 + 1 → Wq.okG F x = true) := Wc.hid (by rw [← HPn.out, d1, d2, decide_eq_true e3]; rfl)
                          clear e3
                          as_aux_lemma =>
                            go_wp2_with fail
                            go_big_quiet (fail)
                            go_wp2_with fail
                            go_roundw
                            case rel => exact ⟨j3 + 1, true, by go_num, by omega, rfl, Wc.hid ⟨fun _ => HPk.out.1 (by trivial), fun _ => rfl⟩, Wc.hid (BR.out.trans (below_drewN (Below.refl _ _) _))⟩
                            case measure => simp [intOf]; omega
                        · have d3 : ((j3 : Int) == 0) = false := by simp [e3]
                          have d4 : decide ((j3 : Int) = 0) = false := decide_eq_false (by omega)
                          obtain ⟨i, hij⟩ : ∃ i, j3 = i + 1 := ⟨j3 - 1, by omega⟩
                          have hji : (j3 : Int) - 1 = (i : Int) := by omega
                          have hil : i < nf := by omega
                          obtain ⟨_, _, hh, hcp⟩ := in_cell HF5.out (k := i) hil
                          cases hh
                          have HPm : Hid (decide (F.getD i 0 < y) = true ↔ p2 = true ∧ ∀ x, x < j3 + 1 → Wq.okG F x = true) := Wc.hid (by
                            rw [← HPn.out, d1, d2, decide_eq_false e3, show j3 - 1 = i by omega]; rfl)
                          obtain ⟨v, hv⟩ : ∃ v, F.getD i 0 = v := ⟨_, rfl⟩
                          rw [hv] at hcp HPm
                          clear hv e3 hij
                          obtain ⟨q4, hq4⟩ : ∃ q4, decide (v < y) = q4 := ⟨_, rfl⟩
                          rw [hq4] at HPm
                          as_aux_lemma =>
                            go_wp2_with fail
                            go_big_quiet (fail)
                            go_wp2_with fail
                            go_roundw
                            case rel => exact ⟨j3 + 1, q4, by go_num, by omega, rfl, HPm, Wc.hid (BR.out.trans (below_drewN (Below.refl _ _) _))⟩
                            case measure => simp [intOf]; omega
                      · have d2 : decide (y < 4096) = false := decide_eq_false e2
                        have HPk : Hid (false = true ↔ p2 = true ∧ ∀ x, x < j3 + 1 → Wq.okG F x = true) := Wc.hid (by rw [← HPn.out, d1, d2]; rfl)
                        as_aux_lemma =>
                          go_wp2_with fail
                          go_big_quiet (fail)
                          go_wp2_with fail
                          go_roundw
                          case rel => exact ⟨j3 + 1, false, by go_num, by omega, rfl, HPk, Wc.hid (BR.out.trans (below_drewN (Below.refl _ _) _))⟩
                          case measure => simp [intOf]; omega
                    · have d1 : decide (2 ≤ y) = false := decide_eq_false e1
                      have HPk : Hid (false = true ↔ p2 = true ∧ ∀ x, x < j3 + 1 → Wq.okG F x = true) := Wc.hid (by rw [← HPn.out, d1]; rfl)
                      as_aux_lemma =>
                        go_wp2_with fail
                        go_big_quiet (fail)
                        go_wp2_with fail
                        go_roundw
                        case rel => exact ⟨j3 + 1, false, by go_num, by omega, rfl, HPk, Wc.hid (BR.out.trans (below_drewN (Below.refl _ _) _))⟩
                        case measure => simp [intOf]; omega
                · obtain rfl : nf = j3 := by omega
                  clear hlt hj
                  have HQM : Hid (p3 = Wq.mayB old bl k r b F) := Wc.hid (by
                    rw [Bool.eq_iff_iff, Wq.may_iff hbr.out, HP3.out, HP2.out, HP1.out, HQ.out, HM1.out, HM2.out, HM3.out]
                    simp only [and_assoc])
                  have KZ := Wc.hid (Wc.step KD.out (Nat.le_refl _) BR.out)
                  have RHZ := Wc.hid (RHC.out.keep BR.out)
                  have HYZ : Hid (f = 0 → ∃ al cl ar cr, Y = .slice al (Wq.news old k.toNat r b).length cl ∧ A = .int .i64 (Wq.nx (Wq.stay bl k.toNat) F (Wq.news old k.toNat r b).length) ∧ R = .slice ar (F.length - (Wq.news old k.toNat r b).length) cr ∧
                      Wd.Is wr (.slice al (Wq.news old k.toNat r b).length cl) (Wq.ws (Wq.news old k.toNat r b) (Wq.stay bl k.toNat) F (Wq.news old k.toNat r b).length) ∧ Wd.In wr (.slice ar (F.length - (Wq.news old k.toNat r b).length) cr) (F.drop (Wq.news old k.toNat r b).length)) := Wc.hid (fun h => by
                    obtain ⟨al, cl, ar, cr, h1, h2, h3, h4, h5⟩ := HYC.out h
                    exact ⟨al, cl, ar, cr, h1, h2, h3, h4.keep BR.out, h5.keep BR.out⟩)
                  clear HYC RHC HP1 HP2 HP3 HQ BW KD BR
                  cases p3 with
                  | false =>
                    obtain rfl : f = 1 := HF.out.trans (Wq.cE_bad HQM.out.symm)
                    obtain ⟨rfl, rfl, rfl⟩ := HY1.out (by decide)
                    clear HYZ HY1 HF HQM
                    as_aux_lemma =>
                      go_wp2_with fail
                      refine (wakes15_any _).mono ?_
                      rintro e wA ⟨rfl, hbA⟩
                      have KA := Wc.hid (Wc.step KZ.out (Nat.le_refl _) hbA)
                      clear hbA
                      go_wp2_with fail
                      go_ret
                      exact ⟨rfl, Wc.step K4.out (Nat.le_refl _) KA.out⟩
                  | true =>
                    have hmay := HQM.out.symm
                    have hk0 := (Wq.mayB_iff.1 hmay).2.1
                    obtain ⟨kn, rfl⟩ : ∃ kn : Nat, k = (kn : Int) := ⟨k.toNat, by omega⟩
                    rw [Int.toNat_natCast] at HYZ
                    have HMAY := Wc.hid hmay
                    have ⟨z0, z1, z2, z3, z4, z5, z6⟩ := (Z4.out.keep KZ.out).zc
                    have ⟨r0, r1, r2, r3, r4, r5, r6, r7⟩ := RHZ.out.rc
                    clear hmay hk0 HQM
                    go_wp2_with fail
                    refine (refChain_any ar nr cr old ab nb cb bl kn r b af nf cf F _ (R4.out.keep KZ.out) (B4.out.keep KZ.out) (F4.out.keep KZ.out) (by have := H70.out; omega) HMAY.out).mono ?_
                    rintro e wA hP
                    unfold RCPost at hP
                    obtain ⟨hbA, hg, hn⟩ := hP
                    have KA := Wc.hid (Wc.step KZ.out (Nat.le_refl _) hbA)
                    clear z0 z1 z2 z3 z4 z5 z6 r0 r1 r2 r3 r4 r5 r6 r7
                    by_cases hK : (Wq.news old kn r b).length ≤ F.length
                    · obtain rfl : f = 0 := HF.out.trans (Wq.cE_good HMAY.out hK)
                      obtain ⟨al, cl, ar1, cr1, hY, hA, hR, hI0, hV0⟩ := HYZ.out rfl
                      obtain ⟨al2, cl2, ar2, cr2, rfl, hI1, hV1⟩ := hg hK
                      have hI0 := hI0.keep hbA
                      have hV0 := hV0.keep hbA
                      clear hg hn HYZ HY1 HF HMAY hK hbA KZ
                      obtain ⟨L, hL⟩ : ∃ L, Wq.ws (Wq.news old kn r b) (Wq.stay bl kn) F (Wq.news old kn r b).length = L := ⟨_, rfl⟩
                      obtain ⟨z, hz⟩ : ∃ z, Wq.nx (Wq.stay bl kn) F (Wq.news old kn r b).length = z := ⟨_, rfl⟩
                      obtain ⟨D, hD⟩ : ∃ D, F.drop (Wq.news old kn r b).length = D := ⟨_, rfl⟩
                      obtain ⟨M, hM⟩ : ∃ M, F.length - (Wq.news old kn r b).length = M := ⟨_, rfl⟩
                      obtain ⟨K, hK⟩ : ∃ K, (Wq.news old kn r b).length = K := ⟨_, rfl⟩
                      rw [hL, hK] at hI0 hI1
                      rw [hD, hM] at hV0 hV1
                      rw [hK] at hY ⊢
                      rw [hK] at hz hM hA hR
                      rw [hz] at hA ⊢
                      rw [hM] at hR ⊢
                      subst hY hA hR
                      have HI0 := Wc.hid hI0
                      have HI1 := Wc.hid hI1
                      have HV0 := Wc.hid hV0
                      have HV1 := Wc.hid hV1
                      clear hI0 hI1 hV0 hV1 hL hz hD hM hK
                      as_aux_lemma =>
                        go_wp2_with fail
                        refine (ios_same al K cl al2 cl2 L _ HI0.out HI1.out).mono ?_
                        rintro e wB ⟨rfl, hbB⟩
                        have KB := Wc.hid (Wc.step KA.out (Nat.le_refl _) hbB)
                        have HV2 := Wc.hid (HV0.out.keep hbB)
                        have HV3 := Wc.hid (HV1.out.keep hbB)
                        clear hbB HV0 HV1 HI0 HI1 KA
                        go_wp2_with fail
                        refine (ints_any _ _ D D _ HV2.out HV3.out).mono ?_
                        rintro e wC ⟨rfl, hbC⟩
                        rw [beq_self_eq_true]
                        have KC := Wc.hid (Wc.step KB.out (Nat.le_refl _) hbC)
                        clear hbC HV2 HV3 KB
                        go_wp2_with fail
                        refine (wakes15_any _).mono ?_
                        rintro e wE ⟨rfl, hbE⟩
                        have KE := Wc.hid (Wc.step KC.out (Nat.le_refl _) hbE)
                        clear hbE
                        go_wp2_with fail
                        go_ret
                        exact ⟨rfl, Wc.step K4.out (Nat.le_refl _) KE.out⟩
                    · obtain rfl : f = 9 := HF.out.trans (Wq.cE_space HMAY.out hK)
                      obtain ⟨rfl, rfl, rfl⟩ := HY1.out (by decide)
                      obtain rfl := hn (by omega)
                      clear hg hn HYZ HY1 HF HMAY hK hbA KZ
                      as_aux_lemma =>
                        go_wp2_with fail
                        refine (wakes15_any _).mono ?_
                        rintro e wB ⟨rfl, hbB⟩
                        have KB := Wc.hid (Wc.step KA.out (Nat.le_refl _) hbB)
                        clear hbB
                        go_wp2_with fail
                        go_ret
                        exact ⟨rfl, Wc.step K4.out (Nat.le_refl _) KB.out⟩
end Go.Proofs.YtfflhiajbioheaaGreat
