/-
  What open.sound returns, for every device, superblock and records.
-/
import Derived.Test.YtiobegoiehjfiaaGreatQd
namespace Go.Proofs.YtiobegoiehjfiaaGreat
open Go.RowKit

theorem sndU_cons {xs : List Int} {U : Nat → Int} {t : Int × Int} {L : List (Int × Int)} : Wi.sndU xs U (t :: L) = (Wi.trB xs U t && Wi.sndU xs (Wi.trU xs U t) L) := rfl
theorem drop_cons {l : List Wr.Rec} {k : Nat} (h : k < l.length) : l.drop k = l.getD k Wr.r0 :: l.drop (k + 1) := by
  rw [List.drop_eq_getElem_cons h]; simp [h]
theorem okT_first (b : List Int) : Wi.okT Wi.u0 1 b = true := Wi.okT_iff.2 fun _ _ _ => .inl rfl

set_option maxRecDepth 100000 in
set_option maxHeartbeats 6400000 in
theorem sound_any (v : Value) (xs b : List Int) (s : Ws.Sup) (a a' : Option Addr) (n c n' c' : Nat) (w : World) (hv : Wc.Bs w v xs) (hd : Wd.devB xs.length = true) (hs : Ws.supB s = true) (hsb : s.blocks = ((xs.length / 64 : Nat) : Int))
   (hl : Wi.Rs w (.slice a n c) (b.map (Wi.recAt xs))) (hp : Wd.In w (.slice a' n' c') b) (hI : Wi.Iv xs b) :
    Calls Tryz.prog 44 #[v, sv s, .slice a n c, .slice a' n' c'] w fun e w' => e = .returned (.bool (Wi.sndB xs s b)) ∧ Below w.heap.size w w' := by
  have hsz := (Ws.supB_iff.1 hs).2.2.1
  obtain ⟨gen, blocks, root, size, first⟩ := s
  obtain ⟨m, hm⟩ : ∃ m : Nat, xs.length / 64 = m := ⟨_, rfl⟩
  rw [hm] at hsb
  simp only at hsb hsz
  subst hsb
  obtain ⟨sz, rfl⟩ : ∃ sz : Nat, size = sz := ⟨size.toNat, by omega⟩
  have hszN : sz ≤ 512 := by omega
  have hmb : m ≤ 4096 := by have := Wd.devB_iff.1 hd; omega
  have hmk := run_make_row' (P := Tryz.prog) 113 3 (.int .i64 0) 8 Tryz.underlying113 Tryz.infoI rfl .i64 .i64 m (by omega) (by omega)
  have b1 : Below w.heap.size w (w.alloc (.cells #[.int .i64 gen, .int .i64 (m : Int), .int .i64 root, .int .i64 (sz : Int), .int .i64 first] 35)) := (Below.refl _ _).alloc (Nat.le_refl _) _
  have S1 := Sh.new w ⟨gen, m, root, sz, first⟩
  have ⟨c0, c1, c2, c3, c4⟩ := S1.sc
  have b2 : Below (w.alloc (.cells #[.int .i64 gen, .int .i64 (m : Int), .int .i64 root, .int .i64 (sz : Int), .int .i64 first] 35)).heap.size (w.alloc (.cells #[.int .i64 gen, .int .i64 (m : Int), .int .i64 root, .int .i64 (sz : Int), .int .i64 first] 35)) ((w.alloc (.cells #[.int .i64 gen, .int .i64 (m : Int), .int .i64 root, .int .i64 (sz : Int), .int .i64 first] 35)).alloc (.cells (madeCells #[.int .i64 0] m) 3)) := (Below.refl _ _).alloc (Nat.le_refl _) _
  have S2 := Wc.hid (S1.keep b2)
  have R2 := World.rowIs_made (w.alloc (.cells #[.int .i64 gen, .int .i64 (m : Int), .int .i64 root, .int .i64 (sz : Int), .int .i64 first] 35)) (.int .i64 0) m 3
  rw [show (w.alloc (.cells #[.int .i64 gen, .int .i64 (m : Int), .int .i64 root, .int .i64 (sz : Int), .int .i64 first] 35)).heap.size = w.heap.size + 1 by simp] at R2
  have B2 := Wc.hid (Wc.step b1 (Nat.le_refl _) b2)
  have HR2 := Wc.hid R2
  have HV := Wc.hid hv
  have HD := Wc.hid hd
  have HM := Wc.hid hm
  have HL := Wc.hid hl
  have HP := Wc.hid hp
  have HI := Wc.hid hI
  have HGS : Hid (w.heap.size + 1 < ((w.alloc (.cells #[.int .i64 gen, .int .i64 (m : Int), .int .i64 root, .int .i64 (sz : Int), .int .i64 first] 35)).alloc (.cells (madeCells #[.int .i64 0] m) 3)).heap.size) := Wc.hid (by simp)
  have HBD : Hid (∀ p ∈ b, 0 ≤ p ∧ p < (m : Int)) := Wc.hid fun p hp => by
    have := Wi.recOk_in (hI.2.2 p hp)
    rw [hm] at this
    omega
  have HNE : Hid (0 < n' → ∀ b o, a' = some ⟨b, o, none⟩ → ¬ b = w.heap.size + 1) := Wc.hid (by
    intro h0 b' o e
    obtain ⟨_, _, _, e1, e2, _, _, _, e6⟩ := hp
    cases e1
    obtain ⟨b2, o2, k1, k2, -⟩ := e6 h0
    rw [e] at k1
    cases k1
    omega)
  have HS : Hid (Wi.sndB xs ⟨gen, m, root, sz, first⟩ b = (Wi.trB xs (Wi.upT Wi.u0 1 b) (root, (sz : Int)) && Wi.sndU xs (Wi.trU xs (Wi.upT Wi.u0 1 b) (root, (sz : Int))) ((b.map (Wi.recAt xs)).map fun r => (r.root, r.size)))) := Wc.hid rfl
  clear hv hd hm hl hp hI b1 b2 S1 R2 hs hsz
  unfold sv
  go_enter Tryz.func44, Tryz.ntmps44
  go_wp2_with fail
  refine (take_any (w.heap.size + 1) m Wi.u0 a' n' c' b 1 _ (by omega) HR2.out (HP.out.keep B2.out) HNE.out HBD.out).mono ?_
  rintro e w3 ⟨rfl, hb3, hU3⟩
  rw [okT_first b]
  have HB3 := Wc.hid (B2.out.trans (hb3.1.mono (show w.heap.size ≤ w.heap.size + 1 by omega)))
  have HU3 := Wc.hid (hU3 (okT_first b))
  have S3 : Sh w3 w.heap.size ⟨gen, m, root, sz, first⟩ := by
    have h1 := S2.out
    unfold Sh at h1 ⊢
    rw [hb3.1.block w.heap.size (by omega)]
    exact h1
  have HS3 := Wc.hid S3
  have HG3 := Wc.hid (Nat.lt_of_lt_of_le HGS.out hb3.1.size)
  have ⟨e0, e1, e2, e3, e4⟩ := S3.sc
  clear hb3 hU3 S3 c0 c1 c2 c3 c4 hmk
  obtain ⟨q, hq⟩ : ∃ q, Wi.trB xs (Wi.upT Wi.u0 1 b) (root, (sz : Int)) = q := ⟨_, rfl⟩
  have HQ := Wc.hid hq
  clear hq
  go_wp2_with fail
  refine (taketree_any w _ (w.heap.size + 1) m sz (Wi.upT Wi.u0 1 b) v xs root HV.out HD.out HM.out hszN HB3.out (by omega) HU3.out HG3.out).mono ?_
  rintro e w4 ⟨rfl, hb4, hU4⟩
  rw [HQ.out]
  have HB4 := Wc.hid hb4
  cases q
  · clear hb4 hU4
    go_wp2_with fail
    go_ret
    exact ⟨ret_bool (by rw [HS.out, HQ.out]; rfl), HB4.out⟩
  · have HU4 := Wc.hid (hU4 HQ.out)
    have HS4 : Hid (Wi.sndU xs (Wi.trU xs (Wi.upT Wi.u0 1 b) (root, (sz : Int))) ((b.map (Wi.recAt xs)).map fun r => (r.root, r.size)) = Wi.sndB xs ⟨gen, m, root, sz, first⟩ b) := Wc.hid (by rw [HS.out, HQ.out]; rfl)
    have HG4 : Hid (w.heap.size + 1 < w4.heap.size) := Wc.hid (by
      obtain ⟨cs, hcs, -⟩ := HU4.out
      exact (Array.getElem?_eq_some_iff.1 hcs).1)
    obtain ⟨_, _, _, h1, hll, hlc, hlc2, hln, hpos⟩ := HL.out
    cases h1
    have HPS := Wc.hid hpos
    have HLL := Wc.hid hll
    clear hb4 hU4 hpos hll e0 e1 e2 e3 e4
    go_wp2_with fail
    go_loopw [31] (fun i wr => ∃ (k : Nat) (U : Nat → Int), i = .int .i64 k ∧ k ≤ n ∧ Hid (Below w.heap.size w wr) ∧ Hid (wr.rowIs (w.heap.size + 1) 3 m (fun j => .int .i64 (U j))) ∧ Hid (w.heap.size + 1 < wr.heap.size) ∧ Hid (Wi.sndU xs U (((b.map (Wi.recAt xs)).drop k).map fun r => (r.root, r.size)) = Wi.sndB xs ⟨gen, m, root, sz, first⟩ b)) (fun i _ => n - (intOf i).toNat)
    case atStart => exact ⟨0, _, rfl, by omega, HB4, HU4, HG4, HS4⟩
    case round =>
      obtain ⟨k, U, rfl, hk, RB, RU, RG, RS⟩ := hrel
      by_cases hlt : k < n
      · obtain ⟨g, off, rfl, hblt, hcs⟩ := HPS.out (by omega)
        have hx := (hcs k hlt).keep RB.out
        have hkl : k < (b.map (Wi.recAt xs)).length := by rw [HLL.out]; exact hlt
        have HC := Wc.hid (drop_cons hkl)
        have hrs : 0 ≤ ((b.map (Wi.recAt xs)).getD k Wr.r0).size ∧ ((b.map (Wi.recAt xs)).getD k Wr.r0).size ≤ 512 := by
          have hkb : k < b.length := by simpa using hkl
          rw [show (b.map (Wi.recAt xs)).getD k Wr.r0 = Wi.recAt xs b[k] by simp [hkb]]
          exact Wi.rec_size (Wi.recOk_in (HI.out.2.2 _ (List.getElem_mem hkb))).2.2.2
        obtain ⟨x, hxe⟩ : ∃ x, (b.map (Wi.recAt xs)).getD k Wr.r0 = x := ⟨_, rfl⟩
        rw [hxe] at hx HC hrs
        obtain ⟨x0, x1, x2, ro, si, x5, x6, x7⟩ := x
        simp only at hrs
        obtain ⟨z, rfl⟩ : ∃ z : Nat, si = z := ⟨si.toNat, by omega⟩
        have hz512 : z ≤ 512 := by omega
        have ⟨d0, d1, d2, d3, d4, d5, d6, d7⟩ := hx
        have ⟨f0, f1, f2, f3, f4, f5, f6, f7⟩ := (Rh.new wr ⟨x0, x1, x2, ro, z, x5, x6, x7⟩).rc
        have bA : Below wr.heap.size wr (wr.alloc (.cells #[.int .i64 x0, .int .i64 x1, .int .i64 x2, .int .i64 ro, .int .i64 (z : Int), .int .i64 x5, .int .i64 x6, .int .i64 x7] 63)) := (Below.refl _ _).alloc (Nat.le_refl _) _
        have HBA := Wc.hid (Wc.step RB.out (Nat.le_refl _) bA)
        have HUA := Wc.hid (row_keep RU.out bA)
        have HGA := Wc.hid (Nat.lt_of_lt_of_le RG.out bA.size)
        clear hcs hx hkl hrs hxe bA
        obtain ⟨q, hq⟩ : ∃ q, Wi.trB xs U (ro, (z : Int)) = q := ⟨_, rfl⟩
        have HQ2 := Wc.hid hq
        clear hq
        simp only at d0 d1 d2 d3 d4 d5 d6 d7 f0 f1 f2 f3 f4 f5 f6 f7
        go_wp2_with fail
        refine (taketree_any w _ (w.heap.size + 1) m z U v xs ro HV.out HD.out HM.out hz512 HBA.out (by omega) HUA.out HGA.out).mono ?_
        rintro e w5 ⟨rfl, hb5, hU5⟩
        rw [HQ2.out]
        have HB5 := Wc.hid hb5
        cases q
        · clear hb5 hU5
          go_wp2_with fail
          go_ret
          refine ⟨ret_bool ?_, HB5.out⟩
          rw [← RS.out, HC.out, List.map_cons, sndU_cons, HQ2.out]; rfl
        · have HU5 := Wc.hid (hU5 HQ2.out)
          have HG5 : Hid (w.heap.size + 1 < w5.heap.size) := Wc.hid (by
            obtain ⟨cs, hcs, -⟩ := HU5.out
            exact (Array.getElem?_eq_some_iff.1 hcs).1)
          clear hb5 hU5
          go_wp2_with fail
          go_roundw
          case rel =>
            refine ⟨k + 1, _, by go_num, by omega, HB5, HU5, HG5, Wc.hid ?_⟩
            rw [← RS.out, HC.out, List.map_cons, sndU_cons, HQ2.out]; rfl
          case measure => simp [intOf]; omega
      · go_wp2_with fail
        go_ret
        refine ⟨ret_bool ?_, RB.out⟩
        rw [← RS.out, List.drop_of_length_le (by rw [HLL.out]; omega)]; rfl

end Go.Proofs.YtiobegoiehjfiaaGreat
