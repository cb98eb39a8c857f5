/-
  What the page's open and ParseSuper return, for all bytes.
  What the page's Pick returns, for every right device.
  What the page's seal and SuperBytes return, for every right superblock.
  What the page's open (at SNAP) and ParseRecord return, for all bytes.
  What the page's RecordBytes returns, for every right record.
-/
import Derived.Test.YtfflhiajbioheaaGreatJC
import Derived.Test.YtfflhiajbioheaaGreatJB
import Derived.Lib.SlBytesConst
import Derived.Lib.SmallJoins
import Derived.ArgAppend
import Derived.Test.YtfflhiajbioheaaGreatJF
namespace Go.Proofs.YtfflhiajbioheaaGreat
open Go.RowKit

/-- What the page's open tells. -/
def opE (xs : List Int) : Int := if xs.length = 64 then (if xs.take 4 = Ws.name then (if Wc.goodB xs = true then 0 else 5) else 4) else 2

theorem opE_zero {xs : List Int} (h : opE xs = 0) : xs.length = 64 ∧ xs.take 4 = Ws.name ∧ Wc.goodB xs = true := by
  unfold opE at h
  by_cases h1 : xs.length = 64
  · rw [if_pos h1] at h
    by_cases h2 : xs.take 4 = Ws.name
    · rw [if_pos h2] at h
      by_cases h3 : Wc.goodB xs = true
      · exact ⟨h1, h2, h3⟩
      · rw [if_neg h3] at h; omega
    · rw [if_neg h2] at h; omega
  · rw [if_neg h1] at h; omega

theorem opE_no {xs : List Int} (h : ¬ opE xs = 0) : Ws.parE xs = opE xs ∧ Ws.par xs = Ws.s0 := by
  by_cases h1 : xs.length = 64
  · by_cases h2 : xs.take 4 = Ws.name
    · cases h3 : Wc.goodB xs
      · have := Ws.par_sum h1 h2 h3
        exact ⟨by rw [this.1]; simp [opE, h1, h2, h3], this.2⟩
      · exact absurd (by simp [opE, h1, h2, h3]) h
    · have := Ws.par_name h1 h2
      exact ⟨by rw [this.1]; simp [opE, h1, h2], this.2⟩
  · have := Ws.par_len h1
    exact ⟨by rw [this.1]; simp [opE, h1], this.2⟩

theorem num_gen (xs : List Int) (hl : xs.length = 64) : (numR ((xs.drop 4).take 8)).1 = (got xs).gen ∧ ((numR ((xs.drop 4).take 8)).2 = false → Ws.supB (Ws.parS xs) = false) := by
  have hg := got_gen xs hl
  have e : (got xs).gen = (Wc.getR xs 4 8).1 := rfl
  rw [e, hg]
  show (if Ws.num xs 4 8 ≤ 4611686018427387903 then (Ws.num xs 4 8, true) else (0, false)).1 = _ ∧ ((if Ws.num xs 4 8 ≤ 4611686018427387903 then (Ws.num xs 4 8, true) else ((0 : Int), false)).2 = false → _)
  by_cases h : Ws.num xs 4 8 ≤ 4611686018427387903
  · rw [if_pos h, if_pos h]
    exact ⟨rfl, fun h => by cases h⟩
  · rw [if_neg h, if_neg h]
    refine ⟨rfl, fun _ => ?_⟩
    rw [Bool.eq_false_iff]; intro hh
    have := (Ws.supB_iff.1 hh).1
    simp only [Ws.parS] at this; omega

end Go.Proofs.YtfflhiajbioheaaGreat
namespace Go.Proofs.YtfflhiajbioheaaGreat
open Go.RowKit

/-- What the page's Pick tells. -/
def rpk (one two : Bool) (a b : Ws.Sup) : Ws.Sup × Int × Bool :=
  if (one && (!two || decide (b.gen ≤ a.gen))) = true then (a, 0, true) else if two = true then (b, 1, true) else (Ws.s0, 0, false)

def onB (n : Int) (xs : List Int) : Bool := (Ws.parE xs == 0) && ((Ws.par xs).blocks == n)

theorem onB_slot (n : Int) (xs : List Int) : Ws.slotS n xs = (if onB n xs = true then Ws.par xs else Ws.s0) ∧ (onB n xs = true → 1 ≤ (Ws.par xs).gen) := by
  unfold onB
  by_cases h1 : Ws.parE xs = 0
  · by_cases h2 : (Ws.par xs).blocks = n
    · have hy := Ws.slot_yes (n := n) (b := xs) ⟨h1, h2⟩
      rw [hy.1] at hy
      refine ⟨?_, fun _ => hy.2⟩
      rw [hy.1, h1, h2]
      have hyn := (Ws.slot_yes (n := n) (b := xs) ⟨h1, h2⟩).1
      simpa using hyn
    · refine ⟨?_, fun h => ?_⟩
      · rw [Ws.slot_no (fun e => h2 e.2), if_neg (by simp [h2])]
      · simp [h2] at h
  · refine ⟨?_, fun h => ?_⟩
    · rw [Ws.slot_no (fun e => h1 e.1), if_neg (by simp [h1])]
    · simp [h1] at h

theorem rpk_picks (n : Int) (X Y : List Int) : Ws.picks (Ws.slotS n X) (Ws.slotS n Y) = ((rpk (onB n X) (onB n Y) (Ws.par X) (Ws.par Y)).1, (rpk (onB n X) (onB n Y) (Ws.par X) (Ws.par Y)).2.1, if (rpk (onB n X) (onB n Y) (Ws.par X) (Ws.par Y)).2.2 = true then 0 else 8) := by
  have hX := onB_slot n X
  have hY := onB_slot n Y
  rw [hX.1, hY.1]
  have z : Ws.s0.gen = 0 := rfl
  cases h1 : onB n X <;> cases h2 : onB n Y
  · simp [rpk, Ws.picks, z]
  · have g2 := hY.2 h2
    have : 0 < (Ws.par Y).gen := by omega
    simp [rpk, Ws.picks, z, this]
  · have g1 := hX.2 h1
    have : 0 < (Ws.par X).gen := by omega
    have h3 : ¬ (Ws.par X).gen < 0 := by omega
    simp [rpk, Ws.picks, z, this, h3]
  · have g1 := hX.2 h1
    have : 0 < (Ws.par X).gen := by omega
    by_cases h3 : (Ws.par X).gen < (Ws.par Y).gen
    · have h4 : ¬ (Ws.par Y).gen ≤ (Ws.par X).gen := by omega
      simp [rpk, Ws.picks, this, h3, h4]
    · have h4 : (Ws.par Y).gen ≤ (Ws.par X).gen := by omega
      simp [rpk, Ws.picks, this, h3, h4]

end Go.Proofs.YtfflhiajbioheaaGreat
namespace Wc
open Go Go.RowKit

end Wc
namespace Go.Proofs.YtfflhiajbioheaaGreat
open Go.RowKit

theorem Sh.below {w w' : World} {B base : Nat} {s : Ws.Sup} (h : Sh w B s) (hb : Below base w w') (hlt : B < base) : Sh w' B s := by
  unfold Sh
  rw [hb.block B hlt]; exact h

theorem fit_enc {n : Int} (h : 0 ≤ n ∧ n ≤ 1099511627776) : 0 ≤ n ∧ n ≤ 4611686018427387903 := by omega

set_option maxHeartbeats 3200000 in
theorem refSuperBytes_any (s : Ws.Sup) (w : World) (hs : Ws.supB s = true) :
    Calls Tryz.prog 26 #[sv s] w fun e w' => ∃ v, e = .returned v ∧ Wc.Bs w' v (Ws.blk s) ∧ Below w.heap.size w w' := by
  obtain ⟨i0, hi, hz0, hz1, hz2⟩ := info_parts Tryz.infoU8
  have HS := Wc.hid (Ws.supB_iff.1 hs)
  clear hs
  have kc := Joins.run_convert_bytes_const_at (P := Tryz.prog) (w.alloc (.cells #[.int .i64 s.gen, .int .i64 s.blocks, .int .i64 s.root, .int .i64 s.size, .int .i64 s.first] 23)) 48 5 #[.int .u8 87, .int .u8 67, .int .u8 85, .int .u8 84] 4 4 (w.heap.size + 1) (by simp) Tryz.underlying48 Tryz.underlying5
  have A0 := Wc.hid ((Sh.new w s).keep ((Below.refl _ _).alloc (Nat.le_refl _) (.cells #[.int .u8 87, .int .u8 67, .int .u8 85, .int .u8 84] 5 (4, 5))))
  have B0 := Wc.hid (((Below.refl w.heap.size w).alloc (Nat.le_refl _) (.cells #[.int .i64 s.gen, .int .i64 s.blocks, .int .i64 s.root, .int .i64 s.size, .int .i64 s.first] 23)).alloc (by simp) (.cells #[.int .u8 87, .int .u8 67, .int .u8 85, .int .u8 84] 5 (4, 5)))
  have V0 : Hid (Wc.Bs ((w.alloc (.cells #[.int .i64 s.gen, .int .i64 s.blocks, .int .i64 s.root, .int .i64 s.size, .int .i64 s.first] 23)).alloc (.cells #[.int .u8 87, .int .u8 67, .int .u8 85, .int .u8 84] 5 (4, 5))) (.slice (some ⟨w.heap.size + 1, 0, none⟩) 4 4) Ws.name) := Wc.hid (by
    have := Wc.Bs.litF (w.alloc (.cells #[.int .i64 s.gen, .int .i64 s.blocks, .int .i64 s.root, .int .i64 s.size, .int .i64 s.first] 23)) #[.int .u8 87, .int .u8 67, .int .u8 85, .int .u8 84] 5 4 (4, 5) Ws.name rfl (by omega) rfl (by decide)
    simpa using this)
  have ⟨c0, c1, c2, c3, c4⟩ := A0.out.sc
  unfold sv
  go_enter Tryz.func26, Tryz.ntmps26
  go_wp2_with fail
  obtain ⟨W1, hW1⟩ : ∃ W1, (w.alloc (.cells #[.int .i64 s.gen, .int .i64 s.blocks, .int .i64 s.root, .int .i64 s.size, .int .i64 s.first] 23)).alloc (.cells #[.int .u8 87, .int .u8 67, .int .u8 85, .int .u8 84] 5 (4, 5)) = W1 := ⟨_, rfl⟩
  rw [hW1] at A0 B0 V0 ⊢
  clear hW1 kc c0 c1 c2 c3 c4
  refine (refBytes_any 8 s.gen _ (by omega) (by have := HS.out; omega) (by have := HS.out; omega)).mono ?_
  rintro e w2 ⟨u2, rfl, hu2, hb2⟩
  obtain ⟨q2, o2, k2, rfl⟩ := Wc.bs_shape hu2 (by rw [Wc.enc_length]; omega)
  have A2 := Wc.hid (A0.out.keep hb2)
  have B2 := Wc.hid (Wc.step B0.out (Nat.le_refl _) hb2)
  obtain ⟨v3, w3, hrun, hO3, hb3⟩ := Wc.grow_run (P := Tryz.prog) (ty := 48) Tryz.underlying48 hi hz0 hz1 hz2 (V0.out.keep hb2) hu2 (by rw [Wc.enc_length]; omega) (by rw [Wc.enc_length]; omega) (by rw [Wc.enc_length]; decide)
  have hlt2 : w.heap.size < w2.heap.size := by have := A2.out.lt; omega
  have HLT := Wc.hid hlt2
  have A3 := Wc.hid (A2.out.keep hb3)
  have O3 := Wc.hid hO3
  have B3 := Wc.hid (Wc.step B2.out (Nat.le_refl _) hb3)
  have BB3 := Wc.hid hb3
  clear hu2 hb2 hO3 hb3 hlt2
  obtain ⟨g3, c3, rfl⟩ := Wc.ob_form O3.out (by simp [Ws.name, Wc.enc_length])
  have e3 : (Ws.name ++ Wc.enc 8 s.gen).length = 12 := by simp [Ws.name, Wc.enc_length]
  rw [e3] at hrun O3
  clear e3
  have ⟨a0, a1, a2, a3, a4⟩ := A3.out.sc
  go_wp2_with (at_builtin; refine Wc.wp_append hrun rfl rfl rfl rfl ?_)
  clear hrun a0 a1 a2 a3 a4
  refine (refBytes_any 4 s.blocks _ (by omega) (by have := HS.out; omega) (by have := HS.out; omega)).mono ?_
  rintro e w4 ⟨u4, rfl, hu, hb⟩
  obtain ⟨qq4, oo4, kk4, rfl⟩ := Wc.bs_shape hu (by rw [Wc.enc_length]; omega)
  have A4 := Wc.hid (A3.out.keep hb)
  have B4 := Wc.hid (Wc.step B3.out (Nat.le_refl _) hb)
  have BB4 := Wc.hid (Wc.step BB3.out (Nat.le_refl _) hb)
  have hbs4 := BB4.out.size
  obtain ⟨v5, w5, hrun, hO, hb'⟩ := Wc.append_run (P := Tryz.prog) (ty := 48) (ys := Wc.enc 4 s.blocks) Tryz.underlying48 hi hz0 hz1 hz2 (O3.out.keep hb) hu (.inr ⟨_, _, _, rfl⟩) (by simp [Ws.name, Wc.enc_length]) hbs4
  have A5 := Wc.hid (A4.out.below hb' HLT.out)
  have O5 := Wc.hid hO
  have BB5 := Wc.hid (BB4.out.trans hb')
  have B5 := Wc.hid (B4.out.trans (hb'.mono (by have := HLT.out; omega)))
  clear hu hb hO hb' hbs4
  obtain ⟨g5, c5, rfl⟩ := Wc.ob_form O5.out (by simp [Ws.name, Wc.enc_length])
  have el : ((Ws.name ++ Wc.enc 8 s.gen) ++ Wc.enc 4 s.blocks).length = 16 := by simp [Ws.name, Wc.enc_length]
  rw [el] at hrun O5
  clear el
  have ⟨a0, a1, a2, a3, a4⟩ := A5.out.sc
  go_wp2_with (at_builtin; refine Wc.wp_append hrun rfl rfl rfl rfl ?_)
  clear hrun a0 a1 a2 a3 a4
  refine (refBytes_any 4 s.root _ (by omega) (by have := HS.out; omega) (by have := HS.out; omega)).mono ?_
  rintro e w6 ⟨u6, rfl, hu, hb⟩
  obtain ⟨qq6, oo6, kk6, rfl⟩ := Wc.bs_shape hu (by rw [Wc.enc_length]; omega)
  have A6 := Wc.hid (A5.out.keep hb)
  have B6 := Wc.hid (Wc.step B5.out (Nat.le_refl _) hb)
  have BB6 := Wc.hid (Wc.step BB5.out (Nat.le_refl _) hb)
  have hbs6 := BB6.out.size
  obtain ⟨v7, w7, hrun, hO, hb'⟩ := Wc.append_run (P := Tryz.prog) (ty := 48) (ys := Wc.enc 4 s.root) Tryz.underlying48 hi hz0 hz1 hz2 (O5.out.keep hb) hu (.inr ⟨_, _, _, rfl⟩) (by simp [Ws.name, Wc.enc_length]) hbs6
  have A7 := Wc.hid (A6.out.below hb' HLT.out)
  have O7 := Wc.hid hO
  have BB7 := Wc.hid (BB6.out.trans hb')
  have B7 := Wc.hid (B6.out.trans (hb'.mono (by have := HLT.out; omega)))
  clear hu hb hO hb' hbs6
  obtain ⟨g7, c7, rfl⟩ := Wc.ob_form O7.out (by simp [Ws.name, Wc.enc_length])
  have el : (((Ws.name ++ Wc.enc 8 s.gen) ++ Wc.enc 4 s.blocks) ++ Wc.enc 4 s.root).length = 20 := by simp [Ws.name, Wc.enc_length]
  rw [el] at hrun O7
  clear el
  have ⟨a0, a1, a2, a3, a4⟩ := A7.out.sc
  go_wp2_with (at_builtin; refine Wc.wp_append hrun rfl rfl rfl rfl ?_)
  clear hrun a0 a1 a2 a3 a4
  refine (refBytes_any 4 s.size _ (by omega) (by have := HS.out; omega) (by have := HS.out; omega)).mono ?_
  rintro e w8 ⟨u8, rfl, hu, hb⟩
  obtain ⟨qq8, oo8, kk8, rfl⟩ := Wc.bs_shape hu (by rw [Wc.enc_length]; omega)
  have A8 := Wc.hid (A7.out.keep hb)
  have B8 := Wc.hid (Wc.step B7.out (Nat.le_refl _) hb)
  have BB8 := Wc.hid (Wc.step BB7.out (Nat.le_refl _) hb)
  have hbs8 := BB8.out.size
  obtain ⟨v9, w9, hrun, hO, hb'⟩ := Wc.append_run (P := Tryz.prog) (ty := 48) (ys := Wc.enc 4 s.size) Tryz.underlying48 hi hz0 hz1 hz2 (O7.out.keep hb) hu (.inr ⟨_, _, _, rfl⟩) (by simp [Ws.name, Wc.enc_length]) hbs8
  have A9 := Wc.hid (A8.out.below hb' HLT.out)
  have O9 := Wc.hid hO
  have BB9 := Wc.hid (BB8.out.trans hb')
  have B9 := Wc.hid (B8.out.trans (hb'.mono (by have := HLT.out; omega)))
  clear hu hb hO hb' hbs8
  obtain ⟨g9, c9, rfl⟩ := Wc.ob_form O9.out (by simp [Ws.name, Wc.enc_length])
  have el : ((((Ws.name ++ Wc.enc 8 s.gen) ++ Wc.enc 4 s.blocks) ++ Wc.enc 4 s.root) ++ Wc.enc 4 s.size).length = 24 := by simp [Ws.name, Wc.enc_length]
  rw [el] at hrun O9
  clear el
  have ⟨a0, a1, a2, a3, a4⟩ := A9.out.sc
  go_wp2_with (at_builtin; refine Wc.wp_append hrun rfl rfl rfl rfl ?_)
  clear hrun a0 a1 a2 a3 a4
  refine (refBytes_any 4 s.first _ (by omega) (by have := HS.out; omega) (by have := HS.out; omega)).mono ?_
  rintro e w10 ⟨u10, rfl, hu, hb⟩
  obtain ⟨qq10, oo10, kk10, rfl⟩ := Wc.bs_shape hu (by rw [Wc.enc_length]; omega)
  have A10 := Wc.hid (A9.out.keep hb)
  have B10 := Wc.hid (Wc.step B9.out (Nat.le_refl _) hb)
  have BB10 := Wc.hid (Wc.step BB9.out (Nat.le_refl _) hb)
  have hbs10 := BB10.out.size
  obtain ⟨v11, w11, hrun, hO, hb'⟩ := Wc.append_run (P := Tryz.prog) (ty := 48) (ys := Wc.enc 4 s.first) Tryz.underlying48 hi hz0 hz1 hz2 (O9.out.keep hb) hu (.inr ⟨_, _, _, rfl⟩) (by simp [Ws.name, Wc.enc_length]) hbs10
  have A11 := Wc.hid (A10.out.below hb' HLT.out)
  have O11 := Wc.hid hO
  have BB11 := Wc.hid (BB10.out.trans hb')
  have B11 := Wc.hid (B10.out.trans (hb'.mono (by have := HLT.out; omega)))
  clear hu hb hO hb' hbs10
  obtain ⟨g11, c11, rfl⟩ := Wc.ob_form O11.out (by simp [Ws.name, Wc.enc_length])
  have el : (((((Ws.name ++ Wc.enc 8 s.gen) ++ Wc.enc 4 s.blocks) ++ Wc.enc 4 s.root) ++ Wc.enc 4 s.size) ++ Wc.enc 4 s.first).length = 28 := by simp [Ws.name, Wc.enc_length]
  rw [el] at hrun O11
  clear el
  go_wp2_with (at_builtin; refine Wc.wp_append hrun rfl rfl rfl rfl ?_)
  clear hrun
  refine (seal_any w2.heap.size _ (((((Ws.name ++ Wc.enc 8 s.gen) ++ Wc.enc 4 s.blocks) ++ Wc.enc 4 s.root) ++ Wc.enc 4 s.size) ++ Wc.enc 4 s.first) _ O11.out (by simp [Ws.name, Wc.enc_length]) (by simp [Ws.name, Wc.enc_length]) BB11.out.size).mono ?_
  rintro e w12 ⟨vz, rfl, hz, hbz⟩
  have HZ := Wc.hid hz
  have BZ := Wc.hid (B11.out.trans (hbz.mono (by have := HLT.out; omega)))
  clear hz hbz
  go_wp2_with fail
  go_ret
  refine ⟨vz, rfl, ?_, BZ.out⟩
  have hh : (((((Ws.name ++ Wc.enc 8 s.gen) ++ Wc.enc 4 s.blocks) ++ Wc.enc 4 s.root) ++ Wc.enc 4 s.size) ++ Wc.enc 4 s.first) ++ List.replicate (60 - (((((Ws.name ++ Wc.enc 8 s.gen) ++ Wc.enc 4 s.blocks) ++ Wc.enc 4 s.root) ++ Wc.enc 4 s.size) ++ Wc.enc 4 s.first).length) 0 = Ws.head s := by
    rw [show (((((Ws.name ++ Wc.enc 8 s.gen) ++ Wc.enc 4 s.blocks) ++ Wc.enc 4 s.root) ++ Wc.enc 4 s.size) ++ Wc.enc 4 s.first).length = 28 from by simp [Ws.name, Wc.enc_length]]
    unfold Ws.head
    simp only [List.append_assoc]
  have := HZ.out
  rw [hh] at this
  exact this

end Go.Proofs.YtfflhiajbioheaaGreat
namespace Go.Proofs.YtfflhiajbioheaaGreat
open Go.RowKit

/-- What the page's open tells. -/
def opR (xs : List Int) : Int := if xs.length = 64 then (if xs.take 4 = Wr.name then (if Wc.goodB xs = true then 0 else 5) else 4) else 2

theorem opR_zero {xs : List Int} (h : opR xs = 0) : xs.length = 64 ∧ xs.take 4 = Wr.name ∧ Wc.goodB xs = true := by
  unfold opR at h
  by_cases h1 : xs.length = 64
  · rw [if_pos h1] at h
    by_cases h2 : xs.take 4 = Wr.name
    · rw [if_pos h2] at h
      by_cases h3 : Wc.goodB xs = true
      · exact ⟨h1, h2, h3⟩
      · rw [if_neg h3] at h; omega
    · rw [if_neg h2] at h; omega
  · rw [if_neg h1] at h; omega

theorem opR_no {xs : List Int} (h : ¬ opR xs = 0) : Wr.parE xs = opR xs ∧ Wr.par xs = Wr.r0 := by
  by_cases h1 : xs.length = 64
  · by_cases h2 : xs.take 4 = Wr.name
    · cases h3 : Wc.goodB xs
      · have := Wr.par_sum h1 h2 h3
        exact ⟨by rw [this.1]; simp [opR, h1, h2, h3], this.2⟩
      · exact absurd (by simp [opR, h1, h2, h3]) h
    · have := Wr.par_name h1 h2
      exact ⟨by rw [this.1]; simp [opR, h1, h2], this.2⟩
  · have := Wr.par_len h1
    exact ⟨by rw [this.1]; simp [opR, h1], this.2⟩

end Go.Proofs.YtfflhiajbioheaaGreat
namespace Go.Proofs.YtfflhiajbioheaaGreat
open Go.RowKit

set_option maxHeartbeats 6400000 in
theorem refRecordBytes_any (r : Wr.Rec) (w : World) (hs : Wr.recB r = true) :
    Calls Tryz.prog 40 #[rv r] w fun e w' => ∃ v, e = .returned v ∧ Wc.Bs w' v (Wr.blk r) ∧ Below w.heap.size w w' := by
  obtain ⟨i0, hi, hz0, hz1, hz2⟩ := info_parts Tryz.infoU8
  have HS := Wc.hid (Wr.recB_fit hs)
  clear hs
  have kc := Joins.run_convert_bytes_const_at (P := Tryz.prog) (w.alloc (.cells #[.int .i64 r.next, .int .i64 r.id, .int .i64 r.parent, .int .i64 r.root, .int .i64 r.size, .int .i64 r.kind, .int .i64 r.frames, .int .i64 r.digest] 39)) 48 5 #[.int .u8 83, .int .u8 78, .int .u8 65, .int .u8 80] 4 4 (w.heap.size + 1) (by simp) Tryz.underlying48 Tryz.underlying5
  have A0 := Wc.hid ((Rh.new w r).keep ((Below.refl _ _).alloc (Nat.le_refl _) (.cells #[.int .u8 83, .int .u8 78, .int .u8 65, .int .u8 80] 5 (4, 5))))
  have B0 := Wc.hid (((Below.refl w.heap.size w).alloc (Nat.le_refl _) (.cells #[.int .i64 r.next, .int .i64 r.id, .int .i64 r.parent, .int .i64 r.root, .int .i64 r.size, .int .i64 r.kind, .int .i64 r.frames, .int .i64 r.digest] 39)).alloc (by simp) (.cells #[.int .u8 83, .int .u8 78, .int .u8 65, .int .u8 80] 5 (4, 5)))
  have V0 : Hid (Wc.Bs ((w.alloc (.cells #[.int .i64 r.next, .int .i64 r.id, .int .i64 r.parent, .int .i64 r.root, .int .i64 r.size, .int .i64 r.kind, .int .i64 r.frames, .int .i64 r.digest] 39)).alloc (.cells #[.int .u8 83, .int .u8 78, .int .u8 65, .int .u8 80] 5 (4, 5))) (.slice (some ⟨w.heap.size + 1, 0, none⟩) 4 4) Wr.name) := Wc.hid (by
    have := Wc.Bs.litF (w.alloc (.cells #[.int .i64 r.next, .int .i64 r.id, .int .i64 r.parent, .int .i64 r.root, .int .i64 r.size, .int .i64 r.kind, .int .i64 r.frames, .int .i64 r.digest] 39)) #[.int .u8 83, .int .u8 78, .int .u8 65, .int .u8 80] 5 4 (4, 5) Wr.name rfl (by omega) rfl (by decide)
    simpa using this)
  have ⟨c0, c1, c2, c3, c4, c5, c6, c7⟩ := A0.out.rc
  unfold rv
  go_enter Tryz.func40, Tryz.ntmps40
  go_wp2_with fail
  obtain ⟨W1, hW1⟩ : ∃ W1, (w.alloc (.cells #[.int .i64 r.next, .int .i64 r.id, .int .i64 r.parent, .int .i64 r.root, .int .i64 r.size, .int .i64 r.kind, .int .i64 r.frames, .int .i64 r.digest] 39)).alloc (.cells #[.int .u8 83, .int .u8 78, .int .u8 65, .int .u8 80] 5 (4, 5)) = W1 := ⟨_, rfl⟩
  rw [hW1] at A0 B0 V0 ⊢
  clear hW1 kc c0 c1 c2 c3 c4 c5 c6 c7
  refine (refBytes_any 4 r.next _ (by omega) HS.out.1.1 (by have := HS.out.1; omega)).mono ?_
  rintro e w2 ⟨u2, rfl, hu2, hb2⟩
  obtain ⟨q2, o2, k2, rfl⟩ := Wc.bs_shape hu2 (by rw [Wc.enc_length]; omega)
  have A2 := Wc.hid (A0.out.keep hb2)
  have B2 := Wc.hid (Wc.step B0.out (Nat.le_refl _) hb2)
  obtain ⟨v3, w3, hrun, hO3, hb3⟩ := Wc.grow_run (P := Tryz.prog) (ty := 48) Tryz.underlying48 hi hz0 hz1 hz2 (V0.out.keep hb2) hu2 (by rw [Wc.enc_length]; omega) (by rw [Wc.enc_length]; omega) (by rw [Wc.enc_length]; decide)
  have hlt2 : w.heap.size < w2.heap.size := by have := A2.out.lt; omega
  have HLT := Wc.hid hlt2
  have A3 := Wc.hid (A2.out.keep hb3)
  have O3 := Wc.hid hO3
  have B3 := Wc.hid (Wc.step B2.out (Nat.le_refl _) hb3)
  have BB3 := Wc.hid hb3
  clear hu2 hb2 hO3 hb3 hlt2
  obtain ⟨g3, c3, rfl⟩ := Wc.ob_form O3.out (by simp [Wr.name, Wc.enc_length])
  have e3 : (Wr.name ++ Wc.enc 4 r.next).length = 8 := by simp [Wr.name, Wc.enc_length]
  rw [e3] at hrun O3
  clear e3
  have ⟨a0, a1, a2, a3, a4, a5, a6, a7⟩ := A3.out.rc
  go_wp2_with (at_builtin; refine Wc.wp_append hrun rfl rfl rfl rfl ?_)
  clear hrun a0 a1 a2 a3 a4 a5 a6 a7
  refine (refBytes_any 8 r.id _ (by omega) (HS.out.2.1).1 (by have := HS.out.2.1; omega)).mono ?_
  rintro e w4 ⟨u4, rfl, hu, hb⟩
  obtain ⟨qq4, oo4, kk4, rfl⟩ := Wc.bs_shape hu (by rw [Wc.enc_length]; omega)
  have A4 := Wc.hid (A3.out.keep hb)
  have B4 := Wc.hid (Wc.step B3.out (Nat.le_refl _) hb)
  have BB4 := Wc.hid (Wc.step BB3.out (Nat.le_refl _) hb)
  have hbs := BB4.out.size
  obtain ⟨v5, w5, hrun, hO, hb'⟩ := Wc.append_run (P := Tryz.prog) (ty := 48) (ys := Wc.enc 8 r.id) Tryz.underlying48 hi hz0 hz1 hz2 (O3.out.keep hb) hu (.inr ⟨_, _, _, rfl⟩) (by simp [Wr.name, Wc.enc_length]) hbs
  have A5 := Wc.hid (A4.out.below hb' HLT.out)
  have O5 := Wc.hid hO
  have BB5 := Wc.hid (BB4.out.trans hb')
  have B5 := Wc.hid (B4.out.trans (hb'.mono (by have := HLT.out; omega)))
  clear hu hb hO hb' hbs
  obtain ⟨g5, c5, rfl⟩ := Wc.ob_form O5.out (by simp [Wr.name, Wc.enc_length])
  have el : ((Wr.name ++ Wc.enc 4 r.next) ++ Wc.enc 8 r.id).length = 16 := by simp [Wr.name, Wc.enc_length]
  rw [el] at hrun O5
  clear el
  have ⟨a0, a1, a2, a3, a4, a5, a6, a7⟩ := A5.out.rc
  go_wp2_with (at_builtin; refine Wc.wp_append hrun rfl rfl rfl rfl ?_)
  clear hrun a0 a1 a2 a3 a4 a5 a6 a7
  refine (refBytes_any 8 r.parent _ (by omega) (HS.out.2.2.1).1 (by have := HS.out.2.2.1; omega)).mono ?_
  rintro e w6 ⟨u6, rfl, hu, hb⟩
  obtain ⟨qq6, oo6, kk6, rfl⟩ := Wc.bs_shape hu (by rw [Wc.enc_length]; omega)
  have A6 := Wc.hid (A5.out.keep hb)
  have B6 := Wc.hid (Wc.step B5.out (Nat.le_refl _) hb)
  have BB6 := Wc.hid (Wc.step BB5.out (Nat.le_refl _) hb)
  have hbs := BB6.out.size
  obtain ⟨v7, w7, hrun, hO, hb'⟩ := Wc.append_run (P := Tryz.prog) (ty := 48) (ys := Wc.enc 8 r.parent) Tryz.underlying48 hi hz0 hz1 hz2 (O5.out.keep hb) hu (.inr ⟨_, _, _, rfl⟩) (by simp [Wr.name, Wc.enc_length]) hbs
  have A7 := Wc.hid (A6.out.below hb' HLT.out)
  have O7 := Wc.hid hO
  have BB7 := Wc.hid (BB6.out.trans hb')
  have B7 := Wc.hid (B6.out.trans (hb'.mono (by have := HLT.out; omega)))
  clear hu hb hO hb' hbs
  obtain ⟨g7, c7, rfl⟩ := Wc.ob_form O7.out (by simp [Wr.name, Wc.enc_length])
  have el : (((Wr.name ++ Wc.enc 4 r.next) ++ Wc.enc 8 r.id) ++ Wc.enc 8 r.parent).length = 24 := by simp [Wr.name, Wc.enc_length]
  rw [el] at hrun O7
  clear el
  have ⟨a0, a1, a2, a3, a4, a5, a6, a7⟩ := A7.out.rc
  go_wp2_with (at_builtin; refine Wc.wp_append hrun rfl rfl rfl rfl ?_)
  clear hrun a0 a1 a2 a3 a4 a5 a6 a7
  refine (refBytes_any 4 r.root _ (by omega) (HS.out.2.2.2.1).1 (by have := HS.out.2.2.2.1; omega)).mono ?_
  rintro e w8 ⟨u8, rfl, hu, hb⟩
  obtain ⟨qq8, oo8, kk8, rfl⟩ := Wc.bs_shape hu (by rw [Wc.enc_length]; omega)
  have A8 := Wc.hid (A7.out.keep hb)
  have B8 := Wc.hid (Wc.step B7.out (Nat.le_refl _) hb)
  have BB8 := Wc.hid (Wc.step BB7.out (Nat.le_refl _) hb)
  have hbs := BB8.out.size
  obtain ⟨v9, w9, hrun, hO, hb'⟩ := Wc.append_run (P := Tryz.prog) (ty := 48) (ys := Wc.enc 4 r.root) Tryz.underlying48 hi hz0 hz1 hz2 (O7.out.keep hb) hu (.inr ⟨_, _, _, rfl⟩) (by simp [Wr.name, Wc.enc_length]) hbs
  have A9 := Wc.hid (A8.out.below hb' HLT.out)
  have O9 := Wc.hid hO
  have BB9 := Wc.hid (BB8.out.trans hb')
  have B9 := Wc.hid (B8.out.trans (hb'.mono (by have := HLT.out; omega)))
  clear hu hb hO hb' hbs
  obtain ⟨g9, c9, rfl⟩ := Wc.ob_form O9.out (by simp [Wr.name, Wc.enc_length])
  have el : ((((Wr.name ++ Wc.enc 4 r.next) ++ Wc.enc 8 r.id) ++ Wc.enc 8 r.parent) ++ Wc.enc 4 r.root).length = 28 := by simp [Wr.name, Wc.enc_length]
  rw [el] at hrun O9
  clear el
  have ⟨a0, a1, a2, a3, a4, a5, a6, a7⟩ := A9.out.rc
  go_wp2_with (at_builtin; refine Wc.wp_append hrun rfl rfl rfl rfl ?_)
  clear hrun a0 a1 a2 a3 a4 a5 a6 a7
  refine (refBytes_any 4 r.size _ (by omega) (HS.out.2.2.2.2.1).1 (by have := HS.out.2.2.2.2.1; omega)).mono ?_
  rintro e w10 ⟨u10, rfl, hu, hb⟩
  obtain ⟨qq10, oo10, kk10, rfl⟩ := Wc.bs_shape hu (by rw [Wc.enc_length]; omega)
  have A10 := Wc.hid (A9.out.keep hb)
  have B10 := Wc.hid (Wc.step B9.out (Nat.le_refl _) hb)
  have BB10 := Wc.hid (Wc.step BB9.out (Nat.le_refl _) hb)
  have hbs := BB10.out.size
  obtain ⟨v11, w11, hrun, hO, hb'⟩ := Wc.append_run (P := Tryz.prog) (ty := 48) (ys := Wc.enc 4 r.size) Tryz.underlying48 hi hz0 hz1 hz2 (O9.out.keep hb) hu (.inr ⟨_, _, _, rfl⟩) (by simp [Wr.name, Wc.enc_length]) hbs
  have A11 := Wc.hid (A10.out.below hb' HLT.out)
  have O11 := Wc.hid hO
  have BB11 := Wc.hid (BB10.out.trans hb')
  have B11 := Wc.hid (B10.out.trans (hb'.mono (by have := HLT.out; omega)))
  clear hu hb hO hb' hbs
  obtain ⟨g11, c11, rfl⟩ := Wc.ob_form O11.out (by simp [Wr.name, Wc.enc_length])
  have el : (((((Wr.name ++ Wc.enc 4 r.next) ++ Wc.enc 8 r.id) ++ Wc.enc 8 r.parent) ++ Wc.enc 4 r.root) ++ Wc.enc 4 r.size).length = 32 := by simp [Wr.name, Wc.enc_length]
  rw [el] at hrun O11
  clear el
  have ⟨a0, a1, a2, a3, a4, a5, a6, a7⟩ := A11.out.rc
  go_wp2_with (at_builtin; refine Wc.wp_append hrun rfl rfl rfl rfl ?_)
  clear hrun a0 a1 a2 a3 a4 a5 a6 a7
  refine (refBytes_any 4 r.kind _ (by omega) (HS.out.2.2.2.2.2.1).1 (by have := HS.out.2.2.2.2.2.1; omega)).mono ?_
  rintro e w12 ⟨u12, rfl, hu, hb⟩
  obtain ⟨qq12, oo12, kk12, rfl⟩ := Wc.bs_shape hu (by rw [Wc.enc_length]; omega)
  have A12 := Wc.hid (A11.out.keep hb)
  have B12 := Wc.hid (Wc.step B11.out (Nat.le_refl _) hb)
  have BB12 := Wc.hid (Wc.step BB11.out (Nat.le_refl _) hb)
  have hbs := BB12.out.size
  obtain ⟨v13, w13, hrun, hO, hb'⟩ := Wc.append_run (P := Tryz.prog) (ty := 48) (ys := Wc.enc 4 r.kind) Tryz.underlying48 hi hz0 hz1 hz2 (O11.out.keep hb) hu (.inr ⟨_, _, _, rfl⟩) (by simp [Wr.name, Wc.enc_length]) hbs
  have A13 := Wc.hid (A12.out.below hb' HLT.out)
  have O13 := Wc.hid hO
  have BB13 := Wc.hid (BB12.out.trans hb')
  have B13 := Wc.hid (B12.out.trans (hb'.mono (by have := HLT.out; omega)))
  clear hu hb hO hb' hbs
  obtain ⟨g13, c13, rfl⟩ := Wc.ob_form O13.out (by simp [Wr.name, Wc.enc_length])
  have el : ((((((Wr.name ++ Wc.enc 4 r.next) ++ Wc.enc 8 r.id) ++ Wc.enc 8 r.parent) ++ Wc.enc 4 r.root) ++ Wc.enc 4 r.size) ++ Wc.enc 4 r.kind).length = 36 := by simp [Wr.name, Wc.enc_length]
  rw [el] at hrun O13
  clear el
  have ⟨a0, a1, a2, a3, a4, a5, a6, a7⟩ := A13.out.rc
  go_wp2_with (at_builtin; refine Wc.wp_append hrun rfl rfl rfl rfl ?_)
  clear hrun a0 a1 a2 a3 a4 a5 a6 a7
  refine (refBytes_any 4 r.frames _ (by omega) (HS.out.2.2.2.2.2.2.1).1 (by have := HS.out.2.2.2.2.2.2.1; omega)).mono ?_
  rintro e w14 ⟨u14, rfl, hu, hb⟩
  obtain ⟨qq14, oo14, kk14, rfl⟩ := Wc.bs_shape hu (by rw [Wc.enc_length]; omega)
  have A14 := Wc.hid (A13.out.keep hb)
  have B14 := Wc.hid (Wc.step B13.out (Nat.le_refl _) hb)
  have BB14 := Wc.hid (Wc.step BB13.out (Nat.le_refl _) hb)
  have hbs := BB14.out.size
  obtain ⟨v15, w15, hrun, hO, hb'⟩ := Wc.append_run (P := Tryz.prog) (ty := 48) (ys := Wc.enc 4 r.frames) Tryz.underlying48 hi hz0 hz1 hz2 (O13.out.keep hb) hu (.inr ⟨_, _, _, rfl⟩) (by simp [Wr.name, Wc.enc_length]) hbs
  have A15 := Wc.hid (A14.out.below hb' HLT.out)
  have O15 := Wc.hid hO
  have BB15 := Wc.hid (BB14.out.trans hb')
  have B15 := Wc.hid (B14.out.trans (hb'.mono (by have := HLT.out; omega)))
  clear hu hb hO hb' hbs
  obtain ⟨g15, c15, rfl⟩ := Wc.ob_form O15.out (by simp [Wr.name, Wc.enc_length])
  have el : (((((((Wr.name ++ Wc.enc 4 r.next) ++ Wc.enc 8 r.id) ++ Wc.enc 8 r.parent) ++ Wc.enc 4 r.root) ++ Wc.enc 4 r.size) ++ Wc.enc 4 r.kind) ++ Wc.enc 4 r.frames).length = 40 := by simp [Wr.name, Wc.enc_length]
  rw [el] at hrun O15
  clear el
  have ⟨a0, a1, a2, a3, a4, a5, a6, a7⟩ := A15.out.rc
  go_wp2_with (at_builtin; refine Wc.wp_append hrun rfl rfl rfl rfl ?_)
  clear hrun a0 a1 a2 a3 a4 a5 a6 a7
  refine (refBytes_any 4 r.digest _ (by omega) (HS.out.2.2.2.2.2.2.2).1 (by have := HS.out.2.2.2.2.2.2.2; omega)).mono ?_
  rintro e w16 ⟨u16, rfl, hu, hb⟩
  obtain ⟨qq16, oo16, kk16, rfl⟩ := Wc.bs_shape hu (by rw [Wc.enc_length]; omega)
  have A16 := Wc.hid (A15.out.keep hb)
  have B16 := Wc.hid (Wc.step B15.out (Nat.le_refl _) hb)
  have BB16 := Wc.hid (Wc.step BB15.out (Nat.le_refl _) hb)
  have hbs := BB16.out.size
  obtain ⟨v17, w17, hrun, hO, hb'⟩ := Wc.append_run (P := Tryz.prog) (ty := 48) (ys := Wc.enc 4 r.digest) Tryz.underlying48 hi hz0 hz1 hz2 (O15.out.keep hb) hu (.inr ⟨_, _, _, rfl⟩) (by simp [Wr.name, Wc.enc_length]) hbs
  have A17 := Wc.hid (A16.out.below hb' HLT.out)
  have O17 := Wc.hid hO
  have BB17 := Wc.hid (BB16.out.trans hb')
  have B17 := Wc.hid (B16.out.trans (hb'.mono (by have := HLT.out; omega)))
  clear hu hb hO hb' hbs
  obtain ⟨g17, c17, rfl⟩ := Wc.ob_form O17.out (by simp [Wr.name, Wc.enc_length])
  have el : ((((((((Wr.name ++ Wc.enc 4 r.next) ++ Wc.enc 8 r.id) ++ Wc.enc 8 r.parent) ++ Wc.enc 4 r.root) ++ Wc.enc 4 r.size) ++ Wc.enc 4 r.kind) ++ Wc.enc 4 r.frames) ++ Wc.enc 4 r.digest).length = 44 := by simp [Wr.name, Wc.enc_length]
  rw [el] at hrun O17
  clear el
  go_wp2_with (at_builtin; refine Wc.wp_append hrun rfl rfl rfl rfl ?_)
  clear hrun
  refine (seal_any w2.heap.size _ ((((((((Wr.name ++ Wc.enc 4 r.next) ++ Wc.enc 8 r.id) ++ Wc.enc 8 r.parent) ++ Wc.enc 4 r.root) ++ Wc.enc 4 r.size) ++ Wc.enc 4 r.kind) ++ Wc.enc 4 r.frames) ++ Wc.enc 4 r.digest) _ O17.out (by simp [Wr.name, Wc.enc_length]) (by simp [Wr.name, Wc.enc_length]) BB17.out.size).mono ?_
  rintro e wz ⟨vz, rfl, hz, hbz⟩
  have HZ := Wc.hid hz
  have BZ := Wc.hid (B17.out.trans (hbz.mono (by have := HLT.out; omega)))
  clear hz hbz
  go_wp2_with fail
  go_ret
  refine ⟨vz, rfl, ?_, BZ.out⟩
  have hh : ((((((((Wr.name ++ Wc.enc 4 r.next) ++ Wc.enc 8 r.id) ++ Wc.enc 8 r.parent) ++ Wc.enc 4 r.root) ++ Wc.enc 4 r.size) ++ Wc.enc 4 r.kind) ++ Wc.enc 4 r.frames) ++ Wc.enc 4 r.digest) ++ List.replicate (60 - ((((((((Wr.name ++ Wc.enc 4 r.next) ++ Wc.enc 8 r.id) ++ Wc.enc 8 r.parent) ++ Wc.enc 4 r.root) ++ Wc.enc 4 r.size) ++ Wc.enc 4 r.kind) ++ Wc.enc 4 r.frames) ++ Wc.enc 4 r.digest).length) 0 = Wr.head r := by
    rw [show ((((((((Wr.name ++ Wc.enc 4 r.next) ++ Wc.enc 8 r.id) ++ Wc.enc 8 r.parent) ++ Wc.enc 4 r.root) ++ Wc.enc 4 r.size) ++ Wc.enc 4 r.kind) ++ Wc.enc 4 r.frames) ++ Wc.enc 4 r.digest).length = 44 from by simp [Wr.name, Wc.enc_length]]
    unfold Wr.head
    simp only [List.append_assoc]
  have := HZ.out
  rw [hh] at this
  exact this

end Go.Proofs.YtfflhiajbioheaaGreat
