/-
  DevBlocks for every input.
-/
import Derived.Test.YtjacpmbdmbahhaaDmay
import Derived.Test.YtjacpmbdmbahhaaDhv
import Derived.Test.YtjacpmbdmbahhaaDwake
namespace Go.Proofs.Ytjacpmbdmbahhaa
open Go.RowKit

theorem Try.info22 : (Try.prog.info? 22).map (fun i => (i.zero, i.size, i.bytes)) = some (some (.slice none 0 0), 1, 24) := by kernel_rfl

/-- A remainder of an unsigned number, as an int. -/
theorem lowI (m i : Int) (h0 : 0 < m) (h : m ≤ 4294967296) : ∃ A : Nat, (A : Int) < m ∧ wrap64 ((IntKind.u64.wrap i).tmod m) = (A : Int) ∧ IntKind.i64.wrap ((IntKind.u64.wrap i).tmod m) = (A : Int) := by
  obtain ⟨A, hA, e⟩ := Wc.low m i h0 h
  refine ⟨A.toNat, by omega, by omega, ?_⟩
  rw [IntKind.wrap_i64]
  unfold wrap64 at e
  omega

set_option maxRecDepth 100000 in
set_option maxHeartbeats 1600000 in
theorem devBlocks_ok (ai : Option Addr) (ni ci : Nat) (a : Option Addr) (n cap : Nat) (y : Int) (ka : Option Addr) (kn kc : Nat) (z : Int) (xs : List Int) (l : List Wd.Io) (ks : List Bool) (w : World) (hB : Wc.Bs w (.slice ai ni ci) xs) (hR : Wd.Raw w a n cap l) (hK : Kp w (.slice ka kn kc) ks) (hkn : kn ≤ 500) (hh : Wd.heavyB ni l = false) (hz : Wd.stepsE ni l = 0) :
    Calls Try.prog 5 #[.slice ai ni ci, .slice a n cap, .int .i64 y, .slice ka kn kc, .int .i64 z] w fun e w' => e = .returned (.bool true) ∧ Below w.heap.size w w' := by
  have hI := hR.light hh
  have hni : ni ≤ 140737488355328 := by obtain ⟨_, _, _, h1, _, _, _, h5, _⟩ := hB; cases h1; exact h5
  have hxl := Wc.bs_len hB
  have hst := Wd.stepsE_zero hz
  have hd := Wd.devB_iff.1 hst.1
  have hn4 : n ≤ 400 := by have h1 := (Wd.heavy_no hh).2.1; have h2 := hR.1; omega
  obtain ⟨m, hm⟩ : ∃ m : Nat, ni / 64 = m := ⟨_, rfl⟩
  have hm2 : 4 ≤ m ∧ m ≤ 4096 := by omega
  have HR := Wc.hid hR
  have HB := Wc.hid hB
  have HI := Wc.hid hI
  have HK := Wc.hid hK
  have hdv := hst.1
  obtain ⟨q, hq, hA1, hA2⟩ := lowI (m : Int) z (by omega) (by omega)
  obtain ⟨cut, hcut, hC1, hC2⟩ := lowI ((n : Int) + 1) y (by omega) (by omega)
  have hok := hst.2.2
  rw [hm] at hok
  have hxm : xs.length = m * 64 := by omega
  have hll := Wd.is_len hI
  obtain ⟨X, hX⟩ : ∃ X, Wd.crashL xs l cut ks = X := ⟨_, rfl⟩
  have hcm := Wd.crash_may (by omega : 0 < m) q cut hxm hok (by omega : cut ≤ l.length) (ks := ks)
  rw [hX] at hcm
  have eE : Wd.crE xs.length l cut = 0 := by unfold Wd.crE; rw [hxl, if_pos hz, hll, if_pos (by omega)]
  have eA : Wd.crR xs l cut ks = X := by unfold Wd.crR; rw [if_pos eE, ← hX]; rfl
  have eAl : X.length = ni := by rw [hcm.1]; omega
  have hrd := Wd.rdR_blk (xs := X) (q := q) (by rw [eAl]; exact hdv) (by rw [eAl, hm]; omega)
  have hbl : (Wd.blk X q).length = 64 := by unfold Wd.blk; simp; omega
  have g500 : decide ((500 : Int) < (kn : Int)) = false := by simp; omega
  obtain ⟨a', n', cap', h1, hl, -, -, -, hpos⟩ := hI
  cases h1
  have HP := Wc.hid hpos
  have HL := Wc.hid hl
  have HOK := Wc.hid hok
  have HRD := Wc.hid hrd
  have HEA := Wc.hid eA
  have HEL := Wc.hid eAl
  have HES := Wc.hid eE
  have HBL := Wc.hid hbl
  have HCM := Wc.hid hcm.2
  have hqq : q * 64 + 64 ≤ ni := by omega
  have hcutn : cut ≤ n := by omega
  clear hR hB hst hxl hd hpos hl hok hxm hX eA eAl eE hrd hbl hK hcm hcut hq hll
  go_enter Try.func5, Try.ntmps5
  go_wp2_with (first | (go_at_call 8; refine (heavy_raw _ _ _ _ _ _ l _ HR.out).mono ?_; rintro e w' ⟨rfl, rfl⟩; rw [hh]) | (go_at_call 17; refine (refSteps_any _ _ _ _ _ _ l _ hni HI.out).mono ?_; rintro e w' ⟨rfl, rfl⟩; rw [hz]) | (go_at_call 16; refine (blocks_any _ _ _ _ hni).mono ?_; rintro e w' ⟨rfl, rfl⟩; rw [hm, hdv]))
  clear hh hz hm hdv g500
  go_quiet (fail)
  have hbw : Below w.heap.size w (w.drewN nq) := below_drewN (Below.refl _ _) nq
  generalize w.drewN nq = W0 at hbw ⊢
  clear hA1 hA2 hC1 hC2
  have HBW := Wc.hid hbw
  clear hbw
  go_wp2_with fail
  refine (crash_any _ _ _ _ _ _ cut _ _ _ xs l ks _ (HB.out.keep HBW.out) (HI.out.keep HBW.out) (HK.out.keep HBW.out)).mono ?_
  rintro e w1 ⟨ax, cx, rfl, hx, hb1⟩
  rw [HEA.out, HEL.out] at hx
  rw [HEA.out, HEL.out, HES.out]
  have HX := Wc.hid hx
  have HB1 := Wc.hid (Wc.step HBW.out (Nat.le_refl _) hb1)
  clear hx hb1
  go_wp2_with fail
  refine (read_any _ _ _ q X _ HX.out).mono ?_
  rintro e W2 ⟨az, cz, rfl, hz, hb2⟩
  rw [HRD.out.2, HBL.out] at hz
  rw [HRD.out.2, HBL.out, HRD.out.1]
  have HZ := Wc.hid hz
  have HB2 := Wc.hid (Wc.step HB1.out (Nat.le_refl _) hb2)
  clear hz hb2
  go_wp2_with fail
  refine (block_any _ _ _ q xs _ (HB.out.keep HB2.out) hqq).mono ?_
  rintro e w3 ⟨aw, cw, rfl, hw, rfl⟩
  have HW := Wc.hid hw
  clear hw HBW HB1 HX HK HB HR HRD HEA HEL HES HI
  go_wp2_with fail
  go_loopw [17, 18, 19] (fun s v i wr => ∃ (k : Nat) (M : List Wd.Bl), i = .int .i64 k ∧ k ≤ cut ∧ Below W2.heap.size W2 wr ∧ (∃ sa sc, s = .slice sa 64 sc ∧ Hid (Wc.Bs W2 (.slice sa 64 sc) (Wd.smay xs l q k).1)) ∧ (∃ va vc, v = .slice va M.length vc) ∧ Hid (Wv.Ov Wd.slv 22 W2.heap.size wr v M) ∧ Hid (M.map Prod.fst = (Wd.smay xs l q k).2 ∧ M.length ≤ k ∧ ∀ e ∈ M, Wc.Bs W2 (Wd.slv e) e.1)) (fun _ _ i _ => cut - (intOf i).toNat)
  case atStart => exact ⟨0, [], rfl, by omega, Below.refl _ _, ⟨_, _, rfl, HW⟩, ⟨_, _, rfl⟩, Wv.Ov.nil _ _ _, Wc.hid ⟨rfl, by simp, by simp⟩⟩
  case round =>
    obtain ⟨k, M, rfl, hk, hbr, ⟨sa, sc, rfl, HS⟩, ⟨va, vc, rfl⟩, HO, HMM⟩ := hrel
    by_cases hlt : k < cut
    · obtain ⟨b, off, rfl, hblt, hcs⟩ := HP.out (by omega)
      obtain ⟨a', c', hx⟩ := hcs k (by omega)
      have hxok := Wd.all_at HOK.out k (by rw [HL.out]; omega)
      have hsm : Wd.smay xs l q (k + 1) = Wd.stp q (Wd.smay xs l q k) (l.getD k Wd.d0) := rfl
      obtain ⟨x, hxe⟩ : ∃ x, l.getD k Wd.d0 = x := ⟨_, rfl⟩
      rw [hxe] at hx hxok hsm
      have hx2 := hx.keep HB2.out
      obtain ⟨-, -, -, d3, -⟩ := hx2
      obtain ⟨c0, c1, c2, -, -⟩ := (hx.keep HB2.out).keep hbr
      have hkn' : k < n := by omega
      clear hcs hx hxe
      by_cases hk2 : x.kind = 2
      · rw [hk2] at c0
        cases hM : M.length with
        | zero =>
          obtain rfl := List.eq_nil_of_length_eq_zero hM
          have he : (Wd.smay xs l q k).2 = [] := HMM.out.1.symm
          have hst : Wd.smay xs l q (k + 1) = Wd.smay xs l q k := by rw [hsm]; unfold Wd.stp; rw [if_pos hk2, if_pos he]
          have HST := Wc.hid hst
          clear hsm hst hk2 hxok d3 he hM
          go_wp2
          go_roundw
          case rel => exact ⟨k + 1, [], by go_num, by omega, hbr, ⟨_, _, rfl, by rw [HST.out]; exact HS⟩, ⟨_, _, rfl⟩, HO, by rw [HST.out]; exact Wc.hid ⟨HMM.out.1, by simp, by simp⟩⟩
          case measure => simp only [intOf]; omega
        | succ t =>
          have he : ¬ (Wd.smay xs l q k).2 = [] := fun e => by have h1 := HMM.out.1; rw [e] at h1; have := congrArg List.length h1; simp at this; simp [this] at hM
          have hst : Wd.smay xs l q (k + 1) = ((Wd.smay xs l q k).2.getLastD [], []) := by rw [hsm]; unfold Wd.stp; rw [if_pos hk2, if_neg he]
          rcases Wd.ov_slice HO.out with ⟨h0, _⟩ | ⟨g, gc, hgs⟩
          · rw [h0] at hM; simp at hM
          · rw [hgs] at HO
            cases hgs
            have hrv := Wv.rv_cells (d := Wd.b0) HO.out.rv (by omega)
            have cM := hrv.2 t (by omega)
            have htM : t < M.length := by omega
            have eM : M.getD t Wd.b0 = M[t] := by simp [htM]
            have hlast : (Wd.smay xs l q k).2.getLastD [] = M[t].1 := by
              rw [← HMM.out.1]
              exact Wd.last_map M t hM htM
            have hBe := HMM.out.2.2 M[t] (List.getElem_mem htM)
            rw [eM] at cM
            obtain ⟨e, hee⟩ : ∃ e, M[t] = e := ⟨_, rfl⟩
            rw [hee] at cM hlast hBe
            have HST := Wc.hid hst
            have HLS := Wc.hid hlast
            have HBE := Wc.hid hBe
            have ht3 : t < 400 := by have := HMM.out.2.1; omega
            have htk : t + 1 ≤ k := by have := HMM.out.2.1; omega
            unfold Wd.slv at cM
            obtain ⟨ed, ea, ec⟩ := e
            dsimp only at cM
            rw [Nat.zero_add] at cM
            clear hsm hst hk2 hxok d3 he hlast hBe hrv htM eM hee HMM HO
            generalize M.length = ML at hM ⊢
            subst hM
            go_wp2
            go_roundw
            case rel => exact ⟨k + 1, [], by go_num, by omega, hbr, ⟨_, _, rfl, by rw [HST.out]; exact Wc.hid (by rw [HLS.out]; exact HBE.out)⟩, ⟨_, _, rfl⟩, Wv.Ov.nil _ _ _, by rw [HST.out]; exact Wc.hid ⟨rfl, by simp, by simp⟩⟩
            case measure => simp only [intOf]; omega
      · have hk1 := Wd.ok_write hxok hk2
        have hkb : (x.kind == 2) = false := by simpa using hk2
        have hdl : x.data.length = 64 := by
          rcases Wd.rightB_iff.1 hxok with ⟨_, _, _, h⟩ | ⟨h, _⟩
          · exact h
          · omega
        rw [hdl] at c2 d3
        by_cases hp : x.pos = (q : Int)
        · have hst : Wd.smay xs l q (k + 1) = ((Wd.smay xs l q k).1, (Wd.smay xs l q k).2 ++ [x.data]) := by rw [hsm]; unfold Wd.stp; rw [if_neg hk2, if_pos hp]
          rw [hp] at c1
          have HST := Wc.hid hst
          have D3 := Wc.hid d3
          obtain ⟨i0, hi, hz0, hz1, hz2⟩ := info_parts Try.info22
          have hbA : Below wr.heap.size wr (wr.alloc (.cells #[.slice a' 64 c'] 22)) := (Below.refl _ _).alloc (Nat.le_refl _) _
          obtain ⟨v', w', hrun, hO', hb'⟩ := Wd.append_wide (P := Try.prog) (ty := 52) (d := Wd.b0) (ys := [(x.data, (a', c'))]) Try.underlying52 hi hz0 hz1 hz2 rfl (by omega) (fun _ => rfl) (HO.out.keep hbA) (Wv.Rv.lit wr #[.slice a' 64 c'] 22 1 [(x.data, (a', c'))] rfl (by omega) rfl) (.inr ⟨_, _, _, rfl⟩) (by have := HMM.out.2.1; simp; omega) (by have := hbr.size; simp; omega)
          have HO' := Wc.hid hO'
          have HB' := Wc.hid ((hbr.trans (hbA.mono hbr.size)).trans hb')
          have hsl : ∃ va2 vc2, v' = .slice va2 (M ++ [(x.data, (a', c'))]).length vc2 := by
            rcases Wd.ov_slice hO' with ⟨h0, _⟩ | ⟨g, c, rfl⟩
            · simp at h0
            · exact ⟨_, _, rfl⟩
          obtain ⟨va2, vc2, rfl⟩ := hsl
          have hml : M.length ≤ 400 := by have := HMM.out.2.1; omega
          have HSL := Wc.hid (show (M ++ [(x.data, (a', c'))]).length = M.length + 1 by simp)
          rw [HSL.out] at hrun HO'
          clear hsm hst hk2 hxok d3 hp hdl hk1 hz0 hz1 hz2 hi hO' hb' hbA
          generalize M.length = ML at hrun HO' hml HSL ⊢
          go_wp2_with (at_builtin; refine Wv.wp_append hrun rfl rfl rfl rfl ?_)
          go_roundw
          case rel =>
            refine ⟨k + 1, M ++ [(x.data, (a', c'))], by go_num, by omega, HB'.out, ⟨_, _, rfl, by rw [HST.out]; exact HS⟩, ⟨va2, vc2, by rw [HSL.out]⟩, HO', Wc.hid ⟨?_, ?_, ?_⟩⟩
            · rw [HST.out, List.map_append, HMM.out.1]; rfl
            · have := HMM.out.2.1; simp; omega
            · intro e he
              rcases List.mem_append.1 he with he | he
              · exact HMM.out.2.2 e he
              · simp at he; subst he; exact D3.out
          case measure => simp only [intOf]; omega
        · have hst : Wd.smay xs l q (k + 1) = Wd.smay xs l q k := by rw [hsm]; unfold Wd.stp; rw [if_neg hk2, if_neg hp]
          have hpb : (x.pos == (q : Int)) = false := by simpa using hp
          have HST := Wc.hid hst
          have hml : M.length ≤ 400 := by have := HMM.out.2.1; omega
          clear hsm hst hk2 hxok d3 hp hdl hk1
          go_wp2
          go_roundw
          case rel => exact ⟨k + 1, M, by go_num, by omega, hbr, ⟨_, _, rfl, by rw [HST.out]; exact HS⟩, ⟨_, _, rfl⟩, HO, by rw [HST.out]; exact Wc.hid ⟨HMM.out.1, by have := HMM.out.2.1; omega, HMM.out.2.2⟩⟩
          case measure => simp only [intOf]; omega
    · obtain rfl : k = cut := by omega
      go_wp2_with fail
      refine (bytes_any _ _ _ _ _ (HZ.out.keep hbr) (HS.out.keep hbr)).mono ?_
      rintro e w4 ⟨rfl, hb4⟩
      have HB4 := Wc.hid (hbr.trans (hb4.mono hbr.size))
      have HO4 := Wc.hid (HO.out.keep hb4)
      cases hbs : (Wd.blk X q == (Wd.smay xs l q k).1)
      · have hne : ¬ Wd.blk X q = (Wd.smay xs l q k).1 := by simpa using hbs
        have hin : Wd.blk X q ∈ (Wd.smay xs l q k).2 := by
          rcases List.mem_cons.1 HCM.out with h | h
          · exact absurd h hne
          · exact h
        rw [← HMM.out.1] at hin
        have HIN := Wc.hid hin
        have HME := Wc.hid HMM.out.2.2
        have hml : M.length ≤ 400 := by have := HMM.out.2.1; omega
        clear hbs hne hin hb4 hbr HO HMM
        go_wp2_with fail
        go_loopw [20] (fun i wr => ∃ j : Nat, i = .int .i64 j ∧ j ≤ M.length ∧ Below W2.heap.size W2 wr ∧ Hid (Wv.Ov Wd.slv 22 W2.heap.size wr (.slice va M.length vc) M) ∧ Hid (∀ t, t < j → ¬ (M.getD t Wd.b0).1 = Wd.blk X q)) (fun i _ => M.length - (intOf i).toNat)
        case atStart => exact ⟨0, rfl, by omega, HB4.out, HO4, fun t h => by omega⟩
        case round =>
          obtain ⟨j, rfl, hj, hbr5, HO5, HNE⟩ := hrel
          by_cases hjl : j < M.length
          · rcases Wd.ov_slice HO5.out with ⟨h0, _⟩ | ⟨g, gc, hgs⟩
            · rw [h0] at hjl; simp at hjl
            · rw [hgs] at HO5
              cases hgs
              have cM := (Wv.rv_cells (d := Wd.b0) HO5.out.rv (by omega)).2 j hjl
              have eM : M.getD j Wd.b0 = M[j] := by simp [hjl]
              have hBe := HME.out M[j] (List.getElem_mem hjl)
              rw [eM] at cM
              have HNJ := Wc.hid eM
              obtain ⟨e, hee⟩ : ∃ e, M[j] = e := ⟨_, rfl⟩
              rw [hee] at cM hBe HNJ
              have HBE := Wc.hid (hBe.keep hbr5)
              unfold Wd.slv at cM HBE
              obtain ⟨ed, ea, ec⟩ := e
              dsimp only at cM HBE
              rw [Nat.zero_add] at cM
              clear eM hBe hee
              obtain ⟨ML, hML⟩ : ∃ ML, M.length = ML := ⟨_, rfl⟩
              rw [hML] at hjl hml ⊢
              have HML := Wc.hid hML
              clear hML hj
              go_wp2_with fail
              refine (bytes_any _ _ _ _ _ (HZ.out.keep hbr5) HBE.out).mono ?_
              rintro e w6 ⟨rfl, hb6⟩
              cases hbs : (Wd.blk X q == ed)
              · have hne : ¬ Wd.blk X q = ed := by simpa using hbs
                have HN := Wc.hid hne
                clear hbs hne cM
                go_wp2_with fail
                go_roundw
                case rel =>
                  refine ⟨j + 1, by go_num, by have := HML.out; omega, hbr5.trans (hb6.mono hbr5.size), Wc.hid (by rw [← HML.out]; exact HO5.out.keep hb6), fun t ht => ?_⟩
                  by_cases htj : t = j
                  · subst htj; rw [HNJ.out]; exact fun h => HN.out h.symm
                  · exact HNE.out t (by omega)
                case measure => simp only [intOf]; omega
              · clear hbs cM
                go_wp2_with fail
                refine (wakes_any _).mono ?_
                rintro e w5 ⟨rfl, hb5⟩
                go_wp2_with fail
                go_ret
                exact ⟨rfl, Wc.step (Wc.step (Wc.step HB2.out (Nat.le_refl _) hbr5) (Nat.le_refl _) hb6) (Nat.le_refl _) hb5⟩
          · exfalso
            obtain ⟨e, he, hee⟩ := List.mem_map.1 HIN.out
            obtain ⟨t, ht, rfl⟩ := List.mem_iff_getElem.1 he
            refine HNE.out t (by omega) ?_
            have : M.getD t Wd.b0 = M[t] := by simp [ht]
            rw [this]; exact hee
      · clear hbs
        go_wp2_with fail
        refine (wakes_any _).mono ?_
        rintro e w5 ⟨rfl, hb5⟩
        go_wp2_with fail
        go_ret
        exact ⟨rfl, Wc.step (Wc.step (Wc.step HB2.out (Nat.le_refl _) hbr) (Nat.le_refl _) hb4) (Nat.le_refl _) hb5⟩

set_option maxRecDepth 100000 in
set_option maxHeartbeats 1600000 in
/-- DevBlocks is true of whatever comes in. -/
theorem devBlocks_any (ai : Option Addr) (ni ci : Nat) (a : Option Addr) (n cap : Nat) (y : Int) (ka : Option Addr) (kn kc : Nat) (z : Int) (xs : List Int) (l : List Wd.Io) (ks : List Bool) (w : World) (hB : Wd.RawB w ai ni ci xs) (hR : Wd.Raw w a n cap l) (hK : Wv.IsRowV Value.bool false w ka kn kc ks) :
    Calls Try.prog 5 #[.slice ai ni ci, .slice a n cap, .int .i64 y, .slice ka kn kc, .int .i64 z] w fun e w' => e = .returned (.bool true) ∧ Below w.heap.size w w' := by
  cases hh : Wd.heavyB ni l
  · have hni := (Wd.heavy_no hh).1
    by_cases hkn : kn ≤ 500
    · by_cases hz : Wd.stepsE ni l = 0
      · exact devBlocks_ok ai ni ci a n cap y ka kn kc z xs l ks w (hB.bs (by omega)) hR (Wv.Rv.of_row (by omega) hK) hkn hh hz
      · obtain ⟨E, hE⟩ : ∃ E, Wd.stepsE ni l = E := ⟨_, rfl⟩
        have HI := Wc.hid (hR.light hh)
        have HR := Wc.hid hR
        have g500 : decide ((500 : Int) < (kn : Int)) = false := by simp; omega
        rw [hE] at hz
        have hz' : (E != 0) = true := by simpa using hz
        clear hB hR hz hK
        go_enter Try.func5, Try.ntmps5
        go_wp2_with (first | (go_at_call 8; refine (heavy_raw _ _ _ _ _ _ l _ HR.out).mono ?_; rintro e w' ⟨rfl, rfl⟩; rw [hh]) | (go_at_call 17; refine (refSteps_any _ _ _ _ _ _ l _ (by omega) HI.out).mono ?_; rintro e w' ⟨rfl, rfl⟩; rw [hE]))
        go_ret
        exact ⟨rfl, Below.refl _ _⟩
    · have HR := Wc.hid hR
      have g500 : decide ((500 : Int) < (kn : Int)) = true := by simp; omega
      clear hB hR hK
      go_enter Try.func5, Try.ntmps5
      go_wp2_with (first | (go_at_call 8; refine (heavy_raw _ _ _ _ _ _ l _ HR.out).mono ?_; rintro e w' ⟨rfl, rfl⟩; rw [hh]))
      go_ret
      exact ⟨rfl, Below.refl _ _⟩
  · have HR := Wc.hid hR
    clear hB hR hK
    go_enter Try.func5, Try.ntmps5
    go_wp2_with (first | (go_at_call 8; refine (heavy_raw _ _ _ _ _ _ l _ HR.out).mono ?_; rintro e w' ⟨rfl, rfl⟩; rw [hh]))
    go_ret
    exact ⟨rfl, Below.refl _ _⟩

end Go.Proofs.Ytjacpmbdmbahhaa
