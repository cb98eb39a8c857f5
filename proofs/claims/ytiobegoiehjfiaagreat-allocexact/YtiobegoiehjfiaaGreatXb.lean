/-
  What the page's Records returns, for every right device and every first block.
-/
import Derived.Test.YtiobegoiehjfiaaGreatXa
namespace Go.Proofs.YtiobegoiehjfiaaGreat
open Go.RowKit

/-- What the page's Records tells. -/
def RRecPost (xs : List Int) (first : Int) (w : World) : Ending → World → Prop := fun e w' =>
  ∃ a n c a' n' c' bad, e = .returned (.tuple #[.slice a n c, .slice a' n' c', .int .i64 bad, .bool (Wi.recs xs first).isSome]) ∧ Wi.Rs w' (.slice a n c) (Wi.recL xs first) ∧ Wd.In w' (.slice a' n' c') (Wi.recP xs first) ∧ Below w.heap.size w w' ∧ Tk 63 w' (.slice a n c) ∧ Tk 3 w' (.slice a' n' c')
theorem rrec_nil {xs : List Int} {first : Int} {w w' : World} {bad : Int} (hd : Wd.devB xs.length = true) (h : Wi.recs xs first = none) (hb : Below w.heap.size w w') :
    RRecPost xs first w (.returned (.tuple #[.slice none 0 0, .slice none 0 0, .int .i64 bad, .bool false])) w' := by
  have h3 := Wi.rec_none hd h
  refine ⟨_, _, _, _, _, _, bad, by rw [h]; rfl, ?_, ?_, hb, Tk.nil _ _ _ _, Tk.nil _ _ _ _⟩
  · rw [h3.2.2]; exact Wi.Rs.nil _
  · rw [h3.2.1]; exact Wv.Rv.nil _

theorem results_tmp4 {fn : Func} {t u v x : Tmp} (h : fn.results = #[.tmp t, .tmp u, .tmp v, .tmp x]) (tmps : Array Value) (P : Program) (w : World) :
    (results fn tmps).run P w = .ok (.tuple #[tmps.getD t undef, tmps.getD u undef, tmps.getD v undef, tmps.getD x undef]) w := by
  simp [results, h]
set_option maxRecDepth 100000 in
set_option maxHeartbeats 12800000 in
theorem refRecs_any (v : Value) (xs : List Int) (first : Int) (w : World) (hv : Wc.Bs w v xs) (hd : Wd.devB xs.length = true) :
    Calls Tryz.prog 23 #[v, .int .i64 first] w (RRecPost xs first w) := by
  obtain ⟨ai, ni, ci, rfl, -⟩ := id hv
  have hxl := Wc.bs_len hv
  have hdv := Wd.devB_iff.1 hd
  have hni : ni ≤ 140737488355328 := by omega
  obtain ⟨m, hm⟩ : ∃ m : Nat, ni / 64 = m := ⟨_, rfl⟩
  have hd0 : Wd.devB ni = true := by rw [← hxl]; exact hd
  have HV := Wc.hid hv
  have HD := Wc.hid hd
  have HD0 := Wc.hid hd0
  have HXL := Wc.hid hxl
  have HM := Wc.hid hm
  have HMX : Hid (xs.length / 64 = m) := Wc.hid (by rw [hxl]; exact hm)
  have hm4 : 4 ≤ m := by omega
  have hm5 : m ≤ 4096 := by omega
  clear hv hd hxl hdv hd0 hm
  go_enter Tryz.func23, Tryz.ntmps23
  go_wp2_with fail
  refine (blocks_any ai ni ci _ hni).mono ?_
  rintro e w0 ⟨rfl, rfl⟩
  rw [HM.out, HD0.out]
  go_wp2_with fail
  go_loopw [4, 5, 10, 11] (fun v u z i wr => ∃ (p : Int) (b : List Int) (a : Option Addr) (n c : Nat) (a' : Option Addr) (n' c' : Nat) (q : Nat), i = .int .i64 p ∧ v = .slice a n c ∧ u = .slice a' n' c' ∧ z = .int .i64 (q : Int) ∧ q ≤ 60 ∧ Hid (Wi.whN (b.map (Wi.recAt xs)) = q) ∧ Hid (Below w.heap.size w wr) ∧ Hid (Wi.Or 63 w.heap.size wr (.slice a n c) (b.map (Wi.recAt xs))) ∧ Hid (Wv.Ov (Value.int .i64) 3 w.heap.size wr (.slice a' n' c') b) ∧ Hid (Wi.Iv xs b) ∧ Hid (Wi.chn xs (62 - b.length) p b = Wi.recs xs first)) (fun v _ _ _ _ => 62 - Wc.slLen v)
  case atStart => exact ⟨first, [], none, 0, 0, none, 0, 0, 0, rfl, rfl, rfl, rfl, by omega, Wc.hid rfl, Wc.hid (Below.refl _ _), Wc.hid (Wi.Or.nil _ _ _), Wc.hid (Wv.Ov.nil _ _ _), Wc.hid (Wi.Iv.nil xs), Wc.hid rfl⟩
  case round =>
    obtain ⟨p, b, a, n, c, a', n', c', q, rfl, rfl, rfl, rfl, hq, RQ, RB, RO, RP, RI, RC⟩ := hrel
    by_cases hp : p = 0
    · subst hp
      go_wp2_with fail
      refine bodyPost_ret (results_tmp4 rfl _ _ _) rfl ?_
      have h1 := RC.out
      rw [Wi.chn_zero] at h1
      have h2 := Wi.rec_some HD.out h1.symm
      refine ⟨_, _, _, _, _, _, 0, by rw [← h1]; rfl, ?_, ?_, RB.out, Tk.or RO.out, Tk.ov RP.out⟩
      · rw [h2.2.2]; exact RO.out.rs
      · rw [h2.2.1]; exact RP.out.rv
    · have hpb : (p != 0) = true := by simpa using hp
      have HPn := Wc.hid hp
      clear hp
      go_wp2_with fail
      refine (in39_any _ _ _ _).mono ?_
      rintro e w0 ⟨rfl, rfl⟩
      obtain ⟨t, ht⟩ : ∃ t, (decide (2 ≤ p) && decide (p ≤ (m : Int) - 1)) = t := ⟨_, rfl⟩
      rw [ht]
      have HT := Wc.hid ht
      clear ht
      cases t
      · go_wp2_with fail
        refine bodyPost_ret (results_tmp4 rfl _ _ _) rfl ?_
        refine rrec_nil HD.out ?_ RB.out
        rw [← RC.out]
        refine Wi.chn_no HPn.out (.inl ?_)
        cases h : Wi.recOk xs p with
        | false => rfl
        | true =>
          have h1 := Wi.bd_in h
          rw [HMX.out] at h1
          have h2 := HT.out
          rw [decide_eq_true h1.1, decide_eq_true h1.2] at h2
          cases h2
      · have ht : 2 ≤ p ∧ p ≤ (m : Int) - 1 := by have := HT.out; simpa using this
        obtain ⟨pn, rfl⟩ : ∃ pn : Nat, p = pn := ⟨p.toNat, by omega⟩
        have hpm : pn < m := by omega
        have hsp : pn * 64 + 64 ≤ ni := by have := HM.out; omega
        clear ht
        go_wp2_with fail
        refine (has40_any _ b (pn : Int) _ RP.out.rv).mono ?_
        rintro e w1 ⟨rfl, hb1⟩
        obtain ⟨h, hh⟩ : ∃ h, b.any (· == (pn : Int)) = h := ⟨_, rfl⟩
        rw [hh]
        have HH := Wc.hid hh
        have B1 := Wc.hid (Wc.step RB.out (Nat.le_refl _) hb1)
        have O1 := Wc.hid (RO.out.keep hb1)
        have P1 := Wc.hid (RP.out.keep hb1)
        clear hh hb1
        cases h
        · have hrd : Wd.rdR xs (pn : Int) = (xs.drop (pn * 64)).take 64 := Wt.rd_at HD.out pn (by rw [HMX.out]; exact hpm)
          have HRD := Wc.hid hrd
          clear hrd
          go_wp2_with fail
          refine (block_any ai ni ci pn xs _ (HV.out.keep B1.out) hsp).mono ?_
          rintro e w2 ⟨ax, cx, rfl, hX, rfl⟩
          go_wp2_with fail
          refine (refParse8_any _ _ _ hX).mono ?_
          rintro e w3 ⟨rfl, hb3⟩
          rw [← HRD.out]
          obtain ⟨r, hr⟩ : ∃ r, Wr.par (Wd.rdR xs (pn : Int)) = r := ⟨_, rfl⟩
          obtain ⟨E, hE⟩ : ∃ E, Wr.parE (Wd.rdR xs (pn : Int)) = E := ⟨_, rfl⟩
          have hp2 : 2 ≤ (pn : Int) := by have := HT.out; rw [Bool.and_eq_true] at this; exact of_decide_eq_true this.1
          have HE : Hid (Wi.recOk xs (pn : Int) = (E == 0)) := Wc.hid (by unfold Wi.recOk; rw [hE, decide_eq_true hp2]; rfl)
          have HR : Hid (Wi.recAt xs (pn : Int) = r) := Wc.hid hr
          rw [hr, hE]
          unfold rv
          have bA := (Below.refl w3.heap.size w3).alloc (Nat.le_refl _) (.cells #[.int .i64 r.next, .int .i64 r.id, .int .i64 r.parent, .int .i64 r.root, .int .i64 r.size, .int .i64 r.kind, .int .i64 r.frames, .int .i64 r.digest] 63)
          have b3 := Wc.step hb3 (Nat.le_refl _) bA
          have R3 := Wc.hid (Rh.new w3 r)
          have B3 := Wc.hid (Wc.step B1.out (Nat.le_refl _) b3)
          have O3 := Wc.hid (O1.out.keep b3)
          have P3 := Wc.hid (P1.out.keep b3)
          have B13 := Wc.hid b3
          have HB8 : Hid (w1.heap.size ≤ w3.heap.size) := Wc.hid hb3.size
          have HBL := Wc.hid RI.out.len
          have HLN : Hid ((b.map (Wi.recAt xs)).length = n) := Wc.hid (Wi.rs_len O3.out.rs)
          clear hr hE hp2 hX hb3 bA b3
          by_cases hE0 : E = 0
          · subst hE0
            have HOK : Hid (Wi.recOk xs (pn : Int) = true) := Wc.hid (by rw [HE.out]; rfl)
            have hkd := Wi.rec_kind (Wi.recOk_in HOK.out).2.2.2
            rw [HR.out] at hkd
            have ⟨c0, c1, c2, c3, c4, c5, c6, c7⟩ := R3.out.rc
            rcases hkd with hk | hk
            · have HK := Wc.hid hk
              have hk0 : (r.kind == 0) = true := by rw [hk]; rfl
              have hk1 : (r.kind == 1) = false := by rw [hk]; rfl
              clear hk
              go_wp2_with fail
              obtain ⟨W3, hW3⟩ : ∃ W3, w3.alloc (.cells #[.int .i64 r.next, .int .i64 r.id, .int .i64 r.parent, .int .i64 r.root, .int .i64 r.size, .int .i64 r.kind, .int .i64 r.frames, .int .i64 r.digest] 63) = W3 := ⟨_, rfl⟩
              obtain ⟨B8, hB8⟩ : ∃ B8, w3.heap.size = B8 := ⟨_, rfl⟩
              rw [hW3] at R3 B3 O3 P3 B13 ⊢
              rw [hB8] at R3 HB8 ⊢
              clear c0 c1 c2 c3 c4 c5 c6 c7
              clear hW3 hB8
              go_loopw [4, 5, 14] (fun v u i wr => ∃ k : Nat, v = .slice a n c ∧ u = .slice a' n' c' ∧ i = .int .i64 k ∧ k ≤ n ∧ Hid (Below W3.heap.size W3 wr) ∧ Hid (((b.map (Wi.recAt xs)).take k).any (fun a => a.id == r.id) = false)) (fun _ _ i _ => n - (intOf i).toNat)
              case atStart => exact ⟨0, rfl, rfl, rfl, by omega, Wc.hid (Below.refl _ _), Wc.hid (by simp)⟩
              case round =>
                obtain ⟨k, rfl, rfl, rfl, hk, QB, QZ⟩ := hrel
                by_cases hlt : k < n
                · obtain ⟨_, _, _, h1, -, hlc, hlc2, hln, hpos⟩ := O3.out.rs
                  cases h1
                  obtain ⟨g, off, rfl, hblt, hcs⟩ := hpos (by omega)
                  have hx := (hcs k hlt).keep QB.out
                  have hkl : k < (b.map (Wi.recAt xs)).length := by rw [HLN.out]; exact hlt
                  have HS := Wc.hid (Wi.any_snoc (fun a => a.id == r.id) hkl)
                  have HTT := Wc.hid (Wi.any_take (l := b.map (Wi.recAt xs)) (fun a => a.id == r.id) hkl)
                  obtain ⟨x, hxe⟩ : ∃ x, (b.map (Wi.recAt xs)).getD k Wr.r0 = x := ⟨_, rfl⟩
                  rw [hxe] at hx HS HTT
                  have ⟨d0, d1, d2, d3, d4, d5, d6, d7⟩ := hx
                  have ⟨e0, e1, e2, e3, e4, e5, e6, e7⟩ := (R3.out.keep QB.out).rc
                  have BQ := Wc.hid (Wc.step B3.out (Nat.le_refl _) QB.out)
                  clear hcs hx hkl hxe hpos
                  cases hid : (x.id == r.id)
                  · have HI := Wc.hid hid
                    go_wp2_with fail
                    go_quiet (fail)
                    go_wp2_with fail
                    go_roundw
                    case rel => exact ⟨k + 1, rfl, rfl, by go_num, by omega, Wc.hid (below_drewN QB.out _), Wc.hid (by rw [HS.out, QZ.out, HI.out]; rfl)⟩
                    case measure => simp [intOf]; omega
                  · have HI := Wc.hid hid
                    go_wp2_with fail
                    go_quiet (fail)
                    go_wp2_with fail
                    refine bodyPost_ret (results_tmp4 rfl _ _ _) rfl ?_
                    exact rrec_nil HD.out (by rw [← RC.out]; exact Wi.chn_no HPn.out (.inr (by rw [HR.out]; exact Wi.id_fits (HTT.out HI.out)))) (below_drewN BQ.out _)
                · have HNO : Hid (Wi.hasB (b.map (Wi.recAt xs)) r.id = false) := Wc.hid (by
                    have := QZ.out
                    rw [List.take_of_length_le (by rw [HLN.out]; omega)] at this
                    exact this)
                  have BB := Wc.hid (Wc.step B3.out (Nat.le_refl _) QB.out)
                  by_cases hfull : 60 < q + 1
                  · have hfb : (60 : Int) < (q : Int) + 1 := by omega
                    go_wp2_with fail
                    refine bodyPost_ret (results_tmp4 rfl _ _ _) rfl ?_
                    exact rrec_nil HD.out (by rw [← RC.out]; exact Wi.chn_no HPn.out (.inr (by rw [HR.out]; exact Wi.full_fits HK.out (by rw [RQ.out]; exact hfull)))) BB.out
                  have hq1 : ¬ (60 : Int) < (q : Int) + 1 := by omega
                  have HFT : Hid (Wi.fitsB r (b.map (Wi.recAt xs)) = true) := Wc.hid (Wi.yes_fits HNO.out (.inr ⟨HK.out, by rw [RQ.out]; omega⟩))
                  obtain ⟨xa, xn, xc, w4, hrun4, hO4, hb4, hs4⟩ := pushr_run w1 wr wr.heap.size w.heap.size rfl (.slice a n c) (b.map (Wi.recAt xs)) r O1.out (Wc.step B13.out (Nat.le_refl _) QB.out) (by have := HBL.out; simp; omega) BB.out.size
                  have hX4 : Rh w4 B8 r := hs4 _ _ _ _ (R3.out.keep QB.out) (.inr HB8.out)
                  have hP4 : Wv.Ov (Value.int .i64) 3 w.heap.size w4 (.slice a' n' c') b := Wi.ov_types (P3.out.keep QB.out) (fun g cs fr hg => hs4 g cs 3 fr hg (.inl (by decide)))
                  have hb4' : Below w.heap.size w w4 := (BB.out.alloc BB.out.size _).trans hb4
                  obtain ⟨ya, yn, yc, w5, hrun5, hP5, hb5, hs5⟩ := push_run w4 w4.heap.size w.heap.size rfl (.slice a' n' c') b (pn : Int) hP4 (by have := HBL.out; omega) hb4'.size
                  have bA : Below w4.heap.size w4 (w4.alloc (.cells #[.int .i64 (pn : Int)] 3)) := (Below.refl _ _).alloc (Nat.le_refl _) _
                  have hX5 : Rh w5 B8 r := hs5 _ _ _ _ (hX4.keep bA) (by decide)
                  have hO5 : Wi.Or 63 w.heap.size w5 (.slice xa xn xc) (b.map (Wi.recAt xs) ++ [r]) := (hO4.keep bA).types (fun g cs fr hg => hs5 g cs 63 fr hg (by decide))
                  have hb5' : Below w.heap.size w w5 := (hb4'.alloc hb4'.size _).trans hb5
                  have ⟨x0, x1, x2, x3, x4, x5, x6, x7⟩ := (R3.out.keep QB.out).rc
                  have ⟨y0, y1, y2, y3, y4, y5, y6, y7⟩ := hX5.rc
                  have hn2 : xn = b.length + 1 := by have := Wi.rs_len hO5.rs; simpa using this.symm
                  have HN2 := Wc.hid hn2
                  have HO5 := Wc.hid hO5
                  have HP5 := Wc.hid hP5
                  have HB5 := Wc.hid hb5'
                  clear hO4 hb4 hs4 hX4 hP4 hb4' hb5 hs5 bA hX5 hO5 hb5' hP5 hn2
                  go_wp2_with (first | (at_builtin; refine Wv.wp_append hrun4 rfl rfl rfl rfl ?_) | (at_builtin; refine Wv.wp_append hrun5 rfl rfl rfl rfl ?_))
                  go_roundw
                  case rel =>
                    refine ⟨r.next, b ++ [(pn : Int)], xa, xn, xc, ya, yn, yc, q + 1, rfl, rfl, rfl, by go_num, by omega, Wc.hid ?_, HB5, Wc.hid ?_, HP5, Wc.hid (RI.out.snoc HOK.out (by rw [HR.out]; exact HFT.out)), Wc.hid ?_⟩
                    · rw [List.map_append, List.map_singleton, HR.out, Wi.whN_snoc, RQ.out]; exact (by rw [if_pos HK.out])
                    · rw [List.map_append, List.map_singleton, HR.out]; exact HO5.out
                    · rw [← RC.out]
                      have hlen := HBL.out
                      rw [show 62 - b.length = (62 - (b ++ [(pn : Int)]).length) + 1 by simp; omega, Wi.chn_yes HPn.out HOK.out (by rw [HR.out]; exact HFT.out), HR.out]
                  case measure =>
                    have h2 := HN2.out
                    have h3 := HBL.out
                    have h4 := HLN.out
                    simp [Wc.slLen] at h4 ⊢; omega
            · have HK := Wc.hid hk
              have hk0 : (r.kind == 0) = false := by rw [hk]; rfl
              have hk1 : (r.kind == 1) = true := by rw [hk]; rfl
              clear hk
              by_cases hn0 : n = 0
              · subst hn0
                go_wp2_with fail
                obtain ⟨W3, hW3⟩ : ∃ W3, w3.alloc (.cells #[.int .i64 r.next, .int .i64 r.id, .int .i64 r.parent, .int .i64 r.root, .int .i64 r.size, .int .i64 r.kind, .int .i64 r.frames, .int .i64 r.digest] 63) = W3 := ⟨_, rfl⟩
                obtain ⟨B8, hB8⟩ : ∃ B8, w3.heap.size = B8 := ⟨_, rfl⟩
                rw [hW3] at R3 B3 O3 P3 B13 ⊢
                rw [hB8] at R3 HB8 ⊢
                clear c0 c1 c2 c3 c4 c5 c6 c7
                clear hW3 hB8
                go_loopw [4, 5, 14] (fun v u i wr => ∃ k : Nat, v = .slice a 0 c ∧ u = .slice a' n' c' ∧ i = .int .i64 k ∧ k ≤ 0 ∧ Hid (Below W3.heap.size W3 wr) ∧ Hid (((b.map (Wi.recAt xs)).take k).any (fun a => a.id == r.id) = false)) (fun _ _ i _ => 0 - (intOf i).toNat)
                case atStart => exact ⟨0, rfl, rfl, rfl, by omega, Wc.hid (Below.refl _ _), Wc.hid (by simp)⟩
                case round =>
                  obtain ⟨k, rfl, rfl, rfl, hk, QB, QZ⟩ := hrel
                  by_cases hlt : k < 0
                  · exact absurd hlt (Nat.not_lt_zero _)
                  · have HNO : Hid (Wi.hasB (b.map (Wi.recAt xs)) r.id = false) := Wc.hid (by
                      have := QZ.out
                      rw [List.take_of_length_le (by rw [HLN.out]; omega)] at this
                      exact this)
                    have BB := Wc.hid (Wc.step B3.out (Nat.le_refl _) QB.out)
                    have HFT : Hid (Wi.fitsB r (b.map (Wi.recAt xs)) = true) := Wc.hid (Wi.yes_fits HNO.out (.inl ⟨HK.out, HLN.out⟩))
                    obtain ⟨xa, xn, xc, w4, hrun4, hO4, hb4, hs4⟩ := pushr_run w1 wr wr.heap.size w.heap.size rfl (.slice a 0 c) (b.map (Wi.recAt xs)) r O1.out (Wc.step B13.out (Nat.le_refl _) QB.out) (by have := HBL.out; simp; omega) BB.out.size
                    have hX4 : Rh w4 B8 r := hs4 _ _ _ _ (R3.out.keep QB.out) (.inr HB8.out)
                    have hP4 : Wv.Ov (Value.int .i64) 3 w.heap.size w4 (.slice a' n' c') b := Wi.ov_types (P3.out.keep QB.out) (fun g cs fr hg => hs4 g cs 3 fr hg (.inl (by decide)))
                    have hb4' : Below w.heap.size w w4 := (BB.out.alloc BB.out.size _).trans hb4
                    obtain ⟨ya, yn, yc, w5, hrun5, hP5, hb5, hs5⟩ := push_run w4 w4.heap.size w.heap.size rfl (.slice a' n' c') b (pn : Int) hP4 (by have := HBL.out; omega) hb4'.size
                    have bA : Below w4.heap.size w4 (w4.alloc (.cells #[.int .i64 (pn : Int)] 3)) := (Below.refl _ _).alloc (Nat.le_refl _) _
                    have hX5 : Rh w5 B8 r := hs5 _ _ _ _ (hX4.keep bA) (by decide)
                    have hO5 : Wi.Or 63 w.heap.size w5 (.slice xa xn xc) (b.map (Wi.recAt xs) ++ [r]) := (hO4.keep bA).types (fun g cs fr hg => hs5 g cs 63 fr hg (by decide))
                    have hb5' : Below w.heap.size w w5 := (hb4'.alloc hb4'.size _).trans hb5
                    have ⟨x0, x1, x2, x3, x4, x5, x6, x7⟩ := (R3.out.keep QB.out).rc
                    have ⟨y0, y1, y2, y3, y4, y5, y6, y7⟩ := hX5.rc
                    have hn2 : xn = b.length + 1 := by have := Wi.rs_len hO5.rs; simpa using this.symm
                    have HN2 := Wc.hid hn2
                    have HO5 := Wc.hid hO5
                    have HP5 := Wc.hid hP5
                    have HB5 := Wc.hid hb5'
                    clear hO4 hb4 hs4 hX4 hP4 hb4' hb5 hs5 bA hX5 hO5 hb5' hP5 hn2
                    go_wp2_with (first | (at_builtin; refine Wv.wp_append hrun4 rfl rfl rfl rfl ?_) | (at_builtin; refine Wv.wp_append hrun5 rfl rfl rfl rfl ?_))
                    go_roundw
                    case rel =>
                      refine ⟨r.next, b ++ [(pn : Int)], xa, xn, xc, ya, yn, yc, q, rfl, rfl, rfl, by go_num, by omega, Wc.hid ?_, HB5, Wc.hid ?_, HP5, Wc.hid (RI.out.snoc HOK.out (by rw [HR.out]; exact HFT.out)), Wc.hid ?_⟩
                      · rw [List.map_append, List.map_singleton, HR.out, Wi.whN_snoc, RQ.out]; exact (by rw [if_neg (by rw [HK.out]; decide)]; rfl)
                      · rw [List.map_append, List.map_singleton, HR.out]; exact HO5.out
                      · rw [← RC.out]
                        have hlen := HBL.out
                        rw [show 62 - b.length = (62 - (b ++ [(pn : Int)]).length) + 1 by simp; omega, Wi.chn_yes HPn.out HOK.out (by rw [HR.out]; exact HFT.out), HR.out]
                    case measure =>
                      have h2 := HN2.out
                      have h3 := HBL.out
                      have h4 := HLN.out
                      simp [Wc.slLen] at h4 ⊢; omega
              · have hnb : (0 : Int) < (n : Int) := by omega
                go_wp2_with fail
                refine bodyPost_ret (results_tmp4 rfl _ _ _) rfl ?_
                exact rrec_nil HD.out (by rw [← RC.out]; exact Wi.chn_no HPn.out (.inr (by rw [HR.out]; exact Wi.pend_fits HK.out (by rw [HLN.out]; omega)))) B3.out
          · have hEb : (E != 0) = true := by simpa using hE0
            have HEN := Wc.hid hE0
            clear hE0
            go_wp2_with fail
            refine bodyPost_ret (results_tmp4 rfl _ _ _) rfl ?_
            exact rrec_nil HD.out (by rw [← RC.out]; exact Wi.chn_no HPn.out (.inl (by rw [HE.out, beq_eq_false_iff_ne]; exact HEN.out))) B3.out
        · go_wp2_with fail
          refine bodyPost_ret (results_tmp4 rfl _ _ _) rfl ?_
          exact rrec_nil HD.out (by rw [← RC.out]; exact Wi.chn_no HPn.out (.inr (Wi.has_fits HH.out))) B1.out
end Go.Proofs.YtiobegoiehjfiaaGreat
