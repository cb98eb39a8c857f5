/-
  What open.Records returns, for every device and every first block.
-/
import Derived.Test.YtiobegoiehjfiaaGreatQa
import Derived.Test.YtiobegoiehjfiaaGreatJG
namespace Go.Proofs.YtiobegoiehjfiaaGreat
open Go.RowKit

theorem Tryz.info41 : (Tryz.prog.info? 63).map (fun i => (i.zero, i.size, i.bytes)) = some (some (.agg #[.int .i64 0, .int .i64 0, .int .i64 0, .int .i64 0, .int .i64 0, .int .i64 0, .int .i64 0, .int .i64 0]), 8, 64) := by kernel_rfl

/-- One record is put behind memory of the call's own; blocks of other things, and younger ones, stay. -/
theorem pushr_run (w0 w : World) (gb base : Nat) (hgb : gb = w.heap.size) (v : Value) (l : List Wr.Rec) (r : Wr.Rec) (hO : Wi.Or 63 base w0 v l) (hk : Below w0.heap.size w0 w) (hl : l.length ≤ 1000) (hb : base ≤ w.heap.size) :
    ∃ a n c w', Sem.run Tryz.prog (Builtin.append_ #[36, 36] 36 #[v, .slice (some ⟨gb, 0, none⟩) 1 1]) (w.alloc (.cells #[.int .i64 r.next, .int .i64 r.id, .int .i64 r.parent, .int .i64 r.root, .int .i64 r.size, .int .i64 r.kind, .int .i64 r.frames, .int .i64 r.digest] 63)) = .ok (.slice a n c) w' ∧
      Wi.Or 63 base w' (.slice a n c) (l ++ [r]) ∧ Below base (w.alloc (.cells #[.int .i64 r.next, .int .i64 r.id, .int .i64 r.parent, .int .i64 r.root, .int .i64 r.size, .int .i64 r.kind, .int .i64 r.frames, .int .i64 r.digest] 63)) w' ∧
      ∀ (b : Nat) (cs : Array Value) (T : TypeId) (fr : Nat × Nat), w.heap[b]? = some (.cells cs T fr) → T ≠ 63 ∨ w0.heap.size ≤ b → w'.heap[b]? = some (.cells cs T fr) := by
  obtain ⟨i, hi, hzz⟩ := Option.map_eq_some_iff.1 Tryz.info41
  simp only [Prod.mk.injEq] at hzz
  obtain ⟨hz, hs, hby⟩ := hzz
  have b1 : Below w.heap.size w (w.alloc (.cells #[.int .i64 r.next, .int .i64 r.id, .int .i64 r.parent, .int .i64 r.root, .int .i64 r.size, .int .i64 r.kind, .int .i64 r.frames, .int .i64 r.digest] 63)) := (Below.refl _ _).alloc (Nat.le_refl _) _
  obtain ⟨a, n, c, w', k1, k2, k3, k4⟩ := Wi.append_rec (P := Tryz.prog) (ty := 36) (c := 1) Tryz.underlying36 hi hz hs hby rfl (by omega) hO (Wc.step hk (Nat.le_refl _) b1) (Wi.lit8 w r 63 gb hgb) (by omega) (by have := b1.size; omega)
  refine ⟨a, n, c, w', k1, k2, k3, fun b cs T fr hb hT => k4 b cs T fr ?_ hT⟩
  rw [b1.block b (Array.getElem?_eq_some_iff.1 hb).1]
  exact hb

/-- What Records tells. -/
def RecPost (xs : List Int) (first : Int) (w : World) : Ending → World → Prop := fun e w' =>
  ∃ a n c a' n' c', e = .returned (.tuple #[.slice a n c, .slice a' n' c', .int .i64 (Wi.recE xs first)]) ∧ Wi.Rs w' (.slice a n c) (Wi.recL xs first) ∧ Wd.In w' (.slice a' n' c') (Wi.recP xs first) ∧ Below w.heap.size w w'

theorem rec_nil {xs : List Int} {first : Int} {w w' : World} {E : Int} (h : Wi.recE xs first = E ∧ Wi.recP xs first = [] ∧ Wi.recL xs first = []) (hb : Below w.heap.size w w') :
    RecPost xs first w (.returned (.tuple #[.slice none 0 0, .slice none 0 0, .int .i64 E])) w' := by
  refine ⟨_, _, _, _, _, _, by rw [h.1], ?_, ?_, hb⟩
  · rw [h.2.2]; exact Wi.Rs.nil _
  · rw [h.2.1]; exact Wv.Rv.nil _

theorem rh_stay {w w' : World} {B : Nat} {r : Wr.Rec} (h : Rh w B r) (hk : ∀ (b : Nat) (cs : Array Value) (T : TypeId) (fr : Nat × Nat), w.heap[b]? = some (.cells cs T fr) → T ≠ 63 ∨ B ≤ b → w'.heap[b]? = some (.cells cs T fr)) : Rh w' B r :=
  hk _ _ _ _ h (.inr (Nat.le_refl _))

set_option maxRecDepth 100000 in
set_option maxHeartbeats 6400000 in
theorem records_yes (ai : Option Addr) (ni ci : Nat) (xs : List Int) (first : Int) (w : World) (hv : Wc.Bs w (.slice ai ni ci) xs) (hd : Wd.devB xs.length = true) :
    Calls Tryz.prog 43 #[.slice ai ni ci, .int .i64 first] w (RecPost xs first w) := by
  have hxl := Wc.bs_len hv
  have hni : ni ≤ 140737488355328 := by obtain ⟨_, _, _, h1, _, _, _, h5, _⟩ := hv; cases h1; exact h5
  have hdn : Wd.devB ni = true := by rw [← hxl]; exact hd
  have hE := (Wd.chk_yes (Wd.devB_iff.1 hdn)).2.symm
  have HV := Wc.hid hv
  have HD := Wc.hid hd
  clear hv hd hxl hdn
  go_enter Tryz.func43, Tryz.ntmps43
  go_wp2_with (go_at_call 55; refine (check_any _ _ _ _ hni).mono ?_; rintro e w' ⟨rfl, rfl⟩; rw [hE])
  clear hE
  go_loopw [9, 10, 11] (fun v u i wr => ∃ (p : Int) (b : List Int) (a : Option Addr) (n c : Nat) (a' : Option Addr) (n' c' : Nat), i = .int .i64 p ∧ v = .slice a n c ∧ u = .slice a' n' c' ∧ Hid (Below w.heap.size w wr) ∧ Hid (Wi.Or 63 w.heap.size wr (.slice a n c) (b.map (Wi.recAt xs))) ∧ Hid (Wv.Ov (Value.int .i64) 3 w.heap.size wr (.slice a' n' c') b) ∧ Hid (Wi.Iv xs b) ∧ Hid (Wi.chn xs (62 - b.length) p b = Wi.recs xs first)) (fun v _ _ _ => 62 - Wc.slLen v)
  case atStart => exact ⟨first, [], none, 0, 0, none, 0, 0, rfl, rfl, rfl, Wc.hid (Below.refl _ _), Wc.hid (Wi.Or.nil _ _ _), Wc.hid (Wv.Ov.nil _ _ _), Wc.hid (Wi.Iv.nil xs), Wc.hid rfl⟩
  case round =>
    obtain ⟨p, b, a, n, c, a', n', c', rfl, rfl, rfl, RB, RO, RP, RI, RC⟩ := hrel
    by_cases hp : p = 0
    · subst hp
      go_wp2_with fail
      go_ret3
      have h1 := RC.out
      rw [Wi.chn_zero] at h1
      have h2 := Wi.rec_some HD.out h1.symm
      refine ⟨_, _, _, _, _, _, by rw [h2.1]; rfl, ?_, ?_, RB.out⟩
      · rw [h2.2.2]; exact RO.out.rs
      · rw [h2.2.1]; exact RP.out.rv
    · have hpb : (p != 0) = true := by simpa using hp
      have HPn := Wc.hid hp
      clear hp
      go_wp2_with fail
      refine (oread_any _ p xs _ (HV.out.keep RB.out)).mono ?_
      rintro e w1 ⟨rfl, hb1⟩
      obtain ⟨r, hr⟩ : ∃ r, Wi.recGot xs p = r := ⟨_, rfl⟩
      obtain ⟨q, hq⟩ : ∃ q, Wi.recOk xs p = q := ⟨_, rfl⟩
      rw [hr, hq]
      have HR := Wc.hid hr
      have HQ := Wc.hid hq
      clear hr hq
      unfold rv
      have hbA : Below w1.heap.size w1 (w1.alloc (.cells #[.int .i64 r.next, .int .i64 r.id, .int .i64 r.parent, .int .i64 r.root, .int .i64 r.size, .int .i64 r.kind, .int .i64 r.frames, .int .i64 r.digest] 63)) := (Below.refl _ _).alloc (Nat.le_refl _) _
      have ⟨d0, d1, d2, d3, d4, d5, d6, d7⟩ := (Rh.new w1 r).rc
      have HX := Wc.hid (Rh.new w1 r)
      have HB1 := Wc.hid (Wc.step RB.out (Nat.le_refl _) hb1)
      have HB2 := Wc.hid (Wc.step HB1.out (Nat.le_refl _) hbA)
      have HO1 := Wc.hid (RO.out.keep hb1)
      have HP2 := Wc.hid ((RP.out.keep hb1).keep hbA)
      have HBA := Wc.hid hbA
      clear hb1 hbA
      cases q
      · go_wp2_with fail
        go_ret3
        exact rec_nil (Wi.rec_none HD.out (by rw [← RC.out]; exact Wi.chn_no HPn.out (.inl HQ.out))) HB2.out
      · have HRA : Hid (Wi.recAt xs p = r) := Wc.hid (by have := HR.out; rw [Wi.recGot, if_pos HQ.out] at this; exact this)
        obtain ⟨f, hf⟩ : ∃ f, Wi.fitsB r (b.map (Wi.recAt xs)) = f := ⟨_, rfl⟩
        have HF := Wc.hid hf
        clear hf
        go_wp2_with fail
        refine (ofits_any a n c (b.map (Wi.recAt xs)) r _ (HO1.out.keep HBA.out).rs).mono ?_
        rintro e w3 ⟨rfl, hb3⟩
        rw [HF.out]
        have HB3 := Wc.hid (Wc.step HB2.out (Nat.le_refl _) hb3)
        cases f
        · clear hb3
          go_wp2_with fail
          go_ret3
          exact rec_nil (Wi.rec_none HD.out (by rw [← RC.out]; exact Wi.chn_no HPn.out (.inr (by rw [HRA.out]; exact HF.out)))) HB3.out
        · have hlen : b.length ≤ 61 := RI.out.len
          obtain ⟨xa, xn, xc, w4, hrun4, hO4, hb4, hs4⟩ := pushr_run w1 w3 w3.heap.size w.heap.size rfl (.slice a n c) (b.map (Wi.recAt xs)) r HO1.out (Wc.step HBA.out (Nat.le_refl _) hb3) (by simp; omega) HB3.out.size
          have hX4 : Rh w4 w1.heap.size r := rh_stay (HX.out.keep hb3) hs4
          have hP4 : Wv.Ov (Value.int .i64) 3 w.heap.size w4 (.slice a' n' c') b := Wi.ov_types (HP2.out.keep hb3) (fun g cs fr hg => hs4 g cs 3 fr hg (.inl (by decide)))
          have hb4' : Below w.heap.size w w4 := (HB3.out.alloc HB3.out.size _).trans hb4
          obtain ⟨ya, yn, yc, w5, hrun5, hP5, hb5, hs5⟩ := push_run w4 w4.heap.size w.heap.size rfl (.slice a' n' c') b p hP4 (by omega) hb4'.size
          have bA : Below w4.heap.size w4 (w4.alloc (.cells #[.int .i64 p] 3)) := (Below.refl _ _).alloc (Nat.le_refl _) _
          have hX5 : Rh w5 w1.heap.size r := hs5 _ _ _ _ (hX4.keep bA) (by decide)
          have hO5 : Wi.Or 63 w.heap.size w5 (.slice xa xn xc) (b.map (Wi.recAt xs) ++ [r]) := (hO4.keep bA).types (fun g cs fr hg => hs5 g cs 63 fr hg (by decide))
          have hb5' : Below w.heap.size w w5 := (hb4'.alloc hb4'.size _).trans hb5
          have ⟨x0, x1, x2, x3, x4, x5, x6, x7⟩ := (HX.out.keep hb3).rc
          have ⟨y0, y1, y2, y3, y4, y5, y6, y7⟩ := hX5.rc
          have hn1 : n = b.length := by have := Wi.rs_len HO1.out.rs; simpa using this.symm
          have hn2 : xn = b.length + 1 := by have := Wi.rs_len hO5.rs; simpa using this.symm
          have HN1 := Wc.hid hn1
          have HN2 := Wc.hid hn2
          have HL := Wc.hid hlen
          have HO5 := Wc.hid hO5
          have HP5 := Wc.hid hP5
          have HB5 := Wc.hid hb5'
          clear hb3 hO4 hb4 hs4 hX4 hP4 hb4' hb5 hs5 bA hX5 hO5 hb5' hP5 hn1 hn2 hlen
          go_wp2_with (first | (at_builtin; refine Wv.wp_append hrun4 rfl rfl rfl rfl ?_) | (at_builtin; refine Wv.wp_append hrun5 rfl rfl rfl rfl ?_))
          go_roundw
          case rel =>
            refine ⟨r.next, b ++ [p], xa, xn, xc, ya, yn, yc, rfl, rfl, rfl, HB5, Wc.hid ?_, HP5, Wc.hid (RI.out.snoc HQ.out (by rw [HRA.out]; exact HF.out)), Wc.hid ?_⟩
            · rw [List.map_append, List.map_singleton, HRA.out]; exact HO5.out
            · rw [← RC.out]
              have hlen := HL.out
              rw [show 62 - b.length = (62 - (b ++ [p]).length) + 1 by simp; omega, Wi.chn_yes HPn.out HQ.out (by rw [HRA.out]; exact HF.out), HRA.out]
          case measure =>
            have h1 := HN1.out
            have h2 := HN2.out
            have h3 := HL.out
            simp [Wc.slLen]; omega

set_option maxHeartbeats 1600000 in
theorem records_any (v : Value) (xs : List Int) (first : Int) (w : World) (hv : Wc.Bs w v xs) :
    Calls Tryz.prog 43 #[v, .int .i64 first] w (RecPost xs first w) := by
  obtain ⟨ai, ni, ci, rfl, -⟩ := id hv
  by_cases hd : Wd.devB xs.length = true
  · exact records_yes ai ni ci xs first w hv hd
  · have hxl := Wc.bs_len hv
    have hni : ni ≤ 140737488355328 := by obtain ⟨_, _, _, h1, _, _, _, h5, _⟩ := hv; cases h1; exact h5
    have hE := (Wd.chk_no (fun h => hd (by rw [hxl]; exact Wd.devB_iff.2 h))).2.symm
    have HD := Wc.hid (show Wd.devB xs.length = false by simpa using hd)
    clear hd hv hxl
    go_enter Tryz.func43, Tryz.ntmps43
    go_wp2_with (go_at_call 55; refine (check_any _ _ _ _ hni).mono ?_; rintro e w' ⟨rfl, rfl⟩; rw [hE])
    go_ret3
    exact rec_nil (Wi.rec_dev HD.out) (Below.refl _ _)

end Go.Proofs.YtiobegoiehjfiaaGreat
