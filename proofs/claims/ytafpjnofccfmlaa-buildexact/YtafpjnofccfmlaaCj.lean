/-
  What build.begin and build.Needs return, for every device, root and map.
-/
import Derived.Test.YtafpjnofccfmlaaCf
import Derived.Test.YtafpjnofccfmlaaCi
import Derived.Test.YtafpjnofccfmlaaCk
namespace Wb
open Wt Wn
/-- Why there is no new tree, whatever is free. -/
def begE (xs : List Int) (r : Int) (m : List Int) : Int := if treE xs r = 0 then mapE m ((xs.length / 64 : Nat) : Int) else treE xs r
theorem treE_zero {xs : List Int} {r : Int} (h : treE xs r = 0) : Wd.devB xs.length = true ∧ ∃ t, tre xs r = some t ∧ treS xs r = t.sec ∧ treN xs r = t.nodes := by
  unfold treE at h
  by_cases hd : Wd.devB xs.length = true
  · rw [if_pos hd] at h
    cases ht : tre xs r with
    | none => rw [ht] at h; cases h
    | some t => exact ⟨hd, t, rfl, (tre_some hd ht).2.2, (tre_some hd ht).2.1⟩
  · rw [if_neg hd] at h; cases h
theorem begE_zero {xs : List Int} {r : Int} {m : List Int} (h : begE xs r m = 0) : treE xs r = 0 ∧ mapE m ((xs.length / 64 : Nat) : Int) = 0 := by
  unfold begE at h
  by_cases h0 : treE xs r = 0
  · rw [if_pos h0] at h; exact ⟨h0, h⟩
  · rw [if_neg h0] at h; exact absurd h h0
theorem mapE_zero {m : List Int} {n : Int} (h : mapE m n = 0) : m.length = 512 ∧ ∀ i, m.getD i 0 = 0 ∨ 2 ≤ m.getD i 0 ∧ m.getD i 0 < n := by
  unfold mapE at h
  by_cases hl : m.length = 512
  · rw [if_pos hl] at h
    by_cases ha : m.all (plB n) = true
    · refine ⟨hl, fun i => ?_⟩
      by_cases hi : i < m.length
      · have := List.all_eq_true.1 ha _ (getD_in hi)
        unfold plB at this
        rw [Bool.or_eq_true] at this
        rcases this with h1 | h1
        · left; simpa using h1
        · right; exact bsB_iff.1 h1
      · exact .inl (getD_out hi)
    · rw [if_neg ha] at h; cases h
  · rw [if_neg hl] at h; cases h
end Wb
namespace Go.Proofs.Ytafpjnofccfmlaa
open Go.RowKit

theorem ret_rows3 {fn : Func} {tmps : Array Value} {w : World} {B : Nat} {f : Nat → Value} {u v : Value} (hr : fn.results = #[.cell 6 63, .tmp 7, .tmp 8]) (hp : tmps.getD 6 undef = .pointer (some ⟨B, 0, none⟩)) (hu : tmps.getD 7 undef = u) (hv : tmps.getD 8 undef = v) (h : Tb w B f) :
    (results fn tmps).run Try.prog w = .ok (.tuple #[.agg #[f 0, f 1, f 2, f 3], u, v]) w := by
  have c0 := h.cell (k := 0) (by omega)
  have c1 := h.cell (k := 1) (by omega)
  have c2 := h.cell (k := 2) (by omega)
  have c3 := h.cell (k := 3) (by omega)
  have hp' : tmps[6]?.getD undef = .pointer (some ⟨B, 0, none⟩) := by simpa using hp
  have hu' : tmps[7]?.getD undef = u := by simpa using hu
  have hv' : tmps[8]?.getD undef = v := by simpa using hv
  simp only [results, hr]
  simp [hp', hu', hv', go_sem, c0, c1, c2, c3]

/-- What begin returns. -/
def BegPost (xs : List Int) (r : Int) (m : List Int) (w : World) : Ending → World → Prop := fun e w' =>
  Below w.heap.size w w' ∧ (Wb.begE xs r m = 0 → ∃ f : Nat → Value, e = .returned (.tuple #[.agg #[f 0, f 1, f 2, f 3], .int .i64 ((xs.length / 64 : Nat) : Int), .int .i64 0]) ∧ ∀ i, i < 4 → Wd.In w' (f i) (Wb.rw xs r (3 - i))) ∧
    (¬ Wb.begE xs r m = 0 → e = .returned (.tuple #[.agg #[.slice none 0 0, .slice none 0 0, .slice none 0 0, .slice none 0 0], .int .i64 0, .int .i64 (Wb.begE xs r m)]))

set_option maxRecDepth 100000 in
set_option maxHeartbeats 6400000 in
theorem begin_any (v : Value) (r : Int) (am : Option Addr) (nm cm : Nat) (xs m : List Int) (w : World) (hv : Wc.Bs w v xs) (hm : Wd.In w (.slice am nm cm) m) :
    Calls Try.prog 27 #[v, .int .i64 r, .slice am nm cm] w (BegPost xs r m w) := by
  unfold BegPost
  obtain ⟨ai, ni, ci, rfl, -⟩ := id hv
  have hni : ni ≤ 140737488355328 := by obtain ⟨_, _, _, h1, _, _, _, h5, _⟩ := hv; cases h1; exact h5
  have hl := Wc.bs_len hv
  have T0 := Wc.hid (show Tb (w.alloc (.cells #[.slice none 0 0, .slice none 0 0, .slice none 0 0, .slice none 0 0] 63)) w.heap.size (fun _ => .slice none 0 0) by show (w.heap.push _)[_]? = _; simp)
  have B0 := Wc.hid ((Below.refl w.heap.size w).alloc (Nat.le_refl _) (.cells #[.slice none 0 0, .slice none 0 0, .slice none 0 0, .slice none 0 0] 63))
  have HV := Wc.hid hv
  have HM := Wc.hid hm
  have HL := Wc.hid hl
  clear hv hm hl
  by_cases ht : Wt.treE xs r = 0
  · have hd := (Wb.treE_zero ht).1
    have hb := Wd.devB_iff.1 hd
    have hchk := Wd.chk_yes hb
    have HT := Wc.hid ht
    have HEv : Hid (Wb.begE xs r m = Wt.mapE m ((xs.length / 64 : Nat) : Int)) := Wc.hid (by unfold Wb.begE; rw [if_pos ht])
    have HCN : Hid (Wd.chkN ni = ((xs.length / 64 : Nat) : Int)) := Wc.hid (by rw [← HL.out, ← hchk.1]; omega)
    obtain ⟨n, hn⟩ : ∃ n, xs.length / 64 = n := ⟨_, rfl⟩
    rw [hn] at HEv HCN ⊢
    clear hd hb hchk ht hn
    by_cases hz : Wt.mapE m (n : Int) = 0
    · have HZ := Wc.hid hz
      have HE0 := Wc.hid (HEv.out.trans hz)
      clear hz
      go_enter Try.func27, Try.ntmps27
      go_wp2_with fail
      refine (map_any _ xs r _ (HV.out.keep B0.out)).mono ?_
      rintro e w1 ⟨a1, n1, c1, rfl, -, hb1, -⟩
      rw [HT.out]
      have T1 := Wc.hid (T0.out.keep hb1 T0.out.lt)
      have B1 := Wc.hid (Wc.step B0.out (Nat.le_refl _) hb1)
      clear hb1
      go_wp2_with fail
      refine (check_any ai ni ci w1 hni).mono ?_
      rintro e w2 ⟨rfl, rfl⟩
      rw [HCN.out]
      obtain ⟨E, hE⟩ : ∃ E, Wd.chkE ni = E := ⟨_, rfl⟩
      rw [hE]
      clear hE
      go_wp2_with fail
      refine (tcheck_any _ m (n : Int) w1 (HM.out.keep B1.out)).mono ?_
      rintro e w2 ⟨rfl, rfl⟩
      rw [HZ.out]
      go_wp2_with fail
      refine (layOut_any _ r xs w1 (HV.out.keep B1.out)).mono ?_
      rintro e w2 ⟨f, rfl, hrn, hb2⟩
      have hsh : ∀ i, i < 4 → ∃ a n c, f i = .slice a n c := fun i hi => by
        obtain ⟨a, n, c, e, -⟩ := (hrn i hi).1
        exact ⟨a, n, c, e⟩
      obtain ⟨a0, n0, c0, e0⟩ := hsh 0 (by omega)
      obtain ⟨a1, n1, c1, e1⟩ := hsh 1 (by omega)
      obtain ⟨a2, n2, c2, e2⟩ := hsh 2 (by omega)
      obtain ⟨a3, n3, c3, e3⟩ := hsh 3 (by omega)
      have T2 := Wc.hid (T1.out.keep hb2 T1.out.lt)
      have B2 := Wc.hid (Wc.step B1.out (Nat.le_refl _) hb2)
      have HRN := Wc.hid hrn
      have HSZ := Wc.hid T1.out.lt
      have r0 := T2.out.cell (k := 0) (by omega)
      have r1 := T2.out.cell (k := 1) (by omega)
      have r2 := T2.out.cell (k := 2) (by omega)
      have r3 := T2.out.cell (k := 3) (by omega)
      have hf := T2.out.frozen
      have HE := Wc.hid (And.intro e0 (And.intro e1 (And.intro e2 e3)))
      rw [e0, e1, e2, e3]
      clear hrn hb2 hsh e0 e1 e2 e3
      go_wp2_with fail
      have k1 := ((((T2.out.set (k := 0) (by omega) (f 0)).set (k := 1) (by omega) (f 1)).set (k := 2) (by omega) (f 2)).set (k := 3) (by omega) (f 3))
      obtain ⟨e0, e1, e2, e3⟩ := HE.out
      rw [e0, e1, e2, e3] at k1
      refine bodyPost_ret (ret_rows3 rfl rfl rfl rfl k1) rfl ⟨(((B2.out.setCell (p := ⟨w.heap.size, 0, none⟩) (Nat.le_refl _) _).setCell (p := ⟨w.heap.size, 1, none⟩) (Nat.le_refl _) _).setCell (p := ⟨w.heap.size, 2, none⟩) (Nat.le_refl _) _).setCell (p := ⟨w.heap.size, 3, none⟩) (Nat.le_refl _) _, fun _ => ⟨f, ?_, fun i hi => ?_⟩, fun h => absurd HE0.out h⟩
      · rw [e0, e1, e2, e3]; rfl
      · exact ((((((HRN.out i hi).setCell HSZ.out).setCell HSZ.out).setCell HSZ.out).setCell HSZ.out)).1
    · obtain ⟨E, hE⟩ : ∃ E, Wt.mapE m (n : Int) = E := ⟨_, rfl⟩
      rw [hE] at HEv hz
      have HMP := Wc.hid hE
      have HZ := Wc.hid hz
      have hne : (E != 0) = true := by rw [bne_iff_ne]; exact hz
      clear hz hE
      go_enter Try.func27, Try.ntmps27
      go_wp2_with fail
      refine (map_any _ xs r _ (HV.out.keep B0.out)).mono ?_
      rintro e w1 ⟨a1, n1, c1, rfl, -, hb1, -⟩
      rw [HT.out]
      have T1 := Wc.hid (T0.out.keep hb1 T0.out.lt)
      have B1 := Wc.hid (Wc.step B0.out (Nat.le_refl _) hb1)
      clear hb1
      go_wp2_with fail
      refine (check_any ai ni ci w1 hni).mono ?_
      rintro e w2 ⟨rfl, rfl⟩
      rw [HCN.out]
      obtain ⟨E2, hE2⟩ : ∃ E, Wd.chkE ni = E := ⟨_, rfl⟩
      rw [hE2]
      clear hE2
      go_wp2_with fail
      refine (tcheck_any _ m (n : Int) w1 (HM.out.keep B1.out)).mono ?_
      rintro e w2 ⟨rfl, rfl⟩
      rw [HMP.out]
      have r0 := T1.out.cell (k := 0) (by omega)
      have r1 := T1.out.cell (k := 1) (by omega)
      have r2 := T1.out.cell (k := 2) (by omega)
      have r3 := T1.out.cell (k := 3) (by omega)
      have hf := T1.out.frozen
      go_wp2_with fail
      have k1 := ((((T1.out.set (k := 0) (by omega) (.slice none 0 0)).set (k := 1) (by omega) (.slice none 0 0)).set (k := 2) (by omega) (.slice none 0 0)).set (k := 3) (by omega) (.slice none 0 0))
      refine bodyPost_ret (ret_rows3 rfl rfl rfl rfl k1) rfl ⟨(((B1.out.setCell (p := ⟨w.heap.size, 0, none⟩) (Nat.le_refl _) _).setCell (p := ⟨w.heap.size, 1, none⟩) (Nat.le_refl _) _).setCell (p := ⟨w.heap.size, 2, none⟩) (Nat.le_refl _) _).setCell (p := ⟨w.heap.size, 3, none⟩) (Nat.le_refl _) _, fun h => absurd (HEv.out.symm.trans h) HZ.out, fun _ => by rw [HEv.out]; rfl⟩
  · obtain ⟨E, hE⟩ : ∃ E, Wt.treE xs r = E := ⟨_, rfl⟩
    have HEv : Hid (Wb.begE xs r m = E) := Wc.hid (by unfold Wb.begE; rw [if_neg ht]; exact hE)
    rw [hE] at ht
    have HT := Wc.hid hE
    have HZ := Wc.hid ht
    have hne : (E != 0) = true := by rw [bne_iff_ne]; exact ht
    clear ht hE
    go_enter Try.func27, Try.ntmps27
    go_wp2_with fail
    refine (map_any _ xs r _ (HV.out.keep B0.out)).mono ?_
    rintro e w1 ⟨a1, n1, c1, rfl, -, hb1, -⟩
    rw [HT.out]
    have T1 := Wc.hid (T0.out.keep hb1 T0.out.lt)
    have B1 := Wc.hid (Wc.step B0.out (Nat.le_refl _) hb1)
    clear hb1
    have r0 := T1.out.cell (k := 0) (by omega)
    have r1 := T1.out.cell (k := 1) (by omega)
    have r2 := T1.out.cell (k := 2) (by omega)
    have r3 := T1.out.cell (k := 3) (by omega)
    have hf := T1.out.frozen
    go_wp2_with fail
    have k1 := ((((T1.out.set (k := 0) (by omega) (.slice none 0 0)).set (k := 1) (by omega) (.slice none 0 0)).set (k := 2) (by omega) (.slice none 0 0)).set (k := 3) (by omega) (.slice none 0 0))
    refine bodyPost_ret (ret_rows3 rfl rfl rfl rfl k1) rfl ⟨(((B1.out.setCell (p := ⟨w.heap.size, 0, none⟩) (Nat.le_refl _) _).setCell (p := ⟨w.heap.size, 1, none⟩) (Nat.le_refl _) _).setCell (p := ⟨w.heap.size, 2, none⟩) (Nat.le_refl _) _).setCell (p := ⟨w.heap.size, 3, none⟩) (Nat.le_refl _) _, fun h => absurd (HEv.out.symm.trans h) HZ.out, fun _ => by rw [HEv.out]; rfl⟩
end Go.Proofs.Ytafpjnofccfmlaa
