/-
  What the page's ParseFrame returns, for all bytes.
-/
import Derived.Test.YtfejabeifabdlaaGcm3
import Derived.Test.YtfejabeifabdlaaFpar
namespace Go.Proofs.Ytfejabeifabdlaa
open Go.RowKit

theorem chOvr {w : World} {R P : Nat} {c : Wk.Cmd} {v : Value} (h : Wk.Ch w R c v) (hne : R ≠ P) (t : Wk.Cmd) (u : Value) : Wk.Ch (Wk.ovr w P t u) R c v :=
  ((((((((h.other hne _ _).other hne _ _).other hne _ _).other hne _ _).other hne _ _).other hne _ _).other hne _ _).other hne _ _).other hne _ _

def PfPost (xs : List Int) (w : World) (e : Ending) (w' : World) : Prop := ∃ a c, e = .returned (.tuple #[cv (Wk.par xs) (.slice a (Wk.par xs).data.length c), .int .i64 (Wk.parQ xs), .int .i64 (Wk.parZ xs), .int .i64 (Wk.parE xs)]) ∧ Wc.Bs w' (.slice a (Wk.par xs).data.length c) (Wk.par xs).data ∧ Below w.heap.size w w'

theorem pf_no {xs : List Int} {w w' : World} {E : Int} (h : Wk.parE xs = E) (h0 : ¬ E = 0) (hb : Below w.heap.size w w') : PfPost xs w (.returned (.tuple #[cv Wk.c0 (.slice none 0 0), .int .i64 0, .int .i64 0, .int .i64 E])) w' := by
  obtain ⟨e1, e2, e3⟩ := Wk.par_no (xs := xs) (by rw [h]; exact h0)
  unfold PfPost
  rw [e1, e2, e3, h]
  exact ⟨none, 0, rfl, Wc.Bs.nil _, hb⟩

theorem name_ok {xs : List Int} (n k : Nat) (hl : xs.length = n) (hk : k = 4 ∨ k = n) (h : ∀ j, j < k → xs.getD j 0 = Wk.name.getD j 0) : xs.take 4 = Wk.name.take xs.length := by
  refine List.ext_getElem? fun i => ?_
  rw [List.getElem?_take, List.getElem?_take]
  by_cases hi : i < 4
  · rw [if_pos hi]
    by_cases hin : i < xs.length
    · rw [if_pos hin]
      have := h i (by omega)
      rw [List.getD_eq_getElem?_getD, List.getD_eq_getElem?_getD, List.getElem?_eq_getElem hin, List.getElem?_eq_getElem (by simp [Wk.name]; omega)] at this
      simp only [Option.getD_some] at this
      rw [List.getElem?_eq_getElem hin, List.getElem?_eq_getElem (by simp [Wk.name]; omega), this]
    · rw [if_neg hin, List.getElem?_eq_none (by omega)]
  · rw [if_neg hi]
    split
    · rw [List.getElem?_eq_none (by simp [Wk.name]; omega)]
    · rfl

theorem name_no {xs : List Int} (j : Nat) (hj : j < 4) (hjl : j < xs.length) (h : ¬ xs.getD j 0 = Wk.name.getD j 0) : ¬ xs.take 4 = Wk.name.take xs.length := by
  intro e
  apply h
  have := congrArg (fun l => l.getD j 0) e
  simp only [List.getD_eq_getElem?_getD, List.getElem?_take, if_pos hj, if_pos hjl] at this
  simpa only [List.getD_eq_getElem?_getD] using this

set_option maxRecDepth 100000 in
set_option maxHeartbeats 3200000 in
theorem refParse9_pos (b off n cap : Nat) (xs : List Int) (w : World) (hv : Wc.Bs w (.slice (some ⟨b, off, none⟩) n cap) xs) (h0 : 0 < n) :
    Calls Try.prog 14 #[.slice (some ⟨b, off, none⟩) n cap] w fun e w' => PfPost xs w e w' := by
  have hcc := Wc.bs_cap hv
  have hxl := Wc.bs_len hv
  have hx := Wc.bs_bytes hv
  have hnb : n ≤ 140737488355328 := by obtain ⟨_, m, _, h, _, _, _, h5, _⟩ := hv; cases h; exact h5
  have HCL := Wc.hid (Wc.bs_cells hv h0).2
  have HV := Wc.hid hv
  have HXL := Wc.hid hxl
  have HX := Wc.hid hx
  have HNO := Wc.hid (fun (E : Int) (h : Wk.parE xs = E) (h0 : ¬ E = 0) (w' : World) (hb : Below w.heap.size w w') => pf_no h h0 hb)
  obtain ⟨PP, hPP⟩ : ∃ PP : Ending → World → Prop, (fun e w' => PfPost xs w e w') = PP := ⟨_, rfl⟩
  have HPP := Wc.hid hPP
  rw [hPP]
  have HN2 : Hid (∀ (E : Int), Wk.parE xs = E → ¬ E = 0 → ∀ w', Below w.heap.size w w' → PP (.returned (.tuple #[cv Wk.c0 (.slice none 0 0), .int .i64 0, .int .i64 0, .int .i64 E])) w') := Wc.hid (by rw [← hPP]; exact HNO.out)
  clear hPP hv hx hxl HNO
  have R0 : Hid (Wk.Ch ((w.alloc (.cells #[.int .i64 0, .int .i64 0, .int .i64 0, .int .i64 0, .int .i64 0, .int .i64 0, .int .i64 0, .int .i64 0, .slice none 0 0] 24)).alloc (.cells #[.int .i64 0, .int .i64 0, .int .i64 0, .int .i64 0, .int .i64 0, .int .i64 0, .int .i64 0, .int .i64 0, .slice none 0 0] 24)) w.heap.size Wk.c0 (.slice none 0 0)) := Wc.hid ((Wk.Ch.new w Wk.c0 (.slice none 0 0)).keep ((Below.refl _ _).alloc (Nat.le_refl _) _))
  have N0 : Hid (Wk.Ch ((w.alloc (.cells #[.int .i64 0, .int .i64 0, .int .i64 0, .int .i64 0, .int .i64 0, .int .i64 0, .int .i64 0, .int .i64 0, .slice none 0 0] 24)).alloc (.cells #[.int .i64 0, .int .i64 0, .int .i64 0, .int .i64 0, .int .i64 0, .int .i64 0, .int .i64 0, .int .i64 0, .slice none 0 0] 24)) (w.heap.size + 1) Wk.c0 (.slice none 0 0)) := Wc.hid (chAt (c := Wk.c0) (v := .slice none 0 0) _ (by simp))
  have B0 : Hid (Below w.heap.size w ((w.alloc (.cells #[.int .i64 0, .int .i64 0, .int .i64 0, .int .i64 0, .int .i64 0, .int .i64 0, .int .i64 0, .int .i64 0, .slice none 0 0] 24)).alloc (.cells #[.int .i64 0, .int .i64 0, .int .i64 0, .int .i64 0, .int .i64 0, .int .i64 0, .int .i64 0, .int .i64 0, .slice none 0 0] 24))) := Wc.hid (((Below.refl w.heap.size w).alloc (Nat.le_refl _) _).alloc (by simp) _)
  go_enter Try.func14, Try.ntmps14
  go_wp2_with fail
  go_loopw [8] (fun i wr => ∃ k : Nat, i = .int .i64 k ∧ k ≤ 4 ∧ k ≤ n ∧ Hid (∀ j, j < k → xs.getD j 0 = Wk.name.getD j 0) ∧ Hid (Wk.Ch wr w.heap.size Wk.c0 (.slice none 0 0)) ∧ Hid (Wk.Ch wr (w.heap.size + 1) Wk.c0 (.slice none 0 0)) ∧ Hid (Below w.heap.size w wr)) (fun i _ => 4 - (intOf i).toNat)
  case atStart => exact ⟨0, rfl, by omega, by omega, Wc.hid (fun j h => by omega), R0, N0, B0⟩
  case round =>
    obtain ⟨k, rfl, hk4, hkn, HJ, RR, NN, BB⟩ := hrel
    by_cases hlt : k < 4 ∧ k < n
    · have hcell := (BB.out.cell (p := ⟨b, off + k, none⟩) (Wc.cell_lt (HCL.out k hlt.2))).trans (HCL.out k hlt.2)
      obtain ⟨x, hxk⟩ : ∃ x, xs.getD k 0 = x := ⟨_, rfl⟩
      have HXK := Wc.hid hxk
      rw [hxk] at hcell
      clear hxk
      have hkn2 := hlt.2
      obtain rfl | rfl | rfl | rfl : k = 0 ∨ k = 1 ∨ k = 2 ∨ k = 3 := by omega
      · have gk : (0 : Int) < (n : Int) := by omega
        have hcell0 : wr.cell? ⟨b, off, none⟩ = some (.int .u8 x) := hcell
        by_cases hq : x = 70
        · have hqb : (x != ((((⟨#[70, 82, 65, 77]⟩ : ByteArray)[0]'(by decide)).toNat : Nat) : Int)) = false := by show (x != 70) = false; simpa using hq
          have HJ2 : Hid (∀ i, i < 1 → xs.getD i 0 = Wk.name.getD i 0) := Wc.hid (fun i hi => by
            by_cases e : i = 0
            · subst e; rw [HXK.out, hq]; rfl
            · exact HJ.out i (by omega))
          clear hq
          go_wp2
          go_quiet (fail)
          go_wp2
          go_roundw
          case rel => exact ⟨1, rfl, by omega, by omega, HJ2, Wc.hid (RR.out.keep (below_drewN (Below.refl _ _) nq)), Wc.hid (NN.out.keep (below_drewN (Below.refl _ _) nq)), Wc.hid (below_drewN BB.out nq)⟩
          case measure => simp [intOf]
        · have hqb : (x != ((((⟨#[70, 82, 65, 77]⟩ : ByteArray)[0]'(by decide)).toNat : Nat) : Int)) = true := by show (x != 70) = true; simpa using hq
          have HE : Hid (Wk.parE xs = 13) := Wc.hid (by
            have he := Wk.ext_name (name_no 0 (by omega) (by rw [HXL.out]; omega) (by rw [HXK.out]; exact hq))
            rw [Wk.parE_ext (by omega), he])
          clear hq
          have ⟨r0, r1, r2, r3, r4, r5, r6, r7, r8⟩ := RR.out.cc; have f0 := RR.out.frozen 0; have f1 := RR.out.frozen 1; have f2 := RR.out.frozen 2; have f3 := RR.out.frozen 3; have f4 := RR.out.frozen 4; have f5 := RR.out.frozen 5; have f6 := RR.out.frozen 6; have f7 := RR.out.frozen 7; have f8 := RR.out.frozen 8
          have ⟨n0, n1, n2, n3, n4, n5, n6, n7, n8⟩ := NN.out.cc
          go_wp2
          go_quiet (fail)
          go_wp2
          exact bodyPost_ret (ret_cell9q rfl rfl rfl rfl rfl ((RR.out.keep (below_drewN (Below.refl _ _) nq)).over Wk.c0 (.slice none 0 0)).cc) rfl (HN2.out 13 HE.out (by omega) _ (Wk.below_ovr (below_drewN BB.out nq) (Nat.le_refl _) Wk.c0 (.slice none 0 0)))
      · have gk : (1 : Int) < (n : Int) := by omega

        by_cases hq : x = 82
        · have hqb : (x != ((((⟨#[70, 82, 65, 77]⟩ : ByteArray)[1]'(by decide)).toNat : Nat) : Int)) = false := by show (x != 82) = false; simpa using hq
          have HJ2 : Hid (∀ i, i < 2 → xs.getD i 0 = Wk.name.getD i 0) := Wc.hid (fun i hi => by
            by_cases e : i = 1
            · subst e; rw [HXK.out, hq]; rfl
            · exact HJ.out i (by omega))
          clear hq
          go_wp2
          go_quiet (fail)
          go_wp2
          go_roundw
          case rel => exact ⟨2, rfl, by omega, by omega, HJ2, Wc.hid (RR.out.keep (below_drewN (Below.refl _ _) nq)), Wc.hid (NN.out.keep (below_drewN (Below.refl _ _) nq)), Wc.hid (below_drewN BB.out nq)⟩
          case measure => simp [intOf]
        · have hqb : (x != ((((⟨#[70, 82, 65, 77]⟩ : ByteArray)[1]'(by decide)).toNat : Nat) : Int)) = true := by show (x != 82) = true; simpa using hq
          have HE : Hid (Wk.parE xs = 13) := Wc.hid (by
            have he := Wk.ext_name (name_no 1 (by omega) (by rw [HXL.out]; omega) (by rw [HXK.out]; exact hq))
            rw [Wk.parE_ext (by omega), he])
          clear hq
          have ⟨r0, r1, r2, r3, r4, r5, r6, r7, r8⟩ := RR.out.cc; have f0 := RR.out.frozen 0; have f1 := RR.out.frozen 1; have f2 := RR.out.frozen 2; have f3 := RR.out.frozen 3; have f4 := RR.out.frozen 4; have f5 := RR.out.frozen 5; have f6 := RR.out.frozen 6; have f7 := RR.out.frozen 7; have f8 := RR.out.frozen 8
          have ⟨n0, n1, n2, n3, n4, n5, n6, n7, n8⟩ := NN.out.cc
          go_wp2
          go_quiet (fail)
          go_wp2
          exact bodyPost_ret (ret_cell9q rfl rfl rfl rfl rfl ((RR.out.keep (below_drewN (Below.refl _ _) nq)).over Wk.c0 (.slice none 0 0)).cc) rfl (HN2.out 13 HE.out (by omega) _ (Wk.below_ovr (below_drewN BB.out nq) (Nat.le_refl _) Wk.c0 (.slice none 0 0)))
      · have gk : (2 : Int) < (n : Int) := by omega

        by_cases hq : x = 65
        · have hqb : (x != ((((⟨#[70, 82, 65, 77]⟩ : ByteArray)[2]'(by decide)).toNat : Nat) : Int)) = false := by show (x != 65) = false; simpa using hq
          have HJ2 : Hid (∀ i, i < 3 → xs.getD i 0 = Wk.name.getD i 0) := Wc.hid (fun i hi => by
            by_cases e : i = 2
            · subst e; rw [HXK.out, hq]; rfl
            · exact HJ.out i (by omega))
          clear hq
          go_wp2
          go_quiet (fail)
          go_wp2
          go_roundw
          case rel => exact ⟨3, rfl, by omega, by omega, HJ2, Wc.hid (RR.out.keep (below_drewN (Below.refl _ _) nq)), Wc.hid (NN.out.keep (below_drewN (Below.refl _ _) nq)), Wc.hid (below_drewN BB.out nq)⟩
          case measure => simp [intOf]
        · have hqb : (x != ((((⟨#[70, 82, 65, 77]⟩ : ByteArray)[2]'(by decide)).toNat : Nat) : Int)) = true := by show (x != 65) = true; simpa using hq
          have HE : Hid (Wk.parE xs = 13) := Wc.hid (by
            have he := Wk.ext_name (name_no 2 (by omega) (by rw [HXL.out]; omega) (by rw [HXK.out]; exact hq))
            rw [Wk.parE_ext (by omega), he])
          clear hq
          have ⟨r0, r1, r2, r3, r4, r5, r6, r7, r8⟩ := RR.out.cc; have f0 := RR.out.frozen 0; have f1 := RR.out.frozen 1; have f2 := RR.out.frozen 2; have f3 := RR.out.frozen 3; have f4 := RR.out.frozen 4; have f5 := RR.out.frozen 5; have f6 := RR.out.frozen 6; have f7 := RR.out.frozen 7; have f8 := RR.out.frozen 8
          have ⟨n0, n1, n2, n3, n4, n5, n6, n7, n8⟩ := NN.out.cc
          go_wp2
          go_quiet (fail)
          go_wp2
          exact bodyPost_ret (ret_cell9q rfl rfl rfl rfl rfl ((RR.out.keep (below_drewN (Below.refl _ _) nq)).over Wk.c0 (.slice none 0 0)).cc) rfl (HN2.out 13 HE.out (by omega) _ (Wk.below_ovr (below_drewN BB.out nq) (Nat.le_refl _) Wk.c0 (.slice none 0 0)))
      · have gk : (3 : Int) < (n : Int) := by omega

        by_cases hq : x = 77
        · have hqb : (x != ((((⟨#[70, 82, 65, 77]⟩ : ByteArray)[3]'(by decide)).toNat : Nat) : Int)) = false := by show (x != 77) = false; simpa using hq
          have HJ2 : Hid (∀ i, i < 4 → xs.getD i 0 = Wk.name.getD i 0) := Wc.hid (fun i hi => by
            by_cases e : i = 3
            · subst e; rw [HXK.out, hq]; rfl
            · exact HJ.out i (by omega))
          clear hq
          go_wp2
          go_quiet (fail)
          go_wp2
          go_roundw
          case rel => exact ⟨4, rfl, by omega, by omega, HJ2, Wc.hid (RR.out.keep (below_drewN (Below.refl _ _) nq)), Wc.hid (NN.out.keep (below_drewN (Below.refl _ _) nq)), Wc.hid (below_drewN BB.out nq)⟩
          case measure => simp [intOf]
        · have hqb : (x != ((((⟨#[70, 82, 65, 77]⟩ : ByteArray)[3]'(by decide)).toNat : Nat) : Int)) = true := by show (x != 77) = true; simpa using hq
          have HE : Hid (Wk.parE xs = 13) := Wc.hid (by
            have he := Wk.ext_name (name_no 3 (by omega) (by rw [HXL.out]; omega) (by rw [HXK.out]; exact hq))
            rw [Wk.parE_ext (by omega), he])
          clear hq
          have ⟨r0, r1, r2, r3, r4, r5, r6, r7, r8⟩ := RR.out.cc; have f0 := RR.out.frozen 0; have f1 := RR.out.frozen 1; have f2 := RR.out.frozen 2; have f3 := RR.out.frozen 3; have f4 := RR.out.frozen 4; have f5 := RR.out.frozen 5; have f6 := RR.out.frozen 6; have f7 := RR.out.frozen 7; have f8 := RR.out.frozen 8
          have ⟨n0, n1, n2, n3, n4, n5, n6, n7, n8⟩ := NN.out.cc
          go_wp2
          go_quiet (fail)
          go_wp2
          exact bodyPost_ret (ret_cell9q rfl rfl rfl rfl rfl ((RR.out.keep (below_drewN (Below.refl _ _) nq)).over Wk.c0 (.slice none 0 0)).cc) rfl (HN2.out 13 HE.out (by omega) _ (Wk.below_ovr (below_drewN BB.out nq) (Nat.le_refl _) Wk.c0 (.slice none 0 0)))
    · have hnm := name_ok (xs := xs) n k HXL.out (by omega) HJ.out
      by_cases hs : n < 16
      · have HE : Hid (Wk.parE xs = 16) := Wc.hid (by
          have he := Wk.ext_short hnm (by rw [HXL.out]; exact hs)
          rw [Wk.parE_ext (by omega), he])
        have gs : (n : Int) < 16 := by omega
        clear hnm
        by_cases k4 : k = 4
        · subst k4
          have ⟨r0, r1, r2, r3, r4, r5, r6, r7, r8⟩ := RR.out.cc; have f0 := RR.out.frozen 0; have f1 := RR.out.frozen 1; have f2 := RR.out.frozen 2; have f3 := RR.out.frozen 3; have f4 := RR.out.frozen 4; have f5 := RR.out.frozen 5; have f6 := RR.out.frozen 6; have f7 := RR.out.frozen 7; have f8 := RR.out.frozen 8
          have ⟨n0, n1, n2, n3, n4, n5, n6, n7, n8⟩ := NN.out.cc
          go_wp2_with fail
          exact bodyPost_ret (ret_cell9q rfl rfl rfl rfl rfl (RR.out.over Wk.c0 (.slice none 0 0)).cc) rfl (HN2.out 16 HE.out (by omega) _ (Wk.below_ovr BB.out (Nat.le_refl _) Wk.c0 (.slice none 0 0)))
        · obtain rfl : k = n := by omega
          have g4 : (k : Int) < 4 := by omega
          have ⟨r0, r1, r2, r3, r4, r5, r6, r7, r8⟩ := RR.out.cc; have f0 := RR.out.frozen 0; have f1 := RR.out.frozen 1; have f2 := RR.out.frozen 2; have f3 := RR.out.frozen 3; have f4 := RR.out.frozen 4; have f5 := RR.out.frozen 5; have f6 := RR.out.frozen 6; have f7 := RR.out.frozen 7; have f8 := RR.out.frozen 8
          have ⟨n0, n1, n2, n3, n4, n5, n6, n7, n8⟩ := NN.out.cc
          go_wp2_with fail
          exact bodyPost_ret (ret_cell9q rfl rfl rfl rfl rfl (RR.out.over Wk.c0 (.slice none 0 0)).cc) rfl (HN2.out 16 HE.out (by omega) _ (Wk.below_ovr BB.out (Nat.le_refl _) Wk.c0 (.slice none 0 0)))
      · obtain rfl : k = 4 := by omega
        have gs : ¬ (n : Int) < 16 := by omega
        have hbd := Wk.num4_bd xs 12 HX.out
        obtain ⟨L, hL⟩ := Int.eq_ofNat_of_zero_le hbd.1
        have HL : Hid (Wc.val ((xs.drop 12).take 4) = (L : Int)) := Wc.hid hL
        have hext := Wk.ext_ok hnm (by rw [HXL.out]; omega)
        have hexl := Wk.ext_long hnm (by rw [HXL.out]; omega)
        have hexo := Wk.ext_open hnm (by rw [HXL.out]; omega)
        rw [hL] at hext hexl hexo hbd
        rw [HXL.out] at hext hexo
        have HPL : Hid (Wk.plen xs = L) := Wc.hid (by unfold Wk.plen; rw [hL]; rfl)
        have HL2 := Wc.hid hL
        clear hL hnm
        have V1 := Wc.hid (HV.out.keep BB.out)
        by_cases h1 : 520 < L
        · have HE : Hid (Wk.parE xs = 13) := Wc.hid (by have he := hexl (by omega); rw [Wk.parE_ext (by omega), he])
          clear hext hexl hexo
          go_wp2_with fail
          refine (refGet4_any b off n cap 12 xs _ V1.out (by omega) hcc.1 hcc.2).mono ?_
          rintro e w1 ⟨rfl, rfl⟩
          rw [HL.out]
          have ⟨r0, r1, r2, r3, r4, r5, r6, r7, r8⟩ := RR.out.cc; have f0 := RR.out.frozen 0; have f1 := RR.out.frozen 1; have f2 := RR.out.frozen 2; have f3 := RR.out.frozen 3; have f4 := RR.out.frozen 4; have f5 := RR.out.frozen 5; have f6 := RR.out.frozen 6; have f7 := RR.out.frozen 7; have f8 := RR.out.frozen 8
          have ⟨n0, n1, n2, n3, n4, n5, n6, n7, n8⟩ := NN.out.cc
          go_wp2_with fail
          exact bodyPost_ret (ret_cell9q rfl rfl rfl rfl rfl (RR.out.over Wk.c0 (.slice none 0 0)).cc) rfl (HN2.out 13 HE.out (by omega) _ (Wk.below_ovr BB.out (Nat.le_refl _) Wk.c0 (.slice none 0 0)))
        by_cases h2 : n < 20 + L
        · have HE : Hid (Wk.parE xs = 16) := Wc.hid (by have he := hexo (by omega) (by omega); rw [Wk.parE_ext (by omega), he])
          have g2 : (n : Int) < 20 + (L : Int) := by omega
          clear hext hexl hexo
          go_wp2_with fail
          refine (refGet4_any b off n cap 12 xs _ V1.out (by omega) hcc.1 hcc.2).mono ?_
          rintro e w1 ⟨rfl, rfl⟩
          rw [HL.out]
          have ⟨r0, r1, r2, r3, r4, r5, r6, r7, r8⟩ := RR.out.cc; have f0 := RR.out.frozen 0; have f1 := RR.out.frozen 1; have f2 := RR.out.frozen 2; have f3 := RR.out.frozen 3; have f4 := RR.out.frozen 4; have f5 := RR.out.frozen 5; have f6 := RR.out.frozen 6; have f7 := RR.out.frozen 7; have f8 := RR.out.frozen 8
          have ⟨n0, n1, n2, n3, n4, n5, n6, n7, n8⟩ := NN.out.cc
          go_wp2_with fail
          exact bodyPost_ret (ret_cell9q rfl rfl rfl rfl rfl (RR.out.over Wk.c0 (.slice none 0 0)).cc) rfl (HN2.out 16 HE.out (by omega) _ (Wk.below_ovr BB.out (Nat.le_refl _) Wk.c0 (.slice none 0 0)))
        have g2 : ¬ (n : Int) < 20 + (L : Int) := by omega
        have hE0 := hext (by omega) (by omega)
        have HE0 := Wc.hid hE0
        clear hext hexl hexo hE0
        have hmc : 20 + L ≤ cap := by omega
        go_wp2_with fail
        refine (refGet4_any b off n cap 12 xs _ V1.out (by omega) hcc.1 hcc.2).mono ?_
        rintro e w1 ⟨rfl, rfl⟩
        rw [HL.out]
        go_wp2_with fail
        refine (refGood_any _ _ _ (Wc.bs_take V1.out (20 + L) (by omega))).mono ?_
        rintro e w1 ⟨rfl, hb1⟩
        have RR1 := Wc.hid (RR.out.keep hb1)
        have NN1 := Wc.hid (NN.out.keep hb1)
        have BB1 := Wc.hid (Wc.step BB.out (Nat.le_refl _) hb1)
        have V2 := Wc.hid (HV.out.keep BB1.out)
        clear hb1 RR NN BB V1
        cases hg : Wc.goodB (xs.take (20 + L))
        · have HE : Hid (Wk.parE xs = 5) := Wc.hid (Wk.parE_sum HE0.out (by rw [HPL.out]; exact hg))
          clear hg
          have ⟨r0, r1, r2, r3, r4, r5, r6, r7, r8⟩ := RR1.out.cc; have f0 := RR1.out.frozen 0; have f1 := RR1.out.frozen 1; have f2 := RR1.out.frozen 2; have f3 := RR1.out.frozen 3; have f4 := RR1.out.frozen 4; have f5 := RR1.out.frozen 5; have f6 := RR1.out.frozen 6; have f7 := RR1.out.frozen 7; have f8 := RR1.out.frozen 8
          have ⟨n0, n1, n2, n3, n4, n5, n6, n7, n8⟩ := NN1.out.cc
          go_wp2_with fail
          exact bodyPost_ret (ret_cell9q rfl rfl rfl rfl rfl (RR1.out.over Wk.c0 (.slice none 0 0)).cc) rfl (HN2.out 5 HE.out (by omega) _ (Wk.below_ovr BB1.out (Nat.le_refl _) Wk.c0 (.slice none 0 0)))
        have HG : Hid (Wc.goodB (xs.take (20 + Wk.plen xs)) = true) := Wc.hid (by rw [HPL.out]; exact hg)
        clear hg
        have H8 : Hid (Wc.val ((xs.drop 8).take 4) = Ws.num xs 8 4) := Wc.hid rfl
        have H4 : Hid (Wc.val ((xs.drop 4).take 4) = Ws.num xs 4 4) := Wc.hid rfl
        have HBY : Hid (Wk.body xs = (xs.drop 16).take L) := Wc.hid (by unfold Wk.body; rw [HPL.out])
        obtain ⟨q, hq⟩ : ∃ q, L + 16 = q := ⟨_, rfl⟩
        have hwr : IntKind.i64.wrap (16 + (L : Int)) = (q : Int) := by rw [IntKind.wrap_i64]; omega
        have hw20 : IntKind.i64.wrap (20 + (L : Int)) = 20 + (L : Int) := by rw [IntKind.wrap_i64]; omega
        have hsl := slice_mid b off n cap L q hq.symm (by omega) (by omega)
        have HLC : Hid (L < cap - 16) := Wc.hid (by omega)
        have V2d := Wc.hid (V2.out.keep (show_drew (Below.refl _ _)))
        have VM : Hid (Wc.Bs w1.drew (.slice (some ⟨b, off + 16, none⟩) L (cap - 16)) ((xs.drop 16).take L)) := Wc.hid (Wc.bs_mid V2d.out 16 L (by omega))
        have ALZ := (Below.refl w1.heap.size w1).alloc (Nat.le_refl _) (.cells #[.int .i64 0, .int .i64 0, .int .i64 0, .int .i64 0, .int .i64 0, .int .i64 0, .int .i64 0, .int .i64 0, .slice none 0 0] 24)
        have V2e : Hid (Wc.Bs (w1.alloc (.cells #[.int .i64 0, .int .i64 0, .int .i64 0, .int .i64 0, .int .i64 0, .int .i64 0, .int .i64 0, .int .i64 0, .slice none 0 0] 24)).drew (.slice (some ⟨b, off, none⟩) n cap) xs) := Wc.hid ((V2.out.keep ALZ).keep (show_drew (Below.refl _ _)))
        have VMe : Hid (Wc.Bs (w1.alloc (.cells #[.int .i64 0, .int .i64 0, .int .i64 0, .int .i64 0, .int .i64 0, .int .i64 0, .int .i64 0, .int .i64 0, .slice none 0 0] 24)).drew (.slice (some ⟨b, off + 16, none⟩) L (cap - 16)) ((xs.drop 16).take L)) := Wc.hid (Wc.bs_mid V2e.out 16 L (by omega))
        have DE : Hid (Wk.Ch (w1.alloc (.cells #[.int .i64 0, .int .i64 0, .int .i64 0, .int .i64 0, .int .i64 0, .int .i64 0, .int .i64 0, .int .i64 0, .slice none 0 0] 24)).drew w1.heap.size Wk.c0 (.slice none 0 0)) := Wc.hid ((Wk.Ch.new w1 Wk.c0 (.slice none 0 0)).keep (show_drew (Below.refl _ _)))
        have RRe := Wc.hid ((RR1.out.keep ALZ).keep (show_drew (Below.refl _ _)))
        have NNe := Wc.hid ((NN1.out.keep ALZ).keep (show_drew (Below.refl _ _)))
        have BBe := Wc.hid (show_drew (Wc.step BB1.out (Nat.le_refl _) ALZ))
        clear ALZ
        clear hq
        cases hok : Wk.okB (Ws.num xs 8 4) (Wk.body xs)
        · have HE : Hid (Wk.parE xs = 13) := Wc.hid (Wk.parE_bad HE0.out HG.out hok)
          have HOK : Hid (Wk.okB (Ws.num xs 8 4) ((xs.drop 16).take L) = false) := Wc.hid (by rw [← HBY.out]; exact hok)
          clear hok
          go_wp2_with fail
          go_region_with (first | (go_at_call 31; refine (refGet4_any b off n cap 8 xs _ (by first | exact V2e.out | exact V2d.out) (by omega) hcc.1 hcc.2).mono ?_; rintro e w' ⟨rfl, rfl⟩; rw [H8.out]) | (go_at_call 33; refine (refCom_any (Ws.num xs 8 4) b (off + 16) L (cap - 16) _ _ (by first | exact VMe.out | exact VM.out) HLC.out).mono ?_; rintro e w3 ⟨c3, a3, q3, rfl, hr3, hO3, hb3⟩; rw [HOK.out]; unfold cv; try (have D3 := DE.out.keep hb3; have ⟨x0, x1, x2, x3, x4, x5, x6, x7, x8⟩ := D3.cc; have f0 := D3.frozen 0; have f1 := D3.frozen 1; have f2 := D3.frozen 2; have f3 := D3.frozen 3; have f4 := D3.frozen 4; have f5 := D3.frozen 5; have f6 := D3.frozen 6; have f7 := D3.frozen 7; have f8 := D3.frozen 8)))
          · skip
            have AL := (Below.refl w3.heap.size w3).alloc (Nat.le_refl _) (.cells #[.int .i64 c3.kind, .int .i64 c3.id, .int .i64 c3.parent, .int .i64 c3.size, .int .i64 c3.start, .int .i64 c3.count, .int .i64 c3.source, .int .i64 c3.digest, .slice a3 c3.data.length q3] 24)
            have RR := Wc.hid (((RR1.out.keep (show_drew (Below.refl _ _))).keep hb3).keep AL)
            have NN := Wc.hid (((NN1.out.keep (show_drew (Below.refl _ _))).keep hb3).keep AL)
            have DD := Wc.hid (Wk.Ch.new w3 c3 (.slice a3 c3.data.length q3))
            have BB := Wc.hid (Wc.step (Wc.step (show_drew BB1.out) (Nat.le_refl _) hb3) (Nat.le_refl _) AL)
            have OO := Wc.hid (hO3.keep AL)
            have HSZ : Hid (w.heap.size < w1.drew.heap.size) := Wc.hid RR1.out.lt
            have HCR := Wc.hid hr3
            clear AL hb3 hO3 hr3
            obtain ⟨W4, hW4⟩ : ∃ W4, w3.alloc (.cells #[.int .i64 c3.kind, .int .i64 c3.id, .int .i64 c3.parent, .int .i64 c3.size, .int .i64 c3.start, .int .i64 c3.count, .int .i64 c3.source, .int .i64 c3.digest, .slice a3 c3.data.length q3] 24) = W4 := ⟨_, rfl⟩
            rw [hW4] at RR NN DD BB OO ⊢
            clear hW4
            have ⟨r0, r1, r2, r3, r4, r5, r6, r7, r8⟩ := RR.out.cc; have f0 := RR.out.frozen 0; have f1 := RR.out.frozen 1; have f2 := RR.out.frozen 2; have f3 := RR.out.frozen 3; have f4 := RR.out.frozen 4; have f5 := RR.out.frozen 5; have f6 := RR.out.frozen 6; have f7 := RR.out.frozen 7; have f8 := RR.out.frozen 8
            have ⟨n0, n1, n2, n3, n4, n5, n6, n7, n8⟩ := NN.out.cc
            go_wp2_with fail
            exact bodyPost_ret (ret_cell9q rfl rfl rfl rfl rfl (RR.out.over Wk.c0 (.slice none 0 0)).cc) rfl (HN2.out 13 HE.out (by omega) _ (Wk.below_ovr BB.out (Nat.le_refl _) Wk.c0 (.slice none 0 0)))
          · skip
            have RR := Wc.hid (chOvr (RRe.out.keep hb3) (by have := RR1.out.lt; omega) c3 (.slice a3 c3.data.length q3) (P := w1.heap.size))
            have NN := Wc.hid (chOvr (NNe.out.keep hb3) (by have := NN1.out.lt; omega) c3 (.slice a3 c3.data.length q3) (P := w1.heap.size))
            have DD := Wc.hid (D3.over c3 (.slice a3 c3.data.length q3))
            have BB := Wc.hid (Wk.below_ovr (Wc.step BBe.out (Nat.le_refl _) hb3) (Nat.le_of_lt RR1.out.lt) c3 (.slice a3 c3.data.length q3) (R := w1.heap.size))
            have OO := Wc.hid (ob_ovr hO3 DE.out.lt c3 (.slice a3 c3.data.length q3))
            have HSZ := Wc.hid RRe.out.lt
            have HCR := Wc.hid hr3
            clear D3 x0 x1 x2 x3 x4 x5 x6 x7 x8 f0 f1 f2 f3 f4 f5 f6 f7 f8 hb3 hO3 hr3
            obtain ⟨W4, hW4⟩ : ∃ W4, Wk.ovr w3 w1.heap.size c3 (.slice a3 c3.data.length q3) = W4 := ⟨_, rfl⟩
            rw [hW4] at RR NN DD BB OO
            unfold Wk.ovr at hW4
            rw [hW4]
            clear hW4
            have ⟨r0, r1, r2, r3, r4, r5, r6, r7, r8⟩ := RR.out.cc; have f0 := RR.out.frozen 0; have f1 := RR.out.frozen 1; have f2 := RR.out.frozen 2; have f3 := RR.out.frozen 3; have f4 := RR.out.frozen 4; have f5 := RR.out.frozen 5; have f6 := RR.out.frozen 6; have f7 := RR.out.frozen 7; have f8 := RR.out.frozen 8
            have ⟨n0, n1, n2, n3, n4, n5, n6, n7, n8⟩ := NN.out.cc
            go_wp2_with fail
            exact bodyPost_ret (ret_cell9q rfl rfl rfl rfl rfl (RR.out.over Wk.c0 (.slice none 0 0)).cc) rfl (HN2.out 13 HE.out (by omega) _ (Wk.below_ovr BB.out (Nat.le_refl _) Wk.c0 (.slice none 0 0)))
          · skip
            have RR := Wc.hid (chOvr (RRe.out.keep hb3) (by have := RR1.out.lt; omega) c3 (.slice a3 c3.data.length q3) (P := w1.heap.size))
            have NN := Wc.hid (chOvr (NNe.out.keep hb3) (by have := NN1.out.lt; omega) c3 (.slice a3 c3.data.length q3) (P := w1.heap.size))
            have DD := Wc.hid (D3.over c3 (.slice a3 c3.data.length q3))
            have BB := Wc.hid (Wk.below_ovr (Wc.step BBe.out (Nat.le_refl _) hb3) (Nat.le_of_lt RR1.out.lt) c3 (.slice a3 c3.data.length q3) (R := w1.heap.size))
            have OO := Wc.hid (ob_ovr hO3 DE.out.lt c3 (.slice a3 c3.data.length q3))
            have HSZ := Wc.hid RRe.out.lt
            have HCR := Wc.hid hr3
            clear D3 x0 x1 x2 x3 x4 x5 x6 x7 x8 f0 f1 f2 f3 f4 f5 f6 f7 f8 hb3 hO3 hr3
            obtain ⟨W4, hW4⟩ : ∃ W4, Wk.ovr w3 w1.heap.size c3 (.slice a3 c3.data.length q3) = W4 := ⟨_, rfl⟩
            rw [hW4] at RR NN DD BB OO
            unfold Wk.ovr at hW4
            rw [hW4]
            clear hW4
            have ⟨r0, r1, r2, r3, r4, r5, r6, r7, r8⟩ := RR.out.cc; have f0 := RR.out.frozen 0; have f1 := RR.out.frozen 1; have f2 := RR.out.frozen 2; have f3 := RR.out.frozen 3; have f4 := RR.out.frozen 4; have f5 := RR.out.frozen 5; have f6 := RR.out.frozen 6; have f7 := RR.out.frozen 7; have f8 := RR.out.frozen 8
            have ⟨n0, n1, n2, n3, n4, n5, n6, n7, n8⟩ := NN.out.cc
            go_wp2_with fail
            exact bodyPost_ret (ret_cell9q rfl rfl rfl rfl rfl (RR.out.over Wk.c0 (.slice none 0 0)).cc) rfl (HN2.out 13 HE.out (by omega) _ (Wk.below_ovr BB.out (Nat.le_refl _) Wk.c0 (.slice none 0 0)))
        · have hp := Wk.parE_ok HE0.out HG.out hok
          have hy := Wk.par_yes hp
          have HOK : Hid (Wk.okB (Ws.num xs 8 4) ((xs.drop 16).take L) = true) := Wc.hid (by rw [← HBY.out]; exact hok)
          have HPO : Hid (∀ c a q w', c = Wk.raw (Ws.num xs 8 4) ((xs.drop 16).take L) → Wc.Bs w' (.slice a c.data.length q) c.data → Below w.heap.size w w' → PP (.returned (.tuple #[cv c (.slice a c.data.length q), .int .i64 (Ws.num xs 4 4), .int .i64 (20 + (L : Int)), .int .i64 0])) w') := Wc.hid (by
            intro c a q w' hc hbs hbw
            rw [← HPP.out]
            subst hc
            have e1 := hy.1
            rw [HBY.out] at e1
            refine ⟨a, q, ?_, ?_, hbw⟩
            · rw [e1, hy.2.1, hy.2.2, HL2.out, hp]
            · rw [e1]; exact hbs)
          clear hok hp hy
          go_wp2_with fail
          go_region_with (first | (go_at_call 31; refine (refGet4_any b off n cap 8 xs _ (by first | exact V2e.out | exact V2d.out) (by omega) hcc.1 hcc.2).mono ?_; rintro e w' ⟨rfl, rfl⟩; rw [H8.out]) | (go_at_call 33; refine (refCom_any (Ws.num xs 8 4) b (off + 16) L (cap - 16) _ _ (by first | exact VMe.out | exact VM.out) HLC.out).mono ?_; rintro e w3 ⟨c3, a3, q3, rfl, hr3, hO3, hb3⟩; rw [HOK.out]; unfold cv; try (have D3 := DE.out.keep hb3; have ⟨x0, x1, x2, x3, x4, x5, x6, x7, x8⟩ := D3.cc; have f0 := D3.frozen 0; have f1 := D3.frozen 1; have f2 := D3.frozen 2; have f3 := D3.frozen 3; have f4 := D3.frozen 4; have f5 := D3.frozen 5; have f6 := D3.frozen 6; have f7 := D3.frozen 7; have f8 := D3.frozen 8)))
          · skip
            have AL := (Below.refl w3.heap.size w3).alloc (Nat.le_refl _) (.cells #[.int .i64 c3.kind, .int .i64 c3.id, .int .i64 c3.parent, .int .i64 c3.size, .int .i64 c3.start, .int .i64 c3.count, .int .i64 c3.source, .int .i64 c3.digest, .slice a3 c3.data.length q3] 24)
            have RR := Wc.hid (((RR1.out.keep (show_drew (Below.refl _ _))).keep hb3).keep AL)
            have NN := Wc.hid (((NN1.out.keep (show_drew (Below.refl _ _))).keep hb3).keep AL)
            have DD := Wc.hid (Wk.Ch.new w3 c3 (.slice a3 c3.data.length q3))
            have BB := Wc.hid (Wc.step (Wc.step (show_drew BB1.out) (Nat.le_refl _) hb3) (Nat.le_refl _) AL)
            have OO := Wc.hid (hO3.keep AL)
            have HSZ : Hid (w.heap.size < w1.drew.heap.size) := Wc.hid RR1.out.lt
            have HCR := Wc.hid hr3
            clear AL hb3 hO3 hr3
            obtain ⟨W4, hW4⟩ : ∃ W4, w3.alloc (.cells #[.int .i64 c3.kind, .int .i64 c3.id, .int .i64 c3.parent, .int .i64 c3.size, .int .i64 c3.start, .int .i64 c3.count, .int .i64 c3.source, .int .i64 c3.digest, .slice a3 c3.data.length q3] 24) = W4 := ⟨_, rfl⟩
            rw [hW4] at RR NN DD BB OO ⊢
            clear hW4
            have V4 := Wc.hid (HV.out.keep (show_drew BB.out))
            have ⟨r0, r1, r2, r3, r4, r5, r6, r7, r8⟩ := RR.out.cc; have f0 := RR.out.frozen 0; have f1 := RR.out.frozen 1; have f2 := RR.out.frozen 2; have f3 := RR.out.frozen 3; have f4 := RR.out.frozen 4; have f5 := RR.out.frozen 5; have f6 := RR.out.frozen 6; have f7 := RR.out.frozen 7; have f8 := RR.out.frozen 8
            have ⟨n0, n1, n2, n3, n4, n5, n6, n7, n8⟩ := DD.out.cc
            go_wp2_with fail
            go_region_with (go_at_call 31; refine (refGet4_any b off n cap 4 xs _ (by exact V4.out) (by omega) hcc.1 hcc.2).mono ?_; rintro e w' ⟨rfl, rfl⟩; rw [H4.out])
            all_goals go_wp2_with fail
            all_goals exact bodyPost_ret (ret_cell9q rfl rfl rfl rfl rfl ((RR.out.over c3 (.slice a3 c3.data.length q3)).keep (show_drew (Below.refl _ _))).cc) rfl (HPO.out c3 a3 q3 _ (HCR.out HOK.out) (((ob_ovr OO.out HSZ.out c3 (.slice a3 c3.data.length q3)).keep (show_drew (Below.refl _ _))).bs) (show_drew (Wk.below_ovr BB.out (Nat.le_refl _) c3 (.slice a3 c3.data.length q3))))
          · skip
            have RR := Wc.hid (chOvr (RRe.out.keep hb3) (by have := RR1.out.lt; omega) c3 (.slice a3 c3.data.length q3) (P := w1.heap.size))
            have NN := Wc.hid (chOvr (NNe.out.keep hb3) (by have := NN1.out.lt; omega) c3 (.slice a3 c3.data.length q3) (P := w1.heap.size))
            have DD := Wc.hid (D3.over c3 (.slice a3 c3.data.length q3))
            have BB := Wc.hid (Wk.below_ovr (Wc.step BBe.out (Nat.le_refl _) hb3) (Nat.le_of_lt RR1.out.lt) c3 (.slice a3 c3.data.length q3) (R := w1.heap.size))
            have OO := Wc.hid (ob_ovr hO3 DE.out.lt c3 (.slice a3 c3.data.length q3))
            have HSZ := Wc.hid RRe.out.lt
            have HCR := Wc.hid hr3
            clear D3 x0 x1 x2 x3 x4 x5 x6 x7 x8 f0 f1 f2 f3 f4 f5 f6 f7 f8 hb3 hO3 hr3
            obtain ⟨W4, hW4⟩ : ∃ W4, Wk.ovr w3 w1.heap.size c3 (.slice a3 c3.data.length q3) = W4 := ⟨_, rfl⟩
            rw [hW4] at RR NN DD BB OO
            unfold Wk.ovr at hW4
            rw [hW4]
            clear hW4
            have V4 := Wc.hid (HV.out.keep (show_drew BB.out))
            have ⟨r0, r1, r2, r3, r4, r5, r6, r7, r8⟩ := RR.out.cc; have f0 := RR.out.frozen 0; have f1 := RR.out.frozen 1; have f2 := RR.out.frozen 2; have f3 := RR.out.frozen 3; have f4 := RR.out.frozen 4; have f5 := RR.out.frozen 5; have f6 := RR.out.frozen 6; have f7 := RR.out.frozen 7; have f8 := RR.out.frozen 8
            have ⟨n0, n1, n2, n3, n4, n5, n6, n7, n8⟩ := DD.out.cc
            go_wp2_with fail
            go_region_with (go_at_call 31; refine (refGet4_any b off n cap 4 xs _ (by exact V4.out) (by omega) hcc.1 hcc.2).mono ?_; rintro e w' ⟨rfl, rfl⟩; rw [H4.out])
            all_goals go_wp2_with fail
            all_goals exact bodyPost_ret (ret_cell9q rfl rfl rfl rfl rfl ((RR.out.over c3 (.slice a3 c3.data.length q3)).keep (show_drew (Below.refl _ _))).cc) rfl (HPO.out c3 a3 q3 _ (HCR.out HOK.out) (((ob_ovr OO.out HSZ.out c3 (.slice a3 c3.data.length q3)).keep (show_drew (Below.refl _ _))).bs) (show_drew (Wk.below_ovr BB.out (Nat.le_refl _) c3 (.slice a3 c3.data.length q3))))
          · skip
            have RR := Wc.hid (chOvr (RRe.out.keep hb3) (by have := RR1.out.lt; omega) c3 (.slice a3 c3.data.length q3) (P := w1.heap.size))
            have NN := Wc.hid (chOvr (NNe.out.keep hb3) (by have := NN1.out.lt; omega) c3 (.slice a3 c3.data.length q3) (P := w1.heap.size))
            have DD := Wc.hid (D3.over c3 (.slice a3 c3.data.length q3))
            have BB := Wc.hid (Wk.below_ovr (Wc.step BBe.out (Nat.le_refl _) hb3) (Nat.le_of_lt RR1.out.lt) c3 (.slice a3 c3.data.length q3) (R := w1.heap.size))
            have OO := Wc.hid (ob_ovr hO3 DE.out.lt c3 (.slice a3 c3.data.length q3))
            have HSZ := Wc.hid RRe.out.lt
            have HCR := Wc.hid hr3
            clear D3 x0 x1 x2 x3 x4 x5 x6 x7 x8 f0 f1 f2 f3 f4 f5 f6 f7 f8 hb3 hO3 hr3
            obtain ⟨W4, hW4⟩ : ∃ W4, Wk.ovr w3 w1.heap.size c3 (.slice a3 c3.data.length q3) = W4 := ⟨_, rfl⟩
            rw [hW4] at RR NN DD BB OO
            unfold Wk.ovr at hW4
            rw [hW4]
            clear hW4
            have V4 := Wc.hid (HV.out.keep (show_drew BB.out))
            have ⟨r0, r1, r2, r3, r4, r5, r6, r7, r8⟩ := RR.out.cc; have f0 := RR.out.frozen 0; have f1 := RR.out.frozen 1; have f2 := RR.out.frozen 2; have f3 := RR.out.frozen 3; have f4 := RR.out.frozen 4; have f5 := RR.out.frozen 5; have f6 := RR.out.frozen 6; have f7 := RR.out.frozen 7; have f8 := RR.out.frozen 8
            have ⟨n0, n1, n2, n3, n4, n5, n6, n7, n8⟩ := DD.out.cc
            go_wp2_with fail
            go_region_with (go_at_call 31; refine (refGet4_any b off n cap 4 xs _ (by exact V4.out) (by omega) hcc.1 hcc.2).mono ?_; rintro e w' ⟨rfl, rfl⟩; rw [H4.out])
            all_goals go_wp2_with fail
            all_goals exact bodyPost_ret (ret_cell9q rfl rfl rfl rfl rfl ((RR.out.over c3 (.slice a3 c3.data.length q3)).keep (show_drew (Below.refl _ _))).cc) rfl (HPO.out c3 a3 q3 _ (HCR.out HOK.out) (((ob_ovr OO.out HSZ.out c3 (.slice a3 c3.data.length q3)).keep (show_drew (Below.refl _ _))).bs) (show_drew (Wk.below_ovr BB.out (Nat.le_refl _) c3 (.slice a3 c3.data.length q3))))

end Go.Proofs.Ytfejabeifabdlaa
