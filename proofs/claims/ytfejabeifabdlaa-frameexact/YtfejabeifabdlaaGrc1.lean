/-
  What the page's Command returns, of kind 1.
-/
import Derived.Test.YtfejabeifabdlaaFchk
namespace Go.Proofs.Ytfejabeifabdlaa
open Go.RowKit

/-- How the page tells a right parent. -/
theorem parB_page {p n : Int} (h : Wr.idB n = true) : Wr.parB p n = (!(p != 0 && !Wr.idB p || p == n)) := by
  have hn := Wr.idB_iff.1 h
  unfold Wr.parB
  cases hq : Wr.idB p
  · rw [Bool.eq_iff_iff]; simp; omega
  · rw [Bool.eq_iff_iff]; simp; omega

set_option maxRecDepth 100000 in
set_option maxHeartbeats 3200000 in
theorem refCmd_1 (i p z f n s d : Int) (D : List Int) (a : Option Addr) (cap : Nat) (w : World) (hl : D.length ≤ 140737488355328) :
    Calls Try.prog 17 #[cv ⟨1, i, p, z, f, n, s, d, D⟩ (.slice a D.length cap)] w fun e w' => e = .returned (.bool (Wk.cmdB ⟨1, i, p, z, f, n, s, d, D⟩)) ∧ Below w.heap.size w w' := by
  have HD : Hid (Wk.cmdB ⟨1, i, p, z, f, n, s, d, D⟩ = (Wk.fldB ⟨1, i, p, z, f, n, s, d, D⟩ && Wk.bareB ⟨1, i, p, z, f, n, s, d, D⟩)) := Wc.hid rfl
  have HFL := Wc.hid (Wk.fld1 (c := ⟨1, i, p, z, f, n, s, d, D⟩) rfl)
  have HBR := Wc.hid (Wk.bare1 (c := ⟨1, i, p, z, f, n, s, d, D⟩) rfl)
  generalize Wk.cmdB ⟨1, i, p, z, f, n, s, d, D⟩ = R at HD ⊢
  generalize Wk.fldB ⟨1, i, p, z, f, n, s, d, D⟩ = F1 at HD HFL
  generalize Wk.bareB ⟨1, i, p, z, f, n, s, d, D⟩ = F2 at HD HBR
  simp only at HFL HBR
  have hqd : (D.length : Int).tdiv 64 = (D.length : Int) / 64 := by rw [Int.tdiv_eq_ediv_of_nonneg (by omega)]
  unfold cv
  cases h1 : Wr.idB i
  · have E : Hid (R = false) := Wc.hid (by rw [HD.out, HFL.out]; rw [h1]; rfl)
    clear HD HFL HBR
    go_enter Try.func17, Try.ntmps17
    go_wp2_with (first | (go_at_call 34; refine (refIde_any _ _).mono ?_; rintro e w' ⟨rfl, rfl⟩; first | rw [h1] | rw [hq]))
    go_ret
    exact ⟨ret_bool E.out.symm, by first | exact ((Below.refl w.heap.size w).alloc (Nat.le_refl _) _).alloc (by simp) _ | exact show_drew (((Below.refl w.heap.size w).alloc (Nat.le_refl _) _).alloc (by simp) _)⟩
  have HP := Wc.hid (parB_page (p := p) h1)
  cases hp : (p != 0) <;> cases hq : Wr.idB p <;> cases hs' : (p == i) <;> rw [hp, hq, hs'] at HP
  · cases hz : (decide (0 ≤ z) && decide (z ≤ 512))
    · have E : Hid (R = false) := Wc.hid (by rw [HD.out, HFL.out]; unfold Wk.szB; rw [h1, HP.out, hz]; rfl)
      clear HD HFL HBR
      go_enter Try.func17, Try.ntmps17
      go_wp2_with (first | (go_at_call 34; refine (refIde_any _ _).mono ?_; rintro e w' ⟨rfl, rfl⟩; first | rw [h1] | rw [hq]) | (go_at_call 35; refine (refIn_any _ _ _ _).mono ?_; rintro e w' ⟨rfl, rfl⟩; first | rw [hz] | rw [hc] | rw [hg]))
      go_ret
      exact ⟨ret_bool E.out.symm, by first | exact ((Below.refl w.heap.size w).alloc (Nat.le_refl _) _).alloc (by simp) _ | exact show_drew (((Below.refl w.heap.size w).alloc (Nat.le_refl _) _).alloc (by simp) _)⟩
    cases hc : (decide (0 ≤ n) && decide (n ≤ 65535))
    · have E : Hid (R = false) := Wc.hid (by rw [HD.out, HFL.out]; unfold Wk.szB Wk.cntB; rw [h1, HP.out, hz, hc]; rfl)
      clear HD HFL HBR
      go_enter Try.func17, Try.ntmps17
      go_wp2_with (first | (go_at_call 34; refine (refIde_any _ _).mono ?_; rintro e w' ⟨rfl, rfl⟩; first | rw [h1] | rw [hq]) | (go_at_call 35; refine (refIn_any _ _ _ _).mono ?_; rintro e w' ⟨rfl, rfl⟩; first | rw [hz] | rw [hc] | rw [hg]))
      go_ret
      exact ⟨ret_bool E.out.symm, by first | exact ((Below.refl w.heap.size w).alloc (Nat.le_refl _) _).alloc (by simp) _ | exact show_drew (((Below.refl w.heap.size w).alloc (Nat.le_refl _) _).alloc (by simp) _)⟩
    have E0 : Hid (R = F2) := Wc.hid (by rw [HD.out, HFL.out]; unfold Wk.szB Wk.cntB; rw [h1, HP.out, hz, hc]; rfl)
    clear HD HFL
    cases y4 : ((0 : Int) == f)
    · have E : Hid (R = false) := Wc.hid (by
        rw [E0.out, Bool.eq_false_iff]
        intro h
        have := HBR.out.1 h
        simp at y4
        omega)
      clear E0 HBR
      go_enter Try.func17, Try.ntmps17
      go_wp2_with (first | (go_at_call 34; refine (refIde_any _ _).mono ?_; rintro e w' ⟨rfl, rfl⟩; first | rw [h1] | rw [hq]) | (go_at_call 35; refine (refIn_any _ _ _ _).mono ?_; rintro e w' ⟨rfl, rfl⟩; first | rw [hz] | rw [hc] | rw [hg]))
      go_region
      go_wp2_with fail
      go_ret
      exact ⟨ret_bool E.out.symm, by first | exact ((Below.refl w.heap.size w).alloc (Nat.le_refl _) _).alloc (by simp) _ | exact show_drew (((Below.refl w.heap.size w).alloc (Nat.le_refl _) _).alloc (by simp) _)⟩
    cases y6 : ((0 : Int) == s)
    · have E : Hid (R = false) := Wc.hid (by
        rw [E0.out, Bool.eq_false_iff]
        intro h
        have := HBR.out.1 h
        simp at y6
        omega)
      clear E0 HBR
      go_enter Try.func17, Try.ntmps17
      go_wp2_with (first | (go_at_call 34; refine (refIde_any _ _).mono ?_; rintro e w' ⟨rfl, rfl⟩; first | rw [h1] | rw [hq]) | (go_at_call 35; refine (refIn_any _ _ _ _).mono ?_; rintro e w' ⟨rfl, rfl⟩; first | rw [hz] | rw [hc] | rw [hg]))
      go_region
      go_wp2_with fail
      go_ret
      exact ⟨ret_bool E.out.symm, by first | exact ((Below.refl w.heap.size w).alloc (Nat.le_refl _) _).alloc (by simp) _ | exact show_drew (((Below.refl w.heap.size w).alloc (Nat.le_refl _) _).alloc (by simp) _)⟩
    cases y7 : ((0 : Int) == d)
    · have E : Hid (R = false) := Wc.hid (by
        rw [E0.out, Bool.eq_false_iff]
        intro h
        have := HBR.out.1 h
        simp at y7
        omega)
      clear E0 HBR
      go_enter Try.func17, Try.ntmps17
      go_wp2_with (first | (go_at_call 34; refine (refIde_any _ _).mono ?_; rintro e w' ⟨rfl, rfl⟩; first | rw [h1] | rw [hq]) | (go_at_call 35; refine (refIn_any _ _ _ _).mono ?_; rintro e w' ⟨rfl, rfl⟩; first | rw [hz] | rw [hc] | rw [hg]))
      go_region
      go_wp2_with fail
      go_ret
      exact ⟨ret_bool E.out.symm, by first | exact ((Below.refl w.heap.size w).alloc (Nat.le_refl _) _).alloc (by simp) _ | exact show_drew (((Below.refl w.heap.size w).alloc (Nat.le_refl _) _).alloc (by simp) _)⟩
    by_cases y8 : D.length = 0
    · have E : Hid (R = true) := Wc.hid (by
        rw [E0.out, HBR.out]
        simp at y4 y6 y7
        refine ⟨List.eq_nil_of_length_eq_zero y8, ?_⟩
        omega)
      have y9 : ((D.length : Int) == 0) = true := by simpa using y8
      clear E0 HBR
      go_enter Try.func17, Try.ntmps17
      go_wp2_with (first | (go_at_call 34; refine (refIde_any _ _).mono ?_; rintro e w' ⟨rfl, rfl⟩; first | rw [h1] | rw [hq]) | (go_at_call 35; refine (refIn_any _ _ _ _).mono ?_; rintro e w' ⟨rfl, rfl⟩; first | rw [hz] | rw [hc] | rw [hg]))
      go_region
      go_wp2_with fail
      go_ret
      exact ⟨ret_bool E.out.symm, by first | exact ((Below.refl w.heap.size w).alloc (Nat.le_refl _) _).alloc (by simp) _ | exact show_drew (((Below.refl w.heap.size w).alloc (Nat.le_refl _) _).alloc (by simp) _)⟩
    · have E : Hid (R = false) := Wc.hid (by
        rw [E0.out, Bool.eq_false_iff]
        intro h
        have := (HBR.out.1 h).1
        rw [this] at y8
        exact y8 rfl)
      have y9 : ((D.length : Int) == 0) = false := by simpa using y8
      clear E0 HBR
      go_enter Try.func17, Try.ntmps17
      go_wp2_with (first | (go_at_call 34; refine (refIde_any _ _).mono ?_; rintro e w' ⟨rfl, rfl⟩; first | rw [h1] | rw [hq]) | (go_at_call 35; refine (refIn_any _ _ _ _).mono ?_; rintro e w' ⟨rfl, rfl⟩; first | rw [hz] | rw [hc] | rw [hg]))
      go_region
      go_wp2_with fail
      go_ret
      exact ⟨ret_bool E.out.symm, by first | exact ((Below.refl w.heap.size w).alloc (Nat.le_refl _) _).alloc (by simp) _ | exact show_drew (((Below.refl w.heap.size w).alloc (Nat.le_refl _) _).alloc (by simp) _)⟩
  · have E : Hid (R = false) := Wc.hid (by rw [HD.out, HFL.out]; rw [h1, HP.out]; rfl)
    clear HD HFL HBR
    go_enter Try.func17, Try.ntmps17
    go_wp2_with (first | (go_at_call 34; refine (refIde_any _ _).mono ?_; rintro e w' ⟨rfl, rfl⟩; first | rw [h1] | rw [hq]) | (go_at_call 35; refine (refIn_any _ _ _ _).mono ?_; rintro e w' ⟨rfl, rfl⟩; first | rw [hz] | rw [hc] | rw [hg]))
    go_ret
    exact ⟨ret_bool E.out.symm, by first | exact ((Below.refl w.heap.size w).alloc (Nat.le_refl _) _).alloc (by simp) _ | exact show_drew (((Below.refl w.heap.size w).alloc (Nat.le_refl _) _).alloc (by simp) _)⟩
  · cases hz : (decide (0 ≤ z) && decide (z ≤ 512))
    · have E : Hid (R = false) := Wc.hid (by rw [HD.out, HFL.out]; unfold Wk.szB; rw [h1, HP.out, hz]; rfl)
      clear HD HFL HBR
      go_enter Try.func17, Try.ntmps17
      go_wp2_with (first | (go_at_call 34; refine (refIde_any _ _).mono ?_; rintro e w' ⟨rfl, rfl⟩; first | rw [h1] | rw [hq]) | (go_at_call 35; refine (refIn_any _ _ _ _).mono ?_; rintro e w' ⟨rfl, rfl⟩; first | rw [hz] | rw [hc] | rw [hg]))
      go_ret
      exact ⟨ret_bool E.out.symm, by first | exact ((Below.refl w.heap.size w).alloc (Nat.le_refl _) _).alloc (by simp) _ | exact show_drew (((Below.refl w.heap.size w).alloc (Nat.le_refl _) _).alloc (by simp) _)⟩
    cases hc : (decide (0 ≤ n) && decide (n ≤ 65535))
    · have E : Hid (R = false) := Wc.hid (by rw [HD.out, HFL.out]; unfold Wk.szB Wk.cntB; rw [h1, HP.out, hz, hc]; rfl)
      clear HD HFL HBR
      go_enter Try.func17, Try.ntmps17
      go_wp2_with (first | (go_at_call 34; refine (refIde_any _ _).mono ?_; rintro e w' ⟨rfl, rfl⟩; first | rw [h1] | rw [hq]) | (go_at_call 35; refine (refIn_any _ _ _ _).mono ?_; rintro e w' ⟨rfl, rfl⟩; first | rw [hz] | rw [hc] | rw [hg]))
      go_ret
      exact ⟨ret_bool E.out.symm, by first | exact ((Below.refl w.heap.size w).alloc (Nat.le_refl _) _).alloc (by simp) _ | exact show_drew (((Below.refl w.heap.size w).alloc (Nat.le_refl _) _).alloc (by simp) _)⟩
    have E0 : Hid (R = F2) := Wc.hid (by rw [HD.out, HFL.out]; unfold Wk.szB Wk.cntB; rw [h1, HP.out, hz, hc]; rfl)
    clear HD HFL
    cases y4 : ((0 : Int) == f)
    · have E : Hid (R = false) := Wc.hid (by
        rw [E0.out, Bool.eq_false_iff]
        intro h
        have := HBR.out.1 h
        simp at y4
        omega)
      clear E0 HBR
      go_enter Try.func17, Try.ntmps17
      go_wp2_with (first | (go_at_call 34; refine (refIde_any _ _).mono ?_; rintro e w' ⟨rfl, rfl⟩; first | rw [h1] | rw [hq]) | (go_at_call 35; refine (refIn_any _ _ _ _).mono ?_; rintro e w' ⟨rfl, rfl⟩; first | rw [hz] | rw [hc] | rw [hg]))
      go_region
      go_wp2_with fail
      go_ret
      exact ⟨ret_bool E.out.symm, by first | exact ((Below.refl w.heap.size w).alloc (Nat.le_refl _) _).alloc (by simp) _ | exact show_drew (((Below.refl w.heap.size w).alloc (Nat.le_refl _) _).alloc (by simp) _)⟩
    cases y6 : ((0 : Int) == s)
    · have E : Hid (R = false) := Wc.hid (by
        rw [E0.out, Bool.eq_false_iff]
        intro h
        have := HBR.out.1 h
        simp at y6
        omega)
      clear E0 HBR
      go_enter Try.func17, Try.ntmps17
      go_wp2_with (first | (go_at_call 34; refine (refIde_any _ _).mono ?_; rintro e w' ⟨rfl, rfl⟩; first | rw [h1] | rw [hq]) | (go_at_call 35; refine (refIn_any _ _ _ _).mono ?_; rintro e w' ⟨rfl, rfl⟩; first | rw [hz] | rw [hc] | rw [hg]))
      go_region
      go_wp2_with fail
      go_ret
      exact ⟨ret_bool E.out.symm, by first | exact ((Below.refl w.heap.size w).alloc (Nat.le_refl _) _).alloc (by simp) _ | exact show_drew (((Below.refl w.heap.size w).alloc (Nat.le_refl _) _).alloc (by simp) _)⟩
    cases y7 : ((0 : Int) == d)
    · have E : Hid (R = false) := Wc.hid (by
        rw [E0.out, Bool.eq_false_iff]
        intro h
        have := HBR.out.1 h
        simp at y7
        omega)
      clear E0 HBR
      go_enter Try.func17, Try.ntmps17
      go_wp2_with (first | (go_at_call 34; refine (refIde_any _ _).mono ?_; rintro e w' ⟨rfl, rfl⟩; first | rw [h1] | rw [hq]) | (go_at_call 35; refine (refIn_any _ _ _ _).mono ?_; rintro e w' ⟨rfl, rfl⟩; first | rw [hz] | rw [hc] | rw [hg]))
      go_region
      go_wp2_with fail
      go_ret
      exact ⟨ret_bool E.out.symm, by first | exact ((Below.refl w.heap.size w).alloc (Nat.le_refl _) _).alloc (by simp) _ | exact show_drew (((Below.refl w.heap.size w).alloc (Nat.le_refl _) _).alloc (by simp) _)⟩
    by_cases y8 : D.length = 0
    · have E : Hid (R = true) := Wc.hid (by
        rw [E0.out, HBR.out]
        simp at y4 y6 y7
        refine ⟨List.eq_nil_of_length_eq_zero y8, ?_⟩
        omega)
      have y9 : ((D.length : Int) == 0) = true := by simpa using y8
      clear E0 HBR
      go_enter Try.func17, Try.ntmps17
      go_wp2_with (first | (go_at_call 34; refine (refIde_any _ _).mono ?_; rintro e w' ⟨rfl, rfl⟩; first | rw [h1] | rw [hq]) | (go_at_call 35; refine (refIn_any _ _ _ _).mono ?_; rintro e w' ⟨rfl, rfl⟩; first | rw [hz] | rw [hc] | rw [hg]))
      go_region
      go_wp2_with fail
      go_ret
      exact ⟨ret_bool E.out.symm, by first | exact ((Below.refl w.heap.size w).alloc (Nat.le_refl _) _).alloc (by simp) _ | exact show_drew (((Below.refl w.heap.size w).alloc (Nat.le_refl _) _).alloc (by simp) _)⟩
    · have E : Hid (R = false) := Wc.hid (by
        rw [E0.out, Bool.eq_false_iff]
        intro h
        have := (HBR.out.1 h).1
        rw [this] at y8
        exact y8 rfl)
      have y9 : ((D.length : Int) == 0) = false := by simpa using y8
      clear E0 HBR
      go_enter Try.func17, Try.ntmps17
      go_wp2_with (first | (go_at_call 34; refine (refIde_any _ _).mono ?_; rintro e w' ⟨rfl, rfl⟩; first | rw [h1] | rw [hq]) | (go_at_call 35; refine (refIn_any _ _ _ _).mono ?_; rintro e w' ⟨rfl, rfl⟩; first | rw [hz] | rw [hc] | rw [hg]))
      go_region
      go_wp2_with fail
      go_ret
      exact ⟨ret_bool E.out.symm, by first | exact ((Below.refl w.heap.size w).alloc (Nat.le_refl _) _).alloc (by simp) _ | exact show_drew (((Below.refl w.heap.size w).alloc (Nat.le_refl _) _).alloc (by simp) _)⟩
  · have E : Hid (R = false) := Wc.hid (by rw [HD.out, HFL.out]; rw [h1, HP.out]; rfl)
    clear HD HFL HBR
    go_enter Try.func17, Try.ntmps17
    go_wp2_with (first | (go_at_call 34; refine (refIde_any _ _).mono ?_; rintro e w' ⟨rfl, rfl⟩; first | rw [h1] | rw [hq]) | (go_at_call 35; refine (refIn_any _ _ _ _).mono ?_; rintro e w' ⟨rfl, rfl⟩; first | rw [hz] | rw [hc] | rw [hg]))
    go_ret
    exact ⟨ret_bool E.out.symm, by first | exact ((Below.refl w.heap.size w).alloc (Nat.le_refl _) _).alloc (by simp) _ | exact show_drew (((Below.refl w.heap.size w).alloc (Nat.le_refl _) _).alloc (by simp) _)⟩
  · have E : Hid (R = false) := Wc.hid (by rw [HD.out, HFL.out]; rw [h1, HP.out]; rfl)
    clear HD HFL HBR
    go_enter Try.func17, Try.ntmps17
    go_wp2_with (first | (go_at_call 34; refine (refIde_any _ _).mono ?_; rintro e w' ⟨rfl, rfl⟩; first | rw [h1] | rw [hq]) | (go_at_call 35; refine (refIn_any _ _ _ _).mono ?_; rintro e w' ⟨rfl, rfl⟩; first | rw [hz] | rw [hc] | rw [hg]))
    go_ret
    exact ⟨ret_bool E.out.symm, by first | exact ((Below.refl w.heap.size w).alloc (Nat.le_refl _) _).alloc (by simp) _ | exact show_drew (((Below.refl w.heap.size w).alloc (Nat.le_refl _) _).alloc (by simp) _)⟩
  · have E : Hid (R = false) := Wc.hid (by rw [HD.out, HFL.out]; rw [h1, HP.out]; rfl)
    clear HD HFL HBR
    go_enter Try.func17, Try.ntmps17
    go_wp2_with (first | (go_at_call 34; refine (refIde_any _ _).mono ?_; rintro e w' ⟨rfl, rfl⟩; first | rw [h1] | rw [hq]) | (go_at_call 35; refine (refIn_any _ _ _ _).mono ?_; rintro e w' ⟨rfl, rfl⟩; first | rw [hz] | rw [hc] | rw [hg]))
    go_ret
    exact ⟨ret_bool E.out.symm, by first | exact ((Below.refl w.heap.size w).alloc (Nat.le_refl _) _).alloc (by simp) _ | exact show_drew (((Below.refl w.heap.size w).alloc (Nat.le_refl _) _).alloc (by simp) _)⟩
  · cases hz : (decide (0 ≤ z) && decide (z ≤ 512))
    · have E : Hid (R = false) := Wc.hid (by rw [HD.out, HFL.out]; unfold Wk.szB; rw [h1, HP.out, hz]; rfl)
      clear HD HFL HBR
      go_enter Try.func17, Try.ntmps17
      go_wp2_with (first | (go_at_call 34; refine (refIde_any _ _).mono ?_; rintro e w' ⟨rfl, rfl⟩; first | rw [h1] | rw [hq]) | (go_at_call 35; refine (refIn_any _ _ _ _).mono ?_; rintro e w' ⟨rfl, rfl⟩; first | rw [hz] | rw [hc] | rw [hg]))
      go_ret
      exact ⟨ret_bool E.out.symm, by first | exact ((Below.refl w.heap.size w).alloc (Nat.le_refl _) _).alloc (by simp) _ | exact show_drew (((Below.refl w.heap.size w).alloc (Nat.le_refl _) _).alloc (by simp) _)⟩
    cases hc : (decide (0 ≤ n) && decide (n ≤ 65535))
    · have E : Hid (R = false) := Wc.hid (by rw [HD.out, HFL.out]; unfold Wk.szB Wk.cntB; rw [h1, HP.out, hz, hc]; rfl)
      clear HD HFL HBR
      go_enter Try.func17, Try.ntmps17
      go_wp2_with (first | (go_at_call 34; refine (refIde_any _ _).mono ?_; rintro e w' ⟨rfl, rfl⟩; first | rw [h1] | rw [hq]) | (go_at_call 35; refine (refIn_any _ _ _ _).mono ?_; rintro e w' ⟨rfl, rfl⟩; first | rw [hz] | rw [hc] | rw [hg]))
      go_ret
      exact ⟨ret_bool E.out.symm, by first | exact ((Below.refl w.heap.size w).alloc (Nat.le_refl _) _).alloc (by simp) _ | exact show_drew (((Below.refl w.heap.size w).alloc (Nat.le_refl _) _).alloc (by simp) _)⟩
    have E0 : Hid (R = F2) := Wc.hid (by rw [HD.out, HFL.out]; unfold Wk.szB Wk.cntB; rw [h1, HP.out, hz, hc]; rfl)
    clear HD HFL
    cases y4 : ((0 : Int) == f)
    · have E : Hid (R = false) := Wc.hid (by
        rw [E0.out, Bool.eq_false_iff]
        intro h
        have := HBR.out.1 h
        simp at y4
        omega)
      clear E0 HBR
      go_enter Try.func17, Try.ntmps17
      go_wp2_with (first | (go_at_call 34; refine (refIde_any _ _).mono ?_; rintro e w' ⟨rfl, rfl⟩; first | rw [h1] | rw [hq]) | (go_at_call 35; refine (refIn_any _ _ _ _).mono ?_; rintro e w' ⟨rfl, rfl⟩; first | rw [hz] | rw [hc] | rw [hg]))
      go_region
      go_wp2_with fail
      go_ret
      exact ⟨ret_bool E.out.symm, by first | exact ((Below.refl w.heap.size w).alloc (Nat.le_refl _) _).alloc (by simp) _ | exact show_drew (((Below.refl w.heap.size w).alloc (Nat.le_refl _) _).alloc (by simp) _)⟩
    cases y6 : ((0 : Int) == s)
    · have E : Hid (R = false) := Wc.hid (by
        rw [E0.out, Bool.eq_false_iff]
        intro h
        have := HBR.out.1 h
        simp at y6
        omega)
      clear E0 HBR
      go_enter Try.func17, Try.ntmps17
      go_wp2_with (first | (go_at_call 34; refine (refIde_any _ _).mono ?_; rintro e w' ⟨rfl, rfl⟩; first | rw [h1] | rw [hq]) | (go_at_call 35; refine (refIn_any _ _ _ _).mono ?_; rintro e w' ⟨rfl, rfl⟩; first | rw [hz] | rw [hc] | rw [hg]))
      go_region
      go_wp2_with fail
      go_ret
      exact ⟨ret_bool E.out.symm, by first | exact ((Below.refl w.heap.size w).alloc (Nat.le_refl _) _).alloc (by simp) _ | exact show_drew (((Below.refl w.heap.size w).alloc (Nat.le_refl _) _).alloc (by simp) _)⟩
    cases y7 : ((0 : Int) == d)
    · have E : Hid (R = false) := Wc.hid (by
        rw [E0.out, Bool.eq_false_iff]
        intro h
        have := HBR.out.1 h
        simp at y7
        omega)
      clear E0 HBR
      go_enter Try.func17, Try.ntmps17
      go_wp2_with (first | (go_at_call 34; refine (refIde_any _ _).mono ?_; rintro e w' ⟨rfl, rfl⟩; first | rw [h1] | rw [hq]) | (go_at_call 35; refine (refIn_any _ _ _ _).mono ?_; rintro e w' ⟨rfl, rfl⟩; first | rw [hz] | rw [hc] | rw [hg]))
      go_region
      go_wp2_with fail
      go_ret
      exact ⟨ret_bool E.out.symm, by first | exact ((Below.refl w.heap.size w).alloc (Nat.le_refl _) _).alloc (by simp) _ | exact show_drew (((Below.refl w.heap.size w).alloc (Nat.le_refl _) _).alloc (by simp) _)⟩
    by_cases y8 : D.length = 0
    · have E : Hid (R = true) := Wc.hid (by
        rw [E0.out, HBR.out]
        simp at y4 y6 y7
        refine ⟨List.eq_nil_of_length_eq_zero y8, ?_⟩
        omega)
      have y9 : ((D.length : Int) == 0) = true := by simpa using y8
      clear E0 HBR
      go_enter Try.func17, Try.ntmps17
      go_wp2_with (first | (go_at_call 34; refine (refIde_any _ _).mono ?_; rintro e w' ⟨rfl, rfl⟩; first | rw [h1] | rw [hq]) | (go_at_call 35; refine (refIn_any _ _ _ _).mono ?_; rintro e w' ⟨rfl, rfl⟩; first | rw [hz] | rw [hc] | rw [hg]))
      go_region
      go_wp2_with fail
      go_ret
      exact ⟨ret_bool E.out.symm, by first | exact ((Below.refl w.heap.size w).alloc (Nat.le_refl _) _).alloc (by simp) _ | exact show_drew (((Below.refl w.heap.size w).alloc (Nat.le_refl _) _).alloc (by simp) _)⟩
    · have E : Hid (R = false) := Wc.hid (by
        rw [E0.out, Bool.eq_false_iff]
        intro h
        have := (HBR.out.1 h).1
        rw [this] at y8
        exact y8 rfl)
      have y9 : ((D.length : Int) == 0) = false := by simpa using y8
      clear E0 HBR
      go_enter Try.func17, Try.ntmps17
      go_wp2_with (first | (go_at_call 34; refine (refIde_any _ _).mono ?_; rintro e w' ⟨rfl, rfl⟩; first | rw [h1] | rw [hq]) | (go_at_call 35; refine (refIn_any _ _ _ _).mono ?_; rintro e w' ⟨rfl, rfl⟩; first | rw [hz] | rw [hc] | rw [hg]))
      go_region
      go_wp2_with fail
      go_ret
      exact ⟨ret_bool E.out.symm, by first | exact ((Below.refl w.heap.size w).alloc (Nat.le_refl _) _).alloc (by simp) _ | exact show_drew (((Below.refl w.heap.size w).alloc (Nat.le_refl _) _).alloc (by simp) _)⟩
  · have E : Hid (R = false) := Wc.hid (by rw [HD.out, HFL.out]; rw [h1, HP.out]; rfl)
    clear HD HFL HBR
    go_enter Try.func17, Try.ntmps17
    go_wp2_with (first | (go_at_call 34; refine (refIde_any _ _).mono ?_; rintro e w' ⟨rfl, rfl⟩; first | rw [h1] | rw [hq]) | (go_at_call 35; refine (refIn_any _ _ _ _).mono ?_; rintro e w' ⟨rfl, rfl⟩; first | rw [hz] | rw [hc] | rw [hg]))
    go_ret
    exact ⟨ret_bool E.out.symm, by first | exact ((Below.refl w.heap.size w).alloc (Nat.le_refl _) _).alloc (by simp) _ | exact show_drew (((Below.refl w.heap.size w).alloc (Nat.le_refl _) _).alloc (by simp) _)⟩

end Go.Proofs.Ytfejabeifabdlaa
