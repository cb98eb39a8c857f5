/-
  What the page's Command returns, of kind 3.
-/
import Derived.Test.YtfejabeifabdlaaFchk
namespace Go.Proofs.Ytfejabeifabdlaa
open Go.RowKit

set_option maxRecDepth 100000 in
set_option maxHeartbeats 3200000 in
theorem refCmd_3 (i p z f n s d : Int) (D : List Int) (a : Option Addr) (cap : Nat) (w : World) (hl : D.length ≤ 140737488355328) (hf : -9223372036854775808 ≤ f ∧ f ≤ 9223372036854775807) (hn : -9223372036854775808 ≤ n ∧ n ≤ 9223372036854775807) :
    Calls Try.prog 17 #[cv ⟨3, i, p, z, f, n, s, d, D⟩ (.slice a D.length cap)] w fun e w' => e = .returned (.bool (Wk.cmdB ⟨3, i, p, z, f, n, s, d, D⟩)) ∧ Below w.heap.size w w' := by
  have HD : Hid (Wk.cmdB ⟨3, i, p, z, f, n, s, d, D⟩ = (Wk.fldB ⟨3, i, p, z, f, n, s, d, D⟩ && Wk.bareB ⟨3, i, p, z, f, n, s, d, D⟩)) := Wc.hid rfl
  have HFL := Wc.hid (Wk.fld3 (c := ⟨3, i, p, z, f, n, s, d, D⟩) rfl)
  have HBR := Wc.hid (Wk.bare3 (c := ⟨3, i, p, z, f, n, s, d, D⟩) rfl)
  generalize Wk.cmdB ⟨3, i, p, z, f, n, s, d, D⟩ = R at HD ⊢
  generalize Wk.fldB ⟨3, i, p, z, f, n, s, d, D⟩ = F1 at HD HFL
  generalize Wk.bareB ⟨3, i, p, z, f, n, s, d, D⟩ = F2 at HD HBR
  simp only at HFL HBR
  have hqd : (D.length : Int).tdiv 64 = (D.length : Int) / 64 := by rw [Int.tdiv_eq_ediv_of_nonneg (by omega)]
  unfold cv
  cases hr : Wk.runB f n
  · have E : Hid (R = false) := Wc.hid (by rw [HD.out, HFL.out]; rw [hr]; rfl)
    clear HD HFL HBR
    go_enter Try.func17, Try.ntmps17
    go_wp2_with (first | (go_at_call 36; refine (refRun_any _ _ _ (by omega) (by omega)).mono ?_; rintro e w' ⟨rfl, rfl⟩; first | rw [hr] | rw [hr2]))
    go_ret
    exact ⟨ret_bool E.out.symm, by first | exact ((Below.refl w.heap.size w).alloc (Nat.le_refl _) _).alloc (by simp) _ | exact show_drew (((Below.refl w.heap.size w).alloc (Nat.le_refl _) _).alloc (by simp) _)⟩
  have E0 : Hid (R = F2) := Wc.hid (by rw [HD.out, HFL.out]; rw [hr]; rfl)
  clear HD HFL
  cases y1 : ((0 : Int) == i)
  · have E : Hid (R = false) := Wc.hid (by
      rw [E0.out, Bool.eq_false_iff]
      intro h
      have := HBR.out.1 h
      simp at y1
      omega)
    clear E0 HBR
    go_enter Try.func17, Try.ntmps17
    go_wp2_with (first | (go_at_call 36; refine (refRun_any _ _ _ (by omega) (by omega)).mono ?_; rintro e w' ⟨rfl, rfl⟩; first | rw [hr] | rw [hr2]))
    go_region
    go_wp2_with fail
    go_ret
    exact ⟨ret_bool E.out.symm, by first | exact ((Below.refl w.heap.size w).alloc (Nat.le_refl _) _).alloc (by simp) _ | exact show_drew (((Below.refl w.heap.size w).alloc (Nat.le_refl _) _).alloc (by simp) _)⟩
  cases y2 : ((0 : Int) == p)
  · have E : Hid (R = false) := Wc.hid (by
      rw [E0.out, Bool.eq_false_iff]
      intro h
      have := HBR.out.1 h
      simp at y2
      omega)
    clear E0 HBR
    go_enter Try.func17, Try.ntmps17
    go_wp2_with (first | (go_at_call 36; refine (refRun_any _ _ _ (by omega) (by omega)).mono ?_; rintro e w' ⟨rfl, rfl⟩; first | rw [hr] | rw [hr2]))
    go_region
    go_wp2_with fail
    go_ret
    exact ⟨ret_bool E.out.symm, by first | exact ((Below.refl w.heap.size w).alloc (Nat.le_refl _) _).alloc (by simp) _ | exact show_drew (((Below.refl w.heap.size w).alloc (Nat.le_refl _) _).alloc (by simp) _)⟩
  cases y3 : ((0 : Int) == z)
  · have E : Hid (R = false) := Wc.hid (by
      rw [E0.out, Bool.eq_false_iff]
      intro h
      have := HBR.out.1 h
      simp at y3
      omega)
    clear E0 HBR
    go_enter Try.func17, Try.ntmps17
    go_wp2_with (first | (go_at_call 36; refine (refRun_any _ _ _ (by omega) (by omega)).mono ?_; rintro e w' ⟨rfl, rfl⟩; first | rw [hr] | rw [hr2]))
    go_region
    go_wp2_with fail
    go_ret
    exact ⟨ret_bool E.out.symm, by first | exact ((Below.refl w.heap.size w).alloc (Nat.le_refl _) _).alloc (by simp) _ | exact show_drew (((Below.refl w.heap.size w).alloc (Nat.le_refl _) _).alloc (by simp) _)⟩
  cases y6 : ((0 : Int) == s)
  · have E : Hid (R = false) := Wc.hid (by
      rw [E0.out, Bool.eq_false_iff]
      intro h
      have := HBR.out.1 h
      simp at y6
      omega)
    clear E0 HBR
    go_enter Try.func17, Try.ntmps17
    go_wp2_with (first | (go_at_call 36; refine (refRun_any _ _ _ (by omega) (by omega)).mono ?_; rintro e w' ⟨rfl, rfl⟩; first | rw [hr] | rw [hr2]))
    go_region
    go_wp2_with fail
    go_ret
    exact ⟨ret_bool E.out.symm, by first | exact ((Below.refl w.heap.size w).alloc (Nat.le_refl _) _).alloc (by simp) _ | exact show_drew (((Below.refl w.heap.size w).alloc (Nat.le_refl _) _).alloc (by simp) _)⟩
  cases y7 : ((0 : Int) == d)
  · have E : Hid (R = false) := Wc.hid (by
      rw [E0.out, Bool.eq_false_iff]
      intro h
      have := HBR.out.1 h
      simp at y7
      omega)
    clear E0 HBR
    go_enter Try.func17, Try.ntmps17
    go_wp2_with (first | (go_at_call 36; refine (refRun_any _ _ _ (by omega) (by omega)).mono ?_; rintro e w' ⟨rfl, rfl⟩; first | rw [hr] | rw [hr2]))
    go_region
    go_wp2_with fail
    go_ret
    exact ⟨ret_bool E.out.symm, by first | exact ((Below.refl w.heap.size w).alloc (Nat.le_refl _) _).alloc (by simp) _ | exact show_drew (((Below.refl w.heap.size w).alloc (Nat.le_refl _) _).alloc (by simp) _)⟩
  by_cases y8 : D.length = 0
  · have E : Hid (R = true) := Wc.hid (by
      rw [E0.out, HBR.out]
      simp at y1 y2 y3 y6 y7
      refine ⟨List.eq_nil_of_length_eq_zero y8, ?_⟩
      omega)
    have y9 : ((D.length : Int) == 0) = true := by simpa using y8
    clear E0 HBR
    go_enter Try.func17, Try.ntmps17
    go_wp2_with (first | (go_at_call 36; refine (refRun_any _ _ _ (by omega) (by omega)).mono ?_; rintro e w' ⟨rfl, rfl⟩; first | rw [hr] | rw [hr2]))
    go_region
    go_wp2_with fail
    go_ret
    exact ⟨ret_bool E.out.symm, by first | exact ((Below.refl w.heap.size w).alloc (Nat.le_refl _) _).alloc (by simp) _ | exact show_drew (((Below.refl w.heap.size w).alloc (Nat.le_refl _) _).alloc (by simp) _)⟩
  · have E : Hid (R = false) := Wc.hid (by
      rw [E0.out, Bool.eq_false_iff]
      intro h
      have := (HBR.out.1 h).1
      rw [this] at y8
      exact y8 rfl)
    have y9 : ((D.length : Int) == 0) = false := by simpa using y8
    clear E0 HBR
    go_enter Try.func17, Try.ntmps17
    go_wp2_with (first | (go_at_call 36; refine (refRun_any _ _ _ (by omega) (by omega)).mono ?_; rintro e w' ⟨rfl, rfl⟩; first | rw [hr] | rw [hr2]))
    go_region
    go_wp2_with fail
    go_ret
    exact ⟨ret_bool E.out.symm, by first | exact ((Below.refl w.heap.size w).alloc (Nat.le_refl _) _).alloc (by simp) _ | exact show_drew (((Below.refl w.heap.size w).alloc (Nat.le_refl _) _).alloc (by simp) _)⟩

end Go.Proofs.Ytfejabeifabdlaa
