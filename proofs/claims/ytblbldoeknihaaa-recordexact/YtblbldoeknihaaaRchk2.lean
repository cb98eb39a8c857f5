/-
  What record.Check and the page's Record return, for every record.
-/
import Derived.Test.YtblbldoeknihaaaRchk
namespace Go.Proofs.Ytblbldoeknihaaa
open Go.RowKit

set_option maxHeartbeats 3200000 in
theorem check8_any (r : Wr.Rec) (w : World) :
    Calls Try.prog 12 #[rv r] w fun e w' => e = .returned (.int .i64 (Wr.recE r)) ∧ Below w.heap.size w w' := by
  have hdef : Wr.recB r = (Ws.linkB r.next 4096 && (Ws.linkB r.root 4096 && (Wr.idB r.id && (Wr.parB r.parent r.id && ((decide (0 ≤ r.size) && decide (r.size ≤ 512)) && Wr.kindB r.kind r.frames r.digest))))) := rfl
  have HD := Wc.hid hdef
  clear hdef
  unfold rv
  go_enter Try.func12, Try.ntmps12
  cases h1 : Ws.linkB r.next 4096
  · have E := Wc.hid (Wr.recE_no (by rw [HD.out, h1]; simp))
    go_wp2_with (first | (go_at_call 27; refine (leads8_any _ _).mono ?_; rintro e w' ⟨rfl, rfl⟩; rw [h1]))
    go_ret
    exact ⟨by rw [E.out]; rfl, (Below.refl _ _).alloc (Nat.le_refl _) _⟩
  cases h2 : Ws.linkB r.root 4096
  · have E := Wc.hid (Wr.recE_no (by rw [HD.out, h1, h2]; simp))
    go_wp2_with (first | (go_at_call 27; refine (leads8_any _ _).mono ?_; rintro e w' ⟨rfl, rfl⟩; first | rw [h1] | rw [h2]))
    go_ret
    exact ⟨by rw [E.out]; rfl, (Below.refl _ _).alloc (Nat.le_refl _) _⟩
  cases h3 : Wr.idB r.id
  · have E := Wc.hid (Wr.recE_no (by rw [HD.out, h1, h2, h3]; simp))
    go_wp2_with (first | (go_at_call 27; refine (leads8_any _ _).mono ?_; rintro e w' ⟨rfl, rfl⟩; first | rw [h1] | rw [h2]) | (go_at_call 28; refine (ide_any _ _).mono ?_; rintro e w' ⟨rfl, rfl⟩; rw [Wr.idE_no h3]))
    go_ret
    exact ⟨by rw [E.out]; rfl, (Below.refl _ _).alloc (Nat.le_refl _) _⟩
  cases h4 : Wr.parB r.parent r.id
  · have E := Wc.hid (Wr.recE_no (by rw [HD.out, h1, h2, h3, h4]; simp))
    go_wp2_with (first | (go_at_call 27; refine (leads8_any _ _).mono ?_; rintro e w' ⟨rfl, rfl⟩; first | rw [h1] | rw [h2]) | (go_at_call 28; refine (ide_any _ _).mono ?_; rintro e w' ⟨rfl, rfl⟩; rw [Wr.idE_yes h3]) | (go_at_call 29; refine (rightParent_any _ _ _).mono ?_; rintro e w' ⟨rfl, rfl⟩; rw [h4]))
    go_ret
    exact ⟨by rw [E.out]; rfl, (Below.refl _ _).alloc (Nat.le_refl _) _⟩
  cases h5 : (decide (0 ≤ r.size) && decide (r.size ≤ 512))
  · have E := Wc.hid (Wr.recE_no (by rw [HD.out, h1, h2, h3, h4, h5]; simp))
    go_wp2_with (first | (go_at_call 27; refine (leads8_any _ _).mono ?_; rintro e w' ⟨rfl, rfl⟩; first | rw [h1] | rw [h2]) | (go_at_call 28; refine (ide_any _ _).mono ?_; rintro e w' ⟨rfl, rfl⟩; rw [Wr.idE_yes h3]) | (go_at_call 29; refine (rightParent_any _ _ _).mono ?_; rintro e w' ⟨rfl, rfl⟩; rw [h4]) | (go_at_call 30; refine (within8_any _ _ _ _).mono ?_; rintro e w' ⟨rfl, rfl⟩; rw [h5]))
    go_ret
    exact ⟨by rw [E.out]; rfl, (Below.refl _ _).alloc (Nat.le_refl _) _⟩
  have HB := Wc.hid ((Below.refl w.heap.size w).alloc (Nat.le_refl _) (.cells #[.int .i64 r.next, .int .i64 r.id, .int .i64 r.parent, .int .i64 r.root, .int .i64 r.size, .int .i64 r.kind, .int .i64 r.frames, .int .i64 r.digest] 23))
  have HD2 : Hid (Wr.recB r = Wr.kindB r.kind r.frames r.digest) := Wc.hid (by rw [HD.out, h1, h2, h3, h4, h5]; simp)
  go_wp2_with (first | (go_at_call 27; refine (leads8_any _ _).mono ?_; rintro e w' ⟨rfl, rfl⟩; first | rw [h1] | rw [h2]) | (go_at_call 28; refine (ide_any _ _).mono ?_; rintro e w' ⟨rfl, rfl⟩; rw [Wr.idE_yes h3]) | (go_at_call 29; refine (rightParent_any _ _ _).mono ?_; rintro e w' ⟨rfl, rfl⟩; rw [h4]) | (go_at_call 30; refine (within8_any _ _ _ _).mono ?_; rintro e w' ⟨rfl, rfl⟩; rw [h5]))
  refine (rightKind_any r _).mono ?_
  rintro e w1 ⟨rfl, hb1⟩
  have HB1 := Wc.hid (Wc.step HB.out (Nat.le_refl _) hb1)
  clear hb1 HB h1 h2 h3 h4 h5
  cases h6 : Wr.kindB r.kind r.frames r.digest
  · have E := Wc.hid (Wr.recE_no (HD2.out.trans h6))
    go_wp2_with fail
    go_ret
    exact ⟨by rw [E.out]; rfl, HB1.out⟩
  · have E := Wc.hid (Wr.recE_yes (HD2.out.trans h6))
    go_wp2_with fail
    go_ret
    exact ⟨by rw [E.out]; rfl, HB1.out⟩

/-- How the page tells a right parent. -/
theorem parB_page {p n : Int} (h : Wr.idB n = true) : Wr.parB p n = (!(p != 0 && !Wr.idB p || p == n)) := by
  have hn := Wr.idB_iff.1 h
  unfold Wr.parB
  cases hq : Wr.idB p
  · rw [Bool.eq_iff_iff]; simp; omega
  · rw [Bool.eq_iff_iff]; simp; omega

set_option maxHeartbeats 3200000 in
theorem refRecord_any (r : Wr.Rec) (w : World) :
    Calls Try.prog 11 #[rv r] w fun e w' => e = .returned (.bool (Wr.recB r)) ∧ Below w.heap.size w w' := by
  have hm : (4 : Int) ≤ 4096 ∧ (4096 : Int) ≤ 4096 := by omega
  have hdef : Wr.recB r = (Ws.linkB r.next 4096 && (Ws.linkB r.root 4096 && (Wr.idB r.id && (Wr.parB r.parent r.id && ((decide (0 ≤ r.size) && decide (r.size ≤ 512)) && Wr.kindB r.kind r.frames r.digest))))) := rfl
  have HD := Wc.hid hdef
  clear hdef
  unfold rv
  go_enter Try.func11, Try.ntmps11
  cases h1 : Ws.linkB r.next 4096
  · have E : Hid (Wr.recB r = false) := Wc.hid (by rw [HD.out, h1]; simp)
    go_wp2_with (first | (go_at_call 24; refine (link_any _ _ _ hm).mono ?_; rintro e w' ⟨rfl, rfl⟩; rw [h1]))
    go_ret
    exact ⟨by rw [E.out]; rfl, (Below.refl _ _).alloc (Nat.le_refl _) _⟩
  cases h2 : Ws.linkB r.root 4096
  · have E : Hid (Wr.recB r = false) := Wc.hid (by rw [HD.out, h1, h2]; simp)
    go_wp2_with (first | (go_at_call 24; refine (link_any _ _ _ hm).mono ?_; rintro e w' ⟨rfl, rfl⟩; first | rw [h1] | rw [h2]))
    go_ret
    exact ⟨by rw [E.out]; rfl, (Below.refl _ _).alloc (Nat.le_refl _) _⟩
  cases h3 : Wr.idB r.id
  · have E : Hid (Wr.recB r = false) := Wc.hid (by rw [HD.out, h1, h2, h3]; simp)
    go_wp2_with (first | (go_at_call 24; refine (link_any _ _ _ hm).mono ?_; rintro e w' ⟨rfl, rfl⟩; first | rw [h1] | rw [h2]) | (go_at_call 25; refine (refIde_any _ _).mono ?_; rintro e w' ⟨rfl, rfl⟩; rw [h3]))
    go_ret
    exact ⟨by rw [E.out]; rfl, (Below.refl _ _).alloc (Nat.le_refl _) _⟩
  have HP := Wc.hid (parB_page (p := r.parent) h3)
  cases hp : (r.parent != 0) <;> cases hq : Wr.idB r.parent <;> cases hs : (r.parent == r.id) <;> rw [hp, hq, hs] at HP
  · cases h5 : (decide (0 ≤ r.size) && decide (r.size ≤ 512))
    · have E : Hid (Wr.recB r = false) := Wc.hid (by rw [HD.out, h1, h2, h3, HP.out, h5]; simp)
      go_wp2_with (first | (go_at_call 24; refine (link_any _ _ _ hm).mono ?_; rintro e w' ⟨rfl, rfl⟩; first | rw [h1] | rw [h2]) | (go_at_call 25; refine (refIde_any _ _).mono ?_; rintro e w' ⟨rfl, rfl⟩; first | rw [h3] | rw [hq]) | (go_at_call 26; refine (refIn_any _ _ _ _).mono ?_; rintro e w' ⟨rfl, rfl⟩; rw [h5]))
      go_ret
      exact ⟨by rw [E.out]; rfl, (Below.refl _ _).alloc (Nat.le_refl _) _⟩
    · have E : Hid (Wr.recB r = Wr.kindB r.kind r.frames r.digest) := Wc.hid (by rw [HD.out, h1, h2, h3, HP.out, h5]; simp)
      go_wp2_with (first | (go_at_call 24; refine (link_any _ _ _ hm).mono ?_; rintro e w' ⟨rfl, rfl⟩; first | rw [h1] | rw [h2]) | (go_at_call 25; refine (refIde_any _ _).mono ?_; rintro e w' ⟨rfl, rfl⟩; first | rw [h3] | rw [hq]) | (go_at_call 26; refine (refIn_any _ _ _ _).mono ?_; rintro e w' ⟨rfl, rfl⟩; first | rw [h5] | skip))
      all_goals go_ret
      all_goals (refine ⟨ret_bool ?_, (Below.refl _ _).alloc (Nat.le_refl _) _⟩; rw [E.out]; clear E HP HD hp hq hs h1 h2 h3 h5; simp_all [Wr.kindB] <;> (intros; omega))
  · have E : Hid (Wr.recB r = false) := Wc.hid (by rw [HD.out, h1, h2, h3, HP.out]; simp)
    go_wp2_with (first | (go_at_call 24; refine (link_any _ _ _ hm).mono ?_; rintro e w' ⟨rfl, rfl⟩; first | rw [h1] | rw [h2]) | (go_at_call 25; refine (refIde_any _ _).mono ?_; rintro e w' ⟨rfl, rfl⟩; first | rw [h3] | rw [hq]))
    go_ret
    exact ⟨by rw [E.out]; rfl, (Below.refl _ _).alloc (Nat.le_refl _) _⟩
  · cases h5 : (decide (0 ≤ r.size) && decide (r.size ≤ 512))
    · have E : Hid (Wr.recB r = false) := Wc.hid (by rw [HD.out, h1, h2, h3, HP.out, h5]; simp)
      go_wp2_with (first | (go_at_call 24; refine (link_any _ _ _ hm).mono ?_; rintro e w' ⟨rfl, rfl⟩; first | rw [h1] | rw [h2]) | (go_at_call 25; refine (refIde_any _ _).mono ?_; rintro e w' ⟨rfl, rfl⟩; first | rw [h3] | rw [hq]) | (go_at_call 26; refine (refIn_any _ _ _ _).mono ?_; rintro e w' ⟨rfl, rfl⟩; rw [h5]))
      go_ret
      exact ⟨by rw [E.out]; rfl, (Below.refl _ _).alloc (Nat.le_refl _) _⟩
    · have E : Hid (Wr.recB r = Wr.kindB r.kind r.frames r.digest) := Wc.hid (by rw [HD.out, h1, h2, h3, HP.out, h5]; simp)
      go_wp2_with (first | (go_at_call 24; refine (link_any _ _ _ hm).mono ?_; rintro e w' ⟨rfl, rfl⟩; first | rw [h1] | rw [h2]) | (go_at_call 25; refine (refIde_any _ _).mono ?_; rintro e w' ⟨rfl, rfl⟩; first | rw [h3] | rw [hq]) | (go_at_call 26; refine (refIn_any _ _ _ _).mono ?_; rintro e w' ⟨rfl, rfl⟩; first | rw [h5] | skip))
      all_goals go_ret
      all_goals (refine ⟨ret_bool ?_, (Below.refl _ _).alloc (Nat.le_refl _) _⟩; rw [E.out]; clear E HP HD hp hq hs h1 h2 h3 h5; simp_all [Wr.kindB] <;> (intros; omega))
  · have E : Hid (Wr.recB r = false) := Wc.hid (by rw [HD.out, h1, h2, h3, HP.out]; simp)
    go_wp2_with (first | (go_at_call 24; refine (link_any _ _ _ hm).mono ?_; rintro e w' ⟨rfl, rfl⟩; first | rw [h1] | rw [h2]) | (go_at_call 25; refine (refIde_any _ _).mono ?_; rintro e w' ⟨rfl, rfl⟩; first | rw [h3] | rw [hq]))
    go_ret
    exact ⟨by rw [E.out]; rfl, (Below.refl _ _).alloc (Nat.le_refl _) _⟩
  · have E : Hid (Wr.recB r = false) := Wc.hid (by rw [HD.out, h1, h2, h3, HP.out]; simp)
    go_wp2_with (first | (go_at_call 24; refine (link_any _ _ _ hm).mono ?_; rintro e w' ⟨rfl, rfl⟩; first | rw [h1] | rw [h2]) | (go_at_call 25; refine (refIde_any _ _).mono ?_; rintro e w' ⟨rfl, rfl⟩; first | rw [h3] | rw [hq]))
    go_ret
    exact ⟨by rw [E.out]; rfl, (Below.refl _ _).alloc (Nat.le_refl _) _⟩
  · have E : Hid (Wr.recB r = false) := Wc.hid (by rw [HD.out, h1, h2, h3, HP.out]; simp)
    go_wp2_with (first | (go_at_call 24; refine (link_any _ _ _ hm).mono ?_; rintro e w' ⟨rfl, rfl⟩; first | rw [h1] | rw [h2]) | (go_at_call 25; refine (refIde_any _ _).mono ?_; rintro e w' ⟨rfl, rfl⟩; first | rw [h3] | rw [hq]))
    go_ret
    exact ⟨by rw [E.out]; rfl, (Below.refl _ _).alloc (Nat.le_refl _) _⟩
  · cases h5 : (decide (0 ≤ r.size) && decide (r.size ≤ 512))
    · have E : Hid (Wr.recB r = false) := Wc.hid (by rw [HD.out, h1, h2, h3, HP.out, h5]; simp)
      go_wp2_with (first | (go_at_call 24; refine (link_any _ _ _ hm).mono ?_; rintro e w' ⟨rfl, rfl⟩; first | rw [h1] | rw [h2]) | (go_at_call 25; refine (refIde_any _ _).mono ?_; rintro e w' ⟨rfl, rfl⟩; first | rw [h3] | rw [hq]) | (go_at_call 26; refine (refIn_any _ _ _ _).mono ?_; rintro e w' ⟨rfl, rfl⟩; rw [h5]))
      go_ret
      exact ⟨by rw [E.out]; rfl, (Below.refl _ _).alloc (Nat.le_refl _) _⟩
    · have E : Hid (Wr.recB r = Wr.kindB r.kind r.frames r.digest) := Wc.hid (by rw [HD.out, h1, h2, h3, HP.out, h5]; simp)
      go_wp2_with (first | (go_at_call 24; refine (link_any _ _ _ hm).mono ?_; rintro e w' ⟨rfl, rfl⟩; first | rw [h1] | rw [h2]) | (go_at_call 25; refine (refIde_any _ _).mono ?_; rintro e w' ⟨rfl, rfl⟩; first | rw [h3] | rw [hq]) | (go_at_call 26; refine (refIn_any _ _ _ _).mono ?_; rintro e w' ⟨rfl, rfl⟩; first | rw [h5] | skip))
      all_goals go_ret
      all_goals (refine ⟨ret_bool ?_, (Below.refl _ _).alloc (Nat.le_refl _) _⟩; rw [E.out]; clear E HP HD hp hq hs h1 h2 h3 h5; simp_all [Wr.kindB] <;> (intros; omega))
  · have E : Hid (Wr.recB r = false) := Wc.hid (by rw [HD.out, h1, h2, h3, HP.out]; simp)
    go_wp2_with (first | (go_at_call 24; refine (link_any _ _ _ hm).mono ?_; rintro e w' ⟨rfl, rfl⟩; first | rw [h1] | rw [h2]) | (go_at_call 25; refine (refIde_any _ _).mono ?_; rintro e w' ⟨rfl, rfl⟩; first | rw [h3] | rw [hq]))
    go_ret
    exact ⟨by rw [E.out]; rfl, (Below.refl _ _).alloc (Nat.le_refl _) _⟩

end Go.Proofs.Ytblbldoeknihaaa
