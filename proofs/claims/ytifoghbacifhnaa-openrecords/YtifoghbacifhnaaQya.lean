/-
  A device with plain records, the last one bent: its records are none. It speaks of no program but for what Open and Records tell.
-/
import Derived.Test.YtifoghbacifhnaaQy
namespace Wi
open Wr
/-- The device with its last record exchanged. -/
def bX (n a m : Nat) (id : Int) (r : Rec) : List Int := Wd.lay (rcX 20 a n (fr n a id)) ((a + m) * 64) (Wr.blk r)
def bf (n a m : Nat) (id : Int) (r : Rec) : Nat → Rec := fun i => if i = m then r else fr n a id i
theorem bX_rdv {n a m : Nat} {id : Int} {r : Rec} (ha : 2 ≤ a) (h : a + n ≤ 20) (hm : n = m + 1) (h1 : 1 ≤ id) (h2 : id ≤ 1000000) (hr : recB r = true) : Rdv (bX n a m id r) 20 a n (bf n a m id r) :=
  (rcX_rdv (by omega) (by omega) ha h (fun i hi => fr_ok ha (by omega) h1 h2 hi)).set (by omega) hr
theorem bf_next {n a m : Nat} {id : Int} {r : Rec} (hm : n = m + 1) {i : Nat} (h : i + 1 < n) : (bf n a m id r i).next = ((a + i + 1 : Nat) : Int) := by
  unfold bf
  rw [if_neg (by omega)]
  exact if_pos h
theorem bf_last {n a m : Nat} {id : Int} {r : Rec} (hm : n = m + 1) : bf n a m id r (n - 1) = r := by
  unfold bf
  rw [if_pos (by omega)]
theorem bent_ok {p q : Int} (hp : 2 ≤ p ∧ p < 4096) (h1 : 1 ≤ q) (h2 : q ≤ 2000000) : recB ⟨p, q, 0, 0, 0, 0, 0, 0⟩ = true := by
  rw [recB_iff]
  exact ⟨.inr hp, .inl rfl, ⟨h1, show q ≤ 4611686018427387903 by omega⟩, .inl rfl, ⟨show (0 : Int) ≤ 0 by decide, show (0 : Int) ≤ 512 by decide⟩, .inl ⟨rfl, rfl, rfl⟩⟩
theorem bent_ok0 {q : Int} (h1 : 1 ≤ q) (h2 : q ≤ 2000000) : recB ⟨0, q, 0, 0, 0, 0, 0, 0⟩ = true := by
  rw [recB_iff]
  exact ⟨.inl rfl, .inl rfl, ⟨h1, show q ≤ 4611686018427387903 by omega⟩, .inl rfl, ⟨show (0 : Int) ≤ 0 by decide, show (0 : Int) ≤ 512 by decide⟩, .inl ⟨rfl, rfl, rfl⟩⟩
end Wi
namespace Go.Proofs.Ytifoghbacifhnaa
open Go.RowKit
theorem bent_round {n a m : Nat} {id p q : Int} (ha : 2 ≤ a) (h : a + n ≤ 16) (hm : n = m + 1) (h1 : 1 ≤ id) (h2 : id ≤ 1000) (hp : p = (a : Int)) (hq : q = id + m) : opnE (Wi.bX n a m id ⟨p, q, 0, 0, 0, 0, 0, 0⟩) = 7 ∧ Wi.recE (Wi.bX n a m id ⟨p, q, 0, 0, 0, 0, 0, 0⟩) ((a : Nat) : Int) = 7 := by
  have H := Wi.bX_rdv (r := ⟨p, q, 0, 0, 0, 0, 0, 0⟩) ha (by omega) hm h1 (by omega) (Wi.bent_ok (by omega) (by omega) (by omega))
  refine rdv_no H (by omega) (Wi.chn_stop (q := ((a : Nat) : Int)) (by omega) (Wi.sq a n) 62 _ [] ?_ (.inr ?_))
  · have := H.wayAll (by omega) (fun i hi => Wi.bf_next hm hi)
    rw [Wi.bf_last hm] at this
    show Wi.Way _ _ _ _
    rw [show ((a : Nat) : Int) = p from hp.symm] at this ⊢
    exact this
  · have h0 := (H.at (i := 0) (by omega)).2
    rw [Nat.add_zero] at h0
    rw [h0, List.nil_append, H.map (Nat.le_refl _)]
    exact Wi.fits_id (x := Wi.bf n a m id ⟨p, q, 0, 0, 0, 0, 0, 0⟩ 0) (List.mem_map.2 ⟨0, List.mem_range.2 (by omega), rfl⟩) rfl
theorem bent_far {n a m : Nat} {id p q : Int} (ha : 2 ≤ a) (h : a + n ≤ 16) (hm : n = m + 1) (h1 : 1 ≤ id) (h2 : id ≤ 1000) (hp : p = 20 ∨ p = 19) (hq : q = id + m) : opnE (Wi.bX n a m id ⟨p, q, 0, 0, 0, 0, 0, 0⟩) = 7 ∧ Wi.recE (Wi.bX n a m id ⟨p, q, 0, 0, 0, 0, 0, 0⟩) ((a : Nat) : Int) = 7 := by
  have H := Wi.bX_rdv (r := ⟨p, q, 0, 0, 0, 0, 0, 0⟩) ha (by omega) hm h1 (by omega) (Wi.bent_ok (by omega) (by omega) (by omega))
  refine rdv_no H (by omega) (Wi.chn_stop (q := p) (by omega) (Wi.sq a n) 62 _ [] ?_ (.inl ?_))
  · have := H.wayAll (by omega) (fun i hi => Wi.bf_next hm hi)
    rw [Wi.bf_last hm] at this
    exact this
  · rcases hp with rfl | rfl
    · exact Wi.recOk_far (by rw [H.dev.2]; decide)
    · refine H.bdv.no H.h4 H.hb (q := 19) (by omega) ?_
      unfold Wi.rcB
      rw [if_neg (by omega), if_neg (by omega)]
theorem bent_twice {n a m : Nat} {id q : Int} (ha : 2 ≤ a) (h : a + n ≤ 16) (hm : n = m + 1) (h0 : 0 < m) (h1 : 1 ≤ id) (h2 : id ≤ 1000) (hq : q = id) : opnE (Wi.bX n a m id ⟨0, q, 0, 0, 0, 0, 0, 0⟩) = 7 ∧ Wi.recE (Wi.bX n a m id ⟨0, q, 0, 0, 0, 0, 0, 0⟩) ((a : Nat) : Int) = 7 := by
  have H := Wi.bX_rdv (r := ⟨0, q, 0, 0, 0, 0, 0, 0⟩) ha (by omega) hm h1 (by omega) (Wi.bent_ok0 (by omega) (by omega))
  refine rdv_no H (by omega) (Wi.chn_stop (q := ((a + m : Nat) : Int)) (by omega) (Wi.sq a m) 62 _ [] (H.way m (by omega) (fun i hi => Wi.bf_next hm (by omega))) (.inr ?_))
  rw [(H.at (show m < n by omega)).2, List.nil_append, H.map (by omega)]
  refine Wi.fits_id (x := Wi.bf n a m id ⟨0, q, 0, 0, 0, 0, 0, 0⟩ 0) (List.mem_map.2 ⟨0, List.mem_range.2 h0, rfl⟩) ?_
  unfold Wi.bf
  rw [if_neg (by omega), if_pos rfl]
  show id + ((0 : Nat) : Int) = q
  omega
/-- The plain device opens. -/
theorem plain_yes {n a : Nat} {id : Int} (ha : 2 ≤ a) (h : a + n ≤ 16) (h0 : 0 < n) (h1 : 1 ≤ id) (h2 : id ≤ 1000) :
    opnE (Wi.rcX 20 a n (Wi.fr n a id)) = 0 ∧ opnS (Wi.rcX 20 a n (Wi.fr n a id)) = Wi.rcS 20 a n ∧ opnT (Wi.rcX 20 a n (Wi.fr n a id)) = 0 ∧ opnL (Wi.rcX 20 a n (Wi.fr n a id)) = (List.range n).map (Wi.fr n a id) ∧
      Wi.recE (Wi.rcX 20 a n (Wi.fr n a id)) ((a : Nat) : Int) = 0 ∧ Wi.recP (Wi.rcX 20 a n (Wi.fr n a id)) ((a : Nat) : Int) = Wi.sq a n ∧ Wi.recL (Wi.rcX 20 a n (Wi.fr n a id)) ((a : Nat) : Int) = (List.range n).map (Wi.fr n a id) := by
  have H := Wi.rcX_rdv (b := 20) (a := a) (n := n) (f := Wi.fr n a id) (by omega) (by omega) ha (by omega) (fun i hi => Wi.fr_ok ha (by omega) h1 (by omega) hi)
  obtain ⟨o1, o2, o3, -, o5, o6, o7, o8⟩ := rdv_yes H h0 (by omega) (fun i hi => if_pos hi) (if_neg (by omega)) (fun i j hj hi => by show ¬ id + (j : Int) = id + (i : Int); omega) (fun i h1 hi => rfl) (fun i hi => rfl)
  exact ⟨o1, o2, o3, o5, o6, o7, o8⟩
theorem plain_at {n a k : Nat} {id : Int} (hk : k < n) : ((List.range n).map (Wi.fr n a id)).getD k Wr.r0 = Wi.fr n a id k := by
  simp [List.getD_eq_getElem?_getD, List.getElem?_range hk]
theorem plain_find {n a k : Nat} {id : Int} (hk : k < n) : Wi.fnd ((List.range n).map (Wi.fr n a id)) (id + k) = some k := by
  refine Wi.fnd_some (by simpa using hk) (fun j hj => ?_) ?_
  · rw [plain_at (by omega), Bool.and_eq_false_iff]
    left
    show (id + (j : Int) == id + (k : Int)) = false
    rw [beq_eq_false_iff_ne]; omega
  · rw [plain_at hk, Bool.and_eq_true]
    exact ⟨by show (id + (k : Int) == id + (k : Int)) = true; simp, rfl⟩
end Go.Proofs.Ytifoghbacifhnaa
