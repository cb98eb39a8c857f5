/-
  Four bytes side by side put to bytes, one by one: what a row then holds. No conditions beyond those that each theorem names.
-/
import Derived.Test.YtifjbmknghjohaaMore
namespace Go.Proofs.Ytifjbmknghjohaa
open Go.RowKit

theorem show_drew {B : Nat} {a b : World} (h : Below B a b) : Below B a b.drew := h.drew

/-- What the row holds behind k rounds. -/
def chg (C zs : List Int) (p k j : Nat) : Int := if p ≤ j ∧ j < p + k then (((C.getD j 0).toNat ^^^ (zs.getD (j - p) 0).toNat : Nat) : Int) else C.getD j 0

/-- Was anything changed within k rounds? -/
def chgB (zs : List Int) (k : Nat) : Bool := !((zs.take k).all (· == 0))

theorem chgB_succ (zs : List Int) (k : Nat) (h : k < zs.length) : chgB zs (k + 1) = (chgB zs k || (zs.getD k 0 != 0)) := by
  unfold chgB
  rw [take_next zs k h, List.all_append, Bool.not_and]
  simp [bne]

theorem chgB_all (zs : List Int) : chgB zs zs.length = false ↔ ∀ y ∈ zs, y = 0 := by
  unfold chgB
  simp

theorem chg_zero (C zs : List Int) (p j : Nat) : chg C zs p 0 j = C.getD j 0 := by
  unfold chg; rw [if_neg (by omega)]

theorem chg_old (C zs : List Int) (p k : Nat) : chg C zs p k (p + k) = C.getD (p + k) 0 := by
  unfold chg; rw [if_neg (by omega)]

theorem chg_row {w : World} {g n k p : Nat} {C zs : List Int} {q : Int} (hq : q = (((C.getD (p + k) 0).toNat ^^^ (zs.getD k 0).toNat : Nat) : Int)) (h : w.rowIs g 5 n (fun j => .int .u8 (chg C zs p k j))) :
    (w.setCell ⟨g, p + k, none⟩ (.int .u8 q)).rowIs g 5 n (fun j => .int .u8 (chg C zs p (k + 1) j)) := by
  refine (h.set (p + k) _).congr fun j _ => ?_
  unfold chg
  by_cases h1 : j = p + k
  · subst h1; rw [if_pos rfl, if_pos (by omega), hq, show p + k - p = k by omega]
  · rw [if_neg h1]
    by_cases h2 : p ≤ j ∧ j < p + k
    · rw [if_pos h2, if_pos (by omega)]
    · rw [if_neg h2, if_neg (by omega)]

/-- Behind all four rounds the bytes are the old ones with the run put to them. -/
theorem chg_end (C zs : List Int) (p n : Nat) (hC : C.length = n + 4) (hz : zs.length = 4) (hp : p ≤ n) (hb : ∀ y ∈ C, 0 ≤ y ∧ y < 256) (j : Nat) (hj : j < n + 4) :
    chg C zs p 4 j = (Wc.zipx C (Wc.runAt p (n - p) zs)).getD j 0 := by
  have hl : (Wc.runAt p (n - p) zs).length = n + 4 := by simp [Wc.runAt, hz]; omega
  have hbj := hb (C.getD j 0) (by rw [List.getD_eq_getElem?_getD, List.getElem?_eq_getElem (by omega)]; simp)
  have e : (Wc.zipx C (Wc.runAt p (n - p) zs)).getD j 0 = (((C.getD j 0).toNat ^^^ ((Wc.runAt p (n - p) zs).getD j 0).toNat : Nat) : Int) := by
    unfold Wc.zipx
    rw [List.getD_eq_getElem?_getD, List.getElem?_zipWith]
    simp [List.getD, show j < C.length by omega, show j < (Wc.runAt p (n - p) zs).length by omega]
  rw [e]
  unfold chg Wc.runAt
  by_cases h1 : p ≤ j ∧ j < p + 4
  · rw [if_pos h1]
    have : (List.replicate p (0 : Int) ++ (zs ++ List.replicate (n - p) 0)).getD j 0 = zs.getD (j - p) 0 := by
      rw [List.getD_eq_getElem?_getD, List.getElem?_append_right (by simp; omega), List.getElem?_append_left (by simp; omega)]
      simp
    rw [this]
  · rw [if_neg h1]
    have : (List.replicate p (0 : Int) ++ (zs ++ List.replicate (n - p) 0)).getD j 0 = 0 := by
      rw [List.getD_eq_getElem?_getD]
      rcases Nat.lt_or_ge j p with h2 | h2
      · rw [List.getElem?_append_left (by simpa using h2)]
        simp [h2]
      · rw [List.getElem?_append_right (by simpa using h2), List.getElem?_append_right (by simp; omega)]
        rw [List.getElem?_replicate]
        split <;> rfl
    rw [this]
    show C.getD j 0 = ((C.getD j 0).toNat ^^^ 0 : Nat)
    rw [Nat.xor_zero]; omega

end Go.Proofs.Ytifjbmknghjohaa
