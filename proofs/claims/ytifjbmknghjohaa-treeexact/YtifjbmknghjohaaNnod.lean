/-
  Plain mathematics of nodes: which are right, their blocks, what a block says, which pointer leads to a sector. It speaks of no program. No conditions beyond those that each theorem names.
-/
import Derived.Test.YtifjbmknghjohaaSsup
namespace Wn
open Wc Ws

structure Nod where
  level : Int
  p0 : Int
  p1 : Int
  p2 : Int
  p3 : Int
  p4 : Int
  p5 : Int
  p6 : Int
  p7 : Int

def n0 : Nod := ⟨0, 0, 0, 0, 0, 0, 0, 0, 0⟩
/-- A node's pointers. -/
def ptr (n : Nod) : List Int := [n.p0, n.p1, n.p2, n.p3, n.p4, n.p5, n.p6, n.p7]
def pat (n : Nod) (k : Nat) : Int := (ptr n).getD k 0
/-- A pointer set anew. -/
def setP (n : Nod) (k : Nat) (z : Int) : Nod :=
  match k with
  | 0 => { n with p0 := z }
  | 1 => { n with p1 := z }
  | 2 => { n with p2 := z }
  | 3 => { n with p3 := z }
  | 4 => { n with p4 := z }
  | 5 => { n with p5 := z }
  | 6 => { n with p6 := z }
  | 7 => { n with p7 := z }
  | _ => n

theorem nod_ext {s t : Nod} (h : s.level = t.level) (h0 : s.p0 = t.p0) (h1 : s.p1 = t.p1) (h2 : s.p2 = t.p2) (h3 : s.p3 = t.p3) (h4 : s.p4 = t.p4) (h5 : s.p5 = t.p5) (h6 : s.p6 = t.p6) (h7 : s.p7 = t.p7) : s = t := by
  cases s; cases t; simp_all

theorem ptr_length (n : Nod) : (ptr n).length = 8 := rfl

theorem below8 {k : Nat} (h : k < 8) : k = 0 ∨ k = 1 ∨ k = 2 ∨ k = 3 ∨ k = 4 ∨ k = 5 ∨ k = 6 ∨ k = 7 := by omega

theorem ptr_setP (n : Nod) {k : Nat} (h : k < 8) (z : Int) : ptr (setP n k z) = (ptr n).set k z := by
  rcases below8 h with rfl | rfl | rfl | rfl | rfl | rfl | rfl | rfl <;> rfl

theorem level_setP (n : Nod) (k : Nat) (z : Int) : (setP n k z).level = n.level := by
  unfold setP; split <;> rfl

theorem pat_mem (n : Nod) {k : Nat} (h : k < 8) : pat n k ∈ ptr n := by
  rcases below8 h with rfl | rfl | rfl | rfl | rfl | rfl | rfl | rfl <;> simp [pat, ptr]

theorem mem_pat {n : Nod} {x : Int} (h : x ∈ ptr n) : ∃ k, k < 8 ∧ pat n k = x := by
  simp only [ptr, List.mem_cons, List.not_mem_nil, or_false] at h
  rcases h with rfl | rfl | rfl | rfl | rfl | rfl | rfl | rfl
  · exact ⟨0, by omega, rfl⟩
  · exact ⟨1, by omega, rfl⟩
  · exact ⟨2, by omega, rfl⟩
  · exact ⟨3, by omega, rfl⟩
  · exact ⟨4, by omega, rfl⟩
  · exact ⟨5, by omega, rfl⟩
  · exact ⟨6, by omega, rfl⟩
  · exact ⟨7, by omega, rfl⟩

/-- A right node. -/
def nodB (n : Nod) : Bool := (decide (0 ≤ n.level) && decide (n.level ≤ 2)) && ((ptr n).all (fun p => linkB p 4096) && (ptr n).any (fun p => p != 0))
def nodE (n : Nod) : Int := if nodB n then 0 else 1

theorem linkB_iff {p m : Int} : linkB p m = true ↔ p = 0 ∨ 2 ≤ p ∧ p < m := by simp [linkB]

theorem nodB_iff {n : Nod} : nodB n = true ↔ (0 ≤ n.level ∧ n.level ≤ 2) ∧ (∀ p ∈ ptr n, p = 0 ∨ 2 ≤ p ∧ p < 4096) ∧ ∃ p ∈ ptr n, ¬ p = 0 := by
  simp only [nodB, Bool.and_eq_true, decide_eq_true_eq, List.all_eq_true, List.any_eq_true, linkB_iff, bne_iff_ne, ne_eq]

theorem nodB_level {n : Nod} (h : ¬ (0 ≤ n.level ∧ n.level ≤ 2)) : nodB n = false := by
  rw [Bool.eq_false_iff]; exact fun e => h (nodB_iff.1 e).1
theorem nodB_ptr {n : Nod} (k : Nat) (hk : k < 8) (h : linkB (pat n k) 4096 = false) : nodB n = false := by
  rw [Bool.eq_false_iff]
  intro e
  have := linkB_iff.2 ((nodB_iff.1 e).2.1 _ (pat_mem n hk))
  rw [h] at this; cases this
theorem nodB_none {n : Nod} (h : ∀ k, k < 8 → pat n k = 0) : nodB n = false := by
  rw [Bool.eq_false_iff]
  intro e
  obtain ⟨p, hp, hne⟩ := (nodB_iff.1 e).2.2
  obtain ⟨k, hk, rfl⟩ := mem_pat hp
  exact hne (h k hk)
theorem nodB_yes {n : Nod} (h : 0 ≤ n.level ∧ n.level ≤ 2) (hp : ∀ k, k < 8 → linkB (pat n k) 4096 = true) (ha : ∃ k, k < 8 ∧ ¬ pat n k = 0) : nodB n = true := by
  refine nodB_iff.2 ⟨h, fun p hm => ?_, ?_⟩
  · obtain ⟨k, hk, rfl⟩ := mem_pat hm
    exact linkB_iff.1 (hp k hk)
  · obtain ⟨k, hk, hne⟩ := ha
    exact ⟨_, pat_mem n hk, hne⟩
theorem nodB_pat {n : Nod} (h : nodB n = true) {k : Nat} (hk : k < 8) : 0 ≤ pat n k ∧ pat n k < 4096 := by
  have := (nodB_iff.1 h).2.1 _ (pat_mem n hk)
  omega

/-- The name. -/
def name : List Int := [78, 79, 68, 69]

/-- Numbers of four bytes side by side. -/
def encs : List Int → List Int
  | [] => []
  | x :: xs => enc 4 x ++ encs xs

theorem encs_append (a b : List Int) : encs (a ++ b) = encs a ++ encs b := by
  induction a with
  | nil => rfl
  | cons x a ih => simp [encs, ih]
theorem encs_length (a : List Int) : (encs a).length = 4 * a.length := by
  induction a with
  | nil => rfl
  | cons x a ih => simp [encs, ih, enc_length]; omega
theorem encs_bd (a : List Int) : ∀ x ∈ encs a, 0 ≤ x ∧ x < 256 := by
  induction a with
  | nil => simp [encs]
  | cons y a ih =>
    intro x hx
    simp only [encs, List.mem_append] at hx
    rcases hx with h | h
    · exact enc_bd _ _ x h
    · exact ih x h
theorem encs_next (l : List Int) (k : Nat) (h : k < l.length) : encs (l.take (k + 1)) = encs (l.take k) ++ enc 4 (l.getD k 0) := by
  rw [List.take_succ_eq_append_getElem h, encs_append]
  simp [encs, List.getD, h]
theorem encs_parts (l : List Int) (k : Nat) (h : k < l.length) : encs l = encs (l.take k) ++ (enc 4 (l.getD k 0) ++ encs (l.drop (k + 1))) := by
  have e : l = l.take (k + 1) ++ l.drop (k + 1) := (List.take_append_drop ..).symm
  conv => lhs; rw [e]
  rw [encs_append, encs_next l k h, List.append_assoc]

/-- All of a node's block ahead of its sum. -/
def head (n : Nod) : List Int := name ++ (enc 4 n.level ++ (encs (ptr n) ++ List.replicate 20 0))
/-- A node's block. -/
def blk (n : Nod) : List Int := head n ++ enc 4 (more 0 (head n))

theorem head_length (n : Nod) : (head n).length = 60 := by simp [head, name, enc_length, encs_length, ptr_length]
theorem blk_length (n : Nod) : (blk n).length = 64 := by simp [blk, head_length, enc_length]

theorem head_bd (n : Nod) : ∀ x ∈ head n, 0 ≤ x ∧ x < 256 := by
  intro x hx
  simp only [head, List.mem_append] at hx
  rcases hx with h | h | h | h
  · simp [name] at h; omega
  · exact enc_bd _ _ x h
  · exact encs_bd _ x h
  · rw [List.mem_replicate] at h; omega

theorem blk_bd (n : Nod) : ∀ x ∈ blk n, 0 ≤ x ∧ x < 256 := by
  intro x hx
  simp only [blk, List.mem_append] at hx
  rcases hx with h | h
  · exact head_bd n x h
  · exact enc_bd _ _ x h

theorem blk_good (n : Nod) : goodB (blk n) = true := good_sealed (head n) (head_bd n)

/-- What Bytes puts together: the name; with the level; with so many pointers. -/
def q0 : List Int := name ++ List.replicate 60 0
def part (n : Nod) (k : Nat) : List Int := (name ++ (enc 4 n.level ++ encs ((ptr n).take k))) ++ List.replicate (56 - 4 * k) 0

theorem put0 (n : Nod) : putL q0 4 4 n.level = part n 0 := by
  have := putL_zeros name 4 4 56 n.level rfl
  rw [show (4 + 56 : Nat) = 60 from rfl] at this
  unfold q0
  rw [this]
  simp [part, encs]

theorem putk (n : Nod) (k : Nat) (hk : k < 8) : putL (part n k) (8 + 4 * k) 4 (pat n k) = part n (k + 1) := by
  have := putL_zeros (name ++ (enc 4 n.level ++ encs ((ptr n).take k))) 4 (8 + 4 * k) (56 - 4 * (k + 1)) (pat n k) (by simp [name, enc_length, encs_length, ptr_length]; omega)
  rw [show 4 + (56 - 4 * (k + 1)) = 56 - 4 * k by omega] at this
  unfold part
  rw [this, encs_next _ k (by rw [ptr_length]; exact hk)]
  simp only [List.append_assoc]
  rfl

theorem part_length (n : Nod) (k : Nat) (hk : k ≤ 8) : (part n k).length = 64 := by
  simp [part, name, enc_length, encs_length, ptr_length]; omega
theorem q0_length : q0.length = 64 := by simp [q0, name]

theorem part_head (n : Nod) : part n 8 = head n ++ List.replicate 4 0 := by
  have h1 : List.replicate (56 - 4 * 8) (0 : Int) = List.replicate 20 0 ++ List.replicate 4 0 := by decide
  have h2 : (ptr n).take 8 = ptr n := rfl
  unfold part head
  rw [h1, h2]
  simp only [List.append_assoc]

theorem part_take (n : Nod) : (part n 8).take 60 = head n := by
  rw [part_head, List.take_append_of_le_length (by rw [head_length]; omega), List.take_of_length_le (by rw [head_length]; omega)]
theorem part_bd (n : Nod) : ∀ x ∈ part n 8, 0 ≤ x ∧ x < 256 := by
  intro x hx
  rw [part_head, List.mem_append] at hx
  rcases hx with h | h
  · exact head_bd n x h
  · rw [List.mem_replicate] at h; omega

theorem put_sum (n : Nod) : putL (part n 8) 60 4 (more 0 (head n)) = blk n := by
  rw [part_head, putL_zeros (head n) 4 60 0 _ (head_length n)]
  simp [blk]

/-- What a block says. -/
def parN (xs : List Int) : Nod := ⟨num xs 4 4, num xs 8 4, num xs 12 4, num xs 16 4, num xs 20 4, num xs 24 4, num xs 28 4, num xs 32 4, num xs 36 4⟩
def parE (xs : List Int) : Int :=
  if xs.length = 64 then (if xs.take 4 = name then (if goodB xs = true then (if (nodB (parN xs) && zerosB xs 40 60) = true then 0 else 1) else 5) else 4) else 2
def par (xs : List Int) : Nod := if parE xs = 0 then parN xs else n0

theorem par_len {xs : List Int} (h : ¬ xs.length = 64) : parE xs = 2 ∧ par xs = n0 := by simp [par, parE, h]
theorem par_name {xs : List Int} (h : xs.length = 64) (h1 : ¬ xs.take 4 = name) : parE xs = 4 ∧ par xs = n0 := by simp [par, parE, h, h1]
theorem par_sum {xs : List Int} (h : xs.length = 64) (h1 : xs.take 4 = name) (h2 : goodB xs = false) : parE xs = 5 ∧ par xs = n0 := by simp [par, parE, h, h1, h2]
theorem par_arg {xs : List Int} (h : xs.length = 64) (h1 : xs.take 4 = name) (h2 : goodB xs = true) (h3 : (nodB (parN xs) && zerosB xs 40 60) = false) : parE xs = 1 ∧ par xs = n0 := by simp [par, parE, h, h1, h2, h3]
theorem par_ok {xs : List Int} (h : xs.length = 64) (h1 : xs.take 4 = name) (h2 : goodB xs = true) (h3 : (nodB (parN xs) && zerosB xs 40 60) = true) : parE xs = 0 ∧ par xs = parN xs := by simp [par, parE, h, h1, h2, h3]

theorem parE_zero {xs : List Int} (h : parE xs = 0) : xs.length = 64 ∧ goodB xs = true ∧ nodB (par xs) = true := by
  by_cases h1 : xs.length = 64
  · by_cases h2 : xs.take 4 = name
    · cases h3 : goodB xs
      · have := (par_sum h1 h2 h3).1; omega
      · cases h4 : (nodB (parN xs) && zerosB xs 40 60)
        · have := (par_arg h1 h2 h3 h4).1; omega
        · have e := (par_ok h1 h2 h3 h4).2
          rw [e]
          rw [Bool.and_eq_true] at h4
          exact ⟨h1, rfl, h4.1⟩
    · have := (par_name h1 h2).1; omega
  · have := (par_len h1).1; omega

/-- So many pointers read. -/
def fill (xs : List Int) (k : Nat) : Nod :=
  ⟨num xs 4 4, if 0 < k then num xs 8 4 else 0, if 1 < k then num xs 12 4 else 0, if 2 < k then num xs 16 4 else 0, if 3 < k then num xs 20 4 else 0, if 4 < k then num xs 24 4 else 0, if 5 < k then num xs 28 4 else 0, if 6 < k then num xs 32 4 else 0, if 7 < k then num xs 36 4 else 0⟩
theorem fill_zero (xs : List Int) : fill xs 0 = ⟨num xs 4 4, 0, 0, 0, 0, 0, 0, 0, 0⟩ := rfl
theorem fill_next (xs : List Int) {k : Nat} (h : k < 8) : setP (fill xs k) k (num xs (8 + 4 * k) 4) = fill xs (k + 1) := by
  rcases below8 h with rfl | rfl | rfl | rfl | rfl | rfl | rfl | rfl <;> rfl
theorem fill_all (xs : List Int) : fill xs 8 = parN xs := rfl

theorem blk_take (n : Nod) : (blk n).take 4 = name := by
  unfold blk head
  rw [List.append_assoc, List.take_append_of_le_length (by simp [name]), List.take_of_length_le (by simp [name])]

theorem blk_zeros (n : Nod) : zerosB (blk n) 40 60 = true := by
  refine zerosB_true fun j _ h1 h2 => ?_
  have e : blk n = (name ++ (enc 4 n.level ++ encs (ptr n))) ++ (List.replicate 20 0 ++ enc 4 (more 0 (head n))) := by
    unfold blk
    conv => lhs; lhs; unfold head
    simp only [List.append_assoc]
  have hl : (name ++ (enc 4 n.level ++ encs (ptr n))).length = 40 := by simp [name, enc_length, encs_length, ptr_length]
  rw [e, List.getD_eq_getElem?_getD, List.getElem?_append_right (by omega), List.getElem?_append_left (by rw [List.length_replicate]; omega), List.getElem?_replicate]
  split <;> rfl

theorem num_pat (n : Nod) {k : Nat} (hk : k < 8) (h : 0 ≤ pat n k ∧ pat n k < 4096) : num (blk n) (8 + 4 * k) 4 = pat n k := by
  have e : blk n = (name ++ (enc 4 n.level ++ encs ((ptr n).take k))) ++ (enc 4 (pat n k) ++ ((encs ((ptr n).drop (k + 1)) ++ List.replicate 20 0) ++ enc 4 (more 0 (head n)))) := by
    unfold blk
    conv => lhs; lhs; unfold head
    rw [encs_parts (ptr n) k (by rw [ptr_length]; exact hk)]
    simp only [List.append_assoc]
    rfl
  rw [e]
  exact num_mid _ _ 4 (8 + 4 * k) _ (by simp [name, enc_length, encs_length, ptr_length]; omega) (by omega) (by omega)

theorem par_blk {n : Nod} (h : nodB n = true) : parE (blk n) = 0 ∧ par (blk n) = n := by
  have hs := nodB_iff.1 h
  have el : num (blk n) 4 4 = n.level := by
    unfold blk head
    rw [List.append_assoc, List.append_assoc]
    exact num_mid name _ 4 4 n.level rfl (by omega) (by omega)
  have e : parN (blk n) = n := by
    refine nod_ext el ?_ ?_ ?_ ?_ ?_ ?_ ?_ ?_
    · exact num_pat n (k := 0) (by omega) (nodB_pat h (by omega))
    · exact num_pat n (k := 1) (by omega) (nodB_pat h (by omega))
    · exact num_pat n (k := 2) (by omega) (nodB_pat h (by omega))
    · exact num_pat n (k := 3) (by omega) (nodB_pat h (by omega))
    · exact num_pat n (k := 4) (by omega) (nodB_pat h (by omega))
    · exact num_pat n (k := 5) (by omega) (nodB_pat h (by omega))
    · exact num_pat n (k := 6) (by omega) (nodB_pat h (by omega))
    · exact num_pat n (k := 7) (by omega) (nodB_pat h (by omega))
  have := par_ok (blk_length n) (blk_take n) (blk_good n) (by rw [e, h, blk_zeros]; rfl)
  rw [e] at this
  exact this

theorem blk_inj {s t : Nod} (hs : nodB s = true) (ht : nodB t = true) (h : blk s = blk t) : s = t := by
  have h1 := (par_blk hs).2
  have h2 := (par_blk ht).2
  rw [h] at h1
  exact h1.symm.trans h2

/-- Four bytes side by side changed: still a node's block just if nothing was. -/
theorem par_changed {s : Nod} (hs : nodB s = true) (p m : Nat) (x : List Int) (hl : x.length = 4) (hx : ∀ y ∈ x, 0 ≤ y ∧ y < 256) (hn : 64 = p + 4 + m) :
    (parE (zipx (blk s) (runAt p m x)) = 0 ↔ ∀ y ∈ x, y = 0) := by
  have hr : ∀ y ∈ runAt p m x, 0 ≤ y ∧ y < 256 := by
    intro y hy
    simp only [runAt, List.mem_append, List.mem_replicate] at hy
    rcases hy with h | h | h
    · omega
    · exact hx y h
    · omega
  have hz := zipx_bd _ _ (blk_bd s) hr
  have key := good_changed (blk s) p m x (blk_bd s) hl hx (by rw [blk_length]; exact hn) (blk_good s) hz
  constructor
  · intro h; exact key.1 (parE_zero h).2.1
  · intro h
    have e1 : runAt p m x = List.replicate 64 0 := by
      unfold runAt
      have : x = List.replicate 4 0 := List.eq_replicate_iff.2 ⟨hl, h⟩
      rw [this, List.replicate_append_replicate, List.replicate_append_replicate]
      congr 1; omega
    have e2 : zipx (blk s) (List.replicate 64 0) = blk s := by
      refine List.ext_getElem (by simp [zipx, blk_length]) fun i h1 h2 => ?_
      have hb := blk_bd s (blk s)[i] (List.getElem_mem _)
      simp only [zipx, List.getElem_zipWith, List.getElem_replicate, Int.toNat_zero, Nat.xor_zero]
      omega
    rw [e1, e2]
    exact (par_blk hs).1

/-- Which pointer of a node leads to a sector, which sector of what that leads to it is, and the error. -/
def placeR (s l : Int) : Int × Int × Int :=
  if 0 ≤ l ∧ l ≤ 2 ∧ 0 ≤ s ∧ s < 8 * 8 ^ l.toNat then (s / 8 ^ l.toNat, s % 8 ^ l.toNat, 0) else (0, 0, 1)

theorem place_yes {s l : Int} (h : 0 ≤ l ∧ l ≤ 2 ∧ 0 ≤ s ∧ s < 8 * 8 ^ l.toNat) : placeR s l = (s / 8 ^ l.toNat, s % 8 ^ l.toNat, 0) := if_pos h
theorem place_no {s l : Int} (h : ¬ (0 ≤ l ∧ l ≤ 2 ∧ 0 ≤ s ∧ s < 8 * 8 ^ l.toNat)) : placeR s l = (0, 0, 1) := if_neg h

end Wn
