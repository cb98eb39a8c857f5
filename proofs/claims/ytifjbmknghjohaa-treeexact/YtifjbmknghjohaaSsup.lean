/-
  Plain mathematics of superblocks: which are right, their blocks, what a block says, which of two slots is picked. It speaks of no program. No conditions beyond those that each theorem names.
-/
import Derived.Test.YtifjbmknghjohaaSum
namespace Ws
open Wc

structure Sup where
  gen : Int
  blocks : Int
  root : Int
  size : Int
  first : Int

def s0 : Sup := ⟨0, 0, 0, 0, 0⟩

def linkB (n below : Int) : Bool := n == 0 || (decide (2 ≤ n) && decide (n < below))
def supB (s : Sup) : Bool :=
  (decide (1 ≤ s.gen) && decide (s.gen ≤ 1099511627776)) && ((decide (4 ≤ s.blocks) && decide (s.blocks ≤ 4096)) && ((decide (0 ≤ s.size) && decide (s.size ≤ 512)) && (linkB s.root s.blocks && linkB s.first s.blocks)))
def supE (s : Sup) : Int := if supB s then 0 else 1

theorem supB_iff {s : Sup} : supB s = true ↔ (1 ≤ s.gen ∧ s.gen ≤ 1099511627776) ∧ (4 ≤ s.blocks ∧ s.blocks ≤ 4096) ∧ (0 ≤ s.size ∧ s.size ≤ 512) ∧ (s.root = 0 ∨ 2 ≤ s.root ∧ s.root < s.blocks) ∧ (s.first = 0 ∨ 2 ≤ s.first ∧ s.first < s.blocks) := by
  simp [supB, linkB]

theorem sup_ext {s t : Sup} (h1 : s.gen = t.gen) (h2 : s.blocks = t.blocks) (h3 : s.root = t.root) (h4 : s.size = t.size) (h5 : s.first = t.first) : s = t := by
  cases s; cases t; simp_all

/-- The name. -/
def name : List Int := [87, 67, 85, 84]
/-- All of a superblock's block ahead of its sum. -/
def head (s : Sup) : List Int := name ++ (enc 8 s.gen ++ (enc 4 s.blocks ++ (enc 4 s.root ++ (enc 4 s.size ++ (enc 4 s.first ++ List.replicate 32 0)))))
/-- A superblock's block. -/
def blk (s : Sup) : List Int := head s ++ enc 4 (more 0 (head s))

theorem head_length (s : Sup) : (head s).length = 60 := by simp [head, name, enc_length]
theorem blk_length (s : Sup) : (blk s).length = 64 := by simp [blk, head_length, enc_length]

theorem head_bd (s : Sup) : ∀ x ∈ head s, 0 ≤ x ∧ x < 256 := by
  intro x hx
  simp only [head, List.mem_append] at hx
  rcases hx with h | h | h | h | h | h | h
  · simp [name] at h; omega
  · exact enc_bd _ _ x h
  · exact enc_bd _ _ x h
  · exact enc_bd _ _ x h
  · exact enc_bd _ _ x h
  · exact enc_bd _ _ x h
  · rw [List.mem_replicate] at h; omega

theorem blk_bd (s : Sup) : ∀ x ∈ blk s, 0 ≤ x ∧ x < 256 := by
  intro x hx
  simp only [blk, List.mem_append] at hx
  rcases hx with h | h
  · exact head_bd s x h
  · exact enc_bd _ _ x h

theorem blk_good (s : Sup) : goodB (blk s) = true := good_sealed (head s) (head_bd s)

/-- A number put where zeros stand. -/
theorem putL_zeros (A : List Int) (k p r : Nat) (n : Int) (hA : A.length = p) : putL (A ++ List.replicate (k + r) 0) p k n = (A ++ enc k n) ++ List.replicate r 0 := by
  subst hA
  unfold putL
  rw [List.take_left, List.drop_append, List.drop_eq_nil_of_le (by omega), List.nil_append, List.drop_replicate, show k + r - (A.length + k - A.length) = r by omega, List.append_assoc]

/-- What Bytes puts together. -/
def p0 : List Int := name ++ List.replicate 60 0
def p1 (s : Sup) : List Int := (name ++ enc 8 s.gen) ++ List.replicate 52 0
def p2 (s : Sup) : List Int := ((name ++ enc 8 s.gen) ++ enc 4 s.blocks) ++ List.replicate 48 0
def p3 (s : Sup) : List Int := (((name ++ enc 8 s.gen) ++ enc 4 s.blocks) ++ enc 4 s.root) ++ List.replicate 44 0
def p4 (s : Sup) : List Int := ((((name ++ enc 8 s.gen) ++ enc 4 s.blocks) ++ enc 4 s.root) ++ enc 4 s.size) ++ List.replicate 40 0
def p5 (s : Sup) : List Int := (((((name ++ enc 8 s.gen) ++ enc 4 s.blocks) ++ enc 4 s.root) ++ enc 4 s.size) ++ enc 4 s.first) ++ List.replicate 36 0

theorem put1 (s : Sup) : putL p0 4 8 s.gen = p1 s := putL_zeros name 8 4 52 s.gen rfl
theorem put2 (s : Sup) : putL (p1 s) 12 4 s.blocks = p2 s := putL_zeros _ 4 12 48 _ (by simp [name, enc_length])
theorem put3 (s : Sup) : putL (p2 s) 16 4 s.root = p3 s := putL_zeros _ 4 16 44 _ (by simp [name, enc_length])
theorem put4 (s : Sup) : putL (p3 s) 20 4 s.size = p4 s := putL_zeros _ 4 20 40 _ (by simp [name, enc_length])
theorem put5 (s : Sup) : putL (p4 s) 24 4 s.first = p5 s := putL_zeros _ 4 24 36 _ (by simp [name, enc_length])

theorem p5_head (s : Sup) : p5 s = head s ++ List.replicate 4 0 := by
  have : List.replicate 36 (0 : Int) = List.replicate 32 0 ++ List.replicate 4 0 := by decide
  unfold p5 head
  rw [this]
  simp only [List.append_assoc]

theorem p5_take (s : Sup) : (p5 s).take 60 = head s := by
  rw [p5_head, List.take_append_of_le_length (by rw [head_length]; omega), List.take_of_length_le (by rw [head_length]; omega)]

theorem put6 (s : Sup) : putL (p5 s) 60 4 (more 0 (head s)) = blk s := by
  rw [p5_head, putL_zeros (head s) 4 60 0 _ (head_length s)]
  simp [blk]

theorem p_length (s : Sup) : p0.length = 64 ∧ (p1 s).length = 64 ∧ (p2 s).length = 64 ∧ (p3 s).length = 64 ∧ (p4 s).length = 64 ∧ (p5 s).length = 64 := by
  simp [p0, p1, p2, p3, p4, p5, name, enc_length]

/-- The number of so many bytes at a place. -/
def num (xs : List Int) (p k : Nat) : Int := val ((xs.drop p).take k)

theorem num_mid (A B : List Int) (k p : Nat) (n : Int) (hA : A.length = p) (h0 : 0 ≤ n) (h1 : n < 256 ^ k) : num (A ++ (enc k n ++ B)) p k = n := by
  unfold num
  rw [List.drop_append_of_le_length (by omega), List.drop_eq_nil_of_le (by omega), List.nil_append, List.take_append_of_le_length (by rw [enc_length]; omega), List.take_of_length_le (by rw [enc_length]; omega), val_enc k n h0 h1]

/-- What a block says. -/
def parS (xs : List Int) : Sup := ⟨num xs 4 8, num xs 12 4, num xs 16 4, num xs 20 4, num xs 24 4⟩
def parE (xs : List Int) : Int :=
  if xs.length = 64 then (if xs.take 4 = name then (if goodB xs = true then (if (supB (parS xs) && zerosB xs 28 60) = true then 0 else 1) else 5) else 4) else 2
def par (xs : List Int) : Sup := if parE xs = 0 then parS xs else s0

theorem par_len {xs : List Int} (h : ¬ xs.length = 64) : parE xs = 2 ∧ par xs = s0 := by simp [par, parE, h]
theorem par_name {xs : List Int} (h : xs.length = 64) (h1 : ¬ xs.take 4 = name) : parE xs = 4 ∧ par xs = s0 := by simp [par, parE, h, h1]
theorem par_sum {xs : List Int} (h : xs.length = 64) (h1 : xs.take 4 = name) (h2 : goodB xs = false) : parE xs = 5 ∧ par xs = s0 := by simp [par, parE, h, h1, h2]
theorem par_arg {xs : List Int} (h : xs.length = 64) (h1 : xs.take 4 = name) (h2 : goodB xs = true) (h3 : (supB (parS xs) && zerosB xs 28 60) = false) : parE xs = 1 ∧ par xs = s0 := by simp [par, parE, h, h1, h2, h3]
theorem par_ok {xs : List Int} (h : xs.length = 64) (h1 : xs.take 4 = name) (h2 : goodB xs = true) (h3 : (supB (parS xs) && zerosB xs 28 60) = true) : parE xs = 0 ∧ par xs = parS xs := by simp [par, parE, h, h1, h2, h3]

theorem parE_zero {xs : List Int} (h : parE xs = 0) : xs.length = 64 ∧ goodB xs = true ∧ supB (par xs) = true := by
  by_cases h1 : xs.length = 64
  · by_cases h2 : xs.take 4 = name
    · cases h3 : goodB xs
      · have := (par_sum h1 h2 h3).1; omega
      · cases h4 : (supB (parS xs) && zerosB xs 28 60)
        · have := (par_arg h1 h2 h3 h4).1; omega
        · have e := (par_ok h1 h2 h3 h4).2
          rw [e]
          rw [Bool.and_eq_true] at h4
          exact ⟨h1, rfl, h4.1⟩
    · have := (par_name h1 h2).1; omega
  · have := (par_len h1).1; omega

theorem blk_take (s : Sup) : (blk s).take 4 = name := by
  unfold blk head
  rw [List.append_assoc, List.take_append_of_le_length (by simp [name]), List.take_of_length_le (by simp [name])]

theorem blk_zeros (s : Sup) : zerosB (blk s) 28 60 = true := by
  refine zerosB_true fun j _ h1 h2 => ?_
  have e : blk s = (name ++ (enc 8 s.gen ++ (enc 4 s.blocks ++ (enc 4 s.root ++ (enc 4 s.size ++ enc 4 s.first))))) ++ (List.replicate 32 0 ++ enc 4 (more 0 (head s))) := by
    unfold blk
    conv => lhs; lhs; unfold head
    simp only [List.append_assoc]
  rw [e, List.getD_eq_getElem?_getD, List.getElem?_append_right (by simp [name, enc_length]; omega), List.getElem?_append_left (by simp [name, enc_length]; omega), List.getElem?_replicate]
  split <;> rfl

theorem par_blk {s : Sup} (h : supB s = true) : parE (blk s) = 0 ∧ par (blk s) = s := by
  have hs := supB_iff.1 h
  have e : parS (blk s) = s := by
    have e1 : num (blk s) 4 8 = s.gen := by
      unfold blk head
      rw [List.append_assoc, List.append_assoc]
      exact num_mid name _ 8 4 s.gen rfl (by omega) (by omega)
    have e2 : num (blk s) 12 4 = s.blocks := by
      have : blk s = (name ++ enc 8 s.gen) ++ (enc 4 s.blocks ++ ((enc 4 s.root ++ (enc 4 s.size ++ (enc 4 s.first ++ List.replicate 32 0))) ++ enc 4 (more 0 (head s)))) := by
        unfold blk
        conv => lhs; lhs; unfold head
        simp only [List.append_assoc]
      rw [this]
      exact num_mid _ _ 4 12 _ (by simp [name, enc_length]) (by omega) (by omega)
    have e3 : num (blk s) 16 4 = s.root := by
      have : blk s = ((name ++ enc 8 s.gen) ++ enc 4 s.blocks) ++ (enc 4 s.root ++ ((enc 4 s.size ++ (enc 4 s.first ++ List.replicate 32 0)) ++ enc 4 (more 0 (head s)))) := by
        unfold blk
        conv => lhs; lhs; unfold head
        simp only [List.append_assoc]
      rw [this]
      exact num_mid _ _ 4 16 _ (by simp [name, enc_length]) (by omega) (by omega)
    have e4 : num (blk s) 20 4 = s.size := by
      have : blk s = (((name ++ enc 8 s.gen) ++ enc 4 s.blocks) ++ enc 4 s.root) ++ (enc 4 s.size ++ ((enc 4 s.first ++ List.replicate 32 0) ++ enc 4 (more 0 (head s)))) := by
        unfold blk
        conv => lhs; lhs; unfold head
        simp only [List.append_assoc]
      rw [this]
      exact num_mid _ _ 4 20 _ (by simp [name, enc_length]) (by omega) (by omega)
    have e5 : num (blk s) 24 4 = s.first := by
      have : blk s = ((((name ++ enc 8 s.gen) ++ enc 4 s.blocks) ++ enc 4 s.root) ++ enc 4 s.size) ++ (enc 4 s.first ++ (List.replicate 32 0 ++ enc 4 (more 0 (head s)))) := by
        unfold blk
        conv => lhs; lhs; unfold head
        simp only [List.append_assoc]
      rw [this]
      exact num_mid _ _ 4 24 _ (by simp [name, enc_length]) (by omega) (by omega)
    unfold parS
    rw [e1, e2, e3, e4, e5]
  have := par_ok (blk_length s) (blk_take s) (blk_good s) (by rw [e, h, blk_zeros]; rfl)
  rw [e] at this
  exact this

theorem blk_inj {s t : Sup} (hs : supB s = true) (ht : supB t = true) (h : blk s = blk t) : s = t := by
  have h1 := (par_blk hs).2
  have h2 := (par_blk ht).2
  rw [h] at h1
  exact h1.symm.trans h2

/-- Four bytes side by side changed: still a superblock's block just if nothing was. -/
theorem par_changed {s : Sup} (hs : supB s = true) (p m : Nat) (x : List Int) (hl : x.length = 4) (hx : ∀ y ∈ x, 0 ≤ y ∧ y < 256) (hn : 64 = p + 4 + m) :
    (parE (zipx (blk s) (runAt p m x)) = 0 ↔ ∀ y ∈ x, y = 0) := by
  have hr : ∀ y ∈ runAt p m x, 0 ≤ y ∧ y < 256 := by
    intro y hy
    simp only [runAt, List.mem_append, List.mem_replicate] at hy
    rcases hy with h | h | h
    · omega
    · exact hx y h
    · omega
  have hz := zipx_bd _ _ (blk_bd s) hr
  have key := good_changed (blk s) p m x (blk_bd s) hl hx (by rw [blk_length]; exact hn) (blk_good s) hz
  constructor
  · intro h; exact key.1 (parE_zero h).2.1
  · intro h
    have e1 : runAt p m x = List.replicate 64 0 := by
      unfold runAt
      have : x = List.replicate 4 0 := List.eq_replicate_iff.2 ⟨hl, h⟩
      rw [this, List.replicate_append_replicate, List.replicate_append_replicate]
      congr 1; omega
    have e2 : zipx (blk s) (List.replicate 64 0) = blk s := by
      refine List.ext_getElem (by simp [zipx, blk_length]) fun i h1 h2 => ?_
      have hb := blk_bd s (blk s)[i] (List.getElem_mem _)
      simp only [zipx, List.getElem_zipWith, List.getElem_replicate, Int.toNat_zero, Nat.xor_zero]
      omega
    rw [e1, e2]
    exact (par_blk hs).1

/-- What stands in a slot of a device of n blocks. -/
def slotS (n : Int) (b : List Int) : Sup := if parE b = 0 ∧ (par b).blocks = n then par b else s0

theorem slot_yes {n : Int} {b : List Int} (h : parE b = 0 ∧ (par b).blocks = n) : slotS n b = par b ∧ 1 ≤ (slotS n b).gen := by
  have e : slotS n b = par b := by simp [slotS, h]
  rw [e]
  exact ⟨rfl, (supB_iff.1 (parE_zero h.1).2.2).1.1⟩
theorem slot_no {n : Int} {b : List Int} (h : ¬ (parE b = 0 ∧ (par b).blocks = n)) : slotS n b = s0 := by
  unfold slotS; rw [if_neg h]

/-- Which of the two slots' superblocks stands, where, and the error. -/
def picks (a b : Sup) : Sup × Int × Int :=
  if (if 0 < a.gen then a else s0).gen < b.gen then (b, 1, 0) else if 0 < a.gen then (a, 0, 0) else (s0, 0, 8)

/-- What Pick tells of a device's bytes. -/
def pickR (xs : List Int) : Sup × Int × Int :=
  picks (slotS ((xs.length / 64 : Nat) : Int) (xs.take 64)) (slotS ((xs.length / 64 : Nat) : Int) ((xs.drop 64).take 64))

end Ws
