/-
  Plain mathematics of superblocks: which are right, their blocks, what a block says, which of two slots is picked. It speaks of no program. No conditions beyond those that each theorem names.
  Plain mathematics of nodes: which are right, their blocks, what a block says, which pointer leads to a sector. It speaks of no program. No conditions beyond those that each theorem names.
  Blocks in general: a row of sixty-four bytes; four bytes as a text; bytes put behind a slice; what the page's seal returns.
  What the small functions of package super and of the page's layer 6 return, for every input.
  What super.Bytes returns, for every superblock: its block in memory of its own, or the error.
  What super.Parse returns, for all bytes.
  What super.inSlot and super.Pick return, for every device.
  The statements' own wakes returns true.
  keep.Bytes only reads, whatever its two slices hold: what it returns, and that it draws alone.
  Four bytes side by side put to bytes, one by one: what a row then holds. No conditions beyond those that each theorem names.
  What comparing two superblocks tells.
  A superblock that came in, by value. It speaks of no program but of its type.
-/
import Derived.Test.YtfflhiajbioheaaGreatJA
import Derived.Lib.BufferWrite
import Derived.Lib.SlBytesConst
import Derived.Lib.SmallJoins
import Derived.ArgAppend
import Derived.Test.YtfflhiajbioheaaGreatJB
import Derived.Laws.ResultCell
namespace Ws
open Wc

structure Sup where
  gen : Int
  blocks : Int
  root : Int
  size : Int
  first : Int

def s0 : Sup := ⟨0, 0, 0, 0, 0⟩

def linkB (n below : Int) : Bool := n == 0 || (decide (2 ≤ n) && decide (n < below))
def supB (s : Sup) : Bool :=
  (decide (1 ≤ s.gen) && decide (s.gen ≤ 1099511627776)) && ((decide (4 ≤ s.blocks) && decide (s.blocks ≤ 4096)) && ((decide (0 ≤ s.size) && decide (s.size ≤ 512)) && (linkB s.root s.blocks && linkB s.first s.blocks)))
def supE (s : Sup) : Int := if supB s then 0 else 1

theorem supB_iff {s : Sup} : supB s = true ↔ (1 ≤ s.gen ∧ s.gen ≤ 1099511627776) ∧ (4 ≤ s.blocks ∧ s.blocks ≤ 4096) ∧ (0 ≤ s.size ∧ s.size ≤ 512) ∧ (s.root = 0 ∨ 2 ≤ s.root ∧ s.root < s.blocks) ∧ (s.first = 0 ∨ 2 ≤ s.first ∧ s.first < s.blocks) := by
  simp [supB, linkB]

theorem sup_ext {s t : Sup} (h1 : s.gen = t.gen) (h2 : s.blocks = t.blocks) (h3 : s.root = t.root) (h4 : s.size = t.size) (h5 : s.first = t.first) : s = t := by
  cases s; cases t; simp_all

/-- The name. -/
def name : List Int := [87, 67, 85, 84]
/-- All of a superblock's block ahead of its sum. -/
def head (s : Sup) : List Int := name ++ (enc 8 s.gen ++ (enc 4 s.blocks ++ (enc 4 s.root ++ (enc 4 s.size ++ (enc 4 s.first ++ List.replicate 32 0)))))
/-- A superblock's block. -/
def blk (s : Sup) : List Int := head s ++ enc 4 (more 0 (head s))

theorem head_length (s : Sup) : (head s).length = 60 := by simp [head, name, enc_length]
theorem blk_length (s : Sup) : (blk s).length = 64 := by simp [blk, head_length, enc_length]

theorem head_bd (s : Sup) : ∀ x ∈ head s, 0 ≤ x ∧ x < 256 := by
  intro x hx
  simp only [head, List.mem_append] at hx
  rcases hx with h | h | h | h | h | h | h
  · simp [name] at h; omega
  · exact enc_bd _ _ x h
  · exact enc_bd _ _ x h
  · exact enc_bd _ _ x h
  · exact enc_bd _ _ x h
  · exact enc_bd _ _ x h
  · rw [List.mem_replicate] at h; omega

theorem blk_bd (s : Sup) : ∀ x ∈ blk s, 0 ≤ x ∧ x < 256 := by
  intro x hx
  simp only [blk, List.mem_append] at hx
  rcases hx with h | h
  · exact head_bd s x h
  · exact enc_bd _ _ x h

theorem blk_good (s : Sup) : goodB (blk s) = true := good_sealed (head s) (head_bd s)

/-- A number put where zeros stand. -/
theorem putL_zeros (A : List Int) (k p r : Nat) (n : Int) (hA : A.length = p) : putL (A ++ List.replicate (k + r) 0) p k n = (A ++ enc k n) ++ List.replicate r 0 := by
  subst hA
  unfold putL
  rw [List.take_left, List.drop_append, List.drop_eq_nil_of_le (by omega), List.nil_append, List.drop_replicate, show k + r - (A.length + k - A.length) = r by omega, List.append_assoc]

/-- What Bytes puts together. -/
def p0 : List Int := name ++ List.replicate 60 0
def p1 (s : Sup) : List Int := (name ++ enc 8 s.gen) ++ List.replicate 52 0
def p2 (s : Sup) : List Int := ((name ++ enc 8 s.gen) ++ enc 4 s.blocks) ++ List.replicate 48 0
def p3 (s : Sup) : List Int := (((name ++ enc 8 s.gen) ++ enc 4 s.blocks) ++ enc 4 s.root) ++ List.replicate 44 0
def p4 (s : Sup) : List Int := ((((name ++ enc 8 s.gen) ++ enc 4 s.blocks) ++ enc 4 s.root) ++ enc 4 s.size) ++ List.replicate 40 0
def p5 (s : Sup) : List Int := (((((name ++ enc 8 s.gen) ++ enc 4 s.blocks) ++ enc 4 s.root) ++ enc 4 s.size) ++ enc 4 s.first) ++ List.replicate 36 0

theorem put1 (s : Sup) : putL p0 4 8 s.gen = p1 s := putL_zeros name 8 4 52 s.gen rfl
theorem put2 (s : Sup) : putL (p1 s) 12 4 s.blocks = p2 s := putL_zeros _ 4 12 48 _ (by simp [name, enc_length])
theorem put3 (s : Sup) : putL (p2 s) 16 4 s.root = p3 s := putL_zeros _ 4 16 44 _ (by simp [name, enc_length])
theorem put4 (s : Sup) : putL (p3 s) 20 4 s.size = p4 s := putL_zeros _ 4 20 40 _ (by simp [name, enc_length])
theorem put5 (s : Sup) : putL (p4 s) 24 4 s.first = p5 s := putL_zeros _ 4 24 36 _ (by simp [name, enc_length])

theorem p5_head (s : Sup) : p5 s = head s ++ List.replicate 4 0 := by
  have : List.replicate 36 (0 : Int) = List.replicate 32 0 ++ List.replicate 4 0 := by decide
  unfold p5 head
  rw [this]
  simp only [List.append_assoc]

theorem p5_take (s : Sup) : (p5 s).take 60 = head s := by
  rw [p5_head, List.take_append_of_le_length (by rw [head_length]; omega), List.take_of_length_le (by rw [head_length]; omega)]

theorem put6 (s : Sup) : putL (p5 s) 60 4 (more 0 (head s)) = blk s := by
  rw [p5_head, putL_zeros (head s) 4 60 0 _ (head_length s)]
  simp [blk]

theorem p_length (s : Sup) : p0.length = 64 ∧ (p1 s).length = 64 ∧ (p2 s).length = 64 ∧ (p3 s).length = 64 ∧ (p4 s).length = 64 ∧ (p5 s).length = 64 := by
  simp [p0, p1, p2, p3, p4, p5, name, enc_length]

/-- The number of so many bytes at a place. -/
def num (xs : List Int) (p k : Nat) : Int := val ((xs.drop p).take k)

theorem num_mid (A B : List Int) (k p : Nat) (n : Int) (hA : A.length = p) (h0 : 0 ≤ n) (h1 : n < 256 ^ k) : num (A ++ (enc k n ++ B)) p k = n := by
  unfold num
  rw [List.drop_append_of_le_length (by omega), List.drop_eq_nil_of_le (by omega), List.nil_append, List.take_append_of_le_length (by rw [enc_length]; omega), List.take_of_length_le (by rw [enc_length]; omega), val_enc k n h0 h1]

/-- What a block says. -/
def parS (xs : List Int) : Sup := ⟨num xs 4 8, num xs 12 4, num xs 16 4, num xs 20 4, num xs 24 4⟩
def parE (xs : List Int) : Int :=
  if xs.length = 64 then (if xs.take 4 = name then (if goodB xs = true then (if (supB (parS xs) && zerosB xs 28 60) = true then 0 else 1) else 5) else 4) else 2
def par (xs : List Int) : Sup := if parE xs = 0 then parS xs else s0

theorem par_len {xs : List Int} (h : ¬ xs.length = 64) : parE xs = 2 ∧ par xs = s0 := by simp [par, parE, h]
theorem par_name {xs : List Int} (h : xs.length = 64) (h1 : ¬ xs.take 4 = name) : parE xs = 4 ∧ par xs = s0 := by simp [par, parE, h, h1]
theorem par_sum {xs : List Int} (h : xs.length = 64) (h1 : xs.take 4 = name) (h2 : goodB xs = false) : parE xs = 5 ∧ par xs = s0 := by simp [par, parE, h, h1, h2]
theorem par_arg {xs : List Int} (h : xs.length = 64) (h1 : xs.take 4 = name) (h2 : goodB xs = true) (h3 : (supB (parS xs) && zerosB xs 28 60) = false) : parE xs = 1 ∧ par xs = s0 := by simp [par, parE, h, h1, h2, h3]
theorem par_ok {xs : List Int} (h : xs.length = 64) (h1 : xs.take 4 = name) (h2 : goodB xs = true) (h3 : (supB (parS xs) && zerosB xs 28 60) = true) : parE xs = 0 ∧ par xs = parS xs := by simp [par, parE, h, h1, h2, h3]

theorem parE_zero {xs : List Int} (h : parE xs = 0) : xs.length = 64 ∧ goodB xs = true ∧ supB (par xs) = true := by
  by_cases h1 : xs.length = 64
  · by_cases h2 : xs.take 4 = name
    · cases h3 : goodB xs
      · have := (par_sum h1 h2 h3).1; omega
      · cases h4 : (supB (parS xs) && zerosB xs 28 60)
        · have := (par_arg h1 h2 h3 h4).1; omega
        · have e := (par_ok h1 h2 h3 h4).2
          rw [e]
          rw [Bool.and_eq_true] at h4
          exact ⟨h1, rfl, h4.1⟩
    · have := (par_name h1 h2).1; omega
  · have := (par_len h1).1; omega

theorem blk_take (s : Sup) : (blk s).take 4 = name := by
  unfold blk head
  rw [List.append_assoc, List.take_append_of_le_length (by simp [name]), List.take_of_length_le (by simp [name])]

theorem blk_zeros (s : Sup) : zerosB (blk s) 28 60 = true := by
  refine zerosB_true fun j _ h1 h2 => ?_
  have e : blk s = (name ++ (enc 8 s.gen ++ (enc 4 s.blocks ++ (enc 4 s.root ++ (enc 4 s.size ++ enc 4 s.first))))) ++ (List.replicate 32 0 ++ enc 4 (more 0 (head s))) := by
    unfold blk
    conv => lhs; lhs; unfold head
    simp only [List.append_assoc]
  rw [e, List.getD_eq_getElem?_getD, List.getElem?_append_right (by simp [name, enc_length]; omega), List.getElem?_append_left (by simp [name, enc_length]; omega), List.getElem?_replicate]
  split <;> rfl

theorem par_blk {s : Sup} (h : supB s = true) : parE (blk s) = 0 ∧ par (blk s) = s := by
  have hs := supB_iff.1 h
  have e : parS (blk s) = s := by
    have e1 : num (blk s) 4 8 = s.gen := by
      unfold blk head
      rw [List.append_assoc, List.append_assoc]
      exact num_mid name _ 8 4 s.gen rfl (by omega) (by omega)
    have e2 : num (blk s) 12 4 = s.blocks := by
      have : blk s = (name ++ enc 8 s.gen) ++ (enc 4 s.blocks ++ ((enc 4 s.root ++ (enc 4 s.size ++ (enc 4 s.first ++ List.replicate 32 0))) ++ enc 4 (more 0 (head s)))) := by
        unfold blk
        conv => lhs; lhs; unfold head
        simp only [List.append_assoc]
      rw [this]
      exact num_mid _ _ 4 12 _ (by simp [name, enc_length]) (by omega) (by omega)
    have e3 : num (blk s) 16 4 = s.root := by
      have : blk s = ((name ++ enc 8 s.gen) ++ enc 4 s.blocks) ++ (enc 4 s.root ++ ((enc 4 s.size ++ (enc 4 s.first ++ List.replicate 32 0)) ++ enc 4 (more 0 (head s)))) := by
        unfold blk
        conv => lhs; lhs; unfold head
        simp only [List.append_assoc]
      rw [this]
      exact num_mid _ _ 4 16 _ (by simp [name, enc_length]) (by omega) (by omega)
    have e4 : num (blk s) 20 4 = s.size := by
      have : blk s = (((name ++ enc 8 s.gen) ++ enc 4 s.blocks) ++ enc 4 s.root) ++ (enc 4 s.size ++ ((enc 4 s.first ++ List.replicate 32 0) ++ enc 4 (more 0 (head s)))) := by
        unfold blk
        conv => lhs; lhs; unfold head
        simp only [List.append_assoc]
      rw [this]
      exact num_mid _ _ 4 20 _ (by simp [name, enc_length]) (by omega) (by omega)
    have e5 : num (blk s) 24 4 = s.first := by
      have : blk s = ((((name ++ enc 8 s.gen) ++ enc 4 s.blocks) ++ enc 4 s.root) ++ enc 4 s.size) ++ (enc 4 s.first ++ (List.replicate 32 0 ++ enc 4 (more 0 (head s)))) := by
        unfold blk
        conv => lhs; lhs; unfold head
        simp only [List.append_assoc]
      rw [this]
      exact num_mid _ _ 4 24 _ (by simp [name, enc_length]) (by omega) (by omega)
    unfold parS
    rw [e1, e2, e3, e4, e5]
  have := par_ok (blk_length s) (blk_take s) (blk_good s) (by rw [e, h, blk_zeros]; rfl)
  rw [e] at this
  exact this

theorem blk_inj {s t : Sup} (hs : supB s = true) (ht : supB t = true) (h : blk s = blk t) : s = t := by
  have h1 := (par_blk hs).2
  have h2 := (par_blk ht).2
  rw [h] at h1
  exact h1.symm.trans h2

/-- Four bytes side by side changed: still a superblock's block just if nothing was. -/
theorem par_changed {s : Sup} (hs : supB s = true) (p m : Nat) (x : List Int) (hl : x.length = 4) (hx : ∀ y ∈ x, 0 ≤ y ∧ y < 256) (hn : 64 = p + 4 + m) :
    (parE (zipx (blk s) (runAt p m x)) = 0 ↔ ∀ y ∈ x, y = 0) := by
  have hr : ∀ y ∈ runAt p m x, 0 ≤ y ∧ y < 256 := by
    intro y hy
    simp only [runAt, List.mem_append, List.mem_replicate] at hy
    rcases hy with h | h | h
    · omega
    · exact hx y h
    · omega
  have hz := zipx_bd _ _ (blk_bd s) hr
  have key := good_changed (blk s) p m x (blk_bd s) hl hx (by rw [blk_length]; exact hn) (blk_good s) hz
  constructor
  · intro h; exact key.1 (parE_zero h).2.1
  · intro h
    have e1 : runAt p m x = List.replicate 64 0 := by
      unfold runAt
      have : x = List.replicate 4 0 := List.eq_replicate_iff.2 ⟨hl, h⟩
      rw [this, List.replicate_append_replicate, List.replicate_append_replicate]
      congr 1; omega
    have e2 : zipx (blk s) (List.replicate 64 0) = blk s := by
      refine List.ext_getElem (by simp [zipx, blk_length]) fun i h1 h2 => ?_
      have hb := blk_bd s (blk s)[i] (List.getElem_mem _)
      simp only [zipx, List.getElem_zipWith, List.getElem_replicate, Int.toNat_zero, Nat.xor_zero]
      omega
    rw [e1, e2]
    exact (par_blk hs).1

/-- What stands in a slot of a device of n blocks. -/
def slotS (n : Int) (b : List Int) : Sup := if parE b = 0 ∧ (par b).blocks = n then par b else s0

theorem slot_yes {n : Int} {b : List Int} (h : parE b = 0 ∧ (par b).blocks = n) : slotS n b = par b ∧ 1 ≤ (slotS n b).gen := by
  have e : slotS n b = par b := by simp [slotS, h]
  rw [e]
  exact ⟨rfl, (supB_iff.1 (parE_zero h.1).2.2).1.1⟩
theorem slot_no {n : Int} {b : List Int} (h : ¬ (parE b = 0 ∧ (par b).blocks = n)) : slotS n b = s0 := by
  unfold slotS; rw [if_neg h]

/-- Which of the two slots' superblocks stands, where, and the error. -/
def picks (a b : Sup) : Sup × Int × Int :=
  if (if 0 < a.gen then a else s0).gen < b.gen then (b, 1, 0) else if 0 < a.gen then (a, 0, 0) else (s0, 0, 8)

/-- What Pick tells of a device's bytes. -/
def pickR (xs : List Int) : Sup × Int × Int :=
  picks (slotS ((xs.length / 64 : Nat) : Int) (xs.take 64)) (slotS ((xs.length / 64 : Nat) : Int) ((xs.drop 64).take 64))

end Ws
namespace Wn
open Wc Ws

structure Nod where
  level : Int
  p0 : Int
  p1 : Int
  p2 : Int
  p3 : Int
  p4 : Int
  p5 : Int
  p6 : Int
  p7 : Int

def n0 : Nod := ⟨0, 0, 0, 0, 0, 0, 0, 0, 0⟩
/-- A node's pointers. -/
def ptr (n : Nod) : List Int := [n.p0, n.p1, n.p2, n.p3, n.p4, n.p5, n.p6, n.p7]
def pat (n : Nod) (k : Nat) : Int := (ptr n).getD k 0
/-- A pointer set anew. -/
def setP (n : Nod) (k : Nat) (z : Int) : Nod :=
  match k with
  | 0 => { n with p0 := z }
  | 1 => { n with p1 := z }
  | 2 => { n with p2 := z }
  | 3 => { n with p3 := z }
  | 4 => { n with p4 := z }
  | 5 => { n with p5 := z }
  | 6 => { n with p6 := z }
  | 7 => { n with p7 := z }
  | _ => n

theorem nod_ext {s t : Nod} (h : s.level = t.level) (h0 : s.p0 = t.p0) (h1 : s.p1 = t.p1) (h2 : s.p2 = t.p2) (h3 : s.p3 = t.p3) (h4 : s.p4 = t.p4) (h5 : s.p5 = t.p5) (h6 : s.p6 = t.p6) (h7 : s.p7 = t.p7) : s = t := by
  cases s; cases t; simp_all

theorem ptr_length (n : Nod) : (ptr n).length = 8 := rfl

theorem below8 {k : Nat} (h : k < 8) : k = 0 ∨ k = 1 ∨ k = 2 ∨ k = 3 ∨ k = 4 ∨ k = 5 ∨ k = 6 ∨ k = 7 := by omega

theorem ptr_setP (n : Nod) {k : Nat} (h : k < 8) (z : Int) : ptr (setP n k z) = (ptr n).set k z := by
  rcases below8 h with rfl | rfl | rfl | rfl | rfl | rfl | rfl | rfl <;> rfl

theorem level_setP (n : Nod) (k : Nat) (z : Int) : (setP n k z).level = n.level := by
  unfold setP; split <;> rfl

theorem pat_mem (n : Nod) {k : Nat} (h : k < 8) : pat n k ∈ ptr n := by
  rcases below8 h with rfl | rfl | rfl | rfl | rfl | rfl | rfl | rfl <;> simp [pat, ptr]

theorem mem_pat {n : Nod} {x : Int} (h : x ∈ ptr n) : ∃ k, k < 8 ∧ pat n k = x := by
  simp only [ptr, List.mem_cons, List.not_mem_nil, or_false] at h
  rcases h with rfl | rfl | rfl | rfl | rfl | rfl | rfl | rfl
  · exact ⟨0, by omega, rfl⟩
  · exact ⟨1, by omega, rfl⟩
  · exact ⟨2, by omega, rfl⟩
  · exact ⟨3, by omega, rfl⟩
  · exact ⟨4, by omega, rfl⟩
  · exact ⟨5, by omega, rfl⟩
  · exact ⟨6, by omega, rfl⟩
  · exact ⟨7, by omega, rfl⟩

/-- A right node. -/
def nodB (n : Nod) : Bool := (decide (0 ≤ n.level) && decide (n.level ≤ 2)) && ((ptr n).all (fun p => linkB p 4096) && (ptr n).any (fun p => p != 0))
def nodE (n : Nod) : Int := if nodB n then 0 else 1

theorem linkB_iff {p m : Int} : linkB p m = true ↔ p = 0 ∨ 2 ≤ p ∧ p < m := by simp [linkB]

theorem nodB_iff {n : Nod} : nodB n = true ↔ (0 ≤ n.level ∧ n.level ≤ 2) ∧ (∀ p ∈ ptr n, p = 0 ∨ 2 ≤ p ∧ p < 4096) ∧ ∃ p ∈ ptr n, ¬ p = 0 := by
  simp only [nodB, Bool.and_eq_true, decide_eq_true_eq, List.all_eq_true, List.any_eq_true, linkB_iff, bne_iff_ne, ne_eq]

theorem nodB_level {n : Nod} (h : ¬ (0 ≤ n.level ∧ n.level ≤ 2)) : nodB n = false := by
  rw [Bool.eq_false_iff]; exact fun e => h (nodB_iff.1 e).1
theorem nodB_ptr {n : Nod} (k : Nat) (hk : k < 8) (h : linkB (pat n k) 4096 = false) : nodB n = false := by
  rw [Bool.eq_false_iff]
  intro e
  have := linkB_iff.2 ((nodB_iff.1 e).2.1 _ (pat_mem n hk))
  rw [h] at this; cases this
theorem nodB_none {n : Nod} (h : ∀ k, k < 8 → pat n k = 0) : nodB n = false := by
  rw [Bool.eq_false_iff]
  intro e
  obtain ⟨p, hp, hne⟩ := (nodB_iff.1 e).2.2
  obtain ⟨k, hk, rfl⟩ := mem_pat hp
  exact hne (h k hk)
theorem nodB_yes {n : Nod} (h : 0 ≤ n.level ∧ n.level ≤ 2) (hp : ∀ k, k < 8 → linkB (pat n k) 4096 = true) (ha : ∃ k, k < 8 ∧ ¬ pat n k = 0) : nodB n = true := by
  refine nodB_iff.2 ⟨h, fun p hm => ?_, ?_⟩
  · obtain ⟨k, hk, rfl⟩ := mem_pat hm
    exact linkB_iff.1 (hp k hk)
  · obtain ⟨k, hk, hne⟩ := ha
    exact ⟨_, pat_mem n hk, hne⟩
theorem nodB_pat {n : Nod} (h : nodB n = true) {k : Nat} (hk : k < 8) : 0 ≤ pat n k ∧ pat n k < 4096 := by
  have := (nodB_iff.1 h).2.1 _ (pat_mem n hk)
  omega

/-- The name. -/
def name : List Int := [78, 79, 68, 69]

/-- Numbers of four bytes side by side. -/
def encs : List Int → List Int
  | [] => []
  | x :: xs => enc 4 x ++ encs xs

theorem encs_append (a b : List Int) : encs (a ++ b) = encs a ++ encs b := by
  induction a with
  | nil => rfl
  | cons x a ih => simp [encs, ih]
theorem encs_length (a : List Int) : (encs a).length = 4 * a.length := by
  induction a with
  | nil => rfl
  | cons x a ih => simp [encs, ih, enc_length]; omega
theorem encs_bd (a : List Int) : ∀ x ∈ encs a, 0 ≤ x ∧ x < 256 := by
  induction a with
  | nil => simp [encs]
  | cons y a ih =>
    intro x hx
    simp only [encs, List.mem_append] at hx
    rcases hx with h | h
    · exact enc_bd _ _ x h
    · exact ih x h
theorem encs_next (l : List Int) (k : Nat) (h : k < l.length) : encs (l.take (k + 1)) = encs (l.take k) ++ enc 4 (l.getD k 0) := by
  rw [List.take_succ_eq_append_getElem h, encs_append]
  simp [encs, List.getD, h]
theorem encs_parts (l : List Int) (k : Nat) (h : k < l.length) : encs l = encs (l.take k) ++ (enc 4 (l.getD k 0) ++ encs (l.drop (k + 1))) := by
  have e : l = l.take (k + 1) ++ l.drop (k + 1) := (List.take_append_drop ..).symm
  conv => lhs; rw [e]
  rw [encs_append, encs_next l k h, List.append_assoc]

/-- All of a node's block ahead of its sum. -/
def head (n : Nod) : List Int := name ++ (enc 4 n.level ++ (encs (ptr n) ++ List.replicate 20 0))
/-- A node's block. -/
def blk (n : Nod) : List Int := head n ++ enc 4 (more 0 (head n))

theorem head_length (n : Nod) : (head n).length = 60 := by simp [head, name, enc_length, encs_length, ptr_length]
theorem blk_length (n : Nod) : (blk n).length = 64 := by simp [blk, head_length, enc_length]

theorem head_bd (n : Nod) : ∀ x ∈ head n, 0 ≤ x ∧ x < 256 := by
  intro x hx
  simp only [head, List.mem_append] at hx
  rcases hx with h | h | h | h
  · simp [name] at h; omega
  · exact enc_bd _ _ x h
  · exact encs_bd _ x h
  · rw [List.mem_replicate] at h; omega

theorem blk_bd (n : Nod) : ∀ x ∈ blk n, 0 ≤ x ∧ x < 256 := by
  intro x hx
  simp only [blk, List.mem_append] at hx
  rcases hx with h | h
  · exact head_bd n x h
  · exact enc_bd _ _ x h

theorem blk_good (n : Nod) : goodB (blk n) = true := good_sealed (head n) (head_bd n)

/-- What Bytes puts together: the name; with the level; with so many pointers. -/
def q0 : List Int := name ++ List.replicate 60 0
def part (n : Nod) (k : Nat) : List Int := (name ++ (enc 4 n.level ++ encs ((ptr n).take k))) ++ List.replicate (56 - 4 * k) 0

theorem put0 (n : Nod) : putL q0 4 4 n.level = part n 0 := by
  have := putL_zeros name 4 4 56 n.level rfl
  rw [show (4 + 56 : Nat) = 60 from rfl] at this
  unfold q0
  rw [this]
  simp [part, encs]

theorem putk (n : Nod) (k : Nat) (hk : k < 8) : putL (part n k) (8 + 4 * k) 4 (pat n k) = part n (k + 1) := by
  have := putL_zeros (name ++ (enc 4 n.level ++ encs ((ptr n).take k))) 4 (8 + 4 * k) (56 - 4 * (k + 1)) (pat n k) (by simp [name, enc_length, encs_length, ptr_length]; omega)
  rw [show 4 + (56 - 4 * (k + 1)) = 56 - 4 * k by omega] at this
  unfold part
  rw [this, encs_next _ k (by rw [ptr_length]; exact hk)]
  simp only [List.append_assoc]
  rfl

theorem part_length (n : Nod) (k : Nat) (hk : k ≤ 8) : (part n k).length = 64 := by
  simp [part, name, enc_length, encs_length, ptr_length]; omega
theorem q0_length : q0.length = 64 := by simp [q0, name]

theorem part_head (n : Nod) : part n 8 = head n ++ List.replicate 4 0 := by
  have h1 : List.replicate (56 - 4 * 8) (0 : Int) = List.replicate 20 0 ++ List.replicate 4 0 := by decide
  have h2 : (ptr n).take 8 = ptr n := rfl
  unfold part head
  rw [h1, h2]
  simp only [List.append_assoc]

theorem part_take (n : Nod) : (part n 8).take 60 = head n := by
  rw [part_head, List.take_append_of_le_length (by rw [head_length]; omega), List.take_of_length_le (by rw [head_length]; omega)]
theorem part_bd (n : Nod) : ∀ x ∈ part n 8, 0 ≤ x ∧ x < 256 := by
  intro x hx
  rw [part_head, List.mem_append] at hx
  rcases hx with h | h
  · exact head_bd n x h
  · rw [List.mem_replicate] at h; omega

theorem put_sum (n : Nod) : putL (part n 8) 60 4 (more 0 (head n)) = blk n := by
  rw [part_head, putL_zeros (head n) 4 60 0 _ (head_length n)]
  simp [blk]

/-- What a block says. -/
def parN (xs : List Int) : Nod := ⟨num xs 4 4, num xs 8 4, num xs 12 4, num xs 16 4, num xs 20 4, num xs 24 4, num xs 28 4, num xs 32 4, num xs 36 4⟩
def parE (xs : List Int) : Int :=
  if xs.length = 64 then (if xs.take 4 = name then (if goodB xs = true then (if (nodB (parN xs) && zerosB xs 40 60) = true then 0 else 1) else 5) else 4) else 2
def par (xs : List Int) : Nod := if parE xs = 0 then parN xs else n0

theorem par_len {xs : List Int} (h : ¬ xs.length = 64) : parE xs = 2 ∧ par xs = n0 := by simp [par, parE, h]
theorem par_name {xs : List Int} (h : xs.length = 64) (h1 : ¬ xs.take 4 = name) : parE xs = 4 ∧ par xs = n0 := by simp [par, parE, h, h1]
theorem par_sum {xs : List Int} (h : xs.length = 64) (h1 : xs.take 4 = name) (h2 : goodB xs = false) : parE xs = 5 ∧ par xs = n0 := by simp [par, parE, h, h1, h2]
theorem par_arg {xs : List Int} (h : xs.length = 64) (h1 : xs.take 4 = name) (h2 : goodB xs = true) (h3 : (nodB (parN xs) && zerosB xs 40 60) = false) : parE xs = 1 ∧ par xs = n0 := by simp [par, parE, h, h1, h2, h3]
theorem par_ok {xs : List Int} (h : xs.length = 64) (h1 : xs.take 4 = name) (h2 : goodB xs = true) (h3 : (nodB (parN xs) && zerosB xs 40 60) = true) : parE xs = 0 ∧ par xs = parN xs := by simp [par, parE, h, h1, h2, h3]

theorem parE_zero {xs : List Int} (h : parE xs = 0) : xs.length = 64 ∧ goodB xs = true ∧ nodB (par xs) = true := by
  by_cases h1 : xs.length = 64
  · by_cases h2 : xs.take 4 = name
    · cases h3 : goodB xs
      · have := (par_sum h1 h2 h3).1; omega
      · cases h4 : (nodB (parN xs) && zerosB xs 40 60)
        · have := (par_arg h1 h2 h3 h4).1; omega
        · have e := (par_ok h1 h2 h3 h4).2
          rw [e]
          rw [Bool.and_eq_true] at h4
          exact ⟨h1, rfl, h4.1⟩
    · have := (par_name h1 h2).1; omega
  · have := (par_len h1).1; omega

/-- So many pointers read. -/
def fill (xs : List Int) (k : Nat) : Nod :=
  ⟨num xs 4 4, if 0 < k then num xs 8 4 else 0, if 1 < k then num xs 12 4 else 0, if 2 < k then num xs 16 4 else 0, if 3 < k then num xs 20 4 else 0, if 4 < k then num xs 24 4 else 0, if 5 < k then num xs 28 4 else 0, if 6 < k then num xs 32 4 else 0, if 7 < k then num xs 36 4 else 0⟩
theorem fill_zero (xs : List Int) : fill xs 0 = ⟨num xs 4 4, 0, 0, 0, 0, 0, 0, 0, 0⟩ := rfl
theorem fill_next (xs : List Int) {k : Nat} (h : k < 8) : setP (fill xs k) k (num xs (8 + 4 * k) 4) = fill xs (k + 1) := by
  rcases below8 h with rfl | rfl | rfl | rfl | rfl | rfl | rfl | rfl <;> rfl
theorem fill_all (xs : List Int) : fill xs 8 = parN xs := rfl

theorem blk_take (n : Nod) : (blk n).take 4 = name := by
  unfold blk head
  rw [List.append_assoc, List.take_append_of_le_length (by simp [name]), List.take_of_length_le (by simp [name])]

theorem blk_zeros (n : Nod) : zerosB (blk n) 40 60 = true := by
  refine zerosB_true fun j _ h1 h2 => ?_
  have e : blk n = (name ++ (enc 4 n.level ++ encs (ptr n))) ++ (List.replicate 20 0 ++ enc 4 (more 0 (head n))) := by
    unfold blk
    conv => lhs; lhs; unfold head
    simp only [List.append_assoc]
  have hl : (name ++ (enc 4 n.level ++ encs (ptr n))).length = 40 := by simp [name, enc_length, encs_length, ptr_length]
  rw [e, List.getD_eq_getElem?_getD, List.getElem?_append_right (by omega), List.getElem?_append_left (by rw [List.length_replicate]; omega), List.getElem?_replicate]
  split <;> rfl

theorem num_pat (n : Nod) {k : Nat} (hk : k < 8) (h : 0 ≤ pat n k ∧ pat n k < 4096) : num (blk n) (8 + 4 * k) 4 = pat n k := by
  have e : blk n = (name ++ (enc 4 n.level ++ encs ((ptr n).take k))) ++ (enc 4 (pat n k) ++ ((encs ((ptr n).drop (k + 1)) ++ List.replicate 20 0) ++ enc 4 (more 0 (head n)))) := by
    unfold blk
    conv => lhs; lhs; unfold head
    rw [encs_parts (ptr n) k (by rw [ptr_length]; exact hk)]
    simp only [List.append_assoc]
    rfl
  rw [e]
  exact num_mid _ _ 4 (8 + 4 * k) _ (by simp [name, enc_length, encs_length, ptr_length]; omega) (by omega) (by omega)

theorem par_blk {n : Nod} (h : nodB n = true) : parE (blk n) = 0 ∧ par (blk n) = n := by
  have hs := nodB_iff.1 h
  have el : num (blk n) 4 4 = n.level := by
    unfold blk head
    rw [List.append_assoc, List.append_assoc]
    exact num_mid name _ 4 4 n.level rfl (by omega) (by omega)
  have e : parN (blk n) = n := by
    refine nod_ext el ?_ ?_ ?_ ?_ ?_ ?_ ?_ ?_
    · exact num_pat n (k := 0) (by omega) (nodB_pat h (by omega))
    · exact num_pat n (k := 1) (by omega) (nodB_pat h (by omega))
    · exact num_pat n (k := 2) (by omega) (nodB_pat h (by omega))
    · exact num_pat n (k := 3) (by omega) (nodB_pat h (by omega))
    · exact num_pat n (k := 4) (by omega) (nodB_pat h (by omega))
    · exact num_pat n (k := 5) (by omega) (nodB_pat h (by omega))
    · exact num_pat n (k := 6) (by omega) (nodB_pat h (by omega))
    · exact num_pat n (k := 7) (by omega) (nodB_pat h (by omega))
  have := par_ok (blk_length n) (blk_take n) (blk_good n) (by rw [e, h, blk_zeros]; rfl)
  rw [e] at this
  exact this

theorem blk_inj {s t : Nod} (hs : nodB s = true) (ht : nodB t = true) (h : blk s = blk t) : s = t := by
  have h1 := (par_blk hs).2
  have h2 := (par_blk ht).2
  rw [h] at h1
  exact h1.symm.trans h2

/-- Four bytes side by side changed: still a node's block just if nothing was. -/
theorem par_changed {s : Nod} (hs : nodB s = true) (p m : Nat) (x : List Int) (hl : x.length = 4) (hx : ∀ y ∈ x, 0 ≤ y ∧ y < 256) (hn : 64 = p + 4 + m) :
    (parE (zipx (blk s) (runAt p m x)) = 0 ↔ ∀ y ∈ x, y = 0) := by
  have hr : ∀ y ∈ runAt p m x, 0 ≤ y ∧ y < 256 := by
    intro y hy
    simp only [runAt, List.mem_append, List.mem_replicate] at hy
    rcases hy with h | h | h
    · omega
    · exact hx y h
    · omega
  have hz := zipx_bd _ _ (blk_bd s) hr
  have key := good_changed (blk s) p m x (blk_bd s) hl hx (by rw [blk_length]; exact hn) (blk_good s) hz
  constructor
  · intro h; exact key.1 (parE_zero h).2.1
  · intro h
    have e1 : runAt p m x = List.replicate 64 0 := by
      unfold runAt
      have : x = List.replicate 4 0 := List.eq_replicate_iff.2 ⟨hl, h⟩
      rw [this, List.replicate_append_replicate, List.replicate_append_replicate]
      congr 1; omega
    have e2 : zipx (blk s) (List.replicate 64 0) = blk s := by
      refine List.ext_getElem (by simp [zipx, blk_length]) fun i h1 h2 => ?_
      have hb := blk_bd s (blk s)[i] (List.getElem_mem _)
      simp only [zipx, List.getElem_zipWith, List.getElem_replicate, Int.toNat_zero, Nat.xor_zero]
      omega
    rw [e1, e2]
    exact (par_blk hs).1

/-- Which pointer of a node leads to a sector, which sector of what that leads to it is, and the error. -/
def placeR (s l : Int) : Int × Int × Int :=
  if 0 ≤ l ∧ l ≤ 2 ∧ 0 ≤ s ∧ s < 8 * 8 ^ l.toNat then (s / 8 ^ l.toNat, s % 8 ^ l.toNat, 0) else (0, 0, 1)

theorem place_yes {s l : Int} (h : 0 ≤ l ∧ l ≤ 2 ∧ 0 ≤ s ∧ s < 8 * 8 ^ l.toNat) : placeR s l = (s / 8 ^ l.toNat, s % 8 ^ l.toNat, 0) := if_pos h
theorem place_no {s l : Int} (h : ¬ (0 ≤ l ∧ l ≤ 2 ∧ 0 ≤ s ∧ s < 8 * 8 ^ l.toNat)) : placeR s l = (0, 0, 1) := if_neg h

end Wn
namespace Wc
open Go Go.RowKit

/-- Bytes put behind a slice that has no room: memory of one's own. -/
theorem grow_run {P : Program} {e t ty : Nat} {i : TypeInfo} {w : World} {ad : Addr} {n cap : Nat} {u : Value} {xs ys : List Int} (ht : P.underlying t = some (.slice e)) (hi : P.info? e = some i) (hz : i.zero = some (.int .u8 0)) (hsz : i.size = 1) (hby : i.bytes = 1)
    (hv : Bs w (.slice (some ad) n cap) xs) (hu : Bs w u ys) (h0 : 0 < ys.length) (hfull : cap < n + ys.length) (hl : xs.length + ys.length ≤ 140737488355328) :
    ∃ v' w', Sem.run P (Builtin.append_ #[t, t] ty #[.slice (some ad) n cap, u]) w = .ok v' w' ∧ Ob e w.heap.size w' v' (xs ++ ys) ∧ Below w.heap.size w w' := by
  have hbd : ∀ x ∈ xs ++ ys, 0 ≤ x ∧ x < 256 := by
    intro x hx
    rcases List.mem_append.1 hx with h | h
    · exact bs_bytes hv x h
    · exact bs_bytes hu x h
  have hxl := bs_len hv
  rcases hu.open with ⟨rfl, _⟩ | ⟨b, off, m, c, rfl, hm0, hyl, _, _, _, _, _, hc⟩
  · simp at h0
  · have holds : ∀ j v, (xs.map (Value.int .u8))[j]? = some v → w.cell? (ad.add j) = some v := by
      intro j v hj
      have hjn : j < n := by have := (List.getElem?_eq_some_iff.1 hj).1; simpa [hxl] using this
      rcases hv.open with ⟨_, a', cap', h, _⟩ | ⟨b', off', n', cap', h, _, _, _, _, _, _, _, hc'⟩
      · cases h; omega
      · cases h
        rw [add_none, hc' j hjn]; simpa [hxl, hjn] using hj
    have hnews : ∀ j v, (ys.map (Value.int .u8))[j]? = some v → w.cell? ((⟨b, off, none⟩ : Addr).add j) = some v := by
      intro j v hj
      have hjn : j < m := by have := (List.getElem?_eq_some_iff.1 hj).1; simpa [hyl] using this
      rw [add_none, hc j hjn]; simpa [hyl, hjn] using hj
    obtain ⟨v', w', h1, h2, h3⟩ := run_append_arg_grows (P := P) w t ty e i (.int .u8 0) 1 1 ht hi hz hsz hby rfl (by decide) ad n cap (xs.map (Value.int .u8)) (by simpa using hxl) holds ⟨b, off, none⟩ m c (ys.map (Value.int .u8)) (by simpa using hyl) hnews (by omega) (by unfold maxLen; omega) (by omega)
    refine ⟨v', w', h1, ⟨by simpa [hxl, hyl] using h2, by simpa using hl, hbd⟩, ?_⟩
    exact (Below.refl _ _).grown h3 (Nat.le_refl _) (fun g hg => by cases hg)

theorem bs_shape {w : World} {v : Value} {xs : List Int} (h : Bs w v xs) (h0 : 0 < xs.length) : ∃ b off cap, v = .slice (some ⟨b, off, none⟩) xs.length cap := by
  rcases h.open with ⟨rfl, _⟩ | ⟨b, off, n, cap, rfl, _, hn, _⟩
  · simp at h0
  · exact ⟨b, off, cap, by rw [hn]⟩

theorem ob_form {e base : Nat} {w : World} {v : Value} {xs : List Int} (h : Ob e base w v xs) (h0 : 0 < xs.length) : ∃ g cap, v = .slice (some ⟨g, 0, none⟩) xs.length cap := by
  rcases h.1.2 with ⟨_, h1⟩ | ⟨g, cap, cur, hv, _⟩
  · omega
  · exact ⟨g, cap, hv⟩

/-- The number of a slice's elements. -/
def slLen : Value → Nat
  | .slice _ n _ => n
  | _ => 0

end Wc
namespace Go.Proofs.YtfflhiajbioheaaGreat
open Go.RowKit

/-- A row of bytes. -/
def Rb (w : World) (g : Nat) (xs : List Int) : Prop := w.rowIs g 5 64 (fun j => .int .u8 (xs.getD j 0))

theorem Rb.bs {w : World} {g : Nat} {xs : List Int} (h : Rb w g xs) (hl : xs.length = 64) (hx : ∀ x ∈ xs, 0 ≤ x ∧ x < 256) : Wc.Bs w (.slice (some ⟨g, 0, none⟩) 64 64) xs := Wc.Bs.row hl (by omega) hx h

theorem Rb.keep {w w' : World} {g : Nat} {xs : List Int} (h : Rb w g xs) (hb : Below w.heap.size w w') : Rb w' g xs := by
  obtain ⟨c, h1, h2, h3⟩ := h
  exact ⟨c, by rw [hb.block g (Array.getElem?_eq_some_iff.1 h1).1]; exact h1, h2, h3⟩

theorem make64 (w : World) : (Instr.makeSlice 48 (.int .i64 64) (.int .i64 64)).run Tryz.prog w = .ok (.slice (some ⟨w.heap.size, 0, none⟩) 64 64) (w.alloc (.cells (madeCells #[.int .u8 0] 64) 5)) :=
  run_make_row' (P := Tryz.prog) 48 5 (.int .u8 0) 1 Tryz.underlying48 Tryz.infoU8 rfl .i64 .i64 64 (by omega) (by omega) w

theorem fit8 {n : Int} (h : 0 ≤ n ∧ n ≤ 1099511627776) : Wc.fitB n 8 = true := (Wc.fitB_iff (by decide)).2 ⟨h.1, by omega, by rw [show (8 : Int).toNat = 8 from rfl]; omega⟩
theorem fit4 {n : Int} (h : 0 ≤ n ∧ n < 4294967296) : Wc.fitB n 4 = true := (Wc.fitB_iff (by decide)).2 ⟨h.1, by omega, by rw [show (4 : Int).toNat = 4 from rfl]; omega⟩

/-- The first bytes as a text. -/
def txt (xs : List Int) : ByteArray := ⟨((xs.take 4).map fun x => x.toNat.toUInt8).toArray⟩

theorem ofNat_toNat {x : Int} (h : 0 ≤ x ∧ x < 256) : (x.toNat.toUInt8.toNat : Int) = x := by
  have : x.toNat.toUInt8.toNat = x.toNat := by
    rw [Nat.toUInt8, UInt8.toNat_ofNat']
    omega
  rw [this]; omega

/-- string(b[:4]). -/
theorem convert_txt {w : World} {b off n cap : Nat} {xs : List Int} (hv : Wc.Bs w (.slice (some ⟨b, off, none⟩) n cap) xs) (hn : 4 ≤ n) :
    (convert 48 9 (.slice (some ⟨b, off, none⟩) 4 cap)).run Tryz.prog w = .ok (.string (txt xs)) w := by
  obtain ⟨hl, hc⟩ := Wc.bs_cells hv (by omega)
  have hb := Wc.bs_bytes hv
  have h4 : ((xs.take 4).map fun x => x.toNat.toUInt8).length = 4 := by simp; omega
  have := run_convert_bytes_back (P := Tryz.prog) w 48 9 5 ⟨b, off, none⟩ cap ((xs.take 4).map fun x => x.toNat.toUInt8) Tryz.underlying48 Tryz.underlying5 Tryz.underlying9 (by
    intro j hj
    rw [h4] at hj
    rw [Wc.add_none, hc j (by omega)]
    have hjl : j < xs.length := by omega
    have e : ((xs.take 4).map fun x => x.toNat.toUInt8)[j] = (xs[j]).toNat.toUInt8 := by simp
    rw [e, ofNat_toNat (hb _ (List.getElem_mem _))]
    simp [hjl])
  rw [h4] at this
  exact this

theorem u8_eq {x : Int} (h : 0 ≤ x ∧ x < 256) (k : UInt8) : x.toNat.toUInt8 = k ↔ x = (k.toNat : Int) := by
  have := ofNat_toNat h
  constructor
  · rintro rfl; exact this.symm
  · intro e
    apply UInt8.toNat_inj.1
    omega

set_option maxHeartbeats 1600000 in
theorem seal_any (base : Nat) (v : Value) (xs : List Int) (w : World) (hv : Wc.Ob 5 base w v xs) (h0 : 0 < xs.length) (h60 : xs.length ≤ 60) (hbase : base ≤ w.heap.size) :
    Calls Tryz.prog 46 #[v] w fun e w' => ∃ v', e = .returned v' ∧ Wc.Bs w' v' ((xs ++ List.replicate (60 - xs.length) 0) ++ Wc.enc 4 (Wc.more 0 (xs ++ List.replicate (60 - xs.length) 0))) ∧ Below base w w' := by
  obtain ⟨i0, hi, hz0, hz1, hz2⟩ := info_parts Tryz.infoU8
  have HV := Wc.hid hv
  obtain ⟨g0, c0, rfl⟩ := Wc.ob_form hv h0
  have HXB := Wc.hid (hv.2.2)
  clear hv
  obtain ⟨n, hn⟩ : ∃ n, xs.length = n := ⟨_, rfl⟩
  have HN := Wc.hid hn
  rw [hn] at h0 h60 HV ⊢
  clear hn
  go_enter Tryz.func46, Tryz.ntmps46
  go_wp2
  go_loopw [0] (fun u wr => ∃ k g c, u = .slice (some ⟨g, 0, none⟩) (n + k) c ∧ n + k ≤ 60 ∧ Hid (Wc.Ob 5 base wr (.slice (some ⟨g, 0, none⟩) (n + k) c) (xs ++ List.replicate k 0)) ∧ Hid (Below base w wr)) (fun u _ => 60 - Wc.slLen u)
  case atStart => exact ⟨0, g0, c0, rfl, by omega, Wc.hid (by simpa using HV.out), Wc.hid (Below.refl _ _)⟩
  case round =>
    obtain ⟨k, g, c, rfl, hk, HO, HB⟩ := hrel
    by_cases hlt : n + k < 60
    · have hAl := (Below.refl wr.heap.size wr).alloc (Nat.le_refl _) (.cells #[.int .u8 0] 5)
      have hbw := HB.out.size
      obtain ⟨u', w', hrun, hO', hb'⟩ := Wc.append_run (P := Tryz.prog) (ty := 48) (ys := [0]) Tryz.underlying48 hi hz0 hz1 hz2 (HO.out.keep hAl) (Wc.Bs.lit wr #[.int .u8 0] 5 1 [0] rfl (by omega) rfl (by decide)) (.inr ⟨_, _, _, rfl⟩) (by have := HN.out; simp; omega) (by simp; omega)
      rw [List.append_assoc, show List.replicate k (0 : Int) ++ [0] = List.replicate (k + 1) 0 from (List.replicate_succ' ..).symm] at hO'
      obtain ⟨g', c', rfl⟩ := Wc.ob_form hO' (by rw [List.length_append, List.length_replicate]; omega)
      have e1 : (xs ++ List.replicate (k + 1) (0 : Int)).length = n + (k + 1) := by have := HN.out; simp; omega
      rw [e1] at hrun hO'
      have HO' := Wc.hid hO'
      have HB' := Wc.hid ((HB.out.alloc (by omega) _).trans hb')
      have hlt2 : ((n : Int) + (k : Int) < 60) := by omega
      clear hAl hbw hO' hb' e1
      go_wp2_with (at_builtin; refine Wc.wp_append hrun rfl rfl rfl rfl ?_)
      clear hrun
      go_roundw
      case rel => exact ⟨k + 1, g', c', rfl, by omega, HO', HB'⟩
      case measure => simp only [Wc.slLen]; omega
    · obtain rfl : k = 60 - n := by omega
      have hb60 : n + (60 - n) = 60 := by omega
      rw [hb60] at HO ⊢
      obtain ⟨P, hP⟩ : ∃ P, xs ++ List.replicate (60 - n) (0 : Int) = P := ⟨_, rfl⟩
      rw [hP] at HO
      have HP := Wc.hid hP
      clear hP hlt hb60 hk
      go_wp2_with fail
      refine (refSum_any _ _ _ HO.out.bs).mono ?_
      rintro e w2 ⟨rfl, rfl⟩
      have hm := Wc.more_range 0 P HO.out.2.2
      obtain ⟨S, hS⟩ : ∃ S, Wc.more 0 P = S := ⟨_, rfl⟩
      rw [hS] at hm ⊢
      have HS := Wc.hid hS
      clear hS
      go_wp2_with fail
      refine (refBytes_any 4 S _ (by omega) hm.1 (by omega)).mono ?_
      rintro e w3 ⟨u, rfl, hu, hb3⟩
      have hel := Wc.enc_length 4 S
      obtain ⟨b3, o3, c3, rfl⟩ := Wc.bs_shape hu (by omega)
      have hPl : P.length = 60 := Wc.bs_len HO.out.bs
      obtain ⟨v', w4, hrun, hO4, hb4⟩ := Wc.append_run (P := Tryz.prog) (ty := 48) (ys := Wc.enc 4 S) Tryz.underlying48 hi hz0 hz1 hz2 (HO.out.keep hb3) hu (.inr ⟨_, _, _, rfl⟩) (by omega) (by have := HB.out.size; have := hb3.size; omega)
      have HB4 := Wc.hid ((HB.out.trans (hb3.mono (by have := HB.out.size; omega))).trans hb4)
      have HO4 := Wc.hid hO4
      clear hm hu hb3 hel hPl hO4 hb4
      go_wp2_with (at_builtin; refine Wc.wp_append hrun rfl rfl rfl rfl ?_)
      go_ret
      exact ⟨v', rfl, by rw [HP.out, HS.out]; exact HO4.out.bs, HB4.out⟩

end Go.Proofs.YtfflhiajbioheaaGreat
namespace Go.Proofs.YtfflhiajbioheaaGreat
open Go.RowKit

/-- A superblock as a value. -/
def sv (s : Ws.Sup) : Value := .agg #[.int .i64 s.gen, .int .i64 s.blocks, .int .i64 s.root, .int .i64 s.size, .int .i64 s.first]

set_option maxHeartbeats 400000 in
theorem within_any (n lo hi : Int) (w : World) :
    Calls Tryz.prog 58 #[.int .i64 n, .int .i64 lo, .int .i64 hi] w fun e w' => e = .returned (.bool (decide (lo ≤ n) && decide (n ≤ hi))) ∧ w = w' := by
  go_enter Tryz.func58, Tryz.ntmps58
  go_wp2
  all_goals go_ret
  · exact ⟨ret_bool (by simp [*]), rfl⟩
  · exact ⟨ret_bool (by symm; rw [Bool.eq_false_iff]; simp; omega), rfl⟩

set_option maxHeartbeats 400000 in
theorem leads_any (n m : Int) (w : World) :
    Calls Tryz.prog 59 #[.int .i64 n, .int .i64 m] w fun e w' => e = .returned (.bool (Ws.linkB n m)) ∧ w = w' := by
  go_enter Tryz.func59, Tryz.ntmps59
  go_wp2
  all_goals go_ret
  all_goals (refine ⟨ret_bool ?_, rfl⟩; rw [Bool.eq_iff_iff]; simp [Ws.linkB]; try omega)

set_option maxHeartbeats 400000 in
theorem link_any (n m : Int) (w : World) (hm : 4 ≤ m ∧ m ≤ 4096) :
    Calls Tryz.prog 34 #[.int .i64 n, .int .i64 m] w fun e w' => e = .returned (.bool (Ws.linkB n m)) ∧ w = w' := by
  go_enter Tryz.func34, Tryz.ntmps34
  go_wp2_with (go_at_call 36; refine (refIn_any _ _ _ _).mono ?_; rintro e w' ⟨rfl, rfl⟩)
  all_goals go_ret
  all_goals (refine ⟨ret_bool ?_, rfl⟩; rw [Bool.eq_iff_iff]; simp [Ws.linkB]; try omega)

set_option maxHeartbeats 1600000 in
theorem check6_any (s : Ws.Sup) (w : World) :
    Calls Tryz.prog 41 #[sv s] w fun e w' => e = .returned (.int .i64 (Ws.supE s)) ∧ Below w.heap.size w w' := by
  unfold sv
  go_enter Tryz.func41, Tryz.ntmps41
  go_wp2_with (first | (go_at_call 58; refine (within_any _ _ _ _).mono ?_; rintro e w' ⟨rfl, rfl⟩) | (go_at_call 59; refine (leads_any _ _ _).mono ?_; rintro e w' ⟨rfl, rfl⟩))
  all_goals go_ret
  all_goals (refine ⟨ret_int ?_, (Below.refl _ _).alloc (Nat.le_refl _) _⟩; simp_all [Ws.supE, Ws.supB] <;> omega)

set_option maxHeartbeats 1600000 in
theorem refSuper_any (s : Ws.Sup) (w : World) :
    Calls Tryz.prog 25 #[sv s] w fun e w' => e = .returned (.bool (Ws.supB s)) ∧ Below w.heap.size w w' := by
  unfold sv
  go_enter Tryz.func25, Tryz.ntmps25
  go_wp2_with (first | (go_at_call 36; refine (refIn_any _ _ _ _).mono ?_; rintro e w' ⟨rfl, rfl⟩) | (go_at_call 34; refine (link_any _ _ _ (by assumption)).mono ?_; rintro e w' ⟨rfl, rfl⟩))
  all_goals go_ret
  all_goals (refine ⟨ret_bool ?_, (Below.refl _ _).alloc (Nat.le_refl _) _⟩; simp_all [Ws.supB] <;> omega)

set_option maxHeartbeats 400000 in
theorem put6_row (b off n cap : Nat) (xs : List Int) (p s m : Int) (w : World) (hs : Wc.rsB s = true) (hf : Wc.fitB m s = true) (hp : Wc.inB n p s = true) (hn : n ≤ 140737488355328) (hl : xs.length = n) (hb : b < w.heap.size)
   (hc : ∀ i, i < n → w.cell? ⟨b, off + i, none⟩ = some (.int .u8 (xs.getD i 0))) :
    Calls Tryz.prog 42 #[.slice (some ⟨b, off, none⟩) n cap, .int .i64 p, .int .i64 s, .int .i64 m] w fun e w' => ∃ g, e = .returned (.slice (some ⟨g, 0, none⟩) n n) ∧ w.heap.size ≤ g ∧ w'.rowIs g 5 n (fun j => .int .u8 ((Wc.putL xs p.toNat s.toNat m).getD j 0)) ∧ Below w.heap.size w w' := by
  have HC := Wc.hid hc
  clear hc
  go_enter Tryz.func42, Tryz.ntmps42
  go_wp2_with fail
  refine (put_row b off n cap xs p s m w hs hf hp hn hl hb HC.out).mono ?_
  rintro e w' ⟨g, rfl, hg, hr, hb⟩
  go_wp2
  go_ret
  exact ⟨g, rfl, hg, hr, hb⟩

set_option maxHeartbeats 400000 in
theorem get6_any (v : Value) (xs : List Int) (p s : Int) (w : World) (hv : Wc.Bs w v xs) :
    Calls Tryz.prog 95 #[v, .int .i64 p, .int .i64 s] w fun e w' => e = .returned (.int .i64 (Wc.getR xs p s).1) ∧ w = w' := by
  have HV := Wc.hid hv
  clear hv
  go_enter Tryz.func95, Tryz.ntmps95
  go_wp2_with fail
  refine (get_any v xs p s _ HV.out).mono ?_
  rintro e w' ⟨rfl, rfl⟩
  go_wp2
  go_ret
  exact ⟨rfl, rfl⟩

end Go.Proofs.YtfflhiajbioheaaGreat
namespace Go.Proofs.YtfflhiajbioheaaGreat
open Go.RowKit

/-- At the block b lies the superblock s. -/
def Sc (w : World) (b : Nat) (s : Ws.Sup) : Prop :=
  w.cell? ⟨b, 0, none⟩ = some (.int .i64 s.gen) ∧ w.cell? ⟨b, 1, none⟩ = some (.int .i64 s.blocks) ∧ w.cell? ⟨b, 2, none⟩ = some (.int .i64 s.root) ∧ w.cell? ⟨b, 3, none⟩ = some (.int .i64 s.size) ∧ w.cell? ⟨b, 4, none⟩ = some (.int .i64 s.first)

theorem Sc.keep {w w' : World} {b : Nat} {s : Ws.Sup} (h : Sc w b s) (hb : Below w.heap.size w w') : Sc w' b s := by
  have hlt := Wc.cell_lt h.1
  exact ⟨(hb.cell (p := ⟨b, 0, none⟩) hlt).trans h.1, (hb.cell (p := ⟨b, 1, none⟩) hlt).trans h.2.1, (hb.cell (p := ⟨b, 2, none⟩) hlt).trans h.2.2.1, (hb.cell (p := ⟨b, 3, none⟩) hlt).trans h.2.2.2.1, (hb.cell (p := ⟨b, 4, none⟩) hlt).trans h.2.2.2.2⟩

theorem Sc.new (w : World) (s : Ws.Sup) (t : TypeId) : Sc (w.alloc (.cells #[.int .i64 s.gen, .int .i64 s.blocks, .int .i64 s.root, .int .i64 s.size, .int .i64 s.first] t)) w.heap.size s := by
  refine ⟨?_, ?_, ?_, ?_, ?_⟩ <;> simp

theorem supE_yes {s : Ws.Sup} (h : Ws.supB s = true) : Ws.supE s = 0 := by simp [Ws.supE, h]
theorem supE_no {s : Ws.Sup} (h : Ws.supB s = false) : Ws.supE s = 1 := by simp [Ws.supE, h]

/-- copy(b, "WCUT"), b made just ahead of it. -/
theorem named (w : World) : ∃ w2, Sem.run Tryz.prog (Builtin.copy_ #[48, 9] 3 #[.slice (some ⟨w.heap.size, 0, none⟩) 64 64, .string ⟨#[87, 67, 85, 84]⟩]) (w.alloc (.cells (madeCells #[.int .u8 0] 64) 5)) = .ok (.int .i64 4) w2 ∧
    Rb w2 w.heap.size Ws.p0 ∧ Below w.heap.size w w2 := by
  have hg := made_heap w (.int .u8 0) 64 5
  have hrun := Lib.run_copy_row_string (P := Tryz.prog) (w.alloc (.cells (madeCells #[.int .u8 0] 64) 5)) 48 9 3 5 w.heap.size 0 64 64 ⟨#[87, 67, 85, 84]⟩ _ 5 Tryz.underlying48 Tryz.sizeU8 hg (by decide) (by decide)
  refine ⟨_, hrun, ⟨_, setRow_heap _ _ _ _ 5 _ hg, by decide, fun i hi => ?_⟩, below_setRow ((Below.refl _ _).alloc (Nat.le_refl _) _) (Nat.le_refl _) _⟩
  have hl : i < Ws.p0.length := hi
  have hc : (Ws.p0.map (Value.int .u8)).toArray[i]? = some (.int .u8 (Ws.p0.getD i 0)) := by simp [hl]
  exact hc

set_option maxHeartbeats 400000 in
theorem put6_lay (g : Nat) (xs ys : List Int) (p t m : Int) (w : World) (hl : xs.length = 64) (hs : Wc.rsB t = true) (hf : Wc.fitB m t = true) (hp : Wc.inB 64 p t = true) (hr : Rb w g xs) (he : Wc.putL xs p.toNat t.toNat m = ys) :
    Calls Tryz.prog 42 #[.slice (some ⟨g, 0, none⟩) 64 64, .int .i64 p, .int .i64 t, .int .i64 m] w fun e w' => ∃ g', e = .returned (.slice (some ⟨g', 0, none⟩) 64 64) ∧ w.heap.size ≤ g' ∧ Rb w' g' ys ∧ Below w.heap.size w w' := by
  refine (put6_row g 0 64 64 xs p t m w hs hf hp (by omega) hl hr.lt (fun i hi => by rw [Nat.zero_add]; exact hr.cell hi)).mono ?_
  rintro e w' ⟨g', rfl, hg, hr', hb⟩
  rw [he] at hr'
  exact ⟨g', rfl, hg, hr', hb⟩

set_option maxHeartbeats 1600000 in
theorem bytes6_ok (s : Ws.Sup) (w : World) (hs : Ws.supB s = true) :
    Calls Tryz.prog 18 #[sv s] w fun e w' => ∃ g, e = .returned (.tuple #[.slice (some ⟨g, 0, none⟩) 64 64, .int .i64 0]) ∧ w.heap.size ≤ g ∧ Rb w' g (Ws.blk s) ∧ Below w.heap.size w w' := by
  have HS := Wc.hid (Ws.supB_iff.1 hs)
  have HE := Wc.hid (supE_yes hs)
  have HL := Wc.hid (Ws.p_length s)
  clear hs
  unfold sv
  go_enter Tryz.func18, Tryz.ntmps18
  go_wp2_with fail
  refine (check6_any s _).mono ?_
  rintro e w1 ⟨rfl, hb1⟩
  rw [HE.out]
  have SC1 := Wc.hid ((Sc.new w s 23).keep hb1)
  have HB1 := Wc.hid (Wc.step ((Below.refl w.heap.size w).alloc (Nat.le_refl _) _) (Nat.le_refl _) hb1)
  clear hb1
  obtain ⟨w2, hcp, hr2, hb2⟩ := named w1
  have hmk := make64
  have SC2 := Wc.hid (SC1.out.keep hb2)
  have HR2 := Wc.hid hr2
  have HB2 := Wc.hid (Wc.step HB1.out (Nat.le_refl _) hb2)
  clear hr2 hb2
  have ⟨c0, c1, c2, c3, c4⟩ := SC2.out
  go_wp2_with fail
  clear hmk hcp c0 c1 c2 c3 c4
  refine (put6_lay _ Ws.p0 (Ws.p1 s) 4 8 s.gen _ HL.out.1 (by decide) (fit8 (by have := HS.out; omega)) (by decide) HR2.out (Ws.put1 s)).mono ?_
  rintro e w3 ⟨g3, rfl, hg3, hr3, hb3⟩
  have SC3 := Wc.hid (SC2.out.keep hb3)
  have HR3 := Wc.hid hr3
  have HB3 := Wc.hid (Wc.step HB2.out (Nat.le_refl _) hb3)
  clear hg3 hr3 hb3
  have ⟨c0, c1, c2, c3, c4⟩ := SC3.out
  go_wp2_with fail
  clear c0 c1 c2 c3 c4
  refine (put6_lay _ (Ws.p1 s) (Ws.p2 s) 12 4 s.blocks _ HL.out.2.1 (by decide) (fit4 (by have := HS.out; omega)) (by decide) HR3.out (Ws.put2 s)).mono ?_
  rintro e w4 ⟨g4, rfl, hg4, hr4, hb4⟩
  have SC4 := Wc.hid (SC3.out.keep hb4)
  have HR4 := Wc.hid hr4
  have HB4 := Wc.hid (Wc.step HB3.out (Nat.le_refl _) hb4)
  clear hg4 hr4 hb4
  have ⟨c0, c1, c2, c3, c4⟩ := SC4.out
  go_wp2_with fail
  clear c0 c1 c2 c3 c4
  refine (put6_lay _ (Ws.p2 s) (Ws.p3 s) 16 4 s.root _ HL.out.2.2.1 (by decide) (fit4 (by have := HS.out; omega)) (by decide) HR4.out (Ws.put3 s)).mono ?_
  rintro e w5 ⟨g5, rfl, hg5, hr5, hb5⟩
  have SC5 := Wc.hid (SC4.out.keep hb5)
  have HR5 := Wc.hid hr5
  have HB5 := Wc.hid (Wc.step HB4.out (Nat.le_refl _) hb5)
  clear hg5 hr5 hb5
  have ⟨c0, c1, c2, c3, c4⟩ := SC5.out
  go_wp2_with fail
  clear c0 c1 c2 c3 c4
  refine (put6_lay _ (Ws.p3 s) (Ws.p4 s) 20 4 s.size _ HL.out.2.2.2.1 (by decide) (fit4 (by have := HS.out; omega)) (by decide) HR5.out (Ws.put4 s)).mono ?_
  rintro e w6 ⟨g6, rfl, hg6, hr6, hb6⟩
  have SC6 := Wc.hid (SC5.out.keep hb6)
  have HR6 := Wc.hid hr6
  have HB6 := Wc.hid (Wc.step HB5.out (Nat.le_refl _) hb6)
  clear hg6 hr6 hb6
  have ⟨c0, c1, c2, c3, c4⟩ := SC6.out
  go_wp2_with fail
  clear c0 c1 c2 c3 c4
  refine (put6_lay _ (Ws.p4 s) (Ws.p5 s) 24 4 s.first _ HL.out.2.2.2.2.1 (by decide) (fit4 (by have := HS.out; omega)) (by decide) HR6.out (Ws.put5 s)).mono ?_
  rintro e w7 ⟨g7, rfl, hg7, hr7, hb7⟩
  have HR7 := Wc.hid hr7
  have HB7 := Wc.hid (Wc.step HB6.out (Nat.le_refl _) hb7)
  clear hg7 hr7 hb7
  have HV := Wc.hid (HR7.out.bs HL.out.2.2.2.2.2 (by rw [Ws.p5_head]; intro x hx; rw [List.mem_append] at hx; rcases hx with h | h; exact Ws.head_bd s x h; rw [List.mem_replicate] at h; omega))
  go_wp2_with fail
  refine (sum_any _ _ _ (Wc.bs_take HV.out 60 (by omega))).mono ?_
  rintro e w8 ⟨rfl, rfl⟩
  rw [Ws.p5_take]
  have hm := Wc.more_range 0 (Ws.head s) (Ws.head_bd s)
  have HM := Wc.hid hm
  clear hm
  go_wp2_with fail
  refine (put6_lay _ (Ws.p5 s) (Ws.blk s) 60 4 (Wc.more 0 (Ws.head s)) _ HL.out.2.2.2.2.2 (by decide) (fit4 HM.out) (by decide) HR7.out (Ws.put6 s)).mono ?_
  rintro e w9 ⟨g9, rfl, hg9, hr9, hb9⟩
  go_wp2_with fail
  go_ret2
  exact ⟨g9, rfl, Nat.le_trans HB7.out.size hg9, hr9, Wc.step HB7.out (Nat.le_refl _) hb9⟩

set_option maxHeartbeats 1600000 in
theorem bytes6_bad (s : Ws.Sup) (w : World) (hs : Ws.supB s = false) :
    Calls Tryz.prog 18 #[sv s] w fun e w' => e = .returned (.tuple #[.slice none 0 0, .int .i64 1]) ∧ Below w.heap.size w w' := by
  have HE := Wc.hid (supE_no hs)
  clear hs
  unfold sv
  go_enter Tryz.func18, Tryz.ntmps18
  go_wp2_with fail
  refine (check6_any s _).mono ?_
  rintro e w1 ⟨rfl, hb1⟩
  rw [HE.out]
  go_wp2_with fail
  go_ret2
  exact ⟨rfl, Wc.step ((Below.refl w.heap.size w).alloc (Nat.le_refl _) _) (Nat.le_refl _) hb1⟩

end Go.Proofs.YtfflhiajbioheaaGreat
namespace Go.Proofs.YtfflhiajbioheaaGreat
open Go.RowKit

/-- The block B is a superblock's own cells. -/
def Sh (w : World) (B : Nat) (s : Ws.Sup) : Prop := w.heap[B]? = some (.cells #[.int .i64 s.gen, .int .i64 s.blocks, .int .i64 s.root, .int .i64 s.size, .int .i64 s.first] 23 (0, 0))

theorem Sh.new (w : World) (s : Ws.Sup) : Sh (w.alloc (.cells #[.int .i64 s.gen, .int .i64 s.blocks, .int .i64 s.root, .int .i64 s.size, .int .i64 s.first] 23)) w.heap.size s := by
  show (w.heap.push _)[w.heap.size]? = _; simp

theorem Sh.lt {w : World} {B : Nat} {s : Ws.Sup} (h : Sh w B s) : B < w.heap.size := (Array.getElem?_eq_some_iff.1 h).1

theorem Sh.keep {w w' : World} {B : Nat} {s : Ws.Sup} (h : Sh w B s) (hb : Below w.heap.size w w') : Sh w' B s := by
  unfold Sh
  rw [hb.block B h.lt]; exact h

theorem Sh.sc {w : World} {B : Nat} {s : Ws.Sup} (h : Sh w B s) : Sc w B s := by
  unfold Sh at h
  refine ⟨?_, ?_, ?_, ?_, ?_⟩ <;> simp [World.cell?, h]

theorem Sh.frozen {w : World} {B : Nat} {s : Ws.Sup} (h : Sh w B s) (i : Nat) : w.frozen? ⟨B, i, none⟩ = false := by
  unfold Sh at h
  simp [World.frozen?, h]

/-- A superblock written over another one. -/
theorem Sh.set {w : World} {B : Nat} {s : Ws.Sup} (h : Sh w B s) (t : Ws.Sup) :
    Sh (((((w.setCell ⟨B, 0, none⟩ (.int .i64 t.gen)).setCell ⟨B, 1, none⟩ (.int .i64 t.blocks)).setCell ⟨B, 2, none⟩ (.int .i64 t.root)).setCell ⟨B, 3, none⟩ (.int .i64 t.size)).setCell ⟨B, 4, none⟩ (.int .i64 t.first)) B t := by
  have h1 := heap_setCell_same w B 0 _ 23 (.int .i64 t.gen) h
  have h2 := heap_setCell_same _ B 1 _ 23 (.int .i64 t.blocks) h1
  have h3 := heap_setCell_same _ B 2 _ 23 (.int .i64 t.root) h2
  have h4 := heap_setCell_same _ B 3 _ 23 (.int .i64 t.size) h3
  have h5 := heap_setCell_same _ B 4 _ 23 (.int .i64 t.first) h4
  unfold Sh
  simpa using h5

theorem below5 {B0 B : Nat} {a w : World} (h : Below B0 a w) (hB : B0 ≤ B) (t : Ws.Sup) :
    Below B0 a (((((w.setCell ⟨B, 0, none⟩ (.int .i64 t.gen)).setCell ⟨B, 1, none⟩ (.int .i64 t.blocks)).setCell ⟨B, 2, none⟩ (.int .i64 t.root)).setCell ⟨B, 3, none⟩ (.int .i64 t.size)).setCell ⟨B, 4, none⟩ (.int .i64 t.first)) :=
  ((((h.setCell hB _).setCell hB _).setCell hB _).setCell hB _).setCell hB _

theorem ret_cell {fn : Func} {tmps : Array Value} {w : World} {B : Nat} {s : Ws.Sup} {v : Value} (hr : fn.results = #[.cell 2 23, .tmp 3]) (hp : tmps.getD 2 undef = .pointer (some ⟨B, 0, none⟩)) (hv : tmps.getD 3 undef = v) (h : Sc w B s) :
    (results fn tmps).run Tryz.prog w = .ok (.tuple #[sv s, v]) w := by
  obtain ⟨c0, c1, c2, c3, c4⟩ := h
  rw [results_cell_tmp hr, hp, hv]
  simp [go_sem, c0, c1, c2, c3, c4, sv]

set_option maxHeartbeats 1600000 in
theorem parse_len (a : Option Addr) (n cap : Nat) (w : World) (hl : ¬ n = 64) :
    Calls Tryz.prog 84 #[.slice a n cap] w fun e w' => e = .returned (.tuple #[sv Ws.s0, .int .i64 2]) ∧ Below w.heap.size w w' := by
  have hb : (((n : Int) != 64) = true) := by simp; omega
  clear hl
  go_enter Tryz.func84, Tryz.ntmps84
  go_wp2_with fail
  refine bodyPost_ret (ret_cell rfl rfl rfl (Sc.new w Ws.s0 23)) rfl ⟨rfl, (Below.refl w.heap.size w).alloc (Nat.le_refl _) _⟩

theorem get4_num (xs : List Int) (p : Nat) (hl : xs.length = 64) (hp : p + 4 ≤ 64) (hx : ∀ x ∈ xs, 0 ≤ x ∧ x < 256) : (Wc.getR xs (p : Int) 4).1 = Ws.num xs p 4 := by
  have e : ((xs.drop p).take 4).length = 4 := by simp; omega
  have hb := Wc.val_bd ((xs.drop p).take 4) (fun x h => hx x (List.mem_of_mem_drop (List.mem_of_mem_take h)))
  rw [e] at hb
  rw [Wc.getR_ok xs p 4 (Ws.num xs p 4) (by decide) (Wc.inB_iff.2 (by omega)) rfl (by unfold Ws.num; omega)]

/-- The superblock that Parse puts together: a Gen that is too great is got as 0. -/
def got (xs : List Int) : Ws.Sup := ⟨(Wc.getR xs 4 8).1, Ws.num xs 12 4, Ws.num xs 16 4, Ws.num xs 20 4, Ws.num xs 24 4⟩

theorem got_gen (xs : List Int) (hl : xs.length = 64) : (Wc.getR xs 4 8).1 = if Ws.num xs 4 8 ≤ 4611686018427387903 then Ws.num xs 4 8 else 0 := by
  have hi : Wc.inB xs.length 4 8 = true := Wc.inB_iff.2 (by omega)
  unfold Wc.getR
  rw [hi, show Wc.rsB 8 = true from rfl]
  simp only [Bool.true_eq_false, if_false]
  show (if Ws.num xs 4 8 ≤ 4611686018427387903 then (Ws.num xs 4 8, (0 : Int)) else (0, 1)).1 = _
  split <;> rfl

theorem got_sup (xs : List Int) (hl : xs.length = 64) : Ws.supB (got xs) = Ws.supB (Ws.parS xs) ∧ (Ws.supB (Ws.parS xs) = true → got xs = Ws.parS xs) := by
  have hg := got_gen xs hl
  by_cases h : Ws.num xs 4 8 ≤ 4611686018427387903
  · rw [if_pos h] at hg
    have e : got xs = Ws.parS xs := by unfold got Ws.parS; rw [hg]
    exact ⟨by rw [e], fun _ => e⟩
  · rw [if_neg h] at hg
    have h1 : Ws.supB (got xs) = false := by
      rw [Bool.eq_false_iff]; intro hh
      have := (Ws.supB_iff.1 hh).1
      simp only [got, hg] at this; omega
    have h2 : Ws.supB (Ws.parS xs) = false := by
      rw [Bool.eq_false_iff]; intro hh
      have := (Ws.supB_iff.1 hh).1
      simp only [Ws.parS] at this; omega
    rw [h1, h2]
    exact ⟨rfl, fun h => by cases h⟩

set_option maxHeartbeats 1600000 in
theorem parse_name (b off cap : Nat) (S : ByteArray) (w : World) (hc : 64 ≤ cap) (hc2 : cap ≤ 9223372036854775807)
   (hcv : (convert 48 9 (.slice (some ⟨b, off, none⟩) 4 cap)).run Tryz.prog (w.alloc (.cells #[.int .i64 0, .int .i64 0, .int .i64 0, .int .i64 0, .int .i64 0] 23)) = .ok (.string S) (w.alloc (.cells #[.int .i64 0, .int .i64 0, .int .i64 0, .int .i64 0, .int .i64 0] 23)))
   (hS : (S.toList == [87, 67, 85, 84]) = false) :
    Calls Tryz.prog 84 #[.slice (some ⟨b, off, none⟩) 64 cap] w fun e w' => e = .returned (.tuple #[sv Ws.s0, .int .i64 4]) ∧ Below w.heap.size w w' := by
  go_enter Tryz.func84, Tryz.ntmps84
  go_wp2_with fail
  exact bodyPost_ret (ret_cell rfl rfl rfl (Sc.new w Ws.s0 23)) rfl ⟨rfl, (Below.refl w.heap.size w).alloc (Nat.le_refl _) _⟩

set_option maxHeartbeats 1600000 in
theorem parse_sum (b off cap : Nat) (xs : List Int) (S : ByteArray) (w : World) (hv : Wc.Bs w (.slice (some ⟨b, off, none⟩) 64 cap) xs) (hc : 64 ≤ cap) (hc2 : cap ≤ 9223372036854775807)
   (hcv : (convert 48 9 (.slice (some ⟨b, off, none⟩) 4 cap)).run Tryz.prog (w.alloc (.cells #[.int .i64 0, .int .i64 0, .int .i64 0, .int .i64 0, .int .i64 0] 23)) = .ok (.string S) (w.alloc (.cells #[.int .i64 0, .int .i64 0, .int .i64 0, .int .i64 0, .int .i64 0] 23)))
   (hS : (S.toList == [87, 67, 85, 84]) = true) (hg : Wc.goodB xs = false) :
    Calls Tryz.prog 84 #[.slice (some ⟨b, off, none⟩) 64 cap] w fun e w' => e = .returned (.tuple #[sv Ws.s0, .int .i64 5]) ∧ Below w.heap.size w w' := by
  have HV := Wc.hid (hv.alloc (.cells #[.int .i64 0, .int .i64 0, .int .i64 0, .int .i64 0, .int .i64 0] 23))
  clear hv
  go_enter Tryz.func84, Tryz.ntmps84
  go_wp2_with fail
  refine (good_any _ xs _ HV.out).mono ?_
  rintro e w1 ⟨rfl, rfl⟩
  rw [hg]
  go_wp2_with fail
  exact bodyPost_ret (ret_cell rfl rfl rfl (Sc.new w Ws.s0 23)) rfl ⟨rfl, (Below.refl w.heap.size w).alloc (Nat.le_refl _) _⟩

set_option maxHeartbeats 1600000 in
theorem parse_nums (b off cap : Nat) (xs : List Int) (S : ByteArray) (w : World) (hv : Wc.Bs w (.slice (some ⟨b, off, none⟩) 64 cap) xs) (hc : 64 ≤ cap) (hc2 : cap ≤ 9223372036854775807)
   (hcv : (convert 48 9 (.slice (some ⟨b, off, none⟩) 4 cap)).run Tryz.prog (w.alloc (.cells #[.int .i64 0, .int .i64 0, .int .i64 0, .int .i64 0, .int .i64 0] 23)) = .ok (.string S) (w.alloc (.cells #[.int .i64 0, .int .i64 0, .int .i64 0, .int .i64 0, .int .i64 0] 23)))
   (hS : (S.toList == [87, 67, 85, 84]) = true) (hnm : xs.take 4 = Ws.name) (hg : Wc.goodB xs = true) :
    Calls Tryz.prog 84 #[.slice (some ⟨b, off, none⟩) 64 cap] w fun e w' => e = .returned (.tuple #[sv (Ws.par xs), .int .i64 (Ws.parE xs)]) ∧ Below w.heap.size w w' := by
  have HV := Wc.hid (hv.alloc (.cells #[.int .i64 0, .int .i64 0, .int .i64 0, .int .i64 0, .int .i64 0] 23))
  have hxl := Wc.bs_len hv
  have hxb := Wc.bs_bytes hv
  have HG := Wc.hid (got_sup xs hxl)
  have g0 : Hid ((Wc.getR xs 4 8).1 = (got xs).gen) := Wc.hid rfl
  have g1 : Hid ((Wc.getR xs 12 4).1 = (got xs).blocks) := Wc.hid (get4_num xs 12 hxl (by omega) hxb)
  have g2 : Hid ((Wc.getR xs 16 4).1 = (got xs).root) := Wc.hid (get4_num xs 16 hxl (by omega) hxb)
  have g3 : Hid ((Wc.getR xs 20 4).1 = (got xs).size) := Wc.hid (get4_num xs 20 hxl (by omega) hxb)
  have g4 : Hid ((Wc.getR xs 24 4).1 = (got xs).first) := Wc.hid (get4_num xs 24 hxl (by omega) hxb)
  have HGD := Wc.hid hg
  have HNM := Wc.hid hnm
  clear hnm
  have HXL := Wc.hid hxl
  clear hv hxl hxb
  go_enter Tryz.func84, Tryz.ntmps84
  go_wp2_with fail
  refine (good_any _ xs _ HV.out).mono ?_
  rintro e w1 ⟨rfl, rfl⟩
  rw [HGD.out]
  clear hg hcv
  go_wp2_with (go_at_call 95; refine (get6_any _ xs _ _ _ HV.out).mono ?_; rintro e w' ⟨rfl, rfl⟩)
  rw [g0.out, g1.out, g2.out, g3.out, g4.out]
  clear g0 g1 g2 g3 g4
  generalize got xs = t at HG ⊢
  refine (check6_any t _).mono ?_
  rintro e w2 ⟨rfl, hb2⟩
  have A0 := Wc.hid (((Sh.new w Ws.s0).keep ((Below.refl _ _).alloc (Nat.le_refl _) _)).keep hb2)
  have A1 := Wc.hid (((Sh.new (w.alloc (.cells #[.int .i64 0, .int .i64 0, .int .i64 0, .int .i64 0, .int .i64 0] 23)) t)).keep hb2)
  have HB2 := Wc.hid (Wc.step (((Below.refl w.heap.size w).alloc (Nat.le_refl _) (.cells #[.int .i64 0, .int .i64 0, .int .i64 0, .int .i64 0, .int .i64 0] 23)).alloc (by simp) (.cells #[.int .i64 t.gen, .int .i64 t.blocks, .int .i64 t.root, .int .i64 t.size, .int .i64 t.first] 23)) (Nat.le_refl _) hb2)
  have HV2 := Wc.hid ((HV.out.alloc _).keep hb2)
  clear hb2
  have ⟨c0, c1, c2, c3, c4⟩ := A0.out.sc
  have f0 := A0.out.frozen 0
  have f1 := A0.out.frozen 1
  have f2 := A0.out.frozen 2
  have f3 := A0.out.frozen 3
  have f4 := A0.out.frozen 4
  cases ht : Ws.supB t
  · rw [supE_no ht]
    have HT := Wc.hid ht
    clear ht
    go_wp2_with fail
    have hp := Ws.par_arg HXL.out HNM.out HGD.out (by rw [← HG.out.1, HT.out]; rfl)
    rw [hp.1, hp.2]
    exact bodyPost_ret (ret_cell rfl rfl rfl (A0.out.set Ws.s0).sc) rfl ⟨rfl, below5 HB2.out (Nat.le_refl _) Ws.s0⟩
  · rw [supE_yes ht]
    have HT := Wc.hid ht
    clear ht
    have A1' : Hid (Sh w2 (w.heap.size + 1) t) := Wc.hid (by have := A1.out; simpa using this)
    have ⟨d0, d1, d2, d3, d4⟩ := A1'.out.sc
    go_wp2_with fail
    refine (zeros_any _ xs 28 60 _ HV2.out (by omega)).mono ?_
    rintro e w3 ⟨rfl, rfl⟩
    cases hz : Wc.zerosB xs 28 60
    · have hp := Wc.hid (Ws.par_arg HXL.out HNM.out HGD.out (by rw [hz, Bool.and_false]))
      clear hz
      go_wp2_with fail
      rw [hp.out.1, hp.out.2]
      exact bodyPost_ret (ret_cell rfl rfl rfl (A0.out.set Ws.s0).sc) rfl ⟨rfl, below5 HB2.out (Nat.le_refl _) Ws.s0⟩
    · have hp := Wc.hid (Ws.par_ok HXL.out HNM.out HGD.out (by rw [hz, ← HG.out.1, HT.out]; rfl))
      have HTP := Wc.hid (HG.out.2 (by rw [← HG.out.1]; exact HT.out))
      clear hz
      go_wp2_with fail
      rw [hp.out.1, hp.out.2, ← HTP.out]
      exact bodyPost_ret (ret_cell rfl rfl rfl (A0.out.set t).sc) rfl ⟨rfl, below5 HB2.out (Nat.le_refl _) t⟩

theorem txt_is (xs : List Int) (hl : 4 ≤ xs.length) (hx : ∀ x ∈ xs, 0 ≤ x ∧ x < 256) : ((txt xs).toList == [87, 67, 85, 84]) = true ↔ xs.take 4 = Ws.name := by
  rw [beq_iff_eq, ByteArray.toList_eq]
  match xs, hl with
  | x0 :: x1 :: x2 :: x3 :: r, _ =>
    have h0 := u8_eq (hx x0 (by simp)) 87
    have h1 := u8_eq (hx x1 (by simp)) 67
    have h2 := u8_eq (hx x2 (by simp)) 85
    have h3 := u8_eq (hx x3 (by simp)) 84
    have e0 : ((87 : UInt8).toNat : Int) = 87 := rfl
    have e1 : ((67 : UInt8).toNat : Int) = 67 := rfl
    have e2 : ((85 : UInt8).toNat : Int) = 85 := rfl
    have e3 : ((84 : UInt8).toNat : Int) = 84 := rfl
    rw [e0] at h0
    rw [e1] at h1
    rw [e2] at h2
    rw [e3] at h3
    simp only [txt, Ws.name, List.take_succ_cons, List.take_zero, List.map_cons, List.map_nil, List.cons.injEq, and_true, h0, h1, h2, h3]

theorem txt_no (xs : List Int) (hl : 4 ≤ xs.length) (hx : ∀ x ∈ xs, 0 ≤ x ∧ x < 256) (h : ¬ xs.take 4 = Ws.name) : ((txt xs).toList == [87, 67, 85, 84]) = false := by
  rw [Bool.eq_false_iff]
  exact fun e => h ((txt_is xs hl hx).1 e)

theorem parse_any (v : Value) (xs : List Int) (w : World) (hv : Wc.Bs w v xs) :
    Calls Tryz.prog 84 #[v] w fun e w' => e = .returned (.tuple #[sv (Ws.par xs), .int .i64 (Ws.parE xs)]) ∧ Below w.heap.size w w' := by
  have hxb := Wc.bs_bytes hv
  by_cases hl : xs.length = 64
  · rcases hv.open with ⟨rfl, _⟩ | ⟨b, off, n, cap, rfl, h0, hn, hc, hc2, _⟩
    · simp at hl
    · obtain rfl : n = 64 := by omega
      have hcv := convert_txt (hv.alloc (.cells #[.int .i64 0, .int .i64 0, .int .i64 0, .int .i64 0, .int .i64 0] 23)) (by omega)
      by_cases hnm : xs.take 4 = Ws.name
      · have hS := (txt_is xs (by omega) hxb).2 hnm
        cases hg : Wc.goodB xs
        · have := Ws.par_sum hl hnm hg
          rw [this.1, this.2]
          exact parse_sum b off cap xs _ w hv hc hc2 hcv hS hg
        · exact parse_nums b off cap xs _ w hv hc hc2 hcv hS hnm hg
      · have := Ws.par_name hl hnm
        rw [this.1, this.2]
        exact parse_name b off cap _ w hc hc2 hcv (txt_no xs (by omega) hxb hnm)
  · have := Ws.par_len hl
    rw [this.1, this.2]
    obtain ⟨a, n, cap, rfl, hn, -⟩ := hv
    exact parse_len a n cap w (by omega)

end Go.Proofs.YtfflhiajbioheaaGreat
namespace Go.Proofs.YtfflhiajbioheaaGreat
open Go.RowKit

theorem ret_cell1 {fn : Func} {tmps : Array Value} {w : World} {B : Nat} {s : Ws.Sup} (hr : fn.results = #[.cell 6 23]) (hp : tmps.getD 6 undef = .pointer (some ⟨B, 0, none⟩)) (h : Sc w B s) :
    (results fn tmps).run Tryz.prog w = .ok (sv s) w := by
  obtain ⟨c0, c1, c2, c3, c4⟩ := h
  have hp' : tmps[6]?.getD undef = .pointer (some ⟨B, 0, none⟩) := by simpa using hp
  simp only [results, hr]
  simp [hp', go_sem, c0, c1, c2, c3, c4, sv]

theorem rd_slot {n q : Nat} {xs : List Int} (hd : Wd.devB n = true) (hl : xs.length = n) (hq : q < 2) : Wd.rdE n (q : Int) = 0 ∧ Wd.rdR xs (q : Int) = (xs.drop (q * 64)).take 64 ∧ ((xs.drop (q * 64)).take 64).length = 64 := by
  have h := Wd.devB_iff.1 hd
  have e0 : Wd.rdE n (q : Int) = 0 := by unfold Wd.rdE; rw [if_pos hd, if_pos (by omega)]
  refine ⟨e0, ?_, by simp; omega⟩
  unfold Wd.rdR; rw [hl, if_pos e0]; rfl

set_option maxHeartbeats 1600000 in
theorem inslot_any (ai : Option Addr) (ni ci q : Nat) (m : Int) (xs : List Int) (w : World) (hv : Wc.Bs w (.slice ai ni ci) xs) (hd : Wd.devB ni = true) (hq : q < 2) :
    Calls Tryz.prog 71 #[.slice ai ni ci, .int .i64 q, .int .i64 m] w fun e w' => e = .returned (sv (Ws.slotS m ((xs.drop (q * 64)).take 64))) ∧ Below w.heap.size w w' := by
  have HL := Wc.hid (Wc.bs_len hv)
  have HR := Wc.hid (rd_slot hd HL.out hq)
  have HV := Wc.hid (hv.alloc (.cells #[.int .i64 0, .int .i64 0, .int .i64 0, .int .i64 0, .int .i64 0] 23))
  obtain ⟨B, hB⟩ : ∃ B, (xs.drop (q * 64)).take 64 = B := ⟨_, rfl⟩
  rw [hB] at HR ⊢
  clear hv hd hq hB
  go_enter Tryz.func71, Tryz.ntmps71
  go_wp2_with fail
  refine (read_any _ _ _ _ xs _ HV.out).mono ?_
  rintro e w2 ⟨ax, cx, rfl, hx, hb2⟩
  rw [HL.out, HR.out.1]
  rw [HR.out.2.1] at hx ⊢
  rw [HR.out.2.2] at hx ⊢
  have A2 := Wc.hid ((Sh.new w Ws.s0).keep hb2)
  have HB2 := Wc.hid (Wc.step ((Below.refl w.heap.size w).alloc (Nat.le_refl _) (.cells #[.int .i64 0, .int .i64 0, .int .i64 0, .int .i64 0, .int .i64 0] 23)) (Nat.le_refl _) hb2)
  have HX := Wc.hid hx
  clear hx hb2
  go_wp2_with fail
  refine (parse_any _ B _ HX.out).mono ?_
  rintro e w3 ⟨rfl, hb3⟩
  have A3 := Wc.hid (A2.out.keep hb3)
  have HB3 := Wc.hid (Wc.step HB2.out (Nat.le_refl _) hb3)
  clear hb3
  have HS : Hid (Ws.slotS m B = if Ws.parE B = 0 ∧ (Ws.par B).blocks = m then Ws.par B else Ws.s0) := Wc.hid rfl
  generalize Ws.par B = t at HS ⊢
  generalize Ws.parE B = E at HS ⊢
  have A4 := Wc.hid (A3.out.keep ((Below.refl _ _).alloc (Nat.le_refl _) (.cells #[.int .i64 t.gen, .int .i64 t.blocks, .int .i64 t.root, .int .i64 t.size, .int .i64 t.first] 23)))
  have HB4 := Wc.hid (HB3.out.alloc HB3.out.size (.cells #[.int .i64 t.gen, .int .i64 t.blocks, .int .i64 t.root, .int .i64 t.size, .int .i64 t.first] 23))
  have ⟨c0, c1, c2, c3, c4⟩ := A4.out.sc
  have f0 := A4.out.frozen 0
  have f1 := A4.out.frozen 1
  have f2 := A4.out.frozen 2
  have f3 := A4.out.frozen 3
  have f4 := A4.out.frozen 4
  unfold sv
  by_cases h1 : E = 0
  · subst h1
    by_cases h2 : t.blocks = m
    · have g2 : (t.blocks != m) = false := by simpa using h2
      have HE := Wc.hid (HS.out.trans (if_pos ⟨rfl, h2⟩))
      clear h2 HS
      go_wp2_with fail
      rw [HE.out]
      exact bodyPost_ret (ret_cell1 rfl rfl (A4.out.set t).sc) rfl ⟨rfl, below5 HB4.out (Nat.le_refl _) t⟩
    · have g2 : (t.blocks != m) = true := by simpa using h2
      have HE := Wc.hid (HS.out.trans (if_neg (fun h => h2 h.2)))
      clear h2 HS
      go_wp2_with fail
      rw [HE.out]
      exact bodyPost_ret (ret_cell1 rfl rfl (A4.out.set Ws.s0).sc) rfl ⟨rfl, below5 HB4.out (Nat.le_refl _) Ws.s0⟩
  · have g1 : (E != 0) = true := by simpa using h1
    have HE := Wc.hid (HS.out.trans (if_neg (fun h => h1 h.1)))
    clear h1 HS
    go_wp2_with fail
    rw [HE.out]
    exact bodyPost_ret (ret_cell1 rfl rfl (A4.out.set Ws.s0).sc) rfl ⟨rfl, below5 HB4.out (Nat.le_refl _) Ws.s0⟩

theorem ret_cell3 {fn : Func} {tmps : Array Value} {w : World} {B : Nat} {s : Ws.Sup} {v u : Value} (hr : fn.results = #[.cell 2 23, .tmp 3, .tmp 4]) (hp : tmps.getD 2 undef = .pointer (some ⟨B, 0, none⟩)) (hv : tmps.getD 3 undef = v) (hu : tmps.getD 4 undef = u) (h : Sc w B s) :
    (results fn tmps).run Tryz.prog w = .ok (.tuple #[sv s, v, u]) w := by
  obtain ⟨c0, c1, c2, c3, c4⟩ := h
  have hp' : tmps[2]?.getD undef = .pointer (some ⟨B, 0, none⟩) := by simpa using hp
  have hv' : tmps[3]?.getD undef = v := by simpa using hv
  have hu' : tmps[4]?.getD undef = u := by simpa using hu
  simp only [results, hr]
  simp [hp', hv', hu', go_sem, c0, c1, c2, c3, c4, sv]

/-- What is picked behind k slots. -/
def pst (f : Nat → Ws.Sup) : Nat → Ws.Sup × Int
  | 0 => (Ws.s0, 0)
  | k + 1 => if (pst f k).1.gen < (f k).gen then (f k, (k : Int)) else pst f k

theorem pst_picks (f : Nat → Ws.Sup) : Ws.picks (f 0) (f 1) = if (pst f 2).1.gen = 0 then (Ws.s0, 0, 8) else ((pst f 2).1, (pst f 2).2, 0) := by
  have e1 : pst f 1 = if 0 < (f 0).gen then (f 0, 0) else (Ws.s0, 0) := rfl
  have e2 : pst f 2 = if (pst f 1).1.gen < (f 1).gen then (f 1, 1) else pst f 1 := rfl
  have e3 : Ws.s0.gen = 0 := rfl
  unfold Ws.picks
  by_cases h0 : 0 < (f 0).gen
  · rw [if_pos h0] at e1
    rw [e1] at e2
    by_cases h1 : (f 0).gen < (f 1).gen
    · rw [if_pos (show ((f 0, (0 : Int)) : Ws.Sup × Int).1.gen < (f 1).gen from h1)] at e2
      rw [if_pos h0, if_pos h1, e2, if_neg (by show ¬ (f 1).gen = 0; omega)]
    · rw [if_neg (show ¬ ((f 0, (0 : Int)) : Ws.Sup × Int).1.gen < (f 1).gen from h1)] at e2
      rw [if_pos h0, if_neg h1, if_pos h0, e2, if_neg (by show ¬ (f 0).gen = 0; omega)]
  · rw [if_neg h0] at e1
    rw [e1] at e2
    by_cases h1 : 0 < (f 1).gen
    · rw [if_pos (show ((Ws.s0, (0 : Int)) : Ws.Sup × Int).1.gen < (f 1).gen from h1)] at e2
      rw [if_neg h0, if_pos (by rw [e3]; exact h1), e2, if_neg (by show ¬ (f 1).gen = 0; omega)]
    · rw [if_neg (show ¬ ((Ws.s0, (0 : Int)) : Ws.Sup × Int).1.gen < (f 1).gen from h1)] at e2
      rw [if_neg h0, if_neg (by rw [e3]; exact h1), if_neg h0, e2, if_pos (show Ws.s0.gen = 0 from rfl)]

/-- What Pick tells. -/
def pickA (xs : List Int) : Ws.Sup × Int × Int := if Wd.devB xs.length = true then Ws.pickR xs else (Ws.s0, 0, 2)

theorem pickA_yes {xs : List Int} {f : Nat → Ws.Sup} (h : Wd.devB xs.length = true) (hf : ∀ k, f k = Ws.slotS ((xs.length / 64 : Nat) : Int) ((xs.drop (k * 64)).take 64)) :
    pickA xs = if (pst f 2).1.gen = 0 then (Ws.s0, 0, 8) else ((pst f 2).1, (pst f 2).2, 0) := by
  rw [pickA, if_pos h, ← pst_picks f, hf 0, hf 1]
  simp [Ws.pickR]

set_option maxHeartbeats 3200000 in
theorem pick_any (ai : Option Addr) (ni ci : Nat) (xs : List Int) (w : World) (hv : Wc.Bs w (.slice ai ni ci) xs) :
    Calls Tryz.prog 52 #[.slice ai ni ci] w fun e w' => e = .returned (.tuple #[sv (pickA xs).1, .int .i64 (pickA xs).2.1, .int .i64 (pickA xs).2.2]) ∧ Below w.heap.size w w' := by
  have hni : ni ≤ 140737488355328 := by obtain ⟨_, _, _, h1, _, _, _, h5, _⟩ := hv; cases h1; exact h5
  have HL := Wc.hid (Wc.bs_len hv)
  have HV := Wc.hid hv
  clear hv
  by_cases hd : Wd.devB ni = true
  · have hN := (Wd.chk_yes (Wd.devB_iff.1 hd)).1.symm
    have hE := (Wd.chk_yes (Wd.devB_iff.1 hd)).2.symm
    obtain ⟨m, hm⟩ : ∃ m : Int, (ni : Int) / 64 = m := ⟨_, rfl⟩
    have HM : Hid (((xs.length / 64 : Nat) : Int) = m) := Wc.hid (by rw [HL.out]; omega)
    rw [hm] at hN
    clear hm
    obtain ⟨f, hf⟩ : ∃ f : Nat → Ws.Sup, ∀ k, f k = Ws.slotS m ((xs.drop (k * 64)).take 64) := ⟨_, fun _ => rfl⟩
    have HF := Wc.hid hf
    have HP := Wc.hid (pickA_yes (f := f) (by rw [HL.out]; exact hd) (by rw [HM.out]; exact hf))
    have HD := Wc.hid hd
    clear hf hd
    go_enter Tryz.func52, Tryz.ntmps52
    go_wp2_with (go_at_call 70; refine (check_any _ _ _ _ hni).mono ?_; rintro e w' ⟨rfl, rfl⟩; rw [hN, hE])
    clear hN hE
    go_loopw [3, 17] (fun sl i wr => ∃ (k : Nat) (s : Ws.Sup) (q : Int), i = .int .i64 k ∧ k ≤ 2 ∧ sl = .int .i64 q ∧ Hid (pst f k = (s, q)) ∧ Hid (Sh wr w.heap.size s) ∧ Hid (Below w.heap.size w wr)) (fun _ i _ => 2 - (intOf i).toNat)
    case atStart => exact ⟨0, Ws.s0, 0, rfl, by omega, rfl, Wc.hid rfl, Wc.hid (Sh.new w Ws.s0), Wc.hid ((Below.refl w.heap.size w).alloc (Nat.le_refl _) _)⟩
    case round =>
      obtain ⟨k, s, q, rfl, hk, rfl, HQ, HS, HB⟩ := hrel
      by_cases hlt : k < 2
      · go_wp2_with fail
        refine (inslot_any _ _ _ k m xs _ (HV.out.keep HB.out) HD.out hlt).mono ?_
        rintro e w2 ⟨rfl, hb2⟩
        rw [← HF.out k]
        have HN : Hid (pst f (k + 1) = if s.gen < (f k).gen then (f k, (k : Int)) else (s, q)) := Wc.hid (by show (if (pst f k).1.gen < (f k).gen then (f k, (k : Int)) else pst f k) = _; rw [HQ.out])
        generalize f k = t at HN ⊢
        have A2 := Wc.hid ((HS.out.keep hb2).keep ((Below.refl _ _).alloc (Nat.le_refl _) (.cells #[.int .i64 t.gen, .int .i64 t.blocks, .int .i64 t.root, .int .i64 t.size, .int .i64 t.first] 23)))
        have hbb := Wc.step HB.out (Nat.le_refl _) hb2
        have HB2 := Wc.hid (hbb.alloc hbb.size (.cells #[.int .i64 t.gen, .int .i64 t.blocks, .int .i64 t.root, .int .i64 t.size, .int .i64 t.first] 23))
        have ⟨c0, c1, c2, c3, c4⟩ := A2.out.sc
        have f0 := A2.out.frozen 0
        have f1 := A2.out.frozen 1
        have f2 := A2.out.frozen 2
        have f3 := A2.out.frozen 3
        have f4 := A2.out.frozen 4
        clear hbb hb2
        unfold sv
        by_cases hgt : s.gen < t.gen
        · rw [if_pos hgt] at HN
          go_wp2_with fail
          go_roundw
          case rel => exact ⟨k + 1, t, k, by go_num, by omega, rfl, HN, Wc.hid (A2.out.set t), Wc.hid (below5 HB2.out (Nat.le_refl _) t)⟩
          case measure => simp only [intOf]; omega
        · rw [if_neg hgt] at HN
          go_wp2_with fail
          go_roundw
          case rel => exact ⟨k + 1, s, q, by go_num, by omega, rfl, HN, A2, HB2⟩
          case measure => simp only [intOf]; omega
      · obtain rfl : k = 2 := by omega
        have ⟨c0, c1, c2, c3, c4⟩ := HS.out.sc
        have f0 := HS.out.frozen 0
        have f1 := HS.out.frozen 1
        have f2 := HS.out.frozen 2
        have f3 := HS.out.frozen 3
        have f4 := HS.out.frozen 4
        by_cases h0 : s.gen = 0
        · have g0 : (s.gen == 0) = true := by simpa using h0
          have HA : Hid (pickA xs = (Ws.s0, 0, 8)) := Wc.hid (by rw [HP.out, HQ.out, if_pos h0])
          clear h0 hlt
          go_wp2_with fail
          rw [HA.out]
          exact bodyPost_ret (ret_cell3 rfl rfl rfl rfl (HS.out.set Ws.s0).sc) rfl ⟨rfl, below5 HB.out (Nat.le_refl _) Ws.s0⟩
        · have g0 : (s.gen == 0) = false := by simpa using h0
          have HA : Hid (pickA xs = (s, q, 0)) := Wc.hid (by rw [HP.out, HQ.out, if_neg h0])
          clear h0 hlt
          go_wp2_with fail
          rw [HA.out]
          exact bodyPost_ret (ret_cell3 rfl rfl rfl rfl (HS.out.set s).sc) rfl ⟨rfl, below5 HB.out (Nat.le_refl _) s⟩
  · have hE := (Wd.chk_no (fun h => hd (Wd.devB_iff.2 h))).2.symm
    have HA : Hid (pickA xs = (Ws.s0, 0, 2)) := Wc.hid (by rw [pickA, HL.out, if_neg hd])
    clear hd
    go_enter Tryz.func52, Tryz.ntmps52
    go_wp2_with (go_at_call 70; refine (check_any _ _ _ _ hni).mono ?_; rintro e w' ⟨rfl, rfl⟩; rw [hE])
    rw [HA.out]
    exact bodyPost_ret (ret_cell3 rfl rfl rfl rfl (Sc.new w Ws.s0 23)) rfl ⟨rfl, (Below.refl w.heap.size w).alloc (Nat.le_refl _) _⟩

end Go.Proofs.YtfflhiajbioheaaGreat
namespace Go.Proofs.YtfflhiajbioheaaGreat
open Go.RowKit

def wk : Ws.Sup := ⟨5, 4, 0, 3, 0⟩
theorem wk_sup : Ws.supB wk = true := by decide
theorem wk_par : Ws.par (Ws.blk wk) = ⟨5, 4, 0, 3, 0⟩ ∧ Ws.parE (Ws.blk wk) = 0 := ⟨(Ws.par_blk wk_sup).2, (Ws.par_blk wk_sup).1⟩
theorem s0_no : Ws.supE Ws.s0 = 1 := by decide

theorem zeros_slot (n : Int) : Ws.slotS n (List.replicate 64 0) = Ws.s0 := by
  have h := (Ws.par_name (xs := List.replicate 64 0) (by simp) (by decide)).1
  exact Ws.slot_no (fun e => by omega)

theorem zeros_pick (n : Nat) (hn : n = 256) : pickA (List.replicate n 0) = (Ws.s0, 0, 8) := by
  have e1 : (List.replicate n (0 : Int)).take 64 = List.replicate 64 0 := by rw [List.take_replicate, show min 64 n = 64 by omega]
  have e2 : ((List.replicate n (0 : Int)).drop 64).take 64 = List.replicate 64 0 := by rw [List.drop_replicate, List.take_replicate, show min 64 (n - 64) = 64 by omega]
  rw [pickA, List.length_replicate, if_pos (Wd.devB_iff.2 (by omega))]
  unfold Ws.pickR
  rw [e1, e2, zeros_slot]
  rfl

/-- Noughts, made. -/
theorem made (n : Nat) (hn : n ≤ 140737488355328) : ∃ (xs : List Int) (Z : Array Value), xs = List.replicate n 0 ∧ (∀ w : World, (Instr.makeSlice 48 (.int .i64 n) (.int .i64 n)).run Tryz.prog w = .ok (.slice (some ⟨w.heap.size, 0, none⟩) n n) (w.alloc (.cells Z 5))) ∧
    ∀ (w : World) (g : Nat), g = w.heap.size → Wc.Bs (w.alloc (.cells Z 5)) (.slice (some ⟨g, 0, none⟩) n n) xs :=
  ⟨_, _, rfl, fun w => run_make_row' (P := Tryz.prog) 48 5 (.int .u8 0) 1 Tryz.underlying48 Tryz.infoU8 rfl .i64 .i64 n (by omega) (by omega) w,
    fun w g hg => Wc.Bs.litAt w _ 5 n g hg _ (by simp) hn (Wc.made_zero n) (by intro x hx; rw [List.mem_replicate] at hx; omega)⟩

theorem made256 : ∃ (xs : List Int) (Z : Array Value), pickA xs = (Ws.s0, 0, 8) ∧ (∀ w : World, (Instr.makeSlice 48 (.int .i64 256) (.int .i64 256)).run Tryz.prog w = .ok (.slice (some ⟨w.heap.size, 0, none⟩) 256 256) (w.alloc (.cells Z 5))) ∧
    ∀ (w : World) (g : Nat), g = w.heap.size → Wc.Bs (w.alloc (.cells Z 5)) (.slice (some ⟨g, 0, none⟩) 256 256) xs := by
  obtain ⟨xs, Z, hx, hm, hb⟩ := made 256 (by omega)
  exact ⟨xs, Z, by rw [hx]; exact zeros_pick 256 rfl, hm, hb⟩

theorem bytes6_wk (w : World) :
    Calls Tryz.prog 18 #[.agg #[.int .i64 5, .int .i64 4, .int .i64 0, .int .i64 3, .int .i64 0]] w fun e w' => ∃ g X, e = .returned (.tuple #[.slice (some ⟨g, 0, none⟩) 64 64, .int .i64 0]) ∧ Wc.Bs w' (.slice (some ⟨g, 0, none⟩) 64 64) X ∧ (Ws.par X = ⟨5, 4, 0, 3, 0⟩ ∧ Ws.parE X = 0) ∧ Below w.heap.size w w' := by
  refine (bytes6_ok wk w wk_sup).mono ?_
  rintro e w1 ⟨g, rfl, hg, hr, hb⟩
  exact ⟨g, _, rfl, hr.bs (Ws.blk_length _) (Ws.blk_bd _), wk_par, hb⟩

end Go.Proofs.YtfflhiajbioheaaGreat
namespace Go.Proofs.YtfflhiajbioheaaGreat
open Go.RowKit

set_option maxHeartbeats 400000 in
theorem bytesU_pos (b off n cap b' off' cap' : Nat) (xs ys : List Int) (w : World) (hn : n ≤ 140737488355328) (hl : xs.length = n) (hl' : ys.length = n)
   (hc : ∀ i, i < n → w.cell? ⟨b, off + i, none⟩ = some (.int .u8 (xs.getD i 0)))
   (hc' : ∀ i, i < n → w.cell? ⟨b', off' + i, none⟩ = some (.int .u8 (ys.getD i 0))) :
    Calls Tryz.prog 24 #[.slice (some ⟨b, off, none⟩) n cap, .slice (some ⟨b', off', none⟩) n cap'] w fun e w' => e = .returned (.bool (xs == ys)) ∧ ∃ m, w' = w.drewN m := by
  have HC := Wc.hid hc
  have HC' := Wc.hid hc'
  have HL := Wc.hid hl
  have HL' := Wc.hid hl'
  clear hc hc' hl hl'
  go_enter Tryz.func24, Tryz.ntmps24
  go_wp2
  go_loopw [5] (fun i wr => ∃ k m : Nat, i = .int .i64 k ∧ k ≤ n ∧ wr = w.drewN m ∧ Hid (∀ j, j < k → xs.getD j 0 = ys.getD j 0)) (fun i _ => n - (intOf i).toNat)
  case atStart => exact ⟨0, 0, rfl, by omega, rfl, fun j h => by omega⟩
  case round =>
    obtain ⟨k, m, rfl, hk, rfl, HZ⟩ := hrel
    by_cases hlt : k < n
    · have h1 : (w.drewN m).cell? ⟨b, off + k, none⟩ = some (.int .u8 (xs.getD k 0)) := HC.out k hlt
      have h2 : (w.drewN m).cell? ⟨b', off' + k, none⟩ = some (.int .u8 (ys.getD k 0)) := HC'.out k hlt
      obtain ⟨W, hW⟩ : ∃ W, w.drewN m = W := ⟨_, rfl⟩
      rw [hW] at h1 h2 ⊢
      have HW := Wc.hid hW
      clear hW
      obtain ⟨z, hz⟩ : ∃ z, xs.getD k 0 = z := ⟨_, rfl⟩
      obtain ⟨y, hy⟩ : ∃ y, ys.getD k 0 = y := ⟨_, rfl⟩
      rw [hz] at h1
      rw [hy] at h2
      have HZE := Wc.hid hz
      have HYE := Wc.hid hy
      clear hz hy
      by_cases hzy : z = y
      · have hzb : (z != y) = false := by simpa using hzy
        have HZY := Wc.hid hzy
        clear hzy
        go_wp2
        go_quiet (fail)
        go_wp2
        go_roundw
        case rel =>
          refine ⟨k + 1, m + nq, by go_num, by omega, by rw [← HW.out, drewN_drewN], fun j hj => ?_⟩
          by_cases hjk : j = k
          · subst hjk; rw [HZE.out, HYE.out, HZY.out]
          · exact HZ.out j (by omega)
        case measure => simp [intOf]; omega
      · have hzb : (z != y) = true := by simpa using hzy
        have HZY := Wc.hid hzy
        clear hzy
        go_wp2
        go_quiet (fail)
        go_wp2
        go_ret
        exact ⟨ret_bool (Wc.list_ne k (by rw [HZE.out, HYE.out]; exact HZY.out)).symm, m + nq, by rw [← HW.out, drewN_drewN]⟩
    · go_wp2
      go_ret
      exact ⟨ret_bool (Wc.list_eq (by rw [HL.out, HL'.out]) (fun j hj => HZ.out j (by rw [HL.out] at hj; omega))).symm, m, rfl⟩

set_option maxHeartbeats 400000 in
theorem bytesU_nil (a a' : Option Addr) (cap cap' : Nat) (w : World) :
    Calls Tryz.prog 24 #[.slice a 0 cap, .slice a' 0 cap'] w fun e w' => e = .returned (.bool true) ∧ ∃ m, w' = w.drewN m := by
  go_enter Tryz.func24, Tryz.ntmps24
  go_wp2
  go_loopw [5] (fun i wr => i = .int .i64 0 ∧ w = wr) (fun _ _ => 0)
  case atStart => exact ⟨rfl, rfl⟩
  case round =>
    obtain ⟨rfl, rfl⟩ := hrel
    go_wp2
    go_ret
    exact ⟨rfl, 0, rfl⟩

set_option maxHeartbeats 400000 in
theorem bytesU_len (a a' : Option Addr) (n n' cap cap' : Nat) (w : World) (h : ((n : Int) != (n' : Int)) = true) :
    Calls Tryz.prog 24 #[.slice a n cap, .slice a' n' cap'] w fun e w' => e = .returned (.bool false) ∧ ∃ m, w' = w.drewN m := by
  go_enter Tryz.func24, Tryz.ntmps24
  go_wp2
  go_ret
  exact ⟨rfl, 0, rfl⟩

theorem bytesU (v v' : Value) (xs ys : List Int) (w : World) (hv : Wc.Bs w v xs) (hv' : Wc.Bs w v' ys) :
    Calls Tryz.prog 24 #[v, v'] w fun e w' => e = .returned (.bool (xs == ys)) ∧ ∃ m, w' = w.drewN m := by
  by_cases hlen : xs.length = ys.length
  · rcases hv.open with ⟨rfl, a, cap, rfl, _⟩ | ⟨b, off, n, cap, rfl, h0, hl, _, _, hn, hx, _, hc⟩
    · obtain rfl : ys = [] := List.eq_nil_of_length_eq_zero hlen.symm
      rcases hv'.open with ⟨_, a', cap', rfl, _⟩ | ⟨b, off, n, cap, rfl, h0, hl, _⟩
      · exact bytesU_nil a a' cap cap' w
      · simp at hl; omega
    · rcases hv'.open with ⟨rfl, a', cap', rfl, _⟩ | ⟨b', off', n', cap', rfl, h0', hl', _, _, _, _, _, hc'⟩
      · simp at hlen; subst hlen; simp at hl; omega
      · obtain rfl : n = n' := by omega
        exact bytesU_pos b off n cap b' off' cap' xs ys w hn hl hl' hc hc'
  · rw [Wc.list_ne_len hlen]
    obtain ⟨a, n, cap, rfl, hl, -⟩ := hv
    obtain ⟨a', n', cap', rfl, hl', -⟩ := hv'
    exact bytesU_len a a' n n' cap cap' w (by rw [bne_iff_ne]; omega)

end Go.Proofs.YtfflhiajbioheaaGreat
namespace Go.Proofs.YtfflhiajbioheaaGreat
open Go.RowKit

theorem show_drew {B : Nat} {a b : World} (h : Below B a b) : Below B a b.drew := h.drew

/-- What the row holds behind k rounds. -/
def chg (C zs : List Int) (p k j : Nat) : Int := if p ≤ j ∧ j < p + k then (((C.getD j 0).toNat ^^^ (zs.getD (j - p) 0).toNat : Nat) : Int) else C.getD j 0

/-- Was anything changed within k rounds? -/
def chgB (zs : List Int) (k : Nat) : Bool := !((zs.take k).all (· == 0))

theorem chgB_succ (zs : List Int) (k : Nat) (h : k < zs.length) : chgB zs (k + 1) = (chgB zs k || (zs.getD k 0 != 0)) := by
  unfold chgB
  rw [take_next zs k h, List.all_append, Bool.not_and]
  simp [bne]

theorem chgB_all (zs : List Int) : chgB zs zs.length = false ↔ ∀ y ∈ zs, y = 0 := by
  unfold chgB
  simp

theorem chg_zero (C zs : List Int) (p j : Nat) : chg C zs p 0 j = C.getD j 0 := by
  unfold chg; rw [if_neg (by omega)]

theorem chg_old (C zs : List Int) (p k : Nat) : chg C zs p k (p + k) = C.getD (p + k) 0 := by
  unfold chg; rw [if_neg (by omega)]

theorem chg_row {w : World} {g n k p : Nat} {C zs : List Int} {q : Int} (hq : q = (((C.getD (p + k) 0).toNat ^^^ (zs.getD k 0).toNat : Nat) : Int)) (h : w.rowIs g 5 n (fun j => .int .u8 (chg C zs p k j))) :
    (w.setCell ⟨g, p + k, none⟩ (.int .u8 q)).rowIs g 5 n (fun j => .int .u8 (chg C zs p (k + 1) j)) := by
  refine (h.set (p + k) _).congr fun j _ => ?_
  unfold chg
  by_cases h1 : j = p + k
  · subst h1; rw [if_pos rfl, if_pos (by omega), hq, show p + k - p = k by omega]
  · rw [if_neg h1]
    by_cases h2 : p ≤ j ∧ j < p + k
    · rw [if_pos h2, if_pos (by omega)]
    · rw [if_neg h2, if_neg (by omega)]

/-- Behind all four rounds the bytes are the old ones with the run put to them. -/
theorem chg_end (C zs : List Int) (p n : Nat) (hC : C.length = n + 4) (hz : zs.length = 4) (hp : p ≤ n) (hb : ∀ y ∈ C, 0 ≤ y ∧ y < 256) (j : Nat) (hj : j < n + 4) :
    chg C zs p 4 j = (Wc.zipx C (Wc.runAt p (n - p) zs)).getD j 0 := by
  have hl : (Wc.runAt p (n - p) zs).length = n + 4 := by simp [Wc.runAt, hz]; omega
  have hbj := hb (C.getD j 0) (by rw [List.getD_eq_getElem?_getD, List.getElem?_eq_getElem (by omega)]; simp)
  have e : (Wc.zipx C (Wc.runAt p (n - p) zs)).getD j 0 = (((C.getD j 0).toNat ^^^ ((Wc.runAt p (n - p) zs).getD j 0).toNat : Nat) : Int) := by
    unfold Wc.zipx
    rw [List.getD_eq_getElem?_getD, List.getElem?_zipWith]
    simp [List.getD, show j < C.length by omega, show j < (Wc.runAt p (n - p) zs).length by omega]
  rw [e]
  unfold chg Wc.runAt
  by_cases h1 : p ≤ j ∧ j < p + 4
  · rw [if_pos h1]
    have : (List.replicate p (0 : Int) ++ (zs ++ List.replicate (n - p) 0)).getD j 0 = zs.getD (j - p) 0 := by
      rw [List.getD_eq_getElem?_getD, List.getElem?_append_right (by simp; omega), List.getElem?_append_left (by simp; omega)]
      simp
    rw [this]
  · rw [if_neg h1]
    have : (List.replicate p (0 : Int) ++ (zs ++ List.replicate (n - p) 0)).getD j 0 = 0 := by
      rw [List.getD_eq_getElem?_getD]
      rcases Nat.lt_or_ge j p with h2 | h2
      · rw [List.getElem?_append_left (by simpa using h2)]
        simp [h2]
      · rw [List.getElem?_append_right (by simpa using h2), List.getElem?_append_right (by simp; omega)]
        rw [List.getElem?_replicate]
        split <;> rfl
    rw [this]
    show C.getD j 0 = ((C.getD j 0).toNat ^^^ 0 : Nat)
    rw [Nat.xor_zero]; omega

end Go.Proofs.YtfflhiajbioheaaGreat
namespace Go.Proofs.YtfflhiajbioheaaGreat
open Go.RowKit

/-- Are two superblocks one? -/
def supEq (s t : Ws.Sup) : Bool := s.gen == t.gen && (s.blocks == t.blocks && (s.root == t.root && (s.size == t.size && s.first == t.first)))

theorem supEq_iff {s t : Ws.Sup} : supEq s t = true ↔ s = t := by
  constructor
  · intro h
    simp only [supEq, Bool.and_eq_true, beq_iff_eq] at h
    exact Ws.sup_ext h.1 h.2.1 h.2.2.1 h.2.2.2.1 h.2.2.2.2
  · rintro rfl; simp [supEq]

theorem supEq_no {s t : Ws.Sup} (h : ¬ s = t) : supEq s t = false := by
  rw [Bool.eq_false_iff]
  exact fun e => h (supEq_iff.1 e)

theorem eql_sup (s t : Ws.Sup) (w : World) : (binOp .eql 23 (.agg #[.int .i64 s.gen, .int .i64 s.blocks, .int .i64 s.root, .int .i64 s.size, .int .i64 s.first]) (.agg #[.int .i64 t.gen, .int .i64 t.blocks, .int .i64 t.root, .int .i64 t.size, .int .i64 t.first])).run Tryz.prog w = .ok (.bool (supEq s t)) w := by
  unfold supEq
  cases h1 : (s.gen == t.gen)
  · go_simp
  cases h2 : (s.blocks == t.blocks)
  · go_simp
  cases h3 : (s.root == t.root)
  · go_simp
  cases h4 : (s.size == t.size)
  · go_simp
  cases h5 : (s.first == t.first)
  · go_simp
  · go_simp

theorem neq_sup (s t : Ws.Sup) (w : World) : (binOp .neq 23 (.agg #[.int .i64 s.gen, .int .i64 s.blocks, .int .i64 s.root, .int .i64 s.size, .int .i64 s.first]) (.agg #[.int .i64 t.gen, .int .i64 t.blocks, .int .i64 t.root, .int .i64 t.size, .int .i64 t.first])).run Tryz.prog w = .ok (.bool (!supEq s t)) w := by
  unfold supEq
  cases h1 : (s.gen == t.gen)
  · go_simp
  cases h2 : (s.blocks == t.blocks)
  · go_simp
  cases h3 : (s.root == t.root)
  · go_simp
  cases h4 : (s.size == t.size)
  · go_simp
  cases h5 : (s.first == t.first)
  · go_simp
  · go_simp

end Go.Proofs.YtfflhiajbioheaaGreat
namespace Go.Proofs.YtfflhiajbioheaaGreat
open Go Go.RowKit Go.ChangeShapes Go.WideShapes Go.Joins

theorem array5 {α : Type} {cs : Array α} (h : cs.size = 5) : ∃ c0 c1 c2 c3 c4, cs = #[c0, c1, c2, c3, c4] := by
  obtain ⟨l⟩ := cs
  match l, h with
  | [c0, c1, c2, c3, c4], _ => exact ⟨c0, c1, c2, c3, c4, rfl⟩

theorem open_sup {P : Program} {W : World} {r : Reach} {b0 base : Nat} {t it : TypeId} {f0 f1 f2 f3 f4 : Field} {v : Value} {H : Type} {enc : TypeId × Value → H} {sp : Nat → Bool} {held : Bool} {d : DataW H} {ps : List MemPlace}
    (hu : P.underlying t = some (.struct #[f0, f1, f2, f3, f4])) (ht : [f0, f1, f2, f3, f4].map (fun f => (f.type, f.offset)) = [(it, 0), (it, 1), (it, 2), (it, 3), (it, 4)]) (hi : P.underlying it = some (.int .i64)) (hc1 : P.cellsOf it = 1) (hc : P.cellsOf t = 5)
    (hv : Value.okWide P W r b0 t v) (hd : DataW.Trod enc P W base sp held t v d ps) : ∃ s : Ws.Sup, v = sv s := by
  obtain ⟨cs, rfl, hsz⟩ := okWide_struct hu hv
  obtain ⟨c0, c1, c2, c3, c4, rfl⟩ := array5 (hsz.trans hc)
  obtain ⟨fuel, hf⟩ := hd
  obtain ⟨xs, n, _, _, hl, hlen, hf⟩ := DataW.trod_struct hu hf
  simp only [List.map_cons, List.map_nil, List.cons.injEq, Prod.mk.injEq, and_true] at ht
  obtain ⟨⟨t0, o0⟩, ⟨t1, o1⟩, ⟨t2, o2⟩, ⟨t3, o3⟩, t4, o4⟩ := ht
  match xs, hlen with
  | [y0, y1, y2, y3, y4], _ =>
    have g0 := hf 0 f0 rfl
    have g1 := hf 1 f1 rfl
    have g2 := hf 2 f2 rfl
    have g3 := hf 3 f3 rfl
    have g4 := hf 4 f4 rfl
    rw [t0, o0, hc1] at g0
    rw [t1, o1, hc1] at g1
    rw [t2, o2, hc1] at g2
    rw [t3, o3, hc1] at g3
    rw [t4, o4, hc1] at g4
    obtain ⟨z0, e0, -⟩ := DataW.trod_int hi g0
    obtain ⟨z1, e1, -⟩ := DataW.trod_int hi g1
    obtain ⟨z2, e2, -⟩ := DataW.trod_int hi g2
    obtain ⟨z3, e3, -⟩ := DataW.trod_int hi g3
    obtain ⟨z4, e4, -⟩ := DataW.trod_int hi g4
    simp [Value.cells] at e0 e1 e2 e3 e4
    subst e0 e1 e2 e3 e4
    exact ⟨⟨z0, z1, z2, z3, z4⟩, rfl⟩

end Go.Proofs.YtfflhiajbioheaaGreat
