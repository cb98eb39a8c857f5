/-
  Plain mathematics of records: which are right, their blocks, what a block says. It speaks of no program. No conditions beyond those that each theorem names.
-/
import Derived.Test.YtfejabeifabdlaaNnod
namespace Wr
open Wc Ws

structure Rec where
  next : Int
  id : Int
  parent : Int
  root : Int
  size : Int
  kind : Int
  frames : Int
  digest : Int

def r0 : Rec := ⟨0, 0, 0, 0, 0, 0, 0, 0⟩

/-- Is it an id? -/
def idB (n : Int) : Bool := decide (1 ≤ n) && decide (n ≤ 4611686018427387903)
def idE (n : Int) : Int := if idB n = true then 0 else 1
theorem idE_yes {n : Int} (h : idB n = true) : idE n = 0 := if_pos h
theorem idE_no {n : Int} (h : idB n = false) : idE n = 1 := if_neg (by rw [h]; decide)
theorem idB_iff {n : Int} : idB n = true ↔ 1 ≤ n ∧ n ≤ 4611686018427387903 := by simp [idB]

/-- A right parent of one of that id. -/
def parB (p n : Int) : Bool := p == 0 || (idB p && p != n)
/-- A kind that there is, with such frames and such a digest as one of that kind may have. -/
def kindB (k f d : Int) : Bool := (k == 0 && (f == 0 && d == 0)) || (k == 1 && ((decide (1 ≤ f) && decide (f ≤ 65535)) && (decide (0 ≤ d) && decide (d ≤ 4294967295))))
/-- A right record. -/
def recB (r : Rec) : Bool :=
  linkB r.next 4096 && (linkB r.root 4096 && (idB r.id && (parB r.parent r.id && ((decide (0 ≤ r.size) && decide (r.size ≤ 512)) && kindB r.kind r.frames r.digest))))
def recE (r : Rec) : Int := if recB r then 0 else 1
theorem recE_yes {r : Rec} (h : recB r = true) : recE r = 0 := by simp [recE, h]
theorem recE_no {r : Rec} (h : recB r = false) : recE r = 1 := by simp [recE, h]

theorem parB_iff {p n : Int} : parB p n = true ↔ p = 0 ∨ (1 ≤ p ∧ p ≤ 4611686018427387903) ∧ ¬ p = n := by simp [parB, idB]
theorem kindB_iff {k f d : Int} : kindB k f d = true ↔ (k = 0 ∧ f = 0 ∧ d = 0) ∨ (k = 1 ∧ (1 ≤ f ∧ f ≤ 65535) ∧ (0 ≤ d ∧ d ≤ 4294967295)) := by simp [kindB]
theorem recB_iff {r : Rec} : recB r = true ↔ (r.next = 0 ∨ 2 ≤ r.next ∧ r.next < 4096) ∧ (r.root = 0 ∨ 2 ≤ r.root ∧ r.root < 4096) ∧ (1 ≤ r.id ∧ r.id ≤ 4611686018427387903) ∧
    (r.parent = 0 ∨ (1 ≤ r.parent ∧ r.parent ≤ 4611686018427387903) ∧ ¬ r.parent = r.id) ∧ (0 ≤ r.size ∧ r.size ≤ 512) ∧ ((r.kind = 0 ∧ r.frames = 0 ∧ r.digest = 0) ∨ (r.kind = 1 ∧ (1 ≤ r.frames ∧ r.frames ≤ 65535) ∧ (0 ≤ r.digest ∧ r.digest ≤ 4294967295))) := by
  unfold recB
  rw [Bool.and_eq_true, Bool.and_eq_true, Bool.and_eq_true, Bool.and_eq_true, Bool.and_eq_true, Wn.linkB_iff, Wn.linkB_iff, idB_iff, parB_iff, kindB_iff, Bool.and_eq_true, decide_eq_true_eq, decide_eq_true_eq]

/-- Each number of a right record fits its place. -/
def Fit (r : Rec) : Prop := (0 ≤ r.next ∧ r.next < 4294967296) ∧ (0 ≤ r.id ∧ r.id ≤ 4611686018427387903) ∧ (0 ≤ r.parent ∧ r.parent ≤ 4611686018427387903) ∧ (0 ≤ r.root ∧ r.root < 4294967296) ∧
  (0 ≤ r.size ∧ r.size < 4294967296) ∧ (0 ≤ r.kind ∧ r.kind < 4294967296) ∧ (0 ≤ r.frames ∧ r.frames < 4294967296) ∧ (0 ≤ r.digest ∧ r.digest < 4294967296)
theorem recB_fit {r : Rec} (h : recB r = true) : Fit r := by
  obtain ⟨h1, h2, h3, h4, h5, h6⟩ := recB_iff.1 h
  refine ⟨by omega, by omega, by omega, by omega, by omega, ?_, ?_, ?_⟩ <;> (rcases h6 with h6 | h6 <;> omega)

theorem rec_ext {s t : Rec} (h0 : s.next = t.next) (h1 : s.id = t.id) (h2 : s.parent = t.parent) (h3 : s.root = t.root) (h4 : s.size = t.size) (h5 : s.kind = t.kind) (h6 : s.frames = t.frames) (h7 : s.digest = t.digest) : s = t := by
  cases s; cases t; simp_all

/-- The name. -/
def name : List Int := [83, 78, 65, 80]
/-- All of a record's block ahead of its sum. -/
def head (r : Rec) : List Int := name ++ (enc 4 r.next ++ (enc 8 r.id ++ (enc 8 r.parent ++ (enc 4 r.root ++ (enc 4 r.size ++ (enc 4 r.kind ++ (enc 4 r.frames ++ (enc 4 r.digest ++ List.replicate 16 0))))))))
/-- A record's block. -/
def blk (r : Rec) : List Int := head r ++ enc 4 (more 0 (head r))

theorem head_length (r : Rec) : (head r).length = 60 := by simp [head, name, enc_length]
theorem blk_length (r : Rec) : (blk r).length = 64 := by simp [blk, head_length, enc_length]

theorem head_bd (r : Rec) : ∀ x ∈ head r, 0 ≤ x ∧ x < 256 := by
  intro x hx
  simp only [head, List.mem_append] at hx
  rcases hx with h | h | h | h | h | h | h | h | h | h
  · simp [name] at h; omega
  · exact enc_bd _ _ x h
  · exact enc_bd _ _ x h
  · exact enc_bd _ _ x h
  · exact enc_bd _ _ x h
  · exact enc_bd _ _ x h
  · exact enc_bd _ _ x h
  · exact enc_bd _ _ x h
  · exact enc_bd _ _ x h
  · rw [List.mem_replicate] at h; omega

theorem blk_bd (r : Rec) : ∀ x ∈ blk r, 0 ≤ x ∧ x < 256 := by
  intro x hx
  simp only [blk, List.mem_append] at hx
  rcases hx with h | h
  · exact head_bd r x h
  · exact enc_bd _ _ x h

theorem blk_good (r : Rec) : goodB (blk r) = true := good_sealed (head r) (head_bd r)

/-- What Bytes puts together. -/
def p0 : List Int := name ++ List.replicate 60 0
def p1 (r : Rec) : List Int := (name ++ enc 4 r.next) ++ List.replicate 56 0
def p2 (r : Rec) : List Int := ((name ++ enc 4 r.next) ++ enc 8 r.id) ++ List.replicate 48 0
def p3 (r : Rec) : List Int := (((name ++ enc 4 r.next) ++ enc 8 r.id) ++ enc 8 r.parent) ++ List.replicate 40 0
def p4 (r : Rec) : List Int := ((((name ++ enc 4 r.next) ++ enc 8 r.id) ++ enc 8 r.parent) ++ enc 4 r.root) ++ List.replicate 36 0
def p5 (r : Rec) : List Int := (((((name ++ enc 4 r.next) ++ enc 8 r.id) ++ enc 8 r.parent) ++ enc 4 r.root) ++ enc 4 r.size) ++ List.replicate 32 0
def p6 (r : Rec) : List Int := ((((((name ++ enc 4 r.next) ++ enc 8 r.id) ++ enc 8 r.parent) ++ enc 4 r.root) ++ enc 4 r.size) ++ enc 4 r.kind) ++ List.replicate 28 0
def p7 (r : Rec) : List Int := (((((((name ++ enc 4 r.next) ++ enc 8 r.id) ++ enc 8 r.parent) ++ enc 4 r.root) ++ enc 4 r.size) ++ enc 4 r.kind) ++ enc 4 r.frames) ++ List.replicate 24 0
def p8 (r : Rec) : List Int := ((((((((name ++ enc 4 r.next) ++ enc 8 r.id) ++ enc 8 r.parent) ++ enc 4 r.root) ++ enc 4 r.size) ++ enc 4 r.kind) ++ enc 4 r.frames) ++ enc 4 r.digest) ++ List.replicate 20 0

theorem put1 (r : Rec) : putL p0 4 4 r.next = p1 r := putL_zeros _ 4 4 56 _ (by simp [name])
theorem put2 (r : Rec) : putL (p1 r) 8 8 r.id = p2 r := putL_zeros _ 8 8 48 _ (by simp [name, enc_length])
theorem put3 (r : Rec) : putL (p2 r) 16 8 r.parent = p3 r := putL_zeros _ 8 16 40 _ (by simp [name, enc_length])
theorem put4 (r : Rec) : putL (p3 r) 24 4 r.root = p4 r := putL_zeros _ 4 24 36 _ (by simp [name, enc_length])
theorem put5 (r : Rec) : putL (p4 r) 28 4 r.size = p5 r := putL_zeros _ 4 28 32 _ (by simp [name, enc_length])
theorem put6 (r : Rec) : putL (p5 r) 32 4 r.kind = p6 r := putL_zeros _ 4 32 28 _ (by simp [name, enc_length])
theorem put7 (r : Rec) : putL (p6 r) 36 4 r.frames = p7 r := putL_zeros _ 4 36 24 _ (by simp [name, enc_length])
theorem put8 (r : Rec) : putL (p7 r) 40 4 r.digest = p8 r := putL_zeros _ 4 40 20 _ (by simp [name, enc_length])

theorem p8_head (r : Rec) : p8 r = head r ++ List.replicate 4 0 := by
  have : List.replicate 20 (0 : Int) = List.replicate 16 0 ++ List.replicate 4 0 := by decide
  unfold p8 head
  rw [this]
  simp only [List.append_assoc]

theorem p8_take (r : Rec) : (p8 r).take 60 = head r := by
  rw [p8_head, List.take_append_of_le_length (by rw [head_length]; omega), List.take_of_length_le (by rw [head_length]; omega)]

theorem p8_bd (r : Rec) : ∀ x ∈ p8 r, 0 ≤ x ∧ x < 256 := by
  rw [p8_head]
  intro x hx
  rcases List.mem_append.1 hx with h | h
  · exact head_bd r x h
  · rw [List.mem_replicate] at h; omega

theorem put9 (r : Rec) : putL (p8 r) 60 4 (more 0 (head r)) = blk r := by
  rw [p8_head, putL_zeros (head r) 4 60 0 _ (head_length r)]
  simp [blk]

theorem p0_length : p0.length = 64 := by simp [p0, name]
theorem p1_length (r : Rec) : (p1 r).length = 64 := by simp [p1, name, enc_length]
theorem p2_length (r : Rec) : (p2 r).length = 64 := by simp [p2, name, enc_length]
theorem p3_length (r : Rec) : (p3 r).length = 64 := by simp [p3, name, enc_length]
theorem p4_length (r : Rec) : (p4 r).length = 64 := by simp [p4, name, enc_length]
theorem p5_length (r : Rec) : (p5 r).length = 64 := by simp [p5, name, enc_length]
theorem p6_length (r : Rec) : (p6 r).length = 64 := by simp [p6, name, enc_length]
theorem p7_length (r : Rec) : (p7 r).length = 64 := by simp [p7, name, enc_length]
theorem p8_length (r : Rec) : (p8 r).length = 64 := by simp [p8, name, enc_length]

/-- What a block says. -/
def parR (xs : List Int) : Rec := ⟨num xs 4 4, num xs 8 8, num xs 16 8, num xs 24 4, num xs 28 4, num xs 32 4, num xs 36 4, num xs 40 4⟩
def parE (xs : List Int) : Int :=
  if xs.length = 64 then (if xs.take 4 = name then (if goodB xs = true then (if (recB (parR xs) && zerosB xs 44 60) = true then 0 else 1) else 5) else 4) else 2
def par (xs : List Int) : Rec := if parE xs = 0 then parR xs else r0

theorem par_len {xs : List Int} (h : ¬ xs.length = 64) : parE xs = 2 ∧ par xs = r0 := by simp [par, parE, h]
theorem par_name {xs : List Int} (h : xs.length = 64) (h1 : ¬ xs.take 4 = name) : parE xs = 4 ∧ par xs = r0 := by simp [par, parE, h, h1]
theorem par_sum {xs : List Int} (h : xs.length = 64) (h1 : xs.take 4 = name) (h2 : goodB xs = false) : parE xs = 5 ∧ par xs = r0 := by simp [par, parE, h, h1, h2]
theorem par_arg {xs : List Int} (h : xs.length = 64) (h1 : xs.take 4 = name) (h2 : goodB xs = true) (h3 : (recB (parR xs) && zerosB xs 44 60) = false) : parE xs = 1 ∧ par xs = r0 := by simp [par, parE, h, h1, h2, h3]
theorem par_ok {xs : List Int} (h : xs.length = 64) (h1 : xs.take 4 = name) (h2 : goodB xs = true) (h3 : (recB (parR xs) && zerosB xs 44 60) = true) : parE xs = 0 ∧ par xs = parR xs := by simp [par, parE, h, h1, h2, h3]

theorem parE_zero {xs : List Int} (h : parE xs = 0) : xs.length = 64 ∧ goodB xs = true ∧ recB (par xs) = true := by
  by_cases h1 : xs.length = 64
  · by_cases h2 : xs.take 4 = name
    · cases h3 : goodB xs
      · have := (par_sum h1 h2 h3).1; omega
      · cases h4 : (recB (parR xs) && zerosB xs 44 60)
        · have := (par_arg h1 h2 h3 h4).1; omega
        · have e := (par_ok h1 h2 h3 h4).2
          rw [e]
          rw [Bool.and_eq_true] at h4
          exact ⟨h1, rfl, h4.1⟩
    · have := (par_name h1 h2).1; omega
  · have := (par_len h1).1; omega

theorem blk_take (r : Rec) : (blk r).take 4 = name := by
  unfold blk head
  rw [List.append_assoc, List.take_append_of_le_length (by simp [name]), List.take_of_length_le (by simp [name])]

theorem blk_zeros (r : Rec) : zerosB (blk r) 44 60 = true := by
  refine zerosB_true fun j _ h1 h2 => ?_
  have e : blk r = ((((((((name ++ enc 4 r.next) ++ enc 8 r.id) ++ enc 8 r.parent) ++ enc 4 r.root) ++ enc 4 r.size) ++ enc 4 r.kind) ++ enc 4 r.frames) ++ enc 4 r.digest) ++ (List.replicate 16 0 ++ enc 4 (more 0 (head r))) := by
    unfold blk
    conv => lhs; lhs; unfold head
    simp only [List.append_assoc]
  rw [e, List.getD_eq_getElem?_getD, List.getElem?_append_right (by simp [name, enc_length]; omega), List.getElem?_append_left (by simp [name, enc_length]; omega), List.getElem?_replicate]
  split <;> rfl

theorem par_blk {r : Rec} (h : recB r = true) : parE (blk r) = 0 ∧ par (blk r) = r := by
  have hs := recB_fit h
  have e : parR (blk r) = r := by
    have e0 : num (blk r) 4 4 = r.next := by
      have : blk r = name ++ (enc 4 r.next ++ ((enc 8 r.id ++ (enc 8 r.parent ++ (enc 4 r.root ++ (enc 4 r.size ++ (enc 4 r.kind ++ (enc 4 r.frames ++ (enc 4 r.digest ++ List.replicate 16 0))))))) ++ enc 4 (more 0 (head r)))) := by
        unfold blk
        conv => lhs; lhs; unfold head
        simp only [List.append_assoc]
      rw [this]
      have hb := hs.1
      exact num_mid _ _ 4 4 _ (by simp [name]) (by omega) (by omega)
    have e1 : num (blk r) 8 8 = r.id := by
      have : blk r = (name ++ enc 4 r.next) ++ (enc 8 r.id ++ ((enc 8 r.parent ++ (enc 4 r.root ++ (enc 4 r.size ++ (enc 4 r.kind ++ (enc 4 r.frames ++ (enc 4 r.digest ++ List.replicate 16 0)))))) ++ enc 4 (more 0 (head r)))) := by
        unfold blk
        conv => lhs; lhs; unfold head
        simp only [List.append_assoc]
      rw [this]
      have hb := hs.2.1
      exact num_mid _ _ 8 8 _ (by simp [name, enc_length]) (by omega) (by omega)
    have e2 : num (blk r) 16 8 = r.parent := by
      have : blk r = ((name ++ enc 4 r.next) ++ enc 8 r.id) ++ (enc 8 r.parent ++ ((enc 4 r.root ++ (enc 4 r.size ++ (enc 4 r.kind ++ (enc 4 r.frames ++ (enc 4 r.digest ++ List.replicate 16 0))))) ++ enc 4 (more 0 (head r)))) := by
        unfold blk
        conv => lhs; lhs; unfold head
        simp only [List.append_assoc]
      rw [this]
      have hb := hs.2.2.1
      exact num_mid _ _ 8 16 _ (by simp [name, enc_length]) (by omega) (by omega)
    have e3 : num (blk r) 24 4 = r.root := by
      have : blk r = (((name ++ enc 4 r.next) ++ enc 8 r.id) ++ enc 8 r.parent) ++ (enc 4 r.root ++ ((enc 4 r.size ++ (enc 4 r.kind ++ (enc 4 r.frames ++ (enc 4 r.digest ++ List.replicate 16 0)))) ++ enc 4 (more 0 (head r)))) := by
        unfold blk
        conv => lhs; lhs; unfold head
        simp only [List.append_assoc]
      rw [this]
      have hb := hs.2.2.2.1
      exact num_mid _ _ 4 24 _ (by simp [name, enc_length]) (by omega) (by omega)
    have e4 : num (blk r) 28 4 = r.size := by
      have : blk r = ((((name ++ enc 4 r.next) ++ enc 8 r.id) ++ enc 8 r.parent) ++ enc 4 r.root) ++ (enc 4 r.size ++ ((enc 4 r.kind ++ (enc 4 r.frames ++ (enc 4 r.digest ++ List.replicate 16 0))) ++ enc 4 (more 0 (head r)))) := by
        unfold blk
        conv => lhs; lhs; unfold head
        simp only [List.append_assoc]
      rw [this]
      have hb := hs.2.2.2.2.1
      exact num_mid _ _ 4 28 _ (by simp [name, enc_length]) (by omega) (by omega)
    have e5 : num (blk r) 32 4 = r.kind := by
      have : blk r = (((((name ++ enc 4 r.next) ++ enc 8 r.id) ++ enc 8 r.parent) ++ enc 4 r.root) ++ enc 4 r.size) ++ (enc 4 r.kind ++ ((enc 4 r.frames ++ (enc 4 r.digest ++ List.replicate 16 0)) ++ enc 4 (more 0 (head r)))) := by
        unfold blk
        conv => lhs; lhs; unfold head
        simp only [List.append_assoc]
      rw [this]
      have hb := hs.2.2.2.2.2.1
      exact num_mid _ _ 4 32 _ (by simp [name, enc_length]) (by omega) (by omega)
    have e6 : num (blk r) 36 4 = r.frames := by
      have : blk r = ((((((name ++ enc 4 r.next) ++ enc 8 r.id) ++ enc 8 r.parent) ++ enc 4 r.root) ++ enc 4 r.size) ++ enc 4 r.kind) ++ (enc 4 r.frames ++ ((enc 4 r.digest ++ List.replicate 16 0) ++ enc 4 (more 0 (head r)))) := by
        unfold blk
        conv => lhs; lhs; unfold head
        simp only [List.append_assoc]
      rw [this]
      have hb := hs.2.2.2.2.2.2.1
      exact num_mid _ _ 4 36 _ (by simp [name, enc_length]) (by omega) (by omega)
    have e7 : num (blk r) 40 4 = r.digest := by
      have : blk r = (((((((name ++ enc 4 r.next) ++ enc 8 r.id) ++ enc 8 r.parent) ++ enc 4 r.root) ++ enc 4 r.size) ++ enc 4 r.kind) ++ enc 4 r.frames) ++ (enc 4 r.digest ++ (List.replicate 16 0 ++ enc 4 (more 0 (head r)))) := by
        unfold blk
        conv => lhs; lhs; unfold head
        simp only [List.append_assoc]
      rw [this]
      have hb := hs.2.2.2.2.2.2.2
      exact num_mid _ _ 4 40 _ (by simp [name, enc_length]) (by omega) (by omega)
    unfold parR
    rw [e0, e1, e2, e3, e4, e5, e6, e7]
  have := par_ok (blk_length r) (blk_take r) (blk_good r) (by rw [e, h, blk_zeros]; rfl)
  rw [e] at this
  exact this

theorem blk_inj {s t : Rec} (hs : recB s = true) (ht : recB t = true) (h : blk s = blk t) : s = t := by
  have h1 := (par_blk hs).2
  have h2 := (par_blk ht).2
  rw [h] at h1
  exact h1.symm.trans h2

/-- Four bytes side by side changed: still a record's block just if nothing was. -/
theorem par_changed {s : Rec} (hs : recB s = true) (p m : Nat) (x : List Int) (hl : x.length = 4) (hx : ∀ y ∈ x, 0 ≤ y ∧ y < 256) (hn : 64 = p + 4 + m) :
    (parE (zipx (blk s) (runAt p m x)) = 0 ↔ ∀ y ∈ x, y = 0) := by
  have hr : ∀ y ∈ runAt p m x, 0 ≤ y ∧ y < 256 := by
    intro y hy
    simp only [runAt, List.mem_append, List.mem_replicate] at hy
    rcases hy with h | h | h
    · omega
    · exact hx y h
    · omega
  have hz := zipx_bd _ _ (blk_bd s) hr
  have key := good_changed (blk s) p m x (blk_bd s) hl hx (by rw [blk_length]; exact hn) (blk_good s) hz
  constructor
  · intro h; exact key.1 (parE_zero h).2.1
  · intro h
    have e1 : runAt p m x = List.replicate 64 0 := by
      unfold runAt
      have : x = List.replicate 4 0 := List.eq_replicate_iff.2 ⟨hl, h⟩
      rw [this, List.replicate_append_replicate, List.replicate_append_replicate]
      congr 1; omega
    have e2 : zipx (blk s) (List.replicate 64 0) = blk s := by
      refine List.ext_getElem (by simp [zipx, blk_length]) fun i h1 h2 => ?_
      have hb := blk_bd s (blk s)[i] (List.getElem_mem _)
      simp only [zipx, List.getElem_zipWith, List.getElem_replicate, Int.toNat_zero, Nat.xor_zero]
      omega
    rw [e1, e2]
    exact (par_blk hs).1

/-- A number of eight bytes as record.Parse takes it: one that is too great is -1. -/
def g8 (n : Int) : Int := if n ≤ 4611686018427387903 then n else -1
/-- The record that Parse puts together. -/
def got (xs : List Int) : Rec := ⟨num xs 4 4, g8 (num xs 8 8), g8 (num xs 16 8), num xs 24 4, num xs 28 4, num xs 32 4, num xs 36 4, num xs 40 4⟩

theorem recB_id {r : Rec} (h : ¬ (1 ≤ r.id ∧ r.id ≤ 4611686018427387903)) : recB r = false := by
  rw [Bool.eq_false_iff]; exact fun e => h (recB_iff.1 e).2.2.1
theorem recB_parent {r : Rec} (h : ¬ (0 ≤ r.parent ∧ r.parent ≤ 4611686018427387903)) : recB r = false := by
  rw [Bool.eq_false_iff]; intro e
  have := (recB_iff.1 e).2.2.2.1
  omega

theorem got_rec (xs : List Int) : recB (got xs) = recB (parR xs) ∧ (recB (parR xs) = true → got xs = parR xs) := by
  by_cases h1 : num xs 8 8 ≤ 4611686018427387903
  · by_cases h2 : num xs 16 8 ≤ 4611686018427387903
    · have e : got xs = parR xs := by unfold got parR g8; rw [if_pos h1, if_pos h2]
      exact ⟨by rw [e], fun _ => e⟩
    · have a : recB (got xs) = false := recB_parent (by simp only [got, g8]; rw [if_neg h2]; omega)
      have b : recB (parR xs) = false := recB_parent (by simp only [parR]; omega)
      rw [a, b]
      exact ⟨rfl, fun h => by cases h⟩
  · have a : recB (got xs) = false := recB_id (by simp only [got, g8]; rw [if_neg h1]; omega)
    have b : recB (parR xs) = false := recB_id (by simp only [parR]; omega)
    rw [a, b]
    exact ⟨rfl, fun h => by cases h⟩

/-- A number of eight bytes as the page takes it: one that is too great is 0, and refused. -/
def h8 (n : Int) : Int := if n ≤ 4611686018427387903 then n else 0
def i8 (n : Int) : Bool := decide (n ≤ 4611686018427387903)
/-- The record that the page's ParseRecord puts together. -/
def hot (xs : List Int) : Rec := ⟨num xs 4 4, h8 (num xs 8 8), h8 (num xs 16 8), num xs 24 4, num xs 28 4, num xs 32 4, num xs 36 4, num xs 40 4⟩

theorem hot_rec (xs : List Int) (h1 : i8 (num xs 8 8) = true) (h2 : i8 (num xs 16 8) = true) : hot xs = parR xs := by
  rw [i8, decide_eq_true_eq] at h1 h2
  unfold hot parR h8; rw [if_pos h1, if_pos h2]
theorem hot_id {xs : List Int} (h : i8 (num xs 8 8) = false) : recB (parR xs) = false :=
  recB_id (by rw [i8, decide_eq_false_iff_not] at h; simp only [parR]; omega)
theorem hot_parent {xs : List Int} (h : i8 (num xs 16 8) = false) : recB (parR xs) = false :=
  recB_parent (by rw [i8, decide_eq_false_iff_not] at h; simp only [parR]; omega)

end Wr
