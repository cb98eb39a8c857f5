/-
  Plain mathematics of records: which are right, their blocks, what a block says. It speaks of no program. No conditions beyond those that each theorem names.
  What the small functions of package record and of the page's layer 8 return, for every input.
  What record.Check and the page's Record return, for every record.
  What record.put, record.get and the page's Get8 return.
  What record.Bytes returns, for every record: its block in memory of its own, or the error.
  What record.Parse returns, for all bytes.
  What comparing two records tells.
  A record that came in, by value. It speaks of no program but of its type.
-/
import Derived.Test.YtfflhiajbioheaaGreatJC
import Derived.Lib.BufferWrite
import Derived.Laws.ResultCell
import Derived.Lib.SmallJoins
namespace Wr
open Wc Ws

structure Rec where
  next : Int
  id : Int
  parent : Int
  root : Int
  size : Int
  kind : Int
  frames : Int
  digest : Int

def r0 : Rec := ⟨0, 0, 0, 0, 0, 0, 0, 0⟩

/-- Is it an id? -/
def idB (n : Int) : Bool := decide (1 ≤ n) && decide (n ≤ 4611686018427387903)
def idE (n : Int) : Int := if idB n = true then 0 else 1
theorem idE_yes {n : Int} (h : idB n = true) : idE n = 0 := if_pos h
theorem idE_no {n : Int} (h : idB n = false) : idE n = 1 := if_neg (by rw [h]; decide)
theorem idB_iff {n : Int} : idB n = true ↔ 1 ≤ n ∧ n ≤ 4611686018427387903 := by simp [idB]

/-- A right parent of one of that id. -/
def parB (p n : Int) : Bool := p == 0 || (idB p && p != n)
/-- A kind that there is, with such frames and such a digest as one of that kind may have. -/
def kindB (k f d : Int) : Bool := (k == 0 && (f == 0 && d == 0)) || (k == 1 && ((decide (1 ≤ f) && decide (f ≤ 65535)) && (decide (0 ≤ d) && decide (d ≤ 4294967295))))
/-- A right record. -/
def recB (r : Rec) : Bool :=
  linkB r.next 4096 && (linkB r.root 4096 && (idB r.id && (parB r.parent r.id && ((decide (0 ≤ r.size) && decide (r.size ≤ 512)) && kindB r.kind r.frames r.digest))))
def recE (r : Rec) : Int := if recB r then 0 else 1
theorem recE_yes {r : Rec} (h : recB r = true) : recE r = 0 := by simp [recE, h]
theorem recE_no {r : Rec} (h : recB r = false) : recE r = 1 := by simp [recE, h]

theorem parB_iff {p n : Int} : parB p n = true ↔ p = 0 ∨ (1 ≤ p ∧ p ≤ 4611686018427387903) ∧ ¬ p = n := by simp [parB, idB]
theorem kindB_iff {k f d : Int} : kindB k f d = true ↔ (k = 0 ∧ f = 0 ∧ d = 0) ∨ (k = 1 ∧ (1 ≤ f ∧ f ≤ 65535) ∧ (0 ≤ d ∧ d ≤ 4294967295)) := by simp [kindB]
theorem recB_iff {r : Rec} : recB r = true ↔ (r.next = 0 ∨ 2 ≤ r.next ∧ r.next < 4096) ∧ (r.root = 0 ∨ 2 ≤ r.root ∧ r.root < 4096) ∧ (1 ≤ r.id ∧ r.id ≤ 4611686018427387903) ∧
    (r.parent = 0 ∨ (1 ≤ r.parent ∧ r.parent ≤ 4611686018427387903) ∧ ¬ r.parent = r.id) ∧ (0 ≤ r.size ∧ r.size ≤ 512) ∧ ((r.kind = 0 ∧ r.frames = 0 ∧ r.digest = 0) ∨ (r.kind = 1 ∧ (1 ≤ r.frames ∧ r.frames ≤ 65535) ∧ (0 ≤ r.digest ∧ r.digest ≤ 4294967295))) := by
  unfold recB
  rw [Bool.and_eq_true, Bool.and_eq_true, Bool.and_eq_true, Bool.and_eq_true, Bool.and_eq_true, Wn.linkB_iff, Wn.linkB_iff, idB_iff, parB_iff, kindB_iff, Bool.and_eq_true, decide_eq_true_eq, decide_eq_true_eq]

/-- Each number of a right record fits its place. -/
def Fit (r : Rec) : Prop := (0 ≤ r.next ∧ r.next < 4294967296) ∧ (0 ≤ r.id ∧ r.id ≤ 4611686018427387903) ∧ (0 ≤ r.parent ∧ r.parent ≤ 4611686018427387903) ∧ (0 ≤ r.root ∧ r.root < 4294967296) ∧
  (0 ≤ r.size ∧ r.size < 4294967296) ∧ (0 ≤ r.kind ∧ r.kind < 4294967296) ∧ (0 ≤ r.frames ∧ r.frames < 4294967296) ∧ (0 ≤ r.digest ∧ r.digest < 4294967296)
theorem recB_fit {r : Rec} (h : recB r = true) : Fit r := by
  obtain ⟨h1, h2, h3, h4, h5, h6⟩ := recB_iff.1 h
  refine ⟨by omega, by omega, by omega, by omega, by omega, ?_, ?_, ?_⟩ <;> (rcases h6 with h6 | h6 <;> omega)

theorem rec_ext {s t : Rec} (h0 : s.next = t.next) (h1 : s.id = t.id) (h2 : s.parent = t.parent) (h3 : s.root = t.root) (h4 : s.size = t.size) (h5 : s.kind = t.kind) (h6 : s.frames = t.frames) (h7 : s.digest = t.digest) : s = t := by
  cases s; cases t; simp_all

/-- The name. -/
def name : List Int := [83, 78, 65, 80]
/-- All of a record's block ahead of its sum. -/
def head (r : Rec) : List Int := name ++ (enc 4 r.next ++ (enc 8 r.id ++ (enc 8 r.parent ++ (enc 4 r.root ++ (enc 4 r.size ++ (enc 4 r.kind ++ (enc 4 r.frames ++ (enc 4 r.digest ++ List.replicate 16 0))))))))
/-- A record's block. -/
def blk (r : Rec) : List Int := head r ++ enc 4 (more 0 (head r))

theorem head_length (r : Rec) : (head r).length = 60 := by simp [head, name, enc_length]
theorem blk_length (r : Rec) : (blk r).length = 64 := by simp [blk, head_length, enc_length]

theorem head_bd (r : Rec) : ∀ x ∈ head r, 0 ≤ x ∧ x < 256 := by
  intro x hx
  simp only [head, List.mem_append] at hx
  rcases hx with h | h | h | h | h | h | h | h | h | h
  · simp [name] at h; omega
  · exact enc_bd _ _ x h
  · exact enc_bd _ _ x h
  · exact enc_bd _ _ x h
  · exact enc_bd _ _ x h
  · exact enc_bd _ _ x h
  · exact enc_bd _ _ x h
  · exact enc_bd _ _ x h
  · exact enc_bd _ _ x h
  · rw [List.mem_replicate] at h; omega

theorem blk_bd (r : Rec) : ∀ x ∈ blk r, 0 ≤ x ∧ x < 256 := by
  intro x hx
  simp only [blk, List.mem_append] at hx
  rcases hx with h | h
  · exact head_bd r x h
  · exact enc_bd _ _ x h

theorem blk_good (r : Rec) : goodB (blk r) = true := good_sealed (head r) (head_bd r)

/-- What Bytes puts together. -/
def p0 : List Int := name ++ List.replicate 60 0
def p1 (r : Rec) : List Int := (name ++ enc 4 r.next) ++ List.replicate 56 0
def p2 (r : Rec) : List Int := ((name ++ enc 4 r.next) ++ enc 8 r.id) ++ List.replicate 48 0
def p3 (r : Rec) : List Int := (((name ++ enc 4 r.next) ++ enc 8 r.id) ++ enc 8 r.parent) ++ List.replicate 40 0
def p4 (r : Rec) : List Int := ((((name ++ enc 4 r.next) ++ enc 8 r.id) ++ enc 8 r.parent) ++ enc 4 r.root) ++ List.replicate 36 0
def p5 (r : Rec) : List Int := (((((name ++ enc 4 r.next) ++ enc 8 r.id) ++ enc 8 r.parent) ++ enc 4 r.root) ++ enc 4 r.size) ++ List.replicate 32 0
def p6 (r : Rec) : List Int := ((((((name ++ enc 4 r.next) ++ enc 8 r.id) ++ enc 8 r.parent) ++ enc 4 r.root) ++ enc 4 r.size) ++ enc 4 r.kind) ++ List.replicate 28 0
def p7 (r : Rec) : List Int := (((((((name ++ enc 4 r.next) ++ enc 8 r.id) ++ enc 8 r.parent) ++ enc 4 r.root) ++ enc 4 r.size) ++ enc 4 r.kind) ++ enc 4 r.frames) ++ List.replicate 24 0
def p8 (r : Rec) : List Int := ((((((((name ++ enc 4 r.next) ++ enc 8 r.id) ++ enc 8 r.parent) ++ enc 4 r.root) ++ enc 4 r.size) ++ enc 4 r.kind) ++ enc 4 r.frames) ++ enc 4 r.digest) ++ List.replicate 20 0

theorem put1 (r : Rec) : putL p0 4 4 r.next = p1 r := putL_zeros _ 4 4 56 _ (by simp [name])
theorem put2 (r : Rec) : putL (p1 r) 8 8 r.id = p2 r := putL_zeros _ 8 8 48 _ (by simp [name, enc_length])
theorem put3 (r : Rec) : putL (p2 r) 16 8 r.parent = p3 r := putL_zeros _ 8 16 40 _ (by simp [name, enc_length])
theorem put4 (r : Rec) : putL (p3 r) 24 4 r.root = p4 r := putL_zeros _ 4 24 36 _ (by simp [name, enc_length])
theorem put5 (r : Rec) : putL (p4 r) 28 4 r.size = p5 r := putL_zeros _ 4 28 32 _ (by simp [name, enc_length])
theorem put6 (r : Rec) : putL (p5 r) 32 4 r.kind = p6 r := putL_zeros _ 4 32 28 _ (by simp [name, enc_length])
theorem put7 (r : Rec) : putL (p6 r) 36 4 r.frames = p7 r := putL_zeros _ 4 36 24 _ (by simp [name, enc_length])
theorem put8 (r : Rec) : putL (p7 r) 40 4 r.digest = p8 r := putL_zeros _ 4 40 20 _ (by simp [name, enc_length])

theorem p8_head (r : Rec) : p8 r = head r ++ List.replicate 4 0 := by
  have : List.replicate 20 (0 : Int) = List.replicate 16 0 ++ List.replicate 4 0 := by decide
  unfold p8 head
  rw [this]
  simp only [List.append_assoc]

theorem p8_take (r : Rec) : (p8 r).take 60 = head r := by
  rw [p8_head, List.take_append_of_le_length (by rw [head_length]; omega), List.take_of_length_le (by rw [head_length]; omega)]

theorem p8_bd (r : Rec) : ∀ x ∈ p8 r, 0 ≤ x ∧ x < 256 := by
  rw [p8_head]
  intro x hx
  rcases List.mem_append.1 hx with h | h
  · exact head_bd r x h
  · rw [List.mem_replicate] at h; omega

theorem put9 (r : Rec) : putL (p8 r) 60 4 (more 0 (head r)) = blk r := by
  rw [p8_head, putL_zeros (head r) 4 60 0 _ (head_length r)]
  simp [blk]

theorem p0_length : p0.length = 64 := by simp [p0, name]
theorem p1_length (r : Rec) : (p1 r).length = 64 := by simp [p1, name, enc_length]
theorem p2_length (r : Rec) : (p2 r).length = 64 := by simp [p2, name, enc_length]
theorem p3_length (r : Rec) : (p3 r).length = 64 := by simp [p3, name, enc_length]
theorem p4_length (r : Rec) : (p4 r).length = 64 := by simp [p4, name, enc_length]
theorem p5_length (r : Rec) : (p5 r).length = 64 := by simp [p5, name, enc_length]
theorem p6_length (r : Rec) : (p6 r).length = 64 := by simp [p6, name, enc_length]
theorem p7_length (r : Rec) : (p7 r).length = 64 := by simp [p7, name, enc_length]
theorem p8_length (r : Rec) : (p8 r).length = 64 := by simp [p8, name, enc_length]

/-- What a block says. -/
def parR (xs : List Int) : Rec := ⟨num xs 4 4, num xs 8 8, num xs 16 8, num xs 24 4, num xs 28 4, num xs 32 4, num xs 36 4, num xs 40 4⟩
def parE (xs : List Int) : Int :=
  if xs.length = 64 then (if xs.take 4 = name then (if goodB xs = true then (if (recB (parR xs) && zerosB xs 44 60) = true then 0 else 1) else 5) else 4) else 2
def par (xs : List Int) : Rec := if parE xs = 0 then parR xs else r0

theorem par_len {xs : List Int} (h : ¬ xs.length = 64) : parE xs = 2 ∧ par xs = r0 := by simp [par, parE, h]
theorem par_name {xs : List Int} (h : xs.length = 64) (h1 : ¬ xs.take 4 = name) : parE xs = 4 ∧ par xs = r0 := by simp [par, parE, h, h1]
theorem par_sum {xs : List Int} (h : xs.length = 64) (h1 : xs.take 4 = name) (h2 : goodB xs = false) : parE xs = 5 ∧ par xs = r0 := by simp [par, parE, h, h1, h2]
theorem par_arg {xs : List Int} (h : xs.length = 64) (h1 : xs.take 4 = name) (h2 : goodB xs = true) (h3 : (recB (parR xs) && zerosB xs 44 60) = false) : parE xs = 1 ∧ par xs = r0 := by simp [par, parE, h, h1, h2, h3]
theorem par_ok {xs : List Int} (h : xs.length = 64) (h1 : xs.take 4 = name) (h2 : goodB xs = true) (h3 : (recB (parR xs) && zerosB xs 44 60) = true) : parE xs = 0 ∧ par xs = parR xs := by simp [par, parE, h, h1, h2, h3]

theorem parE_zero {xs : List Int} (h : parE xs = 0) : xs.length = 64 ∧ goodB xs = true ∧ recB (par xs) = true := by
  by_cases h1 : xs.length = 64
  · by_cases h2 : xs.take 4 = name
    · cases h3 : goodB xs
      · have := (par_sum h1 h2 h3).1; omega
      · cases h4 : (recB (parR xs) && zerosB xs 44 60)
        · have := (par_arg h1 h2 h3 h4).1; omega
        · have e := (par_ok h1 h2 h3 h4).2
          rw [e]
          rw [Bool.and_eq_true] at h4
          exact ⟨h1, rfl, h4.1⟩
    · have := (par_name h1 h2).1; omega
  · have := (par_len h1).1; omega

theorem blk_take (r : Rec) : (blk r).take 4 = name := by
  unfold blk head
  rw [List.append_assoc, List.take_append_of_le_length (by simp [name]), List.take_of_length_le (by simp [name])]

theorem blk_zeros (r : Rec) : zerosB (blk r) 44 60 = true := by
  refine zerosB_true fun j _ h1 h2 => ?_
  have e : blk r = ((((((((name ++ enc 4 r.next) ++ enc 8 r.id) ++ enc 8 r.parent) ++ enc 4 r.root) ++ enc 4 r.size) ++ enc 4 r.kind) ++ enc 4 r.frames) ++ enc 4 r.digest) ++ (List.replicate 16 0 ++ enc 4 (more 0 (head r))) := by
    unfold blk
    conv => lhs; lhs; unfold head
    simp only [List.append_assoc]
  rw [e, List.getD_eq_getElem?_getD, List.getElem?_append_right (by simp [name, enc_length]; omega), List.getElem?_append_left (by simp [name, enc_length]; omega), List.getElem?_replicate]
  split <;> rfl

theorem par_blk {r : Rec} (h : recB r = true) : parE (blk r) = 0 ∧ par (blk r) = r := by
  have hs := recB_fit h
  have e : parR (blk r) = r := by
    have e0 : num (blk r) 4 4 = r.next := by
      have : blk r = name ++ (enc 4 r.next ++ ((enc 8 r.id ++ (enc 8 r.parent ++ (enc 4 r.root ++ (enc 4 r.size ++ (enc 4 r.kind ++ (enc 4 r.frames ++ (enc 4 r.digest ++ List.replicate 16 0))))))) ++ enc 4 (more 0 (head r)))) := by
        unfold blk
        conv => lhs; lhs; unfold head
        simp only [List.append_assoc]
      rw [this]
      have hb := hs.1
      exact num_mid _ _ 4 4 _ (by simp [name]) (by omega) (by omega)
    have e1 : num (blk r) 8 8 = r.id := by
      have : blk r = (name ++ enc 4 r.next) ++ (enc 8 r.id ++ ((enc 8 r.parent ++ (enc 4 r.root ++ (enc 4 r.size ++ (enc 4 r.kind ++ (enc 4 r.frames ++ (enc 4 r.digest ++ List.replicate 16 0)))))) ++ enc 4 (more 0 (head r)))) := by
        unfold blk
        conv => lhs; lhs; unfold head
        simp only [List.append_assoc]
      rw [this]
      have hb := hs.2.1
      exact num_mid _ _ 8 8 _ (by simp [name, enc_length]) (by omega) (by omega)
    have e2 : num (blk r) 16 8 = r.parent := by
      have : blk r = ((name ++ enc 4 r.next) ++ enc 8 r.id) ++ (enc 8 r.parent ++ ((enc 4 r.root ++ (enc 4 r.size ++ (enc 4 r.kind ++ (enc 4 r.frames ++ (enc 4 r.digest ++ List.replicate 16 0))))) ++ enc 4 (more 0 (head r)))) := by
        unfold blk
        conv => lhs; lhs; unfold head
        simp only [List.append_assoc]
      rw [this]
      have hb := hs.2.2.1
      exact num_mid _ _ 8 16 _ (by simp [name, enc_length]) (by omega) (by omega)
    have e3 : num (blk r) 24 4 = r.root := by
      have : blk r = (((name ++ enc 4 r.next) ++ enc 8 r.id) ++ enc 8 r.parent) ++ (enc 4 r.root ++ ((enc 4 r.size ++ (enc 4 r.kind ++ (enc 4 r.frames ++ (enc 4 r.digest ++ List.replicate 16 0)))) ++ enc 4 (more 0 (head r)))) := by
        unfold blk
        conv => lhs; lhs; unfold head
        simp only [List.append_assoc]
      rw [this]
      have hb := hs.2.2.2.1
      exact num_mid _ _ 4 24 _ (by simp [name, enc_length]) (by omega) (by omega)
    have e4 : num (blk r) 28 4 = r.size := by
      have : blk r = ((((name ++ enc 4 r.next) ++ enc 8 r.id) ++ enc 8 r.parent) ++ enc 4 r.root) ++ (enc 4 r.size ++ ((enc 4 r.kind ++ (enc 4 r.frames ++ (enc 4 r.digest ++ List.replicate 16 0))) ++ enc 4 (more 0 (head r)))) := by
        unfold blk
        conv => lhs; lhs; unfold head
        simp only [List.append_assoc]
      rw [this]
      have hb := hs.2.2.2.2.1
      exact num_mid _ _ 4 28 _ (by simp [name, enc_length]) (by omega) (by omega)
    have e5 : num (blk r) 32 4 = r.kind := by
      have : blk r = (((((name ++ enc 4 r.next) ++ enc 8 r.id) ++ enc 8 r.parent) ++ enc 4 r.root) ++ enc 4 r.size) ++ (enc 4 r.kind ++ ((enc 4 r.frames ++ (enc 4 r.digest ++ List.replicate 16 0)) ++ enc 4 (more 0 (head r)))) := by
        unfold blk
        conv => lhs; lhs; unfold head
        simp only [List.append_assoc]
      rw [this]
      have hb := hs.2.2.2.2.2.1
      exact num_mid _ _ 4 32 _ (by simp [name, enc_length]) (by omega) (by omega)
    have e6 : num (blk r) 36 4 = r.frames := by
      have : blk r = ((((((name ++ enc 4 r.next) ++ enc 8 r.id) ++ enc 8 r.parent) ++ enc 4 r.root) ++ enc 4 r.size) ++ enc 4 r.kind) ++ (enc 4 r.frames ++ ((enc 4 r.digest ++ List.replicate 16 0) ++ enc 4 (more 0 (head r)))) := by
        unfold blk
        conv => lhs; lhs; unfold head
        simp only [List.append_assoc]
      rw [this]
      have hb := hs.2.2.2.2.2.2.1
      exact num_mid _ _ 4 36 _ (by simp [name, enc_length]) (by omega) (by omega)
    have e7 : num (blk r) 40 4 = r.digest := by
      have : blk r = (((((((name ++ enc 4 r.next) ++ enc 8 r.id) ++ enc 8 r.parent) ++ enc 4 r.root) ++ enc 4 r.size) ++ enc 4 r.kind) ++ enc 4 r.frames) ++ (enc 4 r.digest ++ (List.replicate 16 0 ++ enc 4 (more 0 (head r)))) := by
        unfold blk
        conv => lhs; lhs; unfold head
        simp only [List.append_assoc]
      rw [this]
      have hb := hs.2.2.2.2.2.2.2
      exact num_mid _ _ 4 40 _ (by simp [name, enc_length]) (by omega) (by omega)
    unfold parR
    rw [e0, e1, e2, e3, e4, e5, e6, e7]
  have := par_ok (blk_length r) (blk_take r) (blk_good r) (by rw [e, h, blk_zeros]; rfl)
  rw [e] at this
  exact this

theorem blk_inj {s t : Rec} (hs : recB s = true) (ht : recB t = true) (h : blk s = blk t) : s = t := by
  have h1 := (par_blk hs).2
  have h2 := (par_blk ht).2
  rw [h] at h1
  exact h1.symm.trans h2

/-- Four bytes side by side changed: still a record's block just if nothing was. -/
theorem par_changed {s : Rec} (hs : recB s = true) (p m : Nat) (x : List Int) (hl : x.length = 4) (hx : ∀ y ∈ x, 0 ≤ y ∧ y < 256) (hn : 64 = p + 4 + m) :
    (parE (zipx (blk s) (runAt p m x)) = 0 ↔ ∀ y ∈ x, y = 0) := by
  have hr : ∀ y ∈ runAt p m x, 0 ≤ y ∧ y < 256 := by
    intro y hy
    simp only [runAt, List.mem_append, List.mem_replicate] at hy
    rcases hy with h | h | h
    · omega
    · exact hx y h
    · omega
  have hz := zipx_bd _ _ (blk_bd s) hr
  have key := good_changed (blk s) p m x (blk_bd s) hl hx (by rw [blk_length]; exact hn) (blk_good s) hz
  constructor
  · intro h; exact key.1 (parE_zero h).2.1
  · intro h
    have e1 : runAt p m x = List.replicate 64 0 := by
      unfold runAt
      have : x = List.replicate 4 0 := List.eq_replicate_iff.2 ⟨hl, h⟩
      rw [this, List.replicate_append_replicate, List.replicate_append_replicate]
      congr 1; omega
    have e2 : zipx (blk s) (List.replicate 64 0) = blk s := by
      refine List.ext_getElem (by simp [zipx, blk_length]) fun i h1 h2 => ?_
      have hb := blk_bd s (blk s)[i] (List.getElem_mem _)
      simp only [zipx, List.getElem_zipWith, List.getElem_replicate, Int.toNat_zero, Nat.xor_zero]
      omega
    rw [e1, e2]
    exact (par_blk hs).1

/-- A number of eight bytes as record.Parse takes it: one that is too great is -1. -/
def g8 (n : Int) : Int := if n ≤ 4611686018427387903 then n else -1
/-- The record that Parse puts together. -/
def got (xs : List Int) : Rec := ⟨num xs 4 4, g8 (num xs 8 8), g8 (num xs 16 8), num xs 24 4, num xs 28 4, num xs 32 4, num xs 36 4, num xs 40 4⟩

theorem recB_id {r : Rec} (h : ¬ (1 ≤ r.id ∧ r.id ≤ 4611686018427387903)) : recB r = false := by
  rw [Bool.eq_false_iff]; exact fun e => h (recB_iff.1 e).2.2.1
theorem recB_parent {r : Rec} (h : ¬ (0 ≤ r.parent ∧ r.parent ≤ 4611686018427387903)) : recB r = false := by
  rw [Bool.eq_false_iff]; intro e
  have := (recB_iff.1 e).2.2.2.1
  omega

theorem got_rec (xs : List Int) : recB (got xs) = recB (parR xs) ∧ (recB (parR xs) = true → got xs = parR xs) := by
  by_cases h1 : num xs 8 8 ≤ 4611686018427387903
  · by_cases h2 : num xs 16 8 ≤ 4611686018427387903
    · have e : got xs = parR xs := by unfold got parR g8; rw [if_pos h1, if_pos h2]
      exact ⟨by rw [e], fun _ => e⟩
    · have a : recB (got xs) = false := recB_parent (by simp only [got, g8]; rw [if_neg h2]; omega)
      have b : recB (parR xs) = false := recB_parent (by simp only [parR]; omega)
      rw [a, b]
      exact ⟨rfl, fun h => by cases h⟩
  · have a : recB (got xs) = false := recB_id (by simp only [got, g8]; rw [if_neg h1]; omega)
    have b : recB (parR xs) = false := recB_id (by simp only [parR]; omega)
    rw [a, b]
    exact ⟨rfl, fun h => by cases h⟩

/-- A number of eight bytes as the page takes it: one that is too great is 0, and refused. -/
def h8 (n : Int) : Int := if n ≤ 4611686018427387903 then n else 0
def i8 (n : Int) : Bool := decide (n ≤ 4611686018427387903)
/-- The record that the page's ParseRecord puts together. -/
def hot (xs : List Int) : Rec := ⟨num xs 4 4, h8 (num xs 8 8), h8 (num xs 16 8), num xs 24 4, num xs 28 4, num xs 32 4, num xs 36 4, num xs 40 4⟩

theorem hot_rec (xs : List Int) (h1 : i8 (num xs 8 8) = true) (h2 : i8 (num xs 16 8) = true) : hot xs = parR xs := by
  rw [i8, decide_eq_true_eq] at h1 h2
  unfold hot parR h8; rw [if_pos h1, if_pos h2]
theorem hot_id {xs : List Int} (h : i8 (num xs 8 8) = false) : recB (parR xs) = false :=
  recB_id (by rw [i8, decide_eq_false_iff_not] at h; simp only [parR]; omega)
theorem hot_parent {xs : List Int} (h : i8 (num xs 16 8) = false) : recB (parR xs) = false :=
  recB_parent (by rw [i8, decide_eq_false_iff_not] at h; simp only [parR]; omega)

end Wr
namespace Go.Proofs.YtfflhiajbioheaaGreat
open Go.RowKit

/-- A record as a value. -/
def rv (r : Wr.Rec) : Value := .agg #[.int .i64 r.next, .int .i64 r.id, .int .i64 r.parent, .int .i64 r.root, .int .i64 r.size, .int .i64 r.kind, .int .i64 r.frames, .int .i64 r.digest]

/-- The block B is a record's own cells. -/
def Rh (w : World) (B : Nat) (r : Wr.Rec) : Prop := w.heap[B]? = some (.cells #[.int .i64 r.next, .int .i64 r.id, .int .i64 r.parent, .int .i64 r.root, .int .i64 r.size, .int .i64 r.kind, .int .i64 r.frames, .int .i64 r.digest] 39 (0, 0))

theorem Rh.new (w : World) (r : Wr.Rec) : Rh (w.alloc (.cells #[.int .i64 r.next, .int .i64 r.id, .int .i64 r.parent, .int .i64 r.root, .int .i64 r.size, .int .i64 r.kind, .int .i64 r.frames, .int .i64 r.digest] 39)) w.heap.size r := by
  show (w.heap.push _)[w.heap.size]? = _; simp

theorem Rh.lt {w : World} {B : Nat} {r : Wr.Rec} (h : Rh w B r) : B < w.heap.size := (Array.getElem?_eq_some_iff.1 h).1

theorem Rh.keep {w w' : World} {B : Nat} {r : Wr.Rec} (h : Rh w B r) (hb : Below w.heap.size w w') : Rh w' B r := by
  unfold Rh
  rw [hb.block B h.lt]; exact h

theorem Rh.below {w w' : World} {B base : Nat} {r : Wr.Rec} (h : Rh w B r) (hb : Below base w w') (hlt : B < base) : Rh w' B r := by
  unfold Rh
  rw [hb.block B hlt]; exact h

theorem Rh.frozen {w : World} {B : Nat} {r : Wr.Rec} (h : Rh w B r) (i : Nat) : w.frozen? ⟨B, i, none⟩ = false := by
  unfold Rh at h
  simp [World.frozen?, h]

/-- At the block B lies the record r. -/
def Rc (w : World) (B : Nat) (r : Wr.Rec) : Prop :=
  w.cell? ⟨B, 0, none⟩ = some (.int .i64 r.next) ∧ w.cell? ⟨B, 1, none⟩ = some (.int .i64 r.id) ∧ w.cell? ⟨B, 2, none⟩ = some (.int .i64 r.parent) ∧ w.cell? ⟨B, 3, none⟩ = some (.int .i64 r.root) ∧ w.cell? ⟨B, 4, none⟩ = some (.int .i64 r.size) ∧ w.cell? ⟨B, 5, none⟩ = some (.int .i64 r.kind) ∧ w.cell? ⟨B, 6, none⟩ = some (.int .i64 r.frames) ∧ w.cell? ⟨B, 7, none⟩ = some (.int .i64 r.digest)

theorem Rh.rc {w : World} {B : Nat} {r : Wr.Rec} (h : Rh w B r) : Rc w B r := by
  unfold Rh at h
  refine ⟨?_, ?_, ?_, ?_, ?_, ?_, ?_, ?_⟩ <;> simp [World.cell?, h]

/-- A record written over another one. -/
theorem Rh.over {w : World} {B : Nat} {s : Wr.Rec} (h : Rh w B s) (t : Wr.Rec) :
    Rh ((((((((w.setCell ⟨B, 0, none⟩ (.int .i64 t.next)).setCell ⟨B, 1, none⟩ (.int .i64 t.id)).setCell ⟨B, 2, none⟩ (.int .i64 t.parent)).setCell ⟨B, 3, none⟩ (.int .i64 t.root)).setCell ⟨B, 4, none⟩ (.int .i64 t.size)).setCell ⟨B, 5, none⟩ (.int .i64 t.kind)).setCell ⟨B, 6, none⟩ (.int .i64 t.frames)).setCell ⟨B, 7, none⟩ (.int .i64 t.digest)) B t := by
  have h0 := heap_setCell_same w B 0 _ 39 (.int .i64 t.next) h
  have h1 := heap_setCell_same _ B 1 _ 39 (.int .i64 t.id) h0
  have h2 := heap_setCell_same _ B 2 _ 39 (.int .i64 t.parent) h1
  have h3 := heap_setCell_same _ B 3 _ 39 (.int .i64 t.root) h2
  have h4 := heap_setCell_same _ B 4 _ 39 (.int .i64 t.size) h3
  have h5 := heap_setCell_same _ B 5 _ 39 (.int .i64 t.kind) h4
  have h6 := heap_setCell_same _ B 6 _ 39 (.int .i64 t.frames) h5
  have h7 := heap_setCell_same _ B 7 _ 39 (.int .i64 t.digest) h6
  unfold Rh
  simpa using h7

theorem below8 {B0 B : Nat} {a w : World} (h : Below B0 a w) (hB : B0 ≤ B) (t : Wr.Rec) :
    Below B0 a ((((((((w.setCell ⟨B, 0, none⟩ (.int .i64 t.next)).setCell ⟨B, 1, none⟩ (.int .i64 t.id)).setCell ⟨B, 2, none⟩ (.int .i64 t.parent)).setCell ⟨B, 3, none⟩ (.int .i64 t.root)).setCell ⟨B, 4, none⟩ (.int .i64 t.size)).setCell ⟨B, 5, none⟩ (.int .i64 t.kind)).setCell ⟨B, 6, none⟩ (.int .i64 t.frames)).setCell ⟨B, 7, none⟩ (.int .i64 t.digest)) :=
  (((((((h.setCell hB _).setCell hB _).setCell hB _).setCell hB _).setCell hB _).setCell hB _).setCell hB _).setCell hB _

theorem Rh.other {w : World} {B B' : Nat} {r : Wr.Rec} (h : Rh w B r) (hne : B ≠ B') (o : Nat) (v : Value) : Rh (w.setCell ⟨B', o, none⟩ v) B r := by
  unfold Rh
  rw [heap_setCell_other _ _ _ _ hne]; exact h

theorem ide_any (n : Int) (w : World) :
    Calls Tryz.prog 64 #[.int .i64 n] w fun e w' => e = .returned (.int .i64 (Wr.idE n)) ∧ w = w' := by
  have e : Wr.idE n = if 1 ≤ n ∧ n ≤ 4611686018427387903 then 0 else 1 := by unfold Wr.idE; simp only [Wr.idB_iff]
  have E := Wc.hid e
  clear e
  go_enter Tryz.func64, Tryz.ntmps64
  go_wp2
  all_goals go_ret
  all_goals refine ⟨?_, rfl⟩
  all_goals rw [E.out]
  all_goals first | (rw [if_neg (by omega)]; rfl) | (rw [if_pos (by omega)]; rfl)

theorem refIde_any (n : Int) (w : World) :
    Calls Tryz.prog 35 #[.int .i64 n] w fun e w' => e = .returned (.bool (Wr.idB n)) ∧ w = w' := by
  go_enter Tryz.func35, Tryz.ntmps35
  go_wp2_with (first | (go_at_call 36; refine (refIn_any _ _ _ _).mono ?_; rintro e w' ⟨rfl, rfl⟩))
  go_ret
  exact ⟨rfl, rfl⟩

set_option maxHeartbeats 400000 in
theorem within8_any (n lo hi : Int) (w : World) :
    Calls Tryz.prog 66 #[.int .i64 n, .int .i64 lo, .int .i64 hi] w fun e w' => e = .returned (.bool (decide (lo ≤ n) && decide (n ≤ hi))) ∧ w = w' := by
  go_enter Tryz.func66, Tryz.ntmps66
  go_wp2
  all_goals go_ret
  · exact ⟨ret_bool (by simp [*]), rfl⟩
  · exact ⟨ret_bool (by symm; rw [Bool.eq_false_iff]; simp; omega), rfl⟩

set_option maxHeartbeats 400000 in
theorem leads8_any (n : Int) (w : World) :
    Calls Tryz.prog 63 #[.int .i64 n] w fun e w' => e = .returned (.bool (Ws.linkB n 4096)) ∧ w = w' := by
  go_enter Tryz.func63, Tryz.ntmps63
  go_wp2_with (go_at_call 66; refine (within8_any _ _ _ _).mono ?_; rintro e w' ⟨rfl, rfl⟩)
  all_goals go_ret
  all_goals (refine ⟨ret_bool ?_, rfl⟩; rw [Bool.eq_iff_iff]; simp [Ws.linkB]; try omega)

set_option maxHeartbeats 800000 in
theorem rightParent_any (p n : Int) (w : World) :
    Calls Tryz.prog 65 #[.int .i64 p, .int .i64 n] w fun e w' => e = .returned (.bool (Wr.parB p n)) ∧ w = w' := by
  unfold Wr.parB
  cases hi : Wr.idB p
  · have HE := Wc.hid (Wr.idE_no hi)
    clear hi
    go_enter Tryz.func65, Tryz.ntmps65
    go_wp2_with (go_at_call 64; refine (ide_any _ _).mono ?_; rintro e w' ⟨rfl, rfl⟩; rw [HE.out])
    all_goals go_ret
    all_goals (refine ⟨ret_bool ?_, rfl⟩; simp_all)
  · have HE := Wc.hid (Wr.idE_yes hi)
    clear hi
    go_enter Tryz.func65, Tryz.ntmps65
    go_wp2_with (go_at_call 64; refine (ide_any _ _).mono ?_; rintro e w' ⟨rfl, rfl⟩; rw [HE.out])
    all_goals go_ret
    all_goals (refine ⟨ret_bool ?_, rfl⟩; simp_all)

set_option maxHeartbeats 1600000 in
theorem rightKind_any (r : Wr.Rec) (w : World) :
    Calls Tryz.prog 67 #[rv r] w fun e w' => e = .returned (.bool (Wr.kindB r.kind r.frames r.digest)) ∧ Below w.heap.size w w' := by
  unfold rv
  go_enter Tryz.func67, Tryz.ntmps67
  go_wp2_with (go_at_call 66; refine (within8_any _ _ _ _).mono ?_; rintro e w' ⟨rfl, rfl⟩)
  all_goals go_ret
  all_goals (refine ⟨ret_bool ?_, (Below.refl _ _).alloc (Nat.le_refl _) _⟩; simp_all [Wr.kindB] <;> (intros; omega))

end Go.Proofs.YtfflhiajbioheaaGreat
namespace Go.Proofs.YtfflhiajbioheaaGreat
open Go.RowKit

set_option maxHeartbeats 3200000 in
theorem check8_any (r : Wr.Rec) (w : World) :
    Calls Tryz.prog 47 #[rv r] w fun e w' => e = .returned (.int .i64 (Wr.recE r)) ∧ Below w.heap.size w w' := by
  have hdef : Wr.recB r = (Ws.linkB r.next 4096 && (Ws.linkB r.root 4096 && (Wr.idB r.id && (Wr.parB r.parent r.id && ((decide (0 ≤ r.size) && decide (r.size ≤ 512)) && Wr.kindB r.kind r.frames r.digest))))) := rfl
  have HD := Wc.hid hdef
  clear hdef
  unfold rv
  go_enter Tryz.func47, Tryz.ntmps47
  cases h1 : Ws.linkB r.next 4096
  · have E := Wc.hid (Wr.recE_no (by rw [HD.out, h1]; simp))
    go_wp2_with (first | (go_at_call 63; refine (leads8_any _ _).mono ?_; rintro e w' ⟨rfl, rfl⟩; rw [h1]))
    go_ret
    exact ⟨by rw [E.out]; rfl, (Below.refl _ _).alloc (Nat.le_refl _) _⟩
  cases h2 : Ws.linkB r.root 4096
  · have E := Wc.hid (Wr.recE_no (by rw [HD.out, h1, h2]; simp))
    go_wp2_with (first | (go_at_call 63; refine (leads8_any _ _).mono ?_; rintro e w' ⟨rfl, rfl⟩; first | rw [h1] | rw [h2]))
    go_ret
    exact ⟨by rw [E.out]; rfl, (Below.refl _ _).alloc (Nat.le_refl _) _⟩
  cases h3 : Wr.idB r.id
  · have E := Wc.hid (Wr.recE_no (by rw [HD.out, h1, h2, h3]; simp))
    go_wp2_with (first | (go_at_call 63; refine (leads8_any _ _).mono ?_; rintro e w' ⟨rfl, rfl⟩; first | rw [h1] | rw [h2]) | (go_at_call 64; refine (ide_any _ _).mono ?_; rintro e w' ⟨rfl, rfl⟩; rw [Wr.idE_no h3]))
    go_ret
    exact ⟨by rw [E.out]; rfl, (Below.refl _ _).alloc (Nat.le_refl _) _⟩
  cases h4 : Wr.parB r.parent r.id
  · have E := Wc.hid (Wr.recE_no (by rw [HD.out, h1, h2, h3, h4]; simp))
    go_wp2_with (first | (go_at_call 63; refine (leads8_any _ _).mono ?_; rintro e w' ⟨rfl, rfl⟩; first | rw [h1] | rw [h2]) | (go_at_call 64; refine (ide_any _ _).mono ?_; rintro e w' ⟨rfl, rfl⟩; rw [Wr.idE_yes h3]) | (go_at_call 65; refine (rightParent_any _ _ _).mono ?_; rintro e w' ⟨rfl, rfl⟩; rw [h4]))
    go_ret
    exact ⟨by rw [E.out]; rfl, (Below.refl _ _).alloc (Nat.le_refl _) _⟩
  cases h5 : (decide (0 ≤ r.size) && decide (r.size ≤ 512))
  · have E := Wc.hid (Wr.recE_no (by rw [HD.out, h1, h2, h3, h4, h5]; simp))
    go_wp2_with (first | (go_at_call 63; refine (leads8_any _ _).mono ?_; rintro e w' ⟨rfl, rfl⟩; first | rw [h1] | rw [h2]) | (go_at_call 64; refine (ide_any _ _).mono ?_; rintro e w' ⟨rfl, rfl⟩; rw [Wr.idE_yes h3]) | (go_at_call 65; refine (rightParent_any _ _ _).mono ?_; rintro e w' ⟨rfl, rfl⟩; rw [h4]) | (go_at_call 66; refine (within8_any _ _ _ _).mono ?_; rintro e w' ⟨rfl, rfl⟩; rw [h5]))
    go_ret
    exact ⟨by rw [E.out]; rfl, (Below.refl _ _).alloc (Nat.le_refl _) _⟩
  have HB := Wc.hid ((Below.refl w.heap.size w).alloc (Nat.le_refl _) (.cells #[.int .i64 r.next, .int .i64 r.id, .int .i64 r.parent, .int .i64 r.root, .int .i64 r.size, .int .i64 r.kind, .int .i64 r.frames, .int .i64 r.digest] 39))
  have HD2 : Hid (Wr.recB r = Wr.kindB r.kind r.frames r.digest) := Wc.hid (by rw [HD.out, h1, h2, h3, h4, h5]; simp)
  go_wp2_with (first | (go_at_call 63; refine (leads8_any _ _).mono ?_; rintro e w' ⟨rfl, rfl⟩; first | rw [h1] | rw [h2]) | (go_at_call 64; refine (ide_any _ _).mono ?_; rintro e w' ⟨rfl, rfl⟩; rw [Wr.idE_yes h3]) | (go_at_call 65; refine (rightParent_any _ _ _).mono ?_; rintro e w' ⟨rfl, rfl⟩; rw [h4]) | (go_at_call 66; refine (within8_any _ _ _ _).mono ?_; rintro e w' ⟨rfl, rfl⟩; rw [h5]))
  refine (rightKind_any r _).mono ?_
  rintro e w1 ⟨rfl, hb1⟩
  have HB1 := Wc.hid (Wc.step HB.out (Nat.le_refl _) hb1)
  clear hb1 HB h1 h2 h3 h4 h5
  cases h6 : Wr.kindB r.kind r.frames r.digest
  · have E := Wc.hid (Wr.recE_no (HD2.out.trans h6))
    go_wp2_with fail
    go_ret
    exact ⟨by rw [E.out]; rfl, HB1.out⟩
  · have E := Wc.hid (Wr.recE_yes (HD2.out.trans h6))
    go_wp2_with fail
    go_ret
    exact ⟨by rw [E.out]; rfl, HB1.out⟩

/-- How the page tells a right parent. -/
theorem parB_page {p n : Int} (h : Wr.idB n = true) : Wr.parB p n = (!(p != 0 && !Wr.idB p || p == n)) := by
  have hn := Wr.idB_iff.1 h
  unfold Wr.parB
  cases hq : Wr.idB p
  · rw [Bool.eq_iff_iff]; simp; omega
  · rw [Bool.eq_iff_iff]; simp; omega

set_option maxHeartbeats 3200000 in
theorem refRecord_any (r : Wr.Rec) (w : World) :
    Calls Tryz.prog 13 #[rv r] w fun e w' => e = .returned (.bool (Wr.recB r)) ∧ Below w.heap.size w w' := by
  have hm : (4 : Int) ≤ 4096 ∧ (4096 : Int) ≤ 4096 := by omega
  have hdef : Wr.recB r = (Ws.linkB r.next 4096 && (Ws.linkB r.root 4096 && (Wr.idB r.id && (Wr.parB r.parent r.id && ((decide (0 ≤ r.size) && decide (r.size ≤ 512)) && Wr.kindB r.kind r.frames r.digest))))) := rfl
  have HD := Wc.hid hdef
  clear hdef
  unfold rv
  go_enter Tryz.func13, Tryz.ntmps13
  cases h1 : Ws.linkB r.next 4096
  · have E : Hid (Wr.recB r = false) := Wc.hid (by rw [HD.out, h1]; simp)
    go_wp2_with (first | (go_at_call 34; refine (link_any _ _ _ hm).mono ?_; rintro e w' ⟨rfl, rfl⟩; rw [h1]))
    go_ret
    exact ⟨by rw [E.out]; rfl, (Below.refl _ _).alloc (Nat.le_refl _) _⟩
  cases h2 : Ws.linkB r.root 4096
  · have E : Hid (Wr.recB r = false) := Wc.hid (by rw [HD.out, h1, h2]; simp)
    go_wp2_with (first | (go_at_call 34; refine (link_any _ _ _ hm).mono ?_; rintro e w' ⟨rfl, rfl⟩; first | rw [h1] | rw [h2]))
    go_ret
    exact ⟨by rw [E.out]; rfl, (Below.refl _ _).alloc (Nat.le_refl _) _⟩
  cases h3 : Wr.idB r.id
  · have E : Hid (Wr.recB r = false) := Wc.hid (by rw [HD.out, h1, h2, h3]; simp)
    go_wp2_with (first | (go_at_call 34; refine (link_any _ _ _ hm).mono ?_; rintro e w' ⟨rfl, rfl⟩; first | rw [h1] | rw [h2]) | (go_at_call 35; refine (refIde_any _ _).mono ?_; rintro e w' ⟨rfl, rfl⟩; rw [h3]))
    go_ret
    exact ⟨by rw [E.out]; rfl, (Below.refl _ _).alloc (Nat.le_refl _) _⟩
  have HP := Wc.hid (parB_page (p := r.parent) h3)
  cases hp : (r.parent != 0) <;> cases hq : Wr.idB r.parent <;> cases hs : (r.parent == r.id) <;> rw [hp, hq, hs] at HP
  · cases h5 : (decide (0 ≤ r.size) && decide (r.size ≤ 512))
    · have E : Hid (Wr.recB r = false) := Wc.hid (by rw [HD.out, h1, h2, h3, HP.out, h5]; simp)
      go_wp2_with (first | (go_at_call 34; refine (link_any _ _ _ hm).mono ?_; rintro e w' ⟨rfl, rfl⟩; first | rw [h1] | rw [h2]) | (go_at_call 35; refine (refIde_any _ _).mono ?_; rintro e w' ⟨rfl, rfl⟩; first | rw [h3] | rw [hq]) | (go_at_call 36; refine (refIn_any _ _ _ _).mono ?_; rintro e w' ⟨rfl, rfl⟩; rw [h5]))
      go_ret
      exact ⟨by rw [E.out]; rfl, (Below.refl _ _).alloc (Nat.le_refl _) _⟩
    · have E : Hid (Wr.recB r = Wr.kindB r.kind r.frames r.digest) := Wc.hid (by rw [HD.out, h1, h2, h3, HP.out, h5]; simp)
      go_wp2_with (first | (go_at_call 34; refine (link_any _ _ _ hm).mono ?_; rintro e w' ⟨rfl, rfl⟩; first | rw [h1] | rw [h2]) | (go_at_call 35; refine (refIde_any _ _).mono ?_; rintro e w' ⟨rfl, rfl⟩; first | rw [h3] | rw [hq]) | (go_at_call 36; refine (refIn_any _ _ _ _).mono ?_; rintro e w' ⟨rfl, rfl⟩; first | rw [h5] | skip))
      all_goals go_ret
      all_goals (refine ⟨ret_bool ?_, (Below.refl _ _).alloc (Nat.le_refl _) _⟩; rw [E.out]; clear E HP HD hp hq hs h1 h2 h3 h5; simp_all [Wr.kindB] <;> (intros; omega))
  · have E : Hid (Wr.recB r = false) := Wc.hid (by rw [HD.out, h1, h2, h3, HP.out]; simp)
    go_wp2_with (first | (go_at_call 34; refine (link_any _ _ _ hm).mono ?_; rintro e w' ⟨rfl, rfl⟩; first | rw [h1] | rw [h2]) | (go_at_call 35; refine (refIde_any _ _).mono ?_; rintro e w' ⟨rfl, rfl⟩; first | rw [h3] | rw [hq]))
    go_ret
    exact ⟨by rw [E.out]; rfl, (Below.refl _ _).alloc (Nat.le_refl _) _⟩
  · cases h5 : (decide (0 ≤ r.size) && decide (r.size ≤ 512))
    · have E : Hid (Wr.recB r = false) := Wc.hid (by rw [HD.out, h1, h2, h3, HP.out, h5]; simp)
      go_wp2_with (first | (go_at_call 34; refine (link_any _ _ _ hm).mono ?_; rintro e w' ⟨rfl, rfl⟩; first | rw [h1] | rw [h2]) | (go_at_call 35; refine (refIde_any _ _).mono ?_; rintro e w' ⟨rfl, rfl⟩; first | rw [h3] | rw [hq]) | (go_at_call 36; refine (refIn_any _ _ _ _).mono ?_; rintro e w' ⟨rfl, rfl⟩; rw [h5]))
      go_ret
      exact ⟨by rw [E.out]; rfl, (Below.refl _ _).alloc (Nat.le_refl _) _⟩
    · have E : Hid (Wr.recB r = Wr.kindB r.kind r.frames r.digest) := Wc.hid (by rw [HD.out, h1, h2, h3, HP.out, h5]; simp)
      go_wp2_with (first | (go_at_call 34; refine (link_any _ _ _ hm).mono ?_; rintro e w' ⟨rfl, rfl⟩; first | rw [h1] | rw [h2]) | (go_at_call 35; refine (refIde_any _ _).mono ?_; rintro e w' ⟨rfl, rfl⟩; first | rw [h3] | rw [hq]) | (go_at_call 36; refine (refIn_any _ _ _ _).mono ?_; rintro e w' ⟨rfl, rfl⟩; first | rw [h5] | skip))
      all_goals go_ret
      all_goals (refine ⟨ret_bool ?_, (Below.refl _ _).alloc (Nat.le_refl _) _⟩; rw [E.out]; clear E HP HD hp hq hs h1 h2 h3 h5; simp_all [Wr.kindB] <;> (intros; omega))
  · have E : Hid (Wr.recB r = false) := Wc.hid (by rw [HD.out, h1, h2, h3, HP.out]; simp)
    go_wp2_with (first | (go_at_call 34; refine (link_any _ _ _ hm).mono ?_; rintro e w' ⟨rfl, rfl⟩; first | rw [h1] | rw [h2]) | (go_at_call 35; refine (refIde_any _ _).mono ?_; rintro e w' ⟨rfl, rfl⟩; first | rw [h3] | rw [hq]))
    go_ret
    exact ⟨by rw [E.out]; rfl, (Below.refl _ _).alloc (Nat.le_refl _) _⟩
  · have E : Hid (Wr.recB r = false) := Wc.hid (by rw [HD.out, h1, h2, h3, HP.out]; simp)
    go_wp2_with (first | (go_at_call 34; refine (link_any _ _ _ hm).mono ?_; rintro e w' ⟨rfl, rfl⟩; first | rw [h1] | rw [h2]) | (go_at_call 35; refine (refIde_any _ _).mono ?_; rintro e w' ⟨rfl, rfl⟩; first | rw [h3] | rw [hq]))
    go_ret
    exact ⟨by rw [E.out]; rfl, (Below.refl _ _).alloc (Nat.le_refl _) _⟩
  · have E : Hid (Wr.recB r = false) := Wc.hid (by rw [HD.out, h1, h2, h3, HP.out]; simp)
    go_wp2_with (first | (go_at_call 34; refine (link_any _ _ _ hm).mono ?_; rintro e w' ⟨rfl, rfl⟩; first | rw [h1] | rw [h2]) | (go_at_call 35; refine (refIde_any _ _).mono ?_; rintro e w' ⟨rfl, rfl⟩; first | rw [h3] | rw [hq]))
    go_ret
    exact ⟨by rw [E.out]; rfl, (Below.refl _ _).alloc (Nat.le_refl _) _⟩
  · cases h5 : (decide (0 ≤ r.size) && decide (r.size ≤ 512))
    · have E : Hid (Wr.recB r = false) := Wc.hid (by rw [HD.out, h1, h2, h3, HP.out, h5]; simp)
      go_wp2_with (first | (go_at_call 34; refine (link_any _ _ _ hm).mono ?_; rintro e w' ⟨rfl, rfl⟩; first | rw [h1] | rw [h2]) | (go_at_call 35; refine (refIde_any _ _).mono ?_; rintro e w' ⟨rfl, rfl⟩; first | rw [h3] | rw [hq]) | (go_at_call 36; refine (refIn_any _ _ _ _).mono ?_; rintro e w' ⟨rfl, rfl⟩; rw [h5]))
      go_ret
      exact ⟨by rw [E.out]; rfl, (Below.refl _ _).alloc (Nat.le_refl _) _⟩
    · have E : Hid (Wr.recB r = Wr.kindB r.kind r.frames r.digest) := Wc.hid (by rw [HD.out, h1, h2, h3, HP.out, h5]; simp)
      go_wp2_with (first | (go_at_call 34; refine (link_any _ _ _ hm).mono ?_; rintro e w' ⟨rfl, rfl⟩; first | rw [h1] | rw [h2]) | (go_at_call 35; refine (refIde_any _ _).mono ?_; rintro e w' ⟨rfl, rfl⟩; first | rw [h3] | rw [hq]) | (go_at_call 36; refine (refIn_any _ _ _ _).mono ?_; rintro e w' ⟨rfl, rfl⟩; first | rw [h5] | skip))
      all_goals go_ret
      all_goals (refine ⟨ret_bool ?_, (Below.refl _ _).alloc (Nat.le_refl _) _⟩; rw [E.out]; clear E HP HD hp hq hs h1 h2 h3 h5; simp_all [Wr.kindB] <;> (intros; omega))
  · have E : Hid (Wr.recB r = false) := Wc.hid (by rw [HD.out, h1, h2, h3, HP.out]; simp)
    go_wp2_with (first | (go_at_call 34; refine (link_any _ _ _ hm).mono ?_; rintro e w' ⟨rfl, rfl⟩; first | rw [h1] | rw [h2]) | (go_at_call 35; refine (refIde_any _ _).mono ?_; rintro e w' ⟨rfl, rfl⟩; first | rw [h3] | rw [hq]))
    go_ret
    exact ⟨by rw [E.out]; rfl, (Below.refl _ _).alloc (Nat.le_refl _) _⟩

end Go.Proofs.YtfflhiajbioheaaGreat
namespace Go.Proofs.YtfflhiajbioheaaGreat
open Go.RowKit

set_option maxHeartbeats 400000 in
theorem put8_row (b off n cap : Nat) (xs : List Int) (p s m : Int) (w : World) (hs : Wc.rsB s = true) (hf : Wc.fitB m s = true) (hp : Wc.inB n p s = true) (hn : n ≤ 140737488355328) (hl : xs.length = n) (hb : b < w.heap.size)
   (hc : ∀ i, i < n → w.cell? ⟨b, off + i, none⟩ = some (.int .u8 (xs.getD i 0))) :
    Calls Tryz.prog 69 #[.slice (some ⟨b, off, none⟩) n cap, .int .i64 p, .int .i64 s, .int .i64 m] w fun e w' => ∃ g, e = .returned (.slice (some ⟨g, 0, none⟩) n n) ∧ w.heap.size ≤ g ∧ w'.rowIs g 5 n (fun j => .int .u8 ((Wc.putL xs p.toNat s.toNat m).getD j 0)) ∧ Below w.heap.size w w' := by
  have HC := Wc.hid hc
  clear hc
  go_enter Tryz.func69, Tryz.ntmps69
  go_wp2_with fail
  refine (put_row b off n cap xs p s m w hs hf hp hn hl hb HC.out).mono ?_
  rintro e w' ⟨g, rfl, hg, hr, hb⟩
  go_wp2
  go_ret
  exact ⟨g, rfl, hg, hr, hb⟩

set_option maxHeartbeats 400000 in
theorem put8_lay (g : Nat) (xs ys : List Int) (p t m : Int) (w : World) (hl : xs.length = 64) (hs : Wc.rsB t = true) (hf : Wc.fitB m t = true) (hp : Wc.inB 64 p t = true) (hr : Rb w g xs) (he : Wc.putL xs p.toNat t.toNat m = ys) :
    Calls Tryz.prog 69 #[.slice (some ⟨g, 0, none⟩) 64 64, .int .i64 p, .int .i64 t, .int .i64 m] w fun e w' => ∃ g', e = .returned (.slice (some ⟨g', 0, none⟩) 64 64) ∧ w.heap.size ≤ g' ∧ Rb w' g' ys ∧ Below w.heap.size w w' := by
  refine (put8_row g 0 64 64 xs p t m w hs hf hp (by omega) hl hr.lt (fun i hi => by rw [Nat.zero_add]; exact hr.cell hi)).mono ?_
  rintro e w' ⟨g', rfl, hg, hr', hb⟩
  rw [he] at hr'
  exact ⟨g', rfl, hg, hr', hb⟩

theorem fit8i {n : Int} (h : 0 ≤ n ∧ n ≤ 4611686018427387903) : Wc.fitB n 8 = true := (Wc.fitB_iff (by decide)).2 ⟨h.1, h.2, by rw [show (8 : Int).toNat = 8 from rfl]; omega⟩

/-- What record.get tells: what is refused is -1. -/
def gotN (xs : List Int) (p s : Int) : Int := if (Wc.getR xs p s).2 = 0 then (Wc.getR xs p s).1 else -1

set_option maxHeartbeats 400000 in
theorem get8_any (v : Value) (xs : List Int) (p s : Int) (w : World) (hv : Wc.Bs w v xs) :
    Calls Tryz.prog 97 #[v, .int .i64 p, .int .i64 s] w fun e w' => e = .returned (.int .i64 (gotN xs p s)) ∧ w = w' := by
  have HV := Wc.hid hv
  clear hv
  unfold gotN
  by_cases h : (Wc.getR xs p s).2 = 0
  · rw [if_pos h]
    have H := Wc.hid h
    clear h
    go_enter Tryz.func97, Tryz.ntmps97
    go_wp2_with fail
    refine (get_any v xs p s _ HV.out).mono ?_
    rintro e w' ⟨rfl, rfl⟩
    rw [H.out]
    go_wp2
    go_ret
    exact ⟨rfl, rfl⟩
  · rw [if_neg h]
    have H := Wc.hid h
    clear h
    go_enter Tryz.func97, Tryz.ntmps97
    go_wp2_with fail
    refine (get_any v xs p s _ HV.out).mono ?_
    rintro e w' ⟨rfl, rfl⟩
    generalize (Wc.getR xs p s).2 = q at H ⊢
    have hq : (q != 0) = true := by simpa using H.out
    go_wp2
    go_ret
    exact ⟨rfl, rfl⟩

theorem got4_num (xs : List Int) (p : Nat) (hl : xs.length = 64) (hp : p + 4 ≤ 64) (hx : ∀ x ∈ xs, 0 ≤ x ∧ x < 256) : gotN xs (p : Int) 4 = Ws.num xs p 4 := by
  have e : ((xs.drop p).take 4).length = 4 := by simp; omega
  have hb := Wc.val_bd ((xs.drop p).take 4) (fun x h => hx x (List.mem_of_mem_drop (List.mem_of_mem_take h)))
  rw [e] at hb
  unfold gotN
  rw [Wc.getR_ok xs p 4 (Ws.num xs p 4) (by decide) (Wc.inB_iff.2 (by omega)) rfl (by unfold Ws.num; omega)]
  rfl

theorem got8_num (xs : List Int) (p : Nat) (hl : xs.length = 64) (hp : p + 8 ≤ 64) : gotN xs (p : Int) 8 = Wr.g8 (Ws.num xs p 8) := by
  have hi : Wc.inB xs.length (p : Int) 8 = true := Wc.inB_iff.2 (by omega)
  unfold gotN Wc.getR Wr.g8
  rw [hi, show Wc.rsB 8 = true from rfl]
  simp only [Bool.true_eq_false, if_false, Int.toNat_natCast]
  show (if (if Ws.num xs p 8 ≤ 4611686018427387903 then (Ws.num xs p 8, (0 : Int)) else (0, 1)).2 = 0 then (if Ws.num xs p 8 ≤ 4611686018427387903 then (Ws.num xs p 8, (0 : Int)) else (0, 1)).1 else -1) = _
  by_cases h : Ws.num xs p 8 ≤ 4611686018427387903
  · rw [if_pos h, if_pos h]; rfl
  · rw [if_neg h, if_neg h]; rfl

theorem num8 (xs : List Int) (p : Nat) : (numR ((xs.drop p).take 8)).1 = Wr.h8 (Ws.num xs p 8) ∧ (numR ((xs.drop p).take 8)).2 = Wr.i8 (Ws.num xs p 8) := by
  unfold Wr.h8 Wr.i8
  show (if Ws.num xs p 8 ≤ 4611686018427387903 then (Ws.num xs p 8, true) else (0, false)).1 = _ ∧ (if Ws.num xs p 8 ≤ 4611686018427387903 then (Ws.num xs p 8, true) else ((0 : Int), false)).2 = _
  by_cases h : Ws.num xs p 8 ≤ 4611686018427387903
  · rw [if_pos h, if_pos h]; exact ⟨rfl, by simp [h]⟩
  · rw [if_neg h, if_neg h]; exact ⟨rfl, by simp [h]⟩

end Go.Proofs.YtfflhiajbioheaaGreat
namespace Go.Proofs.YtfflhiajbioheaaGreat
open Go.RowKit

/-- copy(b, "SNAP"), b made just ahead of it. -/
theorem named8 (w : World) : ∃ w2, Sem.run Tryz.prog (Builtin.copy_ #[48, 9] 3 #[.slice (some ⟨w.heap.size, 0, none⟩) 64 64, .string ⟨#[83, 78, 65, 80]⟩]) (w.alloc (.cells (madeCells #[.int .u8 0] 64) 5)) = .ok (.int .i64 4) w2 ∧
    Rb w2 w.heap.size Wr.p0 ∧ Below w.heap.size w w2 := by
  have hg := made_heap w (.int .u8 0) 64 5
  have hrun := Lib.run_copy_row_string (P := Tryz.prog) (w.alloc (.cells (madeCells #[.int .u8 0] 64) 5)) 48 9 3 5 w.heap.size 0 64 64 ⟨#[83, 78, 65, 80]⟩ _ 5 Tryz.underlying48 Tryz.sizeU8 hg (by decide) (by decide)
  refine ⟨_, hrun, ⟨_, setRow_heap _ _ _ _ 5 _ hg, by decide, fun i hi => ?_⟩, below_setRow ((Below.refl _ _).alloc (Nat.le_refl _) _) (Nat.le_refl _) _⟩
  have hl : i < Wr.p0.length := hi
  have hc : (Wr.p0.map (Value.int .u8)).toArray[i]? = some (.int .u8 (Wr.p0.getD i 0)) := by simp [hl]
  exact hc

set_option maxHeartbeats 3200000 in
theorem bytes8_ok (r : Wr.Rec) (w : World) (hs : Wr.recB r = true) :
    Calls Tryz.prog 51 #[rv r] w fun e w' => ∃ g, e = .returned (.tuple #[.slice (some ⟨g, 0, none⟩) 64 64, .int .i64 0]) ∧ w.heap.size ≤ g ∧ Rb w' g (Wr.blk r) ∧ Below w.heap.size w w' := by
  have HS := Wc.hid (Wr.recB_fit hs)
  have HE := Wc.hid (Wr.recE_yes hs)
  clear hs
  unfold rv
  go_enter Tryz.func51, Tryz.ntmps51
  go_wp2_with fail
  refine (check8_any r _).mono ?_
  rintro e w1 ⟨rfl, hb1⟩
  rw [HE.out]
  have A1 := Wc.hid ((Rh.new w r).keep hb1)
  have HB1 := Wc.hid (Wc.step ((Below.refl w.heap.size w).alloc (Nat.le_refl _) _) (Nat.le_refl _) hb1)
  clear hb1
  obtain ⟨w2, hcp, hr2, hb2⟩ := named8 w1
  have hmk := make64
  have A2 := Wc.hid (A1.out.keep hb2)
  have HR2 := Wc.hid hr2
  have HB2 := Wc.hid (Wc.step HB1.out (Nat.le_refl _) hb2)
  clear hr2 hb2
  have ⟨c0, c1, c2, c3, c4, c5, c6, c7⟩ := A2.out.rc
  go_wp2_with fail
  clear hmk hcp c0 c1 c2 c3 c4 c5 c6 c7
  refine (put8_lay _ Wr.p0 (Wr.p1 r) 4 4 r.next _ Wr.p0_length (by decide) (fit4 HS.out.1) (by decide) HR2.out (Wr.put1 r)).mono ?_
  rintro e w3 ⟨g3, rfl, hg, hr, hb⟩
  have HR3 := Wc.hid hr
  have HB3 := Wc.hid (Wc.step HB2.out (Nat.le_refl _) hb)
  have A3 := Wc.hid (A2.out.keep hb)
  clear hg hr hb
  have ⟨c0, c1, c2, c3, c4, c5, c6, c7⟩ := A3.out.rc
  go_wp2_with fail
  clear c0 c1 c2 c3 c4 c5 c6 c7
  refine (put8_lay _ (Wr.p1 r) (Wr.p2 r) 8 8 r.id _ (Wr.p1_length r) (by decide) (fit8i HS.out.2.1) (by decide) HR3.out (Wr.put2 r)).mono ?_
  rintro e w4 ⟨g4, rfl, hg, hr, hb⟩
  have HR4 := Wc.hid hr
  have HB4 := Wc.hid (Wc.step HB3.out (Nat.le_refl _) hb)
  have A4 := Wc.hid (A3.out.keep hb)
  clear hg hr hb
  have ⟨c0, c1, c2, c3, c4, c5, c6, c7⟩ := A4.out.rc
  go_wp2_with fail
  clear c0 c1 c2 c3 c4 c5 c6 c7
  refine (put8_lay _ (Wr.p2 r) (Wr.p3 r) 16 8 r.parent _ (Wr.p2_length r) (by decide) (fit8i HS.out.2.2.1) (by decide) HR4.out (Wr.put3 r)).mono ?_
  rintro e w5 ⟨g5, rfl, hg, hr, hb⟩
  have HR5 := Wc.hid hr
  have HB5 := Wc.hid (Wc.step HB4.out (Nat.le_refl _) hb)
  have A5 := Wc.hid (A4.out.keep hb)
  clear hg hr hb
  have ⟨c0, c1, c2, c3, c4, c5, c6, c7⟩ := A5.out.rc
  go_wp2_with fail
  clear c0 c1 c2 c3 c4 c5 c6 c7
  refine (put8_lay _ (Wr.p3 r) (Wr.p4 r) 24 4 r.root _ (Wr.p3_length r) (by decide) (fit4 HS.out.2.2.2.1) (by decide) HR5.out (Wr.put4 r)).mono ?_
  rintro e w6 ⟨g6, rfl, hg, hr, hb⟩
  have HR6 := Wc.hid hr
  have HB6 := Wc.hid (Wc.step HB5.out (Nat.le_refl _) hb)
  have A6 := Wc.hid (A5.out.keep hb)
  clear hg hr hb
  have ⟨c0, c1, c2, c3, c4, c5, c6, c7⟩ := A6.out.rc
  go_wp2_with fail
  clear c0 c1 c2 c3 c4 c5 c6 c7
  refine (put8_lay _ (Wr.p4 r) (Wr.p5 r) 28 4 r.size _ (Wr.p4_length r) (by decide) (fit4 HS.out.2.2.2.2.1) (by decide) HR6.out (Wr.put5 r)).mono ?_
  rintro e w7 ⟨g7, rfl, hg, hr, hb⟩
  have HR7 := Wc.hid hr
  have HB7 := Wc.hid (Wc.step HB6.out (Nat.le_refl _) hb)
  have A7 := Wc.hid (A6.out.keep hb)
  clear hg hr hb
  have ⟨c0, c1, c2, c3, c4, c5, c6, c7⟩ := A7.out.rc
  go_wp2_with fail
  clear c0 c1 c2 c3 c4 c5 c6 c7
  refine (put8_lay _ (Wr.p5 r) (Wr.p6 r) 32 4 r.kind _ (Wr.p5_length r) (by decide) (fit4 HS.out.2.2.2.2.2.1) (by decide) HR7.out (Wr.put6 r)).mono ?_
  rintro e w8 ⟨g8, rfl, hg, hr, hb⟩
  have HR8 := Wc.hid hr
  have HB8 := Wc.hid (Wc.step HB7.out (Nat.le_refl _) hb)
  have A8 := Wc.hid (A7.out.keep hb)
  clear hg hr hb
  have ⟨c0, c1, c2, c3, c4, c5, c6, c7⟩ := A8.out.rc
  go_wp2_with fail
  clear c0 c1 c2 c3 c4 c5 c6 c7
  refine (put8_lay _ (Wr.p6 r) (Wr.p7 r) 36 4 r.frames _ (Wr.p6_length r) (by decide) (fit4 HS.out.2.2.2.2.2.2.1) (by decide) HR8.out (Wr.put7 r)).mono ?_
  rintro e w9 ⟨g9, rfl, hg, hr, hb⟩
  have HR9 := Wc.hid hr
  have HB9 := Wc.hid (Wc.step HB8.out (Nat.le_refl _) hb)
  have A9 := Wc.hid (A8.out.keep hb)
  clear hg hr hb
  have ⟨c0, c1, c2, c3, c4, c5, c6, c7⟩ := A9.out.rc
  go_wp2_with fail
  clear c0 c1 c2 c3 c4 c5 c6 c7
  refine (put8_lay _ (Wr.p7 r) (Wr.p8 r) 40 4 r.digest _ (Wr.p7_length r) (by decide) (fit4 HS.out.2.2.2.2.2.2.2) (by decide) HR9.out (Wr.put8 r)).mono ?_
  rintro e w10 ⟨g10, rfl, hg, hr, hb⟩
  have HR10 := Wc.hid hr
  have HB10 := Wc.hid (Wc.step HB9.out (Nat.le_refl _) hb)
  clear hg hr hb
  have HV := Wc.hid (HR10.out.bs (Wr.p8_length r) (Wr.p8_bd r))
  go_wp2_with fail
  refine (sum_any _ _ _ (Wc.bs_take HV.out 60 (by omega))).mono ?_
  rintro e w11 ⟨rfl, rfl⟩
  rw [Wr.p8_take]
  have HM := Wc.hid (Wc.more_range 0 (Wr.head r) (Wr.head_bd r))
  go_wp2_with fail
  refine (put8_lay _ (Wr.p8 r) (Wr.blk r) 60 4 (Wc.more 0 (Wr.head r)) _ (Wr.p8_length r) (by decide) (fit4 HM.out) (by decide) HR10.out (Wr.put9 r)).mono ?_
  rintro e w12 ⟨g12, rfl, hg, hr, hb⟩
  go_wp2_with fail
  go_ret2
  exact ⟨g12, rfl, Nat.le_trans HB10.out.size hg, hr, Wc.step HB10.out (Nat.le_refl _) hb⟩

set_option maxHeartbeats 1600000 in
theorem bytes8_bad (r : Wr.Rec) (w : World) (hs : Wr.recB r = false) :
    Calls Tryz.prog 51 #[rv r] w fun e w' => e = .returned (.tuple #[.slice none 0 0, .int .i64 1]) ∧ Below w.heap.size w w' := by
  have HE := Wc.hid (Wr.recE_no hs)
  clear hs
  unfold rv
  go_enter Tryz.func51, Tryz.ntmps51
  go_wp2_with fail
  refine (check8_any r _).mono ?_
  rintro e w1 ⟨rfl, hb1⟩
  rw [HE.out]
  go_wp2_with fail
  go_ret2
  exact ⟨rfl, Wc.step ((Below.refl w.heap.size w).alloc (Nat.le_refl _) _) (Nat.le_refl _) hb1⟩

end Go.Proofs.YtfflhiajbioheaaGreat
namespace Go.Proofs.YtfflhiajbioheaaGreat
open Go.RowKit

theorem ret_cell8 {fn : Func} {tmps : Array Value} {w : World} {B : Nat} {s : Wr.Rec} {v : Value} (hr : fn.results = #[.cell 2 39, .tmp 3]) (hp : tmps.getD 2 undef = .pointer (some ⟨B, 0, none⟩)) (hv : tmps.getD 3 undef = v) (h : Rc w B s) :
    (results fn tmps).run Tryz.prog w = .ok (.tuple #[rv s, v]) w := by
  obtain ⟨c0, c1, c2, c3, c4, c5, c6, c7⟩ := h
  rw [results_cell_tmp hr, hp, hv]
  simp [go_sem, c0, c1, c2, c3, c4, c5, c6, c7, rv]

/-- The first four bytes are SNAP just if their text is. -/
theorem txt_snap (xs : List Int) (hl : 4 ≤ xs.length) (hx : ∀ x ∈ xs, 0 ≤ x ∧ x < 256) : ((txt xs).toList == [83, 78, 65, 80]) = true ↔ xs.take 4 = Wr.name := by
  rw [beq_iff_eq, ByteArray.toList_eq]
  match xs, hl with
  | x0 :: x1 :: x2 :: x3 :: r, _ =>
    have h0 := u8_eq (hx x0 (by simp)) 83
    have h1 := u8_eq (hx x1 (by simp)) 78
    have h2 := u8_eq (hx x2 (by simp)) 65
    have h3 := u8_eq (hx x3 (by simp)) 80
    have e0 : ((83 : UInt8).toNat : Int) = 83 := rfl
    have e1 : ((78 : UInt8).toNat : Int) = 78 := rfl
    have e2 : ((65 : UInt8).toNat : Int) = 65 := rfl
    have e3 : ((80 : UInt8).toNat : Int) = 80 := rfl
    rw [e0] at h0
    rw [e1] at h1
    rw [e2] at h2
    rw [e3] at h3
    simp only [txt, Wr.name, List.take_succ_cons, List.take_zero, List.map_cons, List.map_nil, List.cons.injEq, and_true, h0, h1, h2, h3]

theorem txt_snapNo (xs : List Int) (hl : 4 ≤ xs.length) (hx : ∀ x ∈ xs, 0 ≤ x ∧ x < 256) (h : ¬ xs.take 4 = Wr.name) : ((txt xs).toList == [83, 78, 65, 80]) = false := by
  rw [Bool.eq_false_iff]
  exact fun e => h ((txt_snap xs hl hx).1 e)

set_option maxHeartbeats 1600000 in
theorem parse8_len (a : Option Addr) (n cap : Nat) (w : World) (hl : ¬ n = 64) :
    Calls Tryz.prog 85 #[.slice a n cap] w fun e w' => e = .returned (.tuple #[rv Wr.r0, .int .i64 2]) ∧ Below w.heap.size w w' := by
  have hb : (((n : Int) != 64) = true) := by simp; omega
  clear hl
  go_enter Tryz.func85, Tryz.ntmps85
  go_wp2_with fail
  refine bodyPost_ret (ret_cell8 rfl rfl rfl (Rh.new w Wr.r0).rc) rfl ⟨rfl, (Below.refl w.heap.size w).alloc (Nat.le_refl _) _⟩

set_option maxHeartbeats 1600000 in
theorem parse8_name (b off cap : Nat) (S : ByteArray) (w : World) (hc : 64 ≤ cap) (hc2 : cap ≤ 9223372036854775807)
   (hcv : (convert 48 9 (.slice (some ⟨b, off, none⟩) 4 cap)).run Tryz.prog (w.alloc (.cells #[.int .i64 0, .int .i64 0, .int .i64 0, .int .i64 0, .int .i64 0, .int .i64 0, .int .i64 0, .int .i64 0] 39)) = .ok (.string S) (w.alloc (.cells #[.int .i64 0, .int .i64 0, .int .i64 0, .int .i64 0, .int .i64 0, .int .i64 0, .int .i64 0, .int .i64 0] 39)))
   (hS : (S.toList == [83, 78, 65, 80]) = false) :
    Calls Tryz.prog 85 #[.slice (some ⟨b, off, none⟩) 64 cap] w fun e w' => e = .returned (.tuple #[rv Wr.r0, .int .i64 4]) ∧ Below w.heap.size w w' := by
  go_enter Tryz.func85, Tryz.ntmps85
  go_wp2_with fail
  exact bodyPost_ret (ret_cell8 rfl rfl rfl (Rh.new w Wr.r0).rc) rfl ⟨rfl, (Below.refl w.heap.size w).alloc (Nat.le_refl _) _⟩

set_option maxHeartbeats 1600000 in
theorem parse8_sum (b off cap : Nat) (xs : List Int) (S : ByteArray) (w : World) (hv : Wc.Bs w (.slice (some ⟨b, off, none⟩) 64 cap) xs) (hc : 64 ≤ cap) (hc2 : cap ≤ 9223372036854775807)
   (hcv : (convert 48 9 (.slice (some ⟨b, off, none⟩) 4 cap)).run Tryz.prog (w.alloc (.cells #[.int .i64 0, .int .i64 0, .int .i64 0, .int .i64 0, .int .i64 0, .int .i64 0, .int .i64 0, .int .i64 0] 39)) = .ok (.string S) (w.alloc (.cells #[.int .i64 0, .int .i64 0, .int .i64 0, .int .i64 0, .int .i64 0, .int .i64 0, .int .i64 0, .int .i64 0] 39)))
   (hS : (S.toList == [83, 78, 65, 80]) = true) (hg : Wc.goodB xs = false) :
    Calls Tryz.prog 85 #[.slice (some ⟨b, off, none⟩) 64 cap] w fun e w' => e = .returned (.tuple #[rv Wr.r0, .int .i64 5]) ∧ Below w.heap.size w w' := by
  have HV := Wc.hid (hv.alloc (.cells #[.int .i64 0, .int .i64 0, .int .i64 0, .int .i64 0, .int .i64 0, .int .i64 0, .int .i64 0, .int .i64 0] 39))
  clear hv
  go_enter Tryz.func85, Tryz.ntmps85
  go_wp2_with fail
  refine (good_any _ xs _ HV.out).mono ?_
  rintro e w1 ⟨rfl, rfl⟩
  rw [hg]
  go_wp2_with fail
  exact bodyPost_ret (ret_cell8 rfl rfl rfl (Rh.new w Wr.r0).rc) rfl ⟨rfl, (Below.refl w.heap.size w).alloc (Nat.le_refl _) _⟩

set_option maxHeartbeats 3200000 in
theorem parse8_nums (b off cap : Nat) (xs : List Int) (S : ByteArray) (w : World) (hv : Wc.Bs w (.slice (some ⟨b, off, none⟩) 64 cap) xs) (hc : 64 ≤ cap) (hc2 : cap ≤ 9223372036854775807)
   (hcv : (convert 48 9 (.slice (some ⟨b, off, none⟩) 4 cap)).run Tryz.prog (w.alloc (.cells #[.int .i64 0, .int .i64 0, .int .i64 0, .int .i64 0, .int .i64 0, .int .i64 0, .int .i64 0, .int .i64 0] 39)) = .ok (.string S) (w.alloc (.cells #[.int .i64 0, .int .i64 0, .int .i64 0, .int .i64 0, .int .i64 0, .int .i64 0, .int .i64 0, .int .i64 0] 39)))
   (hS : (S.toList == [83, 78, 65, 80]) = true) (hnm : xs.take 4 = Wr.name) (hg : Wc.goodB xs = true) :
    Calls Tryz.prog 85 #[.slice (some ⟨b, off, none⟩) 64 cap] w fun e w' => e = .returned (.tuple #[rv (Wr.par xs), .int .i64 (Wr.parE xs)]) ∧ Below w.heap.size w w' := by
  have HV := Wc.hid (hv.alloc (.cells #[.int .i64 0, .int .i64 0, .int .i64 0, .int .i64 0, .int .i64 0, .int .i64 0, .int .i64 0, .int .i64 0] 39))
  have hxl := Wc.bs_len hv
  have hxb := Wc.bs_bytes hv
  have HG := Wc.hid (Wr.got_rec xs)
  have g0 : Hid (gotN xs 4 4 = (Wr.got xs).next) := Wc.hid (got4_num xs 4 hxl (by omega) hxb)
  have g1 : Hid (gotN xs 8 8 = (Wr.got xs).id) := Wc.hid (got8_num xs 8 hxl (by omega))
  have g2 : Hid (gotN xs 16 8 = (Wr.got xs).parent) := Wc.hid (got8_num xs 16 hxl (by omega))
  have g3 : Hid (gotN xs 24 4 = (Wr.got xs).root) := Wc.hid (got4_num xs 24 hxl (by omega) hxb)
  have g4 : Hid (gotN xs 28 4 = (Wr.got xs).size) := Wc.hid (got4_num xs 28 hxl (by omega) hxb)
  have g5 : Hid (gotN xs 32 4 = (Wr.got xs).kind) := Wc.hid (got4_num xs 32 hxl (by omega) hxb)
  have g6 : Hid (gotN xs 36 4 = (Wr.got xs).frames) := Wc.hid (got4_num xs 36 hxl (by omega) hxb)
  have g7 : Hid (gotN xs 40 4 = (Wr.got xs).digest) := Wc.hid (got4_num xs 40 hxl (by omega) hxb)
  have HGD := Wc.hid hg
  have HNM := Wc.hid hnm
  clear hnm
  have HXL := Wc.hid hxl
  clear hv hxl hxb
  go_enter Tryz.func85, Tryz.ntmps85
  go_wp2_with fail
  refine (good_any _ xs _ HV.out).mono ?_
  rintro e w1 ⟨rfl, rfl⟩
  rw [HGD.out]
  clear hg hcv
  go_wp2_with (go_at_call 97; refine (get8_any _ xs _ _ _ HV.out).mono ?_; rintro e w' ⟨rfl, rfl⟩)
  rw [g0.out, g1.out, g2.out, g3.out, g4.out, g5.out, g6.out, g7.out]
  clear g0 g1 g2 g3 g4 g5 g6 g7
  generalize Wr.got xs = t at HG ⊢
  refine (check8_any t _).mono ?_
  rintro e w2 ⟨rfl, hb2⟩
  have A0 := Wc.hid (((Rh.new w Wr.r0).keep ((Below.refl _ _).alloc (Nat.le_refl _) _)).keep hb2)
  have A1 := Wc.hid (((Rh.new (w.alloc (.cells #[.int .i64 0, .int .i64 0, .int .i64 0, .int .i64 0, .int .i64 0, .int .i64 0, .int .i64 0, .int .i64 0] 39)) t)).keep hb2)
  have HB2 := Wc.hid (Wc.step (((Below.refl w.heap.size w).alloc (Nat.le_refl _) (.cells #[.int .i64 0, .int .i64 0, .int .i64 0, .int .i64 0, .int .i64 0, .int .i64 0, .int .i64 0, .int .i64 0] 39)).alloc (by simp) (.cells #[.int .i64 t.next, .int .i64 t.id, .int .i64 t.parent, .int .i64 t.root, .int .i64 t.size, .int .i64 t.kind, .int .i64 t.frames, .int .i64 t.digest] 39)) (Nat.le_refl _) hb2)
  have HV2 := Wc.hid ((HV.out.alloc _).keep hb2)
  clear hb2
  have ⟨c0, c1, c2, c3, c4, c5, c6, c7⟩ := A0.out.rc
  have f0 := A0.out.frozen 0
  have f1 := A0.out.frozen 1
  have f2 := A0.out.frozen 2
  have f3 := A0.out.frozen 3
  have f4 := A0.out.frozen 4
  have f5 := A0.out.frozen 5
  have f6 := A0.out.frozen 6
  have f7 := A0.out.frozen 7
  cases ht : Wr.recB t
  · rw [Wr.recE_no ht]
    have HT := Wc.hid ht
    clear ht
    go_wp2_with fail
    have hp := Wr.par_arg HXL.out HNM.out HGD.out (by rw [← HG.out.1, HT.out]; rfl)
    rw [hp.1, hp.2]
    exact bodyPost_ret (ret_cell8 rfl rfl rfl (A0.out.over Wr.r0).rc) rfl ⟨rfl, below8 HB2.out (Nat.le_refl _) Wr.r0⟩
  · rw [Wr.recE_yes ht]
    have HT := Wc.hid ht
    clear ht
    have A1' : Hid (Rh w2 (w.heap.size + 1) t) := Wc.hid (by have := A1.out; simpa using this)
    have ⟨d0, d1, d2, d3, d4, d5, d6, d7⟩ := A1'.out.rc
    go_wp2_with fail
    refine (zeros_any _ xs 44 60 _ HV2.out (by omega)).mono ?_
    rintro e w3 ⟨rfl, rfl⟩
    cases hz : Wc.zerosB xs 44 60
    · have hp := Wc.hid (Wr.par_arg HXL.out HNM.out HGD.out (by rw [hz, Bool.and_false]))
      clear hz
      go_wp2_with fail
      rw [hp.out.1, hp.out.2]
      exact bodyPost_ret (ret_cell8 rfl rfl rfl (A0.out.over Wr.r0).rc) rfl ⟨rfl, below8 HB2.out (Nat.le_refl _) Wr.r0⟩
    · have hp := Wc.hid (Wr.par_ok HXL.out HNM.out HGD.out (by rw [hz, ← HG.out.1, HT.out]; rfl))
      have HTP := Wc.hid (HG.out.2 (by rw [← HG.out.1]; exact HT.out))
      clear hz
      go_wp2_with fail
      rw [hp.out.1, hp.out.2, ← HTP.out]
      exact bodyPost_ret (ret_cell8 rfl rfl rfl (A0.out.over t).rc) rfl ⟨rfl, below8 HB2.out (Nat.le_refl _) t⟩

theorem parse8_any (v : Value) (xs : List Int) (w : World) (hv : Wc.Bs w v xs) :
    Calls Tryz.prog 85 #[v] w fun e w' => e = .returned (.tuple #[rv (Wr.par xs), .int .i64 (Wr.parE xs)]) ∧ Below w.heap.size w w' := by
  have hxb := Wc.bs_bytes hv
  by_cases hl : xs.length = 64
  · rcases hv.open with ⟨rfl, _⟩ | ⟨b, off, n, cap, rfl, h0, hn, hc, hc2, _⟩
    · simp at hl
    · obtain rfl : n = 64 := by omega
      have hcv := convert_txt (hv.alloc (.cells #[.int .i64 0, .int .i64 0, .int .i64 0, .int .i64 0, .int .i64 0, .int .i64 0, .int .i64 0, .int .i64 0] 39)) (by omega)
      by_cases hnm : xs.take 4 = Wr.name
      · have hS := (txt_snap xs (by omega) hxb).2 hnm
        cases hg : Wc.goodB xs
        · have := Wr.par_sum hl hnm hg
          rw [this.1, this.2]
          exact parse8_sum b off cap xs _ w hv hc hc2 hcv hS hg
        · exact parse8_nums b off cap xs _ w hv hc hc2 hcv hS hnm hg
      · have := Wr.par_name hl hnm
        rw [this.1, this.2]
        exact parse8_name b off cap _ w hc hc2 hcv (txt_snapNo xs (by omega) hxb hnm)
  · have := Wr.par_len hl
    rw [this.1, this.2]
    obtain ⟨a, n, cap, rfl, hn, -⟩ := hv
    exact parse8_len a n cap w (by omega)

end Go.Proofs.YtfflhiajbioheaaGreat
namespace Go.Proofs.YtfflhiajbioheaaGreat
open Go.RowKit

/-- Are two records one? -/
def recEq (s t : Wr.Rec) : Bool := s.next == t.next && (s.id == t.id && (s.parent == t.parent && (s.root == t.root && (s.size == t.size && (s.kind == t.kind && (s.frames == t.frames && (s.digest == t.digest)))))))

theorem recEq_iff {s t : Wr.Rec} : recEq s t = true ↔ s = t := by
  constructor
  · intro h
    simp only [recEq, Bool.and_eq_true, beq_iff_eq] at h
    exact Wr.rec_ext h.1 h.2.1 h.2.2.1 h.2.2.2.1 h.2.2.2.2.1 h.2.2.2.2.2.1 h.2.2.2.2.2.2.1 h.2.2.2.2.2.2.2
  · rintro rfl; simp [recEq]

theorem recEq_no {s t : Wr.Rec} (h : ¬ s = t) : recEq s t = false := by
  rw [Bool.eq_false_iff]
  exact fun e => h (recEq_iff.1 e)

theorem eql_rec (s t : Wr.Rec) (w : World) : (binOp .eql 39 (.agg #[.int .i64 s.next, .int .i64 s.id, .int .i64 s.parent, .int .i64 s.root, .int .i64 s.size, .int .i64 s.kind, .int .i64 s.frames, .int .i64 s.digest]) (.agg #[.int .i64 t.next, .int .i64 t.id, .int .i64 t.parent, .int .i64 t.root, .int .i64 t.size, .int .i64 t.kind, .int .i64 t.frames, .int .i64 t.digest])).run Tryz.prog w = .ok (.bool (recEq s t)) w := by
  unfold recEq
  cases h0 : (s.next == t.next)
  · go_simp
  cases h1 : (s.id == t.id)
  · go_simp
  cases h2 : (s.parent == t.parent)
  · go_simp
  cases h3 : (s.root == t.root)
  · go_simp
  cases h4 : (s.size == t.size)
  · go_simp
  cases h5 : (s.kind == t.kind)
  · go_simp
  cases h6 : (s.frames == t.frames)
  · go_simp
  cases h7 : (s.digest == t.digest)
  · go_simp
  · go_simp

theorem neq_rec (s t : Wr.Rec) (w : World) : (binOp .neq 39 (.agg #[.int .i64 s.next, .int .i64 s.id, .int .i64 s.parent, .int .i64 s.root, .int .i64 s.size, .int .i64 s.kind, .int .i64 s.frames, .int .i64 s.digest]) (.agg #[.int .i64 t.next, .int .i64 t.id, .int .i64 t.parent, .int .i64 t.root, .int .i64 t.size, .int .i64 t.kind, .int .i64 t.frames, .int .i64 t.digest])).run Tryz.prog w = .ok (.bool (!recEq s t)) w := by
  unfold recEq
  cases h0 : (s.next == t.next)
  · go_simp
  cases h1 : (s.id == t.id)
  · go_simp
  cases h2 : (s.parent == t.parent)
  · go_simp
  cases h3 : (s.root == t.root)
  · go_simp
  cases h4 : (s.size == t.size)
  · go_simp
  cases h5 : (s.kind == t.kind)
  · go_simp
  cases h6 : (s.frames == t.frames)
  · go_simp
  cases h7 : (s.digest == t.digest)
  · go_simp
  · go_simp

end Go.Proofs.YtfflhiajbioheaaGreat
namespace Go.Proofs.YtfflhiajbioheaaGreat
open Go Go.RowKit Go.ChangeShapes Go.WideShapes Go.Joins

theorem array8 {α : Type} {cs : Array α} (h : cs.size = 8) : ∃ c0 c1 c2 c3 c4 c5 c6 c7, cs = #[c0, c1, c2, c3, c4, c5, c6, c7] := by
  obtain ⟨l⟩ := cs
  match l, h with
  | [c0, c1, c2, c3, c4, c5, c6, c7], _ => exact ⟨c0, c1, c2, c3, c4, c5, c6, c7, rfl⟩

theorem open_rec {P : Program} {W : World} {r : Reach} {b0 base : Nat} {t it : TypeId} {f0 f1 f2 f3 f4 f5 f6 f7 : Field} {v : Value} {H : Type} {enc : TypeId × Value → H} {sp : Nat → Bool} {held : Bool} {d : DataW H} {ps : List MemPlace}
    (hu : P.underlying t = some (.struct #[f0, f1, f2, f3, f4, f5, f6, f7])) (ht : [f0, f1, f2, f3, f4, f5, f6, f7].map (fun f => (f.type, f.offset)) = [(it, 0), (it, 1), (it, 2), (it, 3), (it, 4), (it, 5), (it, 6), (it, 7)]) (hi : P.underlying it = some (.int .i64)) (hc1 : P.cellsOf it = 1) (hc : P.cellsOf t = 8)
    (hv : Value.okWide P W r b0 t v) (hd : DataW.Trod enc P W base sp held t v d ps) : ∃ s : Wr.Rec, v = rv s := by
  obtain ⟨cs, rfl, hsz⟩ := okWide_struct hu hv
  obtain ⟨c0, c1, c2, c3, c4, c5, c6, c7, rfl⟩ := array8 (hsz.trans hc)
  obtain ⟨fuel, hf⟩ := hd
  obtain ⟨xs, n, _, _, hl, hlen, hf⟩ := DataW.trod_struct hu hf
  simp only [List.map_cons, List.map_nil, List.cons.injEq, Prod.mk.injEq, and_true] at ht
  obtain ⟨⟨t0, o0⟩, ⟨t1, o1⟩, ⟨t2, o2⟩, ⟨t3, o3⟩, ⟨t4, o4⟩, ⟨t5, o5⟩, ⟨t6, o6⟩, t7, o7⟩ := ht
  match xs, hlen with
  | [y0, y1, y2, y3, y4, y5, y6, y7], _ =>
    have g0 := hf 0 f0 rfl
    have g1 := hf 1 f1 rfl
    have g2 := hf 2 f2 rfl
    have g3 := hf 3 f3 rfl
    have g4 := hf 4 f4 rfl
    have g5 := hf 5 f5 rfl
    have g6 := hf 6 f6 rfl
    have g7 := hf 7 f7 rfl
    rw [t0, o0, hc1] at g0
    rw [t1, o1, hc1] at g1
    rw [t2, o2, hc1] at g2
    rw [t3, o3, hc1] at g3
    rw [t4, o4, hc1] at g4
    rw [t5, o5, hc1] at g5
    rw [t6, o6, hc1] at g6
    rw [t7, o7, hc1] at g7
    obtain ⟨z0, e0, -⟩ := DataW.trod_int hi g0
    obtain ⟨z1, e1, -⟩ := DataW.trod_int hi g1
    obtain ⟨z2, e2, -⟩ := DataW.trod_int hi g2
    obtain ⟨z3, e3, -⟩ := DataW.trod_int hi g3
    obtain ⟨z4, e4, -⟩ := DataW.trod_int hi g4
    obtain ⟨z5, e5, -⟩ := DataW.trod_int hi g5
    obtain ⟨z6, e6, -⟩ := DataW.trod_int hi g6
    obtain ⟨z7, e7, -⟩ := DataW.trod_int hi g7
    simp [Value.cells] at e0 e1 e2 e3 e4 e5 e6 e7
    subst e0 e1 e2 e3 e4 e5 e6 e7
    exact ⟨⟨z0, z1, z2, z3, z4, z5, z6, z7⟩, rfl⟩

end Go.Proofs.YtfflhiajbioheaaGreat
