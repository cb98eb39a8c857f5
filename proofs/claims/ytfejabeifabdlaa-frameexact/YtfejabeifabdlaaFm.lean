/-
  Plain mathematics of commands and frames: which are right, their payloads, their frames, what bytes say. It speaks of no program. No conditions beyond those that each theorem names.
-/
import Derived.Test.YtfejabeifabdlaaRrec
namespace Wk
open Wc Ws Wr

structure Cmd where
  kind : Int
  id : Int
  parent : Int
  size : Int
  start : Int
  count : Int
  source : Int
  digest : Int
  data : List Int

def c0 : Cmd := ⟨0, 0, 0, 0, 0, 0, 0, 0, []⟩

/-- The numbers of a command, by their places; at 8 what else stands. -/
def st (c : Cmd) (z : Int) : Nat → Int := fun i =>
  if i = 0 then c.kind else if i = 1 then c.id else if i = 2 then c.parent else if i = 3 then c.size else if i = 4 then c.start else if i = 5 then c.count else if i = 6 then c.source else if i = 7 then c.digest else z

/-- A number written over. -/
def upd (s : Nat → Int) (f : Nat) (x : Int) : Nat → Int := fun i => if i = f then x else s i

/-- The numbers of a payload, by the kind: which one, how many bytes. -/
def pl (k : Int) : List (Nat × Int) :=
  if k = 1 then [(1, 8), (2, 8), (3, 4), (5, 4)] else if k = 2 then [(4, 4), (8, 4)] else if k = 3 then [(4, 4), (5, 4)] else
  if k = 4 then [(4, 4), (5, 4), (6, 4)] else if k = 5 then [(3, 4)] else if k = 6 then [(5, 4), (7, 4)] else []

/-- These numbers emptied. -/
def clr : List (Nat × Int) → (Nat → Int) → (Nat → Int)
  | [], s => s
  | (f, _) :: l, s => clr l (upd s f 0)

/-- These numbers as bytes. -/
def encs (s : Nat → Int) : List (Nat × Int) → List Int
  | [] => []
  | (f, z) :: l => enc z.toNat (s f) ++ encs s l

/-- How many bytes these are. -/
def tot : List (Nat × Int) → Int
  | [] => 0
  | (_, z) :: l => z + tot l

/-- These numbers, read one behind the other. -/
def fill (got : Int → Int → Int) : List (Nat × Int) → Int → (Nat → Int) → (Nat → Int)
  | [], _, s => s
  | (f, z) :: l, at_, s => fill got l (at_ + z) (upd s f (got at_ z))

def szB (n : Int) : Bool := decide (0 ≤ n) && decide (n ≤ 512)
def cntB (n : Int) : Bool := decide (0 ≤ n) && decide (n ≤ 65535)
def digB (n : Int) : Bool := decide (0 ≤ n) && decide (n ≤ 4294967295)
def runB (f n : Int) : Bool := decide (1 ≤ n) && (decide (0 ≤ f) && decide (f ≤ 512 - n))
def datB (n : Int) : Bool := n % 64 == 0 && (decide (1 ≤ n / 64) && decide (n / 64 ≤ 8))

/-- The fields that the kind has are right. -/
def fldB (c : Cmd) : Bool :=
  if c.kind = 1 then idB c.id && (parB c.parent c.id && (szB c.size && cntB c.count)) else
  if c.kind = 2 then datB c.data.length && runB c.start (c.data.length / 64 : Int) else
  if c.kind = 3 then runB c.start c.count else
  if c.kind = 4 then runB c.start c.count && runB c.source c.count else
  if c.kind = 5 then szB c.size else
  if c.kind = 6 then cntB c.count && digB c.digest else false

/-- Each of the seven is nought. -/
def noneB (s : Nat → Int) : Bool := s 1 == 0 && (s 2 == 0 && (s 3 == 0 && (s 4 == 0 && (s 5 == 0 && (s 6 == 0 && s 7 == 0)))))

/-- All others are nought. -/
def bareB (c : Cmd) : Bool := (c.kind == 2 || c.data.length == 0) && noneB (clr (pl c.kind) (st c 0))

/-- A right command. -/
def cmdB (c : Cmd) : Bool := fldB c && bareB c
def cmdE (c : Cmd) : Int := if cmdB c = true then 0 else 1
theorem cmdE_yes {c : Cmd} (h : cmdB c = true) : cmdE c = 0 := if_pos h
theorem cmdE_no {c : Cmd} (h : cmdB c = false) : cmdE c = 1 := if_neg (by rw [h]; decide)

theorem cmd_ext {a b : Cmd} (h0 : a.kind = b.kind) (h1 : a.id = b.id) (h2 : a.parent = b.parent) (h3 : a.size = b.size) (h4 : a.start = b.start) (h5 : a.count = b.count) (h6 : a.source = b.source) (h7 : a.digest = b.digest) (h8 : a.data = b.data) : a = b := by
  cases a; cases b; simp_all

theorem szB_iff {n : Int} : szB n = true ↔ 0 ≤ n ∧ n ≤ 512 := by simp [szB]
theorem cntB_iff {n : Int} : cntB n = true ↔ 0 ≤ n ∧ n ≤ 65535 := by simp [cntB]
theorem digB_iff {n : Int} : digB n = true ↔ 0 ≤ n ∧ n ≤ 4294967295 := by simp [digB]
theorem runB_iff {f n : Int} : runB f n = true ↔ 1 ≤ n ∧ 0 ≤ f ∧ f + n ≤ 512 := by simp [runB]; omega
theorem datB_iff {n : Int} : datB n = true ↔ n % 64 = 0 ∧ 1 ≤ n / 64 ∧ n / 64 ≤ 8 := by simp [datB]

theorem bare1 {c : Cmd} (h : c.kind = 1) : bareB c = true ↔ c.data = [] ∧ c.start = 0 ∧ c.source = 0 ∧ c.digest = 0 := by
  simp [bareB, h, pl, clr, upd, st, noneB]
theorem bare2 {c : Cmd} (h : c.kind = 2) : bareB c = true ↔ c.id = 0 ∧ c.parent = 0 ∧ c.size = 0 ∧ c.count = 0 ∧ c.source = 0 ∧ c.digest = 0 := by
  simp [bareB, h, pl, clr, upd, st, noneB]
theorem bare3 {c : Cmd} (h : c.kind = 3) : bareB c = true ↔ c.data = [] ∧ c.id = 0 ∧ c.parent = 0 ∧ c.size = 0 ∧ c.source = 0 ∧ c.digest = 0 := by
  simp [bareB, h, pl, clr, upd, st, noneB]
theorem bare4 {c : Cmd} (h : c.kind = 4) : bareB c = true ↔ c.data = [] ∧ c.id = 0 ∧ c.parent = 0 ∧ c.size = 0 ∧ c.digest = 0 := by
  simp [bareB, h, pl, clr, upd, st, noneB]
theorem bare5 {c : Cmd} (h : c.kind = 5) : bareB c = true ↔ c.data = [] ∧ c.id = 0 ∧ c.parent = 0 ∧ c.start = 0 ∧ c.count = 0 ∧ c.source = 0 ∧ c.digest = 0 := by
  simp [bareB, h, pl, clr, upd, st, noneB]
theorem bare6 {c : Cmd} (h : c.kind = 6) : bareB c = true ↔ c.data = [] ∧ c.id = 0 ∧ c.parent = 0 ∧ c.size = 0 ∧ c.start = 0 ∧ c.source = 0 := by
  simp [bareB, h, pl, clr, upd, st, noneB]

/-- What a right command is, kind by kind. -/
def Right (c : Cmd) : Prop :=
  (c.kind = 1 ∧ (1 ≤ c.id ∧ c.id ≤ 4611686018427387903) ∧ (c.parent = 0 ∨ (1 ≤ c.parent ∧ c.parent ≤ 4611686018427387903) ∧ ¬ c.parent = c.id) ∧ (0 ≤ c.size ∧ c.size ≤ 512) ∧ (0 ≤ c.count ∧ c.count ≤ 65535) ∧ c.data = [] ∧ c.start = 0 ∧ c.source = 0 ∧ c.digest = 0) ∨
  (c.kind = 2 ∧ (c.data.length % 64 = 0 ∧ 1 ≤ c.data.length / 64 ∧ c.data.length / 64 ≤ 8) ∧ (0 ≤ c.start ∧ c.start + (c.data.length / 64 : Nat) ≤ 512) ∧ c.id = 0 ∧ c.parent = 0 ∧ c.size = 0 ∧ c.count = 0 ∧ c.source = 0 ∧ c.digest = 0) ∨
  (c.kind = 3 ∧ (1 ≤ c.count ∧ 0 ≤ c.start ∧ c.start + c.count ≤ 512) ∧ c.data = [] ∧ c.id = 0 ∧ c.parent = 0 ∧ c.size = 0 ∧ c.source = 0 ∧ c.digest = 0) ∨
  (c.kind = 4 ∧ (1 ≤ c.count ∧ 0 ≤ c.start ∧ c.start + c.count ≤ 512) ∧ (1 ≤ c.count ∧ 0 ≤ c.source ∧ c.source + c.count ≤ 512) ∧ c.data = [] ∧ c.id = 0 ∧ c.parent = 0 ∧ c.size = 0 ∧ c.digest = 0) ∨
  (c.kind = 5 ∧ (0 ≤ c.size ∧ c.size ≤ 512) ∧ c.data = [] ∧ c.id = 0 ∧ c.parent = 0 ∧ c.start = 0 ∧ c.count = 0 ∧ c.source = 0 ∧ c.digest = 0) ∨
  (c.kind = 6 ∧ (0 ≤ c.count ∧ c.count ≤ 65535) ∧ (0 ≤ c.digest ∧ c.digest ≤ 4294967295) ∧ c.data = [] ∧ c.id = 0 ∧ c.parent = 0 ∧ c.size = 0 ∧ c.start = 0 ∧ c.source = 0)

theorem fld1 {c : Cmd} (h : c.kind = 1) : fldB c = (idB c.id && (parB c.parent c.id && (szB c.size && cntB c.count))) := by unfold fldB; rw [if_pos h]
theorem fld2 {c : Cmd} (h : c.kind = 2) : fldB c = (datB c.data.length && runB c.start (c.data.length / 64 : Int)) := by unfold fldB; rw [if_neg (by omega), if_pos h]
theorem fld3 {c : Cmd} (h : c.kind = 3) : fldB c = runB c.start c.count := by unfold fldB; rw [if_neg (by omega), if_neg (by omega), if_pos h]
theorem fld4 {c : Cmd} (h : c.kind = 4) : fldB c = (runB c.start c.count && runB c.source c.count) := by unfold fldB; rw [if_neg (by omega), if_neg (by omega), if_neg (by omega), if_pos h]
theorem fld5 {c : Cmd} (h : c.kind = 5) : fldB c = szB c.size := by unfold fldB; rw [if_neg (by omega), if_neg (by omega), if_neg (by omega), if_neg (by omega), if_pos h]
theorem fld6 {c : Cmd} (h : c.kind = 6) : fldB c = (cntB c.count && digB c.digest) := by unfold fldB; rw [if_neg (by omega), if_neg (by omega), if_neg (by omega), if_neg (by omega), if_neg (by omega), if_pos h]
theorem fld0 {c : Cmd} (h : ¬ c.kind = 1 ∧ ¬ c.kind = 2 ∧ ¬ c.kind = 3 ∧ ¬ c.kind = 4 ∧ ¬ c.kind = 5 ∧ ¬ c.kind = 6) : fldB c = false := by
  unfold fldB; rw [if_neg h.1, if_neg h.2.1, if_neg h.2.2.1, if_neg h.2.2.2.1, if_neg h.2.2.2.2.1, if_neg h.2.2.2.2.2]

theorem cmdB_iff {c : Cmd} : cmdB c = true ↔ Right c := by
  unfold cmdB Right
  rw [Bool.and_eq_true]
  by_cases h1 : c.kind = 1
  · rw [bare1 h1, fld1 h1]
    simp only [h1, Bool.and_eq_true, idB_iff, parB_iff, szB_iff, cntB_iff]
    simp [and_assoc]
  by_cases h2 : c.kind = 2
  · rw [bare2 h2, fld2 h2]
    simp only [h2, Bool.and_eq_true, datB_iff, runB_iff]
    simp
    omega
  by_cases h3 : c.kind = 3
  · rw [bare3 h3, fld3 h3]
    simp only [h3, runB_iff]
    simp
  by_cases h4 : c.kind = 4
  · rw [bare4 h4, fld4 h4]
    simp only [h4, Bool.and_eq_true, runB_iff]
    simp [and_assoc]
  by_cases h5 : c.kind = 5
  · rw [bare5 h5, fld5 h5]
    simp only [h5, szB_iff]
    simp
  by_cases h6 : c.kind = 6
  · rw [bare6 h6, fld6 h6]
    simp only [h6, Bool.and_eq_true, cntB_iff, digB_iff]
    simp [and_assoc]
  · rw [fld0 ⟨h1, h2, h3, h4, h5, h6⟩]
    simp [h1, h2, h3, h4, h5, h6]

/-- The payload. -/
def pay (c : Cmd) : List Int := encs (st c (c.data.length / 64 : Nat)) (pl c.kind) ++ c.data

/-- What a payload of that kind says. -/
def raw (k : Int) (p : List Int) : Cmd :=
  if k = 1 then ⟨1, num p 0 8, num p 8 8, num p 16 4, 0, num p 20 4, 0, 0, []⟩ else
  if k = 2 then ⟨2, 0, 0, 0, num p 0 4, 0, 0, 0, p.drop 8⟩ else
  if k = 3 then ⟨3, 0, 0, 0, num p 0 4, num p 4 4, 0, 0, []⟩ else
  if k = 4 then ⟨4, 0, 0, 0, num p 0 4, num p 4 4, num p 8 4, 0, []⟩ else
  if k = 5 then ⟨5, 0, 0, num p 0 4, 0, 0, 0, 0, []⟩ else
  if k = 6 then ⟨6, 0, 0, 0, 0, num p 0 4, 0, num p 4 4, []⟩ else c0
/-- A payload of that kind may have that length. -/
def lenB (k : Int) (p : List Int) : Bool :=
  if k = 1 then decide (p.length = 24) else
  if k = 2 then decide (8 < p.length ∧ (p.length : Int) = 8 + 64 * num p 4 4) else
  if k = 3 then decide (p.length = 8) else
  if k = 4 then decide (p.length = 12) else
  if k = 5 then decide (p.length = 4) else
  if k = 6 then decide (p.length = 8) else false
def okB (k : Int) (p : List Int) : Bool := lenB k p && cmdB (raw k p)

theorem num_last (A : List Int) (k p : Nat) (n : Int) (hA : A.length = p) (h0 : 0 ≤ n) (h1 : n < 256 ^ k) : num (A ++ enc k n) p k = n := by
  have := num_mid A [] k p n hA h0 h1
  simpa using this
theorem num_first (B : List Int) (k : Nat) (n : Int) (h0 : 0 ≤ n) (h1 : n < 256 ^ k) : num (enc k n ++ B) 0 k = n := by
  have := num_mid [] B k 0 n rfl h0 h1
  simpa using this
theorem num_only (k : Nat) (n : Int) (h0 : 0 ≤ n) (h1 : n < 256 ^ k) : num (enc k n) 0 k = n := by
  have := num_first [] k n h0 h1
  simpa using this

theorem pay1 {c : Cmd} (h : c.kind = 1) (hd : c.data = []) : pay c = enc 8 c.id ++ (enc 8 c.parent ++ (enc 4 c.size ++ enc 4 c.count)) := by
  simp [pay, h, hd, pl, encs, st]
theorem pay2 {c : Cmd} (h : c.kind = 2) : pay c = enc 4 c.start ++ (enc 4 (c.data.length / 64 : Nat) ++ c.data) := by
  simp [pay, h, pl, encs, st]
theorem pay3 {c : Cmd} (h : c.kind = 3) (hd : c.data = []) : pay c = enc 4 c.start ++ enc 4 c.count := by
  simp [pay, h, hd, pl, encs, st]
theorem pay4 {c : Cmd} (h : c.kind = 4) (hd : c.data = []) : pay c = enc 4 c.start ++ (enc 4 c.count ++ enc 4 c.source) := by
  simp [pay, h, hd, pl, encs, st]
theorem pay5 {c : Cmd} (h : c.kind = 5) (hd : c.data = []) : pay c = enc 4 c.size := by
  simp [pay, h, hd, pl, encs, st]
theorem pay6 {c : Cmd} (h : c.kind = 6) (hd : c.data = []) : pay c = enc 4 c.count ++ enc 4 c.digest := by
  simp [pay, h, hd, pl, encs, st]

/-- What a right command's payload says is the command. -/
theorem raw_pay {c : Cmd} (h : cmdB c = true) : lenB c.kind (pay c) = true ∧ raw c.kind (pay c) = c := by
  rcases cmdB_iff.1 h with h | h | h | h | h | h
  · obtain ⟨hk, h1, h2, h3, h4, hd, e1, e2, e3⟩ := h
    rw [pay1 hk hd]
    have a1 : num (enc 8 c.id ++ (enc 8 c.parent ++ (enc 4 c.size ++ enc 4 c.count))) 0 8 = c.id := num_first _ 8 _ (by omega) (by omega)
    have a2 : num (enc 8 c.id ++ (enc 8 c.parent ++ (enc 4 c.size ++ enc 4 c.count))) 8 8 = c.parent := num_mid _ _ 8 8 _ (by rw [enc_length]) (by omega) (by omega)
    have a3 : num (enc 8 c.id ++ (enc 8 c.parent ++ (enc 4 c.size ++ enc 4 c.count))) 16 4 = c.size := by
      rw [← List.append_assoc]; exact num_mid _ _ 4 16 _ (by simp [enc_length]) (by omega) (by omega)
    have a4 : num (enc 8 c.id ++ (enc 8 c.parent ++ (enc 4 c.size ++ enc 4 c.count))) 20 4 = c.count := by
      rw [← List.append_assoc, ← List.append_assoc]; exact num_last _ 4 20 _ (by simp [enc_length]) (by omega) (by omega)
    rw [hk]
    refine ⟨by simp [lenB, enc_length], ?_⟩
    simp only [raw, if_true, a1, a2, a3, a4]
    exact cmd_ext hk.symm rfl rfl rfl e1.symm rfl e2.symm e3.symm hd.symm
  · obtain ⟨hk, h1, h2, e1, e2, e3, e4, e5, e6⟩ := h
    rw [pay2 hk]
    have a1 : num (enc 4 c.start ++ (enc 4 (c.data.length / 64 : Nat) ++ c.data)) 0 4 = c.start := num_first _ 4 _ (by omega) (by omega)
    have a2 : num (enc 4 c.start ++ (enc 4 (c.data.length / 64 : Nat) ++ c.data)) 4 4 = (c.data.length / 64 : Nat) := num_mid _ _ 4 4 _ (by rw [enc_length]) (by omega) (by omega)
    have a3 : (enc 4 c.start ++ (enc 4 (c.data.length / 64 : Nat) ++ c.data)).drop 8 = c.data := by
      rw [← List.append_assoc, List.drop_left' (by simp [enc_length])]
    rw [hk]
    refine ⟨?_, ?_⟩
    · simp only [lenB, a2]
      simp [enc_length]
      omega
    · simp only [raw, a1, a3]
      exact cmd_ext hk.symm e1.symm e2.symm e3.symm rfl e4.symm e5.symm e6.symm rfl
  · obtain ⟨hk, h1, hd, e1, e2, e3, e4, e5⟩ := h
    rw [pay3 hk hd]
    have a1 : num (enc 4 c.start ++ enc 4 c.count) 0 4 = c.start := num_first _ 4 _ (by omega) (by omega)
    have a2 : num (enc 4 c.start ++ enc 4 c.count) 4 4 = c.count := num_last _ 4 4 _ (by rw [enc_length]) (by omega) (by omega)
    rw [hk]
    refine ⟨by simp [lenB, enc_length], ?_⟩
    simp only [raw, a1, a2]
    exact cmd_ext hk.symm e1.symm e2.symm e3.symm rfl rfl e4.symm e5.symm hd.symm
  · obtain ⟨hk, h1, h2, hd, e1, e2, e3, e4⟩ := h
    rw [pay4 hk hd]
    have a1 : num (enc 4 c.start ++ (enc 4 c.count ++ enc 4 c.source)) 0 4 = c.start := num_first _ 4 _ (by omega) (by omega)
    have a2 : num (enc 4 c.start ++ (enc 4 c.count ++ enc 4 c.source)) 4 4 = c.count := num_mid _ _ 4 4 _ (by rw [enc_length]) (by omega) (by omega)
    have a3 : num (enc 4 c.start ++ (enc 4 c.count ++ enc 4 c.source)) 8 4 = c.source := by
      rw [← List.append_assoc]; exact num_last _ 4 8 _ (by simp [enc_length]) (by omega) (by omega)
    rw [hk]
    refine ⟨by simp [lenB, enc_length], ?_⟩
    simp only [raw, a1, a2, a3]
    exact cmd_ext hk.symm e1.symm e2.symm e3.symm rfl rfl rfl e4.symm hd.symm
  · obtain ⟨hk, h1, hd, e1, e2, e3, e4, e5, e6⟩ := h
    rw [pay5 hk hd]
    have a1 : num (enc 4 c.size) 0 4 = c.size := num_only 4 _ (by omega) (by omega)
    rw [hk]
    refine ⟨by simp [lenB, enc_length], ?_⟩
    simp only [raw, a1]
    exact cmd_ext hk.symm e1.symm e2.symm rfl e3.symm e4.symm e5.symm e6.symm hd.symm
  · obtain ⟨hk, h1, h2, hd, e1, e2, e3, e4, e5⟩ := h
    rw [pay6 hk hd]
    have a1 : num (enc 4 c.count ++ enc 4 c.digest) 0 4 = c.count := num_first _ 4 _ (by omega) (by omega)
    have a2 : num (enc 4 c.count ++ enc 4 c.digest) 4 4 = c.digest := num_last _ 4 4 _ (by rw [enc_length]) (by omega) (by omega)
    rw [hk]
    refine ⟨by simp [lenB, enc_length], ?_⟩
    simp only [raw, a1, a2]
    exact cmd_ext hk.symm e1.symm e2.symm e3.symm e4.symm rfl e5.symm rfl hd.symm

/-- A right command's payload has from 4 to 520 bytes. -/
theorem pay_len {c : Cmd} (h : cmdB c = true) : 4 ≤ (pay c).length ∧ (pay c).length ≤ 520 := by
  rcases cmdB_iff.1 h with h | h | h | h | h | h
  · obtain ⟨hk, h1, h2, h3, h4, hd, -⟩ := h
    rw [pay1 hk hd]; simp [enc_length]
  · obtain ⟨hk, h1, -⟩ := h
    rw [pay2 hk]; simp [enc_length]; omega
  · obtain ⟨hk, h1, hd, -⟩ := h
    rw [pay3 hk hd]; simp [enc_length]
  · obtain ⟨hk, h1, h2, hd, -⟩ := h
    rw [pay4 hk hd]; simp [enc_length]
  · obtain ⟨hk, h1, hd, -⟩ := h
    rw [pay5 hk hd]; simp [enc_length]
  · obtain ⟨hk, h1, h2, hd, -⟩ := h
    rw [pay6 hk hd]; simp [enc_length]

theorem cmdB_kind {c : Cmd} (h : cmdB c = true) : 1 ≤ c.kind ∧ c.kind ≤ 6 := by
  rcases cmdB_iff.1 h with h | h | h | h | h | h <;> (have := h.1; omega)

theorem encs_bd (s : Nat → Int) (l : List (Nat × Int)) : ∀ x ∈ encs s l, 0 ≤ x ∧ x < 256 := by
  induction l with
  | nil => simp [encs]
  | cons a l ih =>
    intro x hx
    obtain ⟨f, z⟩ := a
    simp only [encs, List.mem_append] at hx
    rcases hx with h | h
    · exact enc_bd _ _ x h
    · exact ih x h

theorem pay_bd {c : Cmd} (hd : ∀ x ∈ c.data, 0 ≤ x ∧ x < 256) : ∀ x ∈ pay c, 0 ≤ x ∧ x < 256 := by
  intro x hx
  rcases List.mem_append.1 hx with h | h
  · exact encs_bd _ _ x h
  · exact hd x h

theorem raw_kind {k : Int} {p : List Int} (h : cmdB (raw k p) = true) : (raw k p).kind = k := by
  unfold raw at h ⊢
  by_cases h1 : k = 1
  · rw [if_pos h1]; exact h1.symm
  rw [if_neg h1] at h ⊢
  by_cases h2 : k = 2
  · rw [if_pos h2]; exact h2.symm
  rw [if_neg h2] at h ⊢
  by_cases h3 : k = 3
  · rw [if_pos h3]; exact h3.symm
  rw [if_neg h3] at h ⊢
  by_cases h4 : k = 4
  · rw [if_pos h4]; exact h4.symm
  rw [if_neg h4] at h ⊢
  by_cases h5 : k = 5
  · rw [if_pos h5]; exact h5.symm
  rw [if_neg h5] at h ⊢
  by_cases h6 : k = 6
  · rw [if_pos h6]; exact h6.symm
  rw [if_neg h6] at h
  exact absurd h (by decide)

theorem enc_num (p : List Int) (i k : Nat) (hx : ∀ x ∈ p, 0 ≤ x ∧ x < 256) (h : i + k ≤ p.length) : enc k (num p i k) = (p.drop i).take k := by
  have e : ((p.drop i).take k).length = k := by simp; omega
  have := enc_val ((p.drop i).take k) (fun x h' => hx x (List.mem_of_mem_drop (List.mem_of_mem_take h')))
  rw [e] at this
  exact this

theorem drop_split (p : List Int) (i k : Nat) : (p.drop i).take k ++ p.drop (i + k) = p.drop i := by
  rw [← List.drop_drop, List.take_append_drop]

theorem raw1 (p : List Int) : raw 1 p = ⟨1, num p 0 8, num p 8 8, num p 16 4, 0, num p 20 4, 0, 0, []⟩ := rfl
theorem raw2 (p : List Int) : raw 2 p = ⟨2, 0, 0, 0, num p 0 4, 0, 0, 0, p.drop 8⟩ := rfl
theorem raw3 (p : List Int) : raw 3 p = ⟨3, 0, 0, 0, num p 0 4, num p 4 4, 0, 0, []⟩ := rfl
theorem raw4 (p : List Int) : raw 4 p = ⟨4, 0, 0, 0, num p 0 4, num p 4 4, num p 8 4, 0, []⟩ := rfl
theorem raw5 (p : List Int) : raw 5 p = ⟨5, 0, 0, num p 0 4, 0, 0, 0, 0, []⟩ := rfl
theorem raw6 (p : List Int) : raw 6 p = ⟨6, 0, 0, 0, 0, num p 0 4, 0, num p 4 4, []⟩ := rfl

/-- What is said of a payload is written to it. -/
theorem pay_raw {k : Int} {p : List Int} (hx : ∀ x ∈ p, 0 ≤ x ∧ x < 256) (h : okB k p = true) : pay (raw k p) = p := by
  unfold okB at h
  rw [Bool.and_eq_true] at h
  obtain ⟨hl, hc⟩ := h
  have hk := cmdB_kind hc
  rw [raw_kind hc] at hk
  have hnil : ∀ i, p.length = i → p.drop i = [] := fun i h => List.drop_eq_nil_of_le (by omega)
  obtain rfl | rfl | rfl | rfl | rfl | rfl : k = 1 ∨ k = 2 ∨ k = 3 ∨ k = 4 ∨ k = 5 ∨ k = 6 := by omega
  · simp [lenB] at hl
    have e := drop_split p 0 8
    have e1 := drop_split p 8 8
    have e2 := drop_split p 16 4
    have e3 := drop_split p 20 4
    simp only [Nat.reduceAdd] at e1 e2 e3 e
    rw [hnil 24 hl, List.append_nil] at e3
    rw [pay1 rfl rfl, raw1, enc_num p 0 8 hx (by omega), enc_num p 8 8 hx (by omega), enc_num p 16 4 hx (by omega), enc_num p 20 4 hx (by omega), e3, e2, e1, e, List.drop_zero]
  · simp [lenB] at hl
    have e := drop_split p 0 4
    have e1 := drop_split p 4 4
    simp only [Nat.reduceAdd] at e1 e
    have en : (((raw 2 p).data.length / 64 : Nat) : Int) = num p 4 4 := by
      rw [raw2]; simp; omega
    rw [pay2 rfl, en, raw2, enc_num p 0 4 hx (by omega), enc_num p 4 4 hx (by omega), e1, e, List.drop_zero]
  · simp [lenB] at hl
    have e := drop_split p 0 4
    have e1 := drop_split p 4 4
    simp only [Nat.reduceAdd] at e1 e
    rw [hnil 8 hl, List.append_nil] at e1
    rw [pay3 rfl rfl, raw3, enc_num p 0 4 hx (by omega), enc_num p 4 4 hx (by omega), e1, e, List.drop_zero]
  · simp [lenB] at hl
    have e := drop_split p 0 4
    have e1 := drop_split p 4 4
    have e2 := drop_split p 8 4
    simp only [Nat.reduceAdd] at e1 e2 e
    rw [hnil 12 hl, List.append_nil] at e2
    rw [pay4 rfl rfl, raw4, enc_num p 0 4 hx (by omega), enc_num p 4 4 hx (by omega), enc_num p 8 4 hx (by omega), e2, e1, e, List.drop_zero]
  · simp [lenB] at hl
    have e := drop_split p 0 4
    simp only [Nat.reduceAdd] at e
    rw [hnil 4 hl, List.append_nil] at e
    rw [pay5 rfl rfl, raw5, enc_num p 0 4 hx (by omega), e, List.drop_zero]
  · simp [lenB] at hl
    have e := drop_split p 0 4
    have e1 := drop_split p 4 4
    simp only [Nat.reduceAdd] at e1 e
    rw [hnil 8 hl, List.append_nil] at e1
    rw [pay6 rfl rfl, raw6, enc_num p 0 4 hx (by omega), enc_num p 4 4 hx (by omega), e1, e, List.drop_zero]

end Wk
