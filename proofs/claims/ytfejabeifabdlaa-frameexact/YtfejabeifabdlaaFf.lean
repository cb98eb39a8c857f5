/-
  Plain mathematics of frames: a command's frame, what bytes say; what is written is read, whatever stands behind; cut off; changed; what is read begins with what it is written to. It speaks of no program. No conditions beyond those that each theorem names.
-/
import Derived.Test.YtfejabeifabdlaaFm
namespace Wk
open Wc Ws Wr

/-- The name. -/
def name : List Int := [70, 82, 65, 77]
/-- All of a frame ahead of its sum. -/
def head (q : Int) (c : Cmd) : List Int := name ++ (enc 4 q ++ (enc 4 c.kind ++ (enc 4 ((pay c).length : Int) ++ pay c)))
/-- A frame. -/
def frame (q : Int) (c : Cmd) : List Int := head q c ++ enc 4 (more 0 (head q c))

theorem head_length (q : Int) (c : Cmd) : (head q c).length = 16 + (pay c).length := by simp [head, name, enc_length]; omega
theorem frame_length (q : Int) (c : Cmd) : (frame q c).length = 20 + (pay c).length := by simp [frame, head_length, enc_length]; omega

theorem head_bd (q : Int) (c : Cmd) (hd : ∀ x ∈ c.data, 0 ≤ x ∧ x < 256) : ∀ x ∈ head q c, 0 ≤ x ∧ x < 256 := by
  intro x hx
  simp only [head, List.mem_append] at hx
  rcases hx with h | h | h | h | h
  · simp [name] at h; omega
  · exact enc_bd _ _ x h
  · exact enc_bd _ _ x h
  · exact enc_bd _ _ x h
  · exact pay_bd hd x h

theorem frame_bd (q : Int) (c : Cmd) (hd : ∀ x ∈ c.data, 0 ≤ x ∧ x < 256) : ∀ x ∈ frame q c, 0 ≤ x ∧ x < 256 := by
  intro x hx
  rcases List.mem_append.1 hx with h | h
  · exact head_bd q c hd x h
  · exact enc_bd _ _ x h

theorem frame_good (q : Int) (c : Cmd) (hd : ∀ x ∈ c.data, 0 ≤ x ∧ x < 256) : goodB (frame q c) = true := good_sealed _ (head_bd q c hd)

/-- As far as the length tells: the error, how many bytes the frame has. -/
def extE (xs : List Int) : Int :=
  if xs.take 4 = name.take xs.length then (if xs.length < 16 then 16 else (if num xs 12 4 > 520 then 13 else (if (xs.length : Int) < 20 + num xs 12 4 then 16 else 0))) else 13
def extN (xs : List Int) : Int := if extE xs = 0 then 20 + num xs 12 4 else 0
/-- How many bytes the payload has. -/
def plen (xs : List Int) : Nat := (num xs 12 4).toNat
def body (xs : List Int) : List Int := (xs.drop 16).take (plen xs)
/-- What bytes say: the error, the command, its number, how many bytes. -/
def parE (xs : List Int) : Int :=
  if extE xs = 0 then (if goodB (xs.take (20 + plen xs)) = true then (if okB (num xs 8 4) (body xs) = true then 0 else 13) else 5) else extE xs
def par (xs : List Int) : Cmd := if parE xs = 0 then raw (num xs 8 4) (body xs) else c0
def parQ (xs : List Int) : Int := if parE xs = 0 then num xs 4 4 else 0
def parZ (xs : List Int) : Int := if parE xs = 0 then 20 + num xs 12 4 else 0

theorem num_bd (xs : List Int) (p k : Nat) (hx : ∀ x ∈ xs, 0 ≤ x ∧ x < 256) : 0 ≤ num xs p k ∧ num xs p k < 256 ^ k := by
  have h := val_bd ((xs.drop p).take k) (fun x h' => hx x (List.mem_of_mem_drop (List.mem_of_mem_take h')))
  refine ⟨h.1, Int.lt_of_lt_of_le h.2 ?_⟩
  have : (256 : Nat) ^ ((xs.drop p).take k).length ≤ 256 ^ k := Nat.pow_le_pow_right (by omega) (by simp; omega)
  have e1 : ((256 ^ ((xs.drop p).take k).length : Nat) : Int) = 256 ^ ((xs.drop p).take k).length := by simp
  have e2 : ((256 ^ k : Nat) : Int) = 256 ^ k := by simp
  omega

theorem num4_bd (xs : List Int) (p : Nat) (hx : ∀ x ∈ xs, 0 ≤ x ∧ x < 256) : 0 ≤ num xs p 4 ∧ num xs p 4 < 4294967296 := num_bd xs p 4 hx

theorem par_no {xs : List Int} (h : ¬ parE xs = 0) : par xs = c0 ∧ parQ xs = 0 ∧ parZ xs = 0 := by simp [par, parQ, parZ, h]
theorem par_yes {xs : List Int} (h : parE xs = 0) : par xs = raw (num xs 8 4) (body xs) ∧ parQ xs = num xs 4 4 ∧ parZ xs = 20 + num xs 12 4 := by simp [par, parQ, parZ, h]
theorem parE_ext {xs : List Int} (h : ¬ extE xs = 0) : parE xs = extE xs := by simp [parE, h]
theorem parE_sum {xs : List Int} (h : extE xs = 0) (h1 : goodB (xs.take (20 + plen xs)) = false) : parE xs = 5 := by simp [parE, h, h1]
theorem parE_bad {xs : List Int} (h : extE xs = 0) (h1 : goodB (xs.take (20 + plen xs)) = true) (h2 : okB (num xs 8 4) (body xs) = false) : parE xs = 13 := by simp [parE, h, h1, h2]
theorem parE_ok {xs : List Int} (h : extE xs = 0) (h1 : goodB (xs.take (20 + plen xs)) = true) (h2 : okB (num xs 8 4) (body xs) = true) : parE xs = 0 := by simp [parE, h, h1, h2]

theorem ext_name {xs : List Int} (h : ¬ xs.take 4 = name.take xs.length) : extE xs = 13 := by simp [extE, h]
theorem ext_short {xs : List Int} (h : xs.take 4 = name.take xs.length) (h1 : xs.length < 16) : extE xs = 16 := by simp [extE, h, h1]
theorem ext_long {xs : List Int} (h : xs.take 4 = name.take xs.length) (h1 : 16 ≤ xs.length) (h2 : 520 < num xs 12 4) : extE xs = 13 := by
  unfold extE; rw [if_pos h, if_neg (by omega), if_pos h2]
theorem ext_open {xs : List Int} (h : xs.take 4 = name.take xs.length) (h1 : 16 ≤ xs.length) (h2 : num xs 12 4 ≤ 520) (h3 : (xs.length : Int) < 20 + num xs 12 4) : extE xs = 16 := by
  unfold extE; rw [if_pos h, if_neg (by omega), if_neg (by omega), if_pos h3]
theorem ext_ok {xs : List Int} (h : xs.take 4 = name.take xs.length) (h1 : 16 ≤ xs.length) (h2 : num xs 12 4 ≤ 520) (h3 : 20 + num xs 12 4 ≤ (xs.length : Int)) : extE xs = 0 := by
  unfold extE; rw [if_pos h, if_neg (by omega), if_neg (by omega), if_neg (by omega)]

theorem ext_zero {xs : List Int} (h : extE xs = 0) : xs.take 4 = name.take xs.length ∧ 16 ≤ xs.length ∧ num xs 12 4 ≤ 520 ∧ 20 + num xs 12 4 ≤ (xs.length : Int) := by
  by_cases h1 : xs.take 4 = name.take xs.length
  · by_cases h2 : xs.length < 16
    · have := ext_short h1 h2; omega
    · by_cases h3 : num xs 12 4 ≤ 520
      · by_cases h4 : (xs.length : Int) < 20 + num xs 12 4
        · have := ext_open h1 (by omega) h3 h4; omega
        · exact ⟨h1, by omega, h3, by omega⟩
      · have := ext_long h1 (by omega) (by omega); omega
  · have := ext_name h1; omega

/-- The errors that there are. -/
theorem parE_cases (xs : List Int) : parE xs = 0 ∨ parE xs = 13 ∨ parE xs = 16 ∨ parE xs = 5 := by
  unfold parE extE
  repeat' split
  all_goals simp_all

theorem name_take (n : Nat) (h : 4 ≤ n) : name.take n = name := List.take_of_length_le (by simp [name]; omega)

theorem ext_split (q : Int) (c : Cmd) (Y : List Int) : frame q c ++ Y = name ++ (enc 4 q ++ (enc 4 c.kind ++ (enc 4 ((pay c).length : Int) ++ (pay c ++ (enc 4 (more 0 (head q c)) ++ Y))))) := by
  unfold frame
  conv => lhs; lhs; lhs; unfold head
  simp only [List.append_assoc]

theorem frame_nums {q : Int} {c : Cmd} (Y : List Int) (hq : 0 ≤ q ∧ q ≤ 4294967295) (hc : cmdB c = true) :
    (frame q c ++ Y).take 4 = name ∧ num (frame q c ++ Y) 4 4 = q ∧ num (frame q c ++ Y) 8 4 = c.kind ∧ num (frame q c ++ Y) 12 4 = (pay c).length ∧ ((frame q c ++ Y).drop 16).take (pay c).length = pay c := by
  have hk := cmdB_kind hc
  have hl := pay_len hc
  rw [ext_split]
  refine ⟨?_, ?_, ?_, ?_, ?_⟩
  · rw [List.take_append_of_le_length (by simp [name])]; rfl
  · exact num_mid _ _ 4 4 _ (by simp [name]) (by omega) (by omega)
  · rw [← List.append_assoc]; exact num_mid _ _ 4 8 _ (by simp [name, enc_length]) (by omega) (by omega)
  · rw [← List.append_assoc, ← List.append_assoc]; exact num_mid _ _ 4 12 _ (by simp [name, enc_length]) (by omega) (by omega)
  · rw [← List.append_assoc, ← List.append_assoc, ← List.append_assoc, List.drop_left' (by simp [name, enc_length]), List.take_left' rfl]

/-- What is written is read, whatever stands behind. -/
theorem par_frame {q : Int} {c : Cmd} (Y : List Int) (hq : 0 ≤ q ∧ q ≤ 4294967295) (hc : cmdB c = true) (hd : ∀ x ∈ c.data, 0 ≤ x ∧ x < 256) :
    parE (frame q c ++ Y) = 0 ∧ par (frame q c ++ Y) = c ∧ parQ (frame q c ++ Y) = q ∧ parZ (frame q c ++ Y) = (frame q c).length := by
  obtain ⟨h1, h2, h3, h4, h5⟩ := frame_nums Y hq hc
  have hl := pay_len hc
  have hfl := frame_length q c
  have hL : (frame q c ++ Y).length = 20 + (pay c).length + Y.length := by rw [List.length_append, hfl]
  have hp : plen (frame q c ++ Y) = (pay c).length := by unfold plen; rw [h4]; omega
  have e0 : extE (frame q c ++ Y) = 0 := ext_ok (by rw [h1, name_take _ (by omega)]) (by omega) (by omega) (by rw [h4, hL]; omega)
  have hb : body (frame q c ++ Y) = pay c := by unfold body; rw [hp]; exact h5
  have hr := raw_pay hc
  have e1 : parE (frame q c ++ Y) = 0 := by
    refine parE_ok e0 ?_ ?_
    · rw [hp, List.take_left' hfl]; exact frame_good q c hd
    · rw [h3, hb]; unfold okB; rw [hr.1, hr.2, hc]; rfl
  obtain ⟨y1, y2, y3⟩ := par_yes e1
  refine ⟨e1, ?_, ?_, ?_⟩
  · rw [y1, h3, hb, hr.2]
  · rw [y2, h2]
  · rw [y3, h4, hfl]; omega

theorem num_take (xs : List Int) (p k m : Nat) (h : p + k ≤ m) : num (xs.take m) p k = num xs p k := by
  unfold num
  rw [List.drop_take, List.take_take, Nat.min_eq_left (by omega)]

/-- Cut off it is open. -/
theorem par_cut {q : Int} {c : Cmd} (k : Nat) (hq : 0 ≤ q ∧ q ≤ 4294967295) (hc : cmdB c = true) (hk : k < (frame q c).length) : parE ((frame q c).take k) = 16 := by
  obtain ⟨h1, h2, h3, h4, h5⟩ := frame_nums [] hq hc
  rw [List.append_nil] at h1 h2 h3 h4 h5
  have hl := pay_len hc
  have hfl := frame_length q c
  have hL : ((frame q c).take k).length = k := by simp; omega
  have hn : ((frame q c).take k).take 4 = name.take ((frame q c).take k).length := by
    rw [hL, List.take_take]
    rcases Nat.lt_or_ge k 4 with h | h
    · rw [Nat.min_eq_right (by omega), ← h1, List.take_take, Nat.min_eq_left (by omega)]
    · rw [Nat.min_eq_left h, h1, name_take _ h]
  have e : extE ((frame q c).take k) = 16 := by
    rcases Nat.lt_or_ge k 16 with h | h
    · exact ext_short hn (by omega)
    · exact ext_open hn (by omega) (by rw [num_take _ _ _ _ (by omega), h4]; omega) (by rw [num_take _ _ _ _ (by omega), h4, hL]; omega)
  rw [parE_ext (by omega), e]

theorem zipx_get (a b : List Int) (i : Nat) (h : i < a.length) (h' : i < b.length) : (zipx a b)[i]? = some (((a.getD i 0).toNat ^^^ (b.getD i 0).toNat : Nat) : Int) := by
  unfold zipx
  rw [List.getElem?_zipWith]
  simp [List.getD, h, h']

theorem zipx_length (a b : List Int) (h : a.length = b.length) : (zipx a b).length = a.length := by simp [zipx, h]

theorem runAt_length (p m : Nat) (x : List Int) : (runAt p m x).length = p + x.length + m := by simp [runAt]; omega

/-- With four bytes side by side changed, none of the length's, it is none. -/
theorem par_changed {q : Int} {c : Cmd} (p m : Nat) (x : List Int) (hq : 0 ≤ q ∧ q ≤ 4294967295) (hc : cmdB c = true) (hd : ∀ x ∈ c.data, 0 ≤ x ∧ x < 256)
    (hl : x.length = 4) (hx : ∀ y ∈ x, 0 ≤ y ∧ y < 256) (hn : (frame q c).length = p + 4 + m) (hp : 16 ≤ p ∨ p + 4 ≤ 12) (hne : ¬ ∀ y ∈ x, y = 0) : ¬ parE (zipx (frame q c) (runAt p m x)) = 0 := by
  obtain ⟨h1, h2, h3, h4, h5⟩ := frame_nums [] hq hc
  rw [List.append_nil] at h1 h2 h3 h4 h5
  have hfl := frame_length q c
  have hrl : (runAt p m x).length = p + 4 + m := by rw [runAt_length, hl]
  have hZ := zipx_length (frame q c) (runAt p m x) (by omega)
  have hpl := pay_len hc
  have hnum : num (zipx (frame q c) (runAt p m x)) 12 4 = num (frame q c) 12 4 := by
    unfold num
    congr 1
    refine List.ext_getElem? fun i => ?_
    rw [List.getElem?_take, List.getElem?_take]
    by_cases hi : i < 4
    · rw [if_pos hi, if_pos hi, List.getElem?_drop, List.getElem?_drop, zipx_get _ _ _ (by omega) (by omega)]
      have hz : (runAt p m x).getD (12 + i) 0 = 0 := by
        unfold runAt
        rw [List.getD_eq_getElem?_getD]
        rcases hp with h | h
        · rw [List.getElem?_append_left (by simp; omega), List.getElem?_replicate]; split <;> rfl
        · rw [List.getElem?_append_right (by simp; omega), List.getElem?_append_right (by simp; omega), List.getElem?_replicate]; split <;> rfl
      rw [hz]
      have hb := frame_bd q c hd ((frame q c).getD (12 + i) 0) (by rw [List.getD_eq_getElem?_getD, List.getElem?_eq_getElem (by omega)]; simp)
      rw [List.getElem?_eq_getElem (by omega)]
      rw [List.getD_eq_getElem?_getD, List.getElem?_eq_getElem (by omega)] at hb ⊢
      simp only [Option.getD_some] at hb ⊢
      congr 1
      simp
      omega
    · rw [if_neg hi, if_neg hi]
  intro h
  have hE : extE (zipx (frame q c) (runAt p m x)) = 0 := by
    by_cases hE : extE (zipx (frame q c) (runAt p m x)) = 0
    · exact hE
    · rw [parE_ext hE] at h; exact h
  have hbad : goodB ((zipx (frame q c) (runAt p m x)).take (20 + plen (zipx (frame q c) (runAt p m x)))) = false := by
    have e : (zipx (frame q c) (runAt p m x)).take (20 + plen (zipx (frame q c) (runAt p m x))) = zipx (frame q c) (runAt p m x) := by
      refine List.take_of_length_le ?_
      unfold plen
      rw [hnum, h4, hZ, hfl]; omega
    rw [e]
    have hrb : ∀ y ∈ runAt p m x, 0 ≤ y ∧ y < 256 := by
      intro y hy
      unfold runAt at hy
      rcases List.mem_append.1 hy with h | h
      · have := (List.mem_replicate.1 h).2; omega
      · rcases List.mem_append.1 h with h | h
        · exact hx y h
        · have := (List.mem_replicate.1 h).2; omega
    rw [Bool.eq_false_iff]
    intro hg
    exact hne ((good_changed _ p m x (frame_bd q c hd) hl hx hn (frame_good q c hd) (zipx_bd _ _ (frame_bd q c hd) hrb)).1 hg)
  rw [parE_sum hE hbad] at h
  omega

/-- Nothing changed. -/
theorem zipx_same (a : List Int) (p m : Nat) (x : List Int) (ha : ∀ y ∈ a, 0 ≤ y ∧ y < 256) (hl : x.length = 4) (hn : a.length = p + 4 + m) (h0 : ∀ y ∈ x, y = 0) : zipx a (runAt p m x) = a := by
  have hrl : (runAt p m x).length = p + 4 + m := by rw [runAt_length, hl]
  refine List.ext_getElem? fun i => ?_
  by_cases hi : i < a.length
  · rw [zipx_get _ _ _ hi (by omega)]
    have hz : (runAt p m x).getD i 0 = 0 := by
      have : ∀ y ∈ runAt p m x, y = 0 := by
        intro y hy
        unfold runAt at hy
        rcases List.mem_append.1 hy with h | h
        · exact (List.mem_replicate.1 h).2
        · rcases List.mem_append.1 h with h | h
          · exact h0 y h
          · exact (List.mem_replicate.1 h).2
      rw [List.getD_eq_getElem?_getD, List.getElem?_eq_getElem (by omega)]
      exact this _ (List.getElem_mem _)
    rw [hz]
    have hb := ha (a[i]) (List.getElem_mem _)
    rw [List.getElem?_eq_getElem hi, List.getD_eq_getElem?_getD, List.getElem?_eq_getElem hi]
    simp
    omega
  · rw [List.getElem?_eq_none (by rw [zipx_length _ _ (by omega)]; omega), List.getElem?_eq_none (by omega)]

/-- Payloads of one kind tell their commands. -/
theorem pay_inj {c d : Cmd} (hc : cmdB c = true) (hd : cmdB d = true) (hk : c.kind = d.kind) (h : pay c = pay d) : c = d := by
  rw [← (raw_pay hc).2, ← (raw_pay hd).2, hk, h]

theorem good_long' (xs : List Int) (n : Nat) (h : n + 4 ≤ xs.length) (hg : goodB (xs.take (20 + (n - 16))) = true) (h16 : 16 ≤ n) : num xs n 4 = more 0 (xs.take n) := by
  have hl : (xs.take (20 + (n - 16))).length = n + 4 := by simp; omega
  have e0 : 20 + (n - 16) = n + 4 := by omega
  unfold goodB at hg
  rw [Bool.and_eq_true, hl, beq_iff_eq, e0] at hg
  have h2 := hg.2
  rw [show n + 4 - 4 = n by omega, List.take_take, Nat.min_eq_left (by omega), List.drop_take, show n + 4 - n = 4 by omega] at h2
  exact h2

/-- What is read begins with just what it is written to. -/
theorem par_reads {xs : List Int} (hx : ∀ x ∈ xs, 0 ≤ x ∧ x < 256) (h : parE xs = 0) :
    cmdB (par xs) = true ∧ (0 ≤ parQ xs ∧ parQ xs ≤ 4294967295) ∧ (24 ≤ parZ xs ∧ parZ xs ≤ xs.length) ∧ frame (parQ xs) (par xs) = xs.take (parZ xs).toNat ∧ (∀ x ∈ (par xs).data, 0 ≤ x ∧ x < 256) := by
  obtain ⟨y1, y2, y3⟩ := par_yes h
  have hE : extE xs = 0 := by
    by_cases hE : extE xs = 0
    · exact hE
    · rw [parE_ext hE] at h; exact h
  have hG : goodB (xs.take (20 + plen xs)) = true := by
    cases hG : goodB (xs.take (20 + plen xs))
    · rw [parE_sum hE hG] at h; omega
    · rfl
  have hO : okB (num xs 8 4) (body xs) = true := by
    cases hO : okB (num xs 8 4) (body xs)
    · rw [parE_bad hE hG hO] at h; omega
    · rfl
  obtain ⟨e1, e2, e3, e4⟩ := ext_zero hE
  have n4 := num4_bd xs 4 hx
  have n12 := num4_bd xs 12 hx
  have hbx : ∀ x ∈ body xs, 0 ≤ x ∧ x < 256 := fun x h' => hx x (List.mem_of_mem_drop (List.mem_of_mem_take h'))
  have hpr := pay_raw hbx hO
  have hcm : cmdB (raw (num xs 8 4) (body xs)) = true := by
    unfold okB at hO
    rw [Bool.and_eq_true] at hO
    exact hO.2
  have hpl := pay_len hcm
  have hpn : (plen xs : Int) = num xs 12 4 := by unfold plen; omega
  have hbl : (body xs).length = plen xs := by simp [body]; omega
  rw [hpr, hbl] at hpl
  rw [y1, y2, y3]
  refine ⟨hcm, ⟨n4.1, by omega⟩, ⟨by omega, by omega⟩, ?_, ?_⟩
  · have hz : (20 + num xs 12 4).toNat = 16 + plen xs + 4 := by omega
    rw [hz]
    have hh : head (num xs 4 4) (raw (num xs 8 4) (body xs)) = xs.take (16 + plen xs) := by
      unfold head
      rw [raw_kind hcm, hpr, hbl, hpn, enc_num xs 4 4 hx (by omega), enc_num xs 8 4 hx (by omega), enc_num xs 12 4 hx (by omega)]
      rw [List.take_add, show (16 : Nat) = 12 + 4 from rfl, List.take_add, show (12 : Nat) = 8 + 4 from rfl, List.take_add, show (8 : Nat) = 4 + 4 from rfl, List.take_add, e1, name_take _ (by omega)]
      simp only [List.append_assoc]
      rfl
    unfold frame
    rw [hh]
    have hs : xs.take (16 + plen xs + 4) = xs.take (16 + plen xs) ++ (xs.drop (16 + plen xs)).take 4 := List.take_add
    rw [hs]
    congr 1
    have hg := good_long' xs (16 + plen xs) (by omega) (by rw [show 16 + plen xs - 16 = plen xs by omega]; exact hG) (by omega)
    rw [← hg]
    have := enc_num xs (16 + plen xs) 4 hx (by omega)
    exact this
  · intro x hxm
    have : x ∈ pay (raw (num xs 8 4) (body xs)) := List.mem_append.2 (.inr hxm)
    rw [hpr] at this
    exact hbx x this

end Wk
