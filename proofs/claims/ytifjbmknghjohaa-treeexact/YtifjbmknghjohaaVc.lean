/-
  The plain mathematics of a tree of one sector: its device, what is met on it, and what is met where it is bent. It speaks of no program.
-/
import Derived.Test.YtifjbmknghjohaaUq
namespace Wt
open Wn

/-- A node of one pointer. -/
def sol (l : Int) (k : Nat) (p : Int) : Nod := setP ⟨l, 0, 0, 0, 0, 0, 0, 0, 0⟩ k p

theorem pat_sol (l : Int) {k j : Nat} (p : Int) (hk : k < 8) (hj : j < 8) : pat (sol l k p) j = if j = k then p else 0 := by
  rcases below8 hk with rfl | rfl | rfl | rfl | rfl | rfl | rfl | rfl <;> rcases below8 hj with rfl | rfl | rfl | rfl | rfl | rfl | rfl | rfl <;> rfl

theorem nodB_sol {l : Int} {k : Nat} {p : Int} (hl : 0 ≤ l ∧ l ≤ 2) (hk : k < 8) (hp : 2 ≤ p ∧ p < 4096) : nodB (sol l k p) = true := by
  refine nodB_yes (by unfold sol; rw [level_setP]; exact hl) (fun j hj => linkB_iff.2 ?_) ⟨k, hk, by rw [pat_sol l p hk hk, if_pos rfl]; omega⟩
  rw [pat_sol l p hk hj]
  by_cases h : j = k
  · rw [if_pos h]; exact .inr hp
  · rw [if_neg h]; exact .inl rfl

/-- A node laid upon a block. -/
def put (xs : List Int) (q : Nat) (n : Nod) : List Int := Wd.lay xs (q * 64) (blk n)

theorem lay_at (xs : List Int) (k : Nat) (ys : List Int) (h : k + ys.length ≤ xs.length) (i : Nat) : (Wd.lay xs k ys).getD i 0 = if k ≤ i ∧ i < k + ys.length then ys.getD (i - k) 0 else xs.getD i 0 := by
  unfold Wd.lay
  simp only [List.getD_eq_getElem?_getD]
  by_cases h1 : i < k
  · rw [if_neg (by omega), List.getElem?_append_left (by rw [List.length_take]; omega), List.getElem?_take_of_lt h1]
  · rw [List.getElem?_append_right (by rw [List.length_take]; omega), List.length_take, Nat.min_eq_left (by omega)]
    by_cases h2 : i < k + ys.length
    · rw [if_pos ⟨by omega, h2⟩, List.getElem?_append_left (by omega)]
    · rw [if_neg (by omega), List.getElem?_append_right (by omega), List.getElem?_drop]
      congr 2; omega

theorem put_length {xs : List Int} {q : Nat} {n : Nod} (h : q < xs.length / 64) : (put xs q n).length = xs.length :=
  Wd.lay_length _ _ _ (by rw [blk_length]; omega)

theorem rd_at {xs : List Int} (hd : Wd.devB xs.length = true) (q : Nat) (hq : q < xs.length / 64) : Wd.rdR xs (q : Int) = (xs.drop (q * 64)).take 64 := by
  unfold Wd.rdR Wd.rdE
  rw [hd, if_pos]
  · rw [Int.toNat_natCast]
  · rw [if_pos rfl, if_pos (by omega)]

theorem block_ext {xs ys : List Int} {q : Nat} (h1 : q * 64 + 64 ≤ xs.length) (h2 : ys.length = 64) (h : ∀ i, i < 64 → xs.getD (q * 64 + i) 0 = ys.getD i 0) : (xs.drop (q * 64)).take 64 = ys := by
  refine List.ext_getElem (by simp; omega) fun i a b => ?_
  have hi : i < 64 := by omega
  have := h i hi
  simp only [List.getElem_take, List.getElem_drop]
  rw [List.getD_eq_getElem?_getD, List.getD_eq_getElem?_getD, List.getElem?_eq_getElem (by omega), List.getElem?_eq_getElem (by omega)] at this
  exact this

theorem rd_put {xs : List Int} {q : Nat} {n : Nod} (hd : Wd.devB xs.length = true) (hq : q < xs.length / 64) : Wd.rdR (put xs q n) (q : Int) = blk n := by
  have hl := put_length (n := n) hq
  rw [rd_at (by rw [hl]; exact hd) q (by rw [hl]; exact hq)]
  refine block_ext (by rw [hl]; omega) (blk_length n) fun i hi => ?_
  unfold put
  rw [lay_at _ _ _ (by rw [blk_length]; omega), blk_length, if_pos ⟨by omega, by omega⟩]
  congr 1; omega

theorem rd_put_ne {xs : List Int} {q p : Nat} {n : Nod} (hd : Wd.devB xs.length = true) (hq : q < xs.length / 64) (hp : p < xs.length / 64) (hne : p ≠ q) : Wd.rdR (put xs q n) (p : Int) = Wd.rdR xs (p : Int) := by
  have hl := put_length (n := n) hq
  rw [rd_at (by rw [hl]; exact hd) p (by rw [hl]; exact hp), rd_at hd p hp]
  refine block_ext (by rw [hl]; omega) (by simp; omega) fun i hi => ?_
  unfold put
  rw [lay_at _ _ _ (by rw [blk_length]; omega), blk_length, if_neg (by omega)]
  simp [List.getD_eq_getElem?_getD, List.getElem?_take_of_lt hi, List.getElem?_drop]

/-- What a node of a tree of one sector leads to. -/
def pk (at_ d : Nat) : Nat → Int
  | 0 => d
  | k + 1 => ((at_ + k : Nat) : Int)
def nk (at_ s d k : Nat) : Nod := sol k (s / 8 ^ k % 8) (pk at_ d k)
/-- A device with so many nodes of that tree. -/
def ch (b at_ s d : Nat) : Nat → List Int
  | 0 => List.replicate (b * 64) 0
  | k + 1 => put (ch b at_ s d k) (at_ + k) (nk at_ s d k)

theorem ch_length {b at_ : Nat} (s d : Nat) (h : at_ + 3 ≤ b) : ∀ k, k ≤ 3 → (ch b at_ s d k).length = b * 64
  | 0, _ => List.length_replicate
  | k + 1, hk => by
    have := ch_length s d h k (by omega)
    show (put _ _ _).length = _
    rw [put_length (by rw [this]; omega), this]

theorem ch_bytes {b at_ : Nat} (s d : Nat) : ∀ k, ∀ x ∈ ch b at_ s d k, 0 ≤ x ∧ x < 256
  | 0 => fun x hx => by
    have : x = 0 := List.eq_of_mem_replicate hx
    omega
  | k + 1 => Wd.lay_bytes (ch_bytes s d k) (blk_bd _)

theorem pk_bd {b at_ d : Nat} (ha : 2 ≤ at_) (h : at_ + 3 ≤ b) (hb : b ≤ 4096) (hd : 2 ≤ d) (hd2 : d < 4096) : ∀ k, k ≤ 3 → 2 ≤ pk at_ d k ∧ pk at_ d k < 4096
  | 0, _ => by show 2 ≤ (d : Int) ∧ (d : Int) < 4096; omega
  | k + 1, hk => by show 2 ≤ ((at_ + k : Nat) : Int) ∧ ((at_ + k : Nat) : Int) < 4096; omega

theorem nk_ok {b at_ d : Nat} (s : Nat) (ha : 2 ≤ at_) (h : at_ + 3 ≤ b) (hb : b ≤ 4096) (hd : 2 ≤ d) (hd2 : d < 4096) (k : Nat) (hk : k < 3) : nodB (nk at_ s d k) = true :=
  nodB_sol (by omega) (by omega) (pk_bd ha h hb hd hd2 k (by omega))

/-- A device with a tree of one sector. -/
structure Cha (xs : List Int) (b at_ s d : Nat) : Prop where
  ha : 2 ≤ at_
  hb : at_ + 3 ≤ b
  hs : s < 512
  hd : 2 ≤ d
  len : xs.length / 64 = b
  dev : Wd.devB xs.length = true

/-- One of its nodes stands. -/
def Sta (xs : List Int) (at_ s d k : Nat) : Prop := okN xs ((at_ + k : Nat) : Int) k = true ∧ nd xs ((at_ + k : Nat) : Int) = nk at_ s d k

theorem sta_of {xs : List Int} {at_ s d k : Nat} (hn : nodB (nk at_ s d k) = true) (h : Wd.rdR xs ((at_ + k : Nat) : Int) = blk (nk at_ s d k)) : Sta xs at_ s d k := by
  have h1 := par_blk hn
  have h2 : nd xs ((at_ + k : Nat) : Int) = nk at_ s d k := by unfold nd; rw [h]; exact h1.2
  refine ⟨?_, h2⟩
  unfold okN
  rw [h2, h, h1.1]
  have : (nk at_ s d k).level = (k : Int) := level_setP _ _ _
  rw [this]; simp

theorem devB_b {b : Nat} (h4 : 4 ≤ b) (hb : b ≤ 4096) : Wd.devB (b * 64) = true := Wd.devB_iff.2 ⟨by omega, by omega, by omega⟩

/-- What a block of the device says. -/
theorem ch_rd {b at_ : Nat} (s d : Nat) (ha : 2 ≤ at_) (h : at_ + 3 ≤ b) (hb : b ≤ 4096) (p : Nat) (hp : p < b) : ∀ k, k ≤ 3 → Wd.rdR (ch b at_ s d k) (p : Int) = if at_ ≤ p ∧ p < at_ + k then blk (nk at_ s d (p - at_)) else List.replicate 64 0
  | 0, _ => by
    rw [if_neg (by omega)]
    have hl := ch_length s d h 0 (by omega)
    rw [rd_at (by rw [hl]; exact devB_b (by omega) hb) p (by rw [hl]; omega)]
    refine block_ext (by rw [hl]; omega) List.length_replicate fun i hi => ?_
    show (List.replicate (b * 64) (0 : Int)).getD _ 0 = _
    simp only [List.getD_eq_getElem?_getD, List.getElem?_replicate]
    rw [if_pos (by omega), if_pos hi]
  | k + 1, hk => by
    have hl := ch_length s d h k (by omega)
    have hdv : Wd.devB (ch b at_ s d k).length = true := by rw [hl]; exact devB_b (by omega) hb
    show Wd.rdR (put _ _ _) _ = _
    by_cases e : p = at_ + k
    · subst e
      rw [rd_put hdv (by rw [hl]; omega), if_pos ⟨by omega, by omega⟩]
      congr 2; omega
    · rw [rd_put_ne hdv (by rw [hl]; omega) (by rw [hl]; omega) e, ch_rd s d ha h hb p hp k (by omega)]
      by_cases h2 : at_ ≤ p ∧ p < at_ + k
      · rw [if_pos h2, if_pos ⟨h2.1, by omega⟩]
      · rw [if_neg h2, if_neg (by omega)]

theorem ch_cha {b at_ s d : Nat} (ha : 2 ≤ at_) (h : at_ + 3 ≤ b) (hb : b ≤ 4096) (hs : s < 512) (hd : 2 ≤ d) : Cha (ch b at_ s d 3) b at_ s d :=
  ⟨ha, h, hs, hd, by rw [ch_length s d h 3 (by omega)]; omega, by rw [ch_length s d h 3 (by omega)]; exact devB_b (by omega) hb⟩

theorem ch_sta {b at_ s d : Nat} (ha : 2 ≤ at_) (h : at_ + 3 ≤ b) (hb : b ≤ 4096) (hd : 2 ≤ d) (hd2 : d < 4096) (k : Nat) (hk : k < 3) : Sta (ch b at_ s d 3) at_ s d k :=
  sta_of (nk_ok s ha h hb hd hd2 k hk) (by
    rw [ch_rd s d ha h hb (at_ + k) (by omega) 3 (by omega), if_pos ⟨by omega, by omega⟩]
    congr 2; omega)

/-! What is met. -/

section
variable {f : Int → Nat → St → Option St} {n : Nod} {pl : Nat}
theorem go_pass {s : St} {j : Nat} (m : Nat) (h : ∀ i, j ≤ i → i < j + m → pat n i = 0) : go f n pl (j + m) s = go f n pl j s := by
  induction m with
  | zero => rfl
  | succ m ih =>
    have h1 := ih (fun i a b => h i a (by omega))
    cases h2 : go f n pl (j + m) s with
    | none => rw [h2] at h1; rw [← h1]; exact go_none h2 1
    | some t => rw [h2] at h1; rw [← h1]; exact go_skip h2 (h (j + m) (by omega) (by omega))

theorem go_sol {s : St} {k : Nat} {l p : Int} (hk : k < 8) (hp : ¬ p = 0) : go f (sol l k p) pl 8 s = f p (pl * 8 + k) s := by
  have h1 : go f (sol l k p) pl k s = some s := by
    have := go_pass (f := f) (n := sol l k p) (pl := pl) (s := s) (j := 0) k (fun i _ hi => by rw [pat_sol l p hk (by omega), if_neg (by omega)])
    rw [Nat.zero_add] at this
    rw [this]; rfl
  have h2 : go f (sol l k p) pl (k + 1) s = f p (pl * 8 + k) s := by
    have e : pat (sol l k p) k = p := by rw [pat_sol l p hk hk, if_pos rfl]
    rw [go_step h1 (by rw [e]; exact hp), e]
  have h3 := go_pass (f := f) (n := sol l k p) (pl := pl) (s := s) (j := k + 1) (7 - k) (fun i a b => by rw [pat_sol l p hk (by omega), if_neg (by omega)])
  rw [show k + 1 + (7 - k) = 8 by omega] at h3
  rw [h3, h2]
end

theorem met_sol {xs : List Int} {at_ s d k : Nat} (hS : Sta xs at_ s d k) (hp : ¬ pk at_ d k = 0) (pl : Nat) (u : St) : met xs (k + 1) ((at_ + k : Nat) : Int) pl u = met xs k (pk at_ d k) (pl * 8 + s / 8 ^ k % 8) ⟨u.nodes ++ [((at_ + k : Nat) : Int)], u.sec, u.dat⟩ := by
  rw [met_yes hS.1, hS.2]
  unfold nk
  rw [go_sol (by omega) hp]

theorem met_one {xs : List Int} {b at_ s d : Nat} (hC : Cha xs b at_ s d) (h0 : Sta xs at_ s d 0) (pl : Nat) (u : St) : met xs 1 ((at_ : Nat) : Int) pl u = some ⟨u.nodes ++ [(at_ : Int)], u.sec.set (pl * 8 + s % 8) d, u.dat ++ [(d : Int)]⟩ := by
  have h := met_sol h0 (by show ¬ (d : Int) = 0; have := hC.hd; omega) pl u
  have e0 : ((at_ + 0 : Nat) : Int) = (at_ : Int) := by rw [Nat.add_zero]
  rw [e0] at h
  rw [h, met_zero]
  simp [pk]

theorem met_twoL {xs : List Int} {b at_ s d : Nat} (hC : Cha xs b at_ s d) (h0 : Sta xs at_ s d 0) (h1 : Sta xs at_ s d 1) (pl : Nat) (u : St) : met xs 2 ((at_ + 1 : Nat) : Int) pl u = some ⟨u.nodes ++ [((at_ + 1 : Nat) : Int), (at_ : Int)], u.sec.set ((pl * 8 + s / 8 % 8) * 8 + s % 8) d, u.dat ++ [(d : Int)]⟩ := by
  have e : pk at_ d 1 = ((at_ : Nat) : Int) := by show ((at_ + 0 : Nat) : Int) = _; rw [Nat.add_zero]
  have h := met_sol h1 (by rw [e]; have := hC.ha; omega) pl u
  rw [h, e, met_one hC h0]
  simp

theorem met_all {xs : List Int} {b at_ s d : Nat} (hC : Cha xs b at_ s d) (h0 : Sta xs at_ s d 0) (h1 : Sta xs at_ s d 1) (h2 : Sta xs at_ s d 2) : met xs 3 ((at_ + 2 : Nat) : Int) 0 s0 = some ⟨[((at_ + 2 : Nat) : Int), ((at_ + 1 : Nat) : Int), (at_ : Int)], (List.replicate 512 0).set s d, [(d : Int)]⟩ := by
  have h := met_sol h2 (by show ¬ ((at_ + 1 : Nat) : Int) = 0; omega) 0 s0
  rw [h]
  show met xs 2 ((at_ + 1 : Nat) : Int) _ _ = _
  rw [met_twoL hC h0 h1]
  have := hC.hs
  have e : ((0 * 8 + s / 8 ^ 2 % 8) * 8 + s / 8 % 8) * 8 + s % 8 = s := by omega
  rw [e]
  rfl

theorem mem_map {s d : Nat} (x : Int) : x ∈ (List.replicate 512 (0 : Int)).set s (d : Int) → x = 0 ∨ x = d := by
  intro hx
  rcases List.mem_or_eq_of_mem_set hx with h | h
  · exact .inl (List.eq_of_mem_replicate h)
  · exact .inr h

theorem has_map {s d : Nat} (hs : s < 512) : (d : Int) ∈ (List.replicate 512 (0 : Int)).set s (d : Int) := by
  generalize hn : 512 = n at *
  refine List.mem_iff_getElem.2 ⟨s, by simpa using hs, ?_⟩
  simp

theorem map_at {s d j : Nat} (hs : s < 512) : ((List.replicate 512 (0 : Int)).set s (d : Int)).getD j 0 = if j = s then (d : Int) else 0 := by
  generalize hn : 512 = n at *
  rw [List.getD_eq_getElem?_getD]
  by_cases h : j = s
  · subst h
    rw [if_pos rfl, List.getElem?_set_self (by simpa using hs)]; rfl
  · rw [if_neg h, List.getElem?_set_ne (by omega), List.getElem?_replicate]
    split <;> rfl

/-- A tree of one sector, whose block is none of its nodes. -/
theorem tre_one {xs : List Int} {b at_ s d : Nat} (hC : Cha xs b at_ s d) (h0 : Sta xs at_ s d 0) (h1 : Sta xs at_ s d 1) (h2 : Sta xs at_ s d 2) (hd : d < b) (hn : ¬ (at_ ≤ d ∧ d < at_ + 3)) :
    tre xs ((at_ + 2 : Nat) : Int) = some ⟨[((at_ + 2 : Nat) : Int), ((at_ + 1 : Nat) : Int), (at_ : Int)], (List.replicate 512 0).set s d, [(d : Int)]⟩ := by
  have hm := met_all hC h0 h1 h2
  have ha := hC.ha
  have hb := hC.hb
  have hs := hC.hs
  unfold tre
  rw [if_neg (by omega), if_pos (bsB_iff.2 ⟨by omega, by rw [hC.len]; omega⟩), hm]
  show (if apB _ _ _ = true then _ else none) = _
  rw [if_pos]
  simp only [apB, Bool.and_eq_true, decide_eq_true_eq, Bool.not_eq_true', List.any_eq_false, outB, Bool.or_eq_true, not_or]
  refine ⟨by simp; omega, fun x hx => ?_⟩
  rw [hC.len]
  rcases mem_map x hx with rfl | rfl
  · exact ⟨by omega, by simp; omega⟩
  · exact ⟨by omega, by simp; omega⟩

/-- A tree of one sector, whose block is one of its nodes, is none. -/
theorem tre_self {xs : List Int} {b at_ s d : Nat} (hC : Cha xs b at_ s d) (h0 : Sta xs at_ s d 0) (h1 : Sta xs at_ s d 1) (h2 : Sta xs at_ s d 2) (hn : at_ ≤ d ∧ d < at_ + 3) :
    tre xs ((at_ + 2 : Nat) : Int) = none := by
  have hm := met_all hC h0 h1 h2
  have ha := hC.ha
  have hb := hC.hb
  have hs := hC.hs
  unfold tre
  rw [if_neg (by omega), if_pos (bsB_iff.2 ⟨by omega, by rw [hC.len]; omega⟩), hm]
  show (if apB _ _ _ = true then _ else none) = _
  rw [if_neg]
  intro h
  simp only [apB, Bool.and_eq_true, decide_eq_true_eq, Bool.not_eq_true', List.any_eq_false, outB, Bool.or_eq_true, not_or] at h
  have := (h.2 _ (has_map hs)).2
  simp at this
  omega

/-- Where there is no node of that level, there is no tree. -/
theorem tre_no {xs : List Int} {p : Int} (h0 : ¬ p = 0) (h : met xs 3 p 0 s0 = none) : tre xs p = none := by
  unfold tre
  rw [if_neg h0, h]
  by_cases hb : bsB p ((xs.length / 64 : Nat) : Int) = true
  · rw [if_pos hb]
  · rw [if_neg hb]

theorem tre_far {xs : List Int} {p : Int} (h0 : ¬ p = 0) (h : ¬ (2 ≤ p ∧ p < ((xs.length / 64 : Nat) : Int))) : tre xs p = none := by
  unfold tre
  rw [if_neg h0, if_neg (fun e => h (bsB_iff.1 e))]

/-- A block of noughts is no node. -/
theorem okN_zeros {xs : List Int} {p : Int} (h : Wd.rdR xs p = List.replicate 64 0) (L : Nat) : okN xs p L = false := by
  have : parE (List.replicate 64 0) = 4 := by
    refine (par_name List.length_replicate ?_).1
    decide
  unfold okN
  rw [h, this]; rfl

theorem okN_level {xs : List Int} {at_ s d k L : Nat} (h : Sta xs at_ s d k) (hne : k ≠ L) : okN xs ((at_ + k : Nat) : Int) L = false := by
  unfold okN
  rw [h.2]
  have : (nk at_ s d k).level = (k : Int) := level_setP _ _ _
  rw [this]
  have e : ((k : Int) == (L : Int)) = false := by simp; omega
  rw [e, Bool.and_false]

end Wt
