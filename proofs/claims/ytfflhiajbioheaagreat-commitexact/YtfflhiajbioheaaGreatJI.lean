/-
  The plain mathematics of a tree of one sector: its device, what is met on it, and what is met where it is bent. It speaks of no program.
  The plain mathematics of a tree of one sector that is bent: a byte changed, a node that is led to twice. It speaks of no program.
  The plain mathematics of a way through a tree, pointer by pointer. It speaks of no program.
  What dev.Apply leaves is memory of the call's own; what Chain returns.
  What Chain returns.
-/
import Derived.Test.YtfflhiajbioheaaGreatJG
import Derived.Test.YtfflhiajbioheaaGreatJC
import Derived.Test.YtfflhiajbioheaaGreatJE
import Derived.Deep.Cut
namespace Wt
open Wn

/-- A node of one pointer. -/
def sol (l : Int) (k : Nat) (p : Int) : Nod := setP ⟨l, 0, 0, 0, 0, 0, 0, 0, 0⟩ k p

theorem pat_sol (l : Int) {k j : Nat} (p : Int) (hk : k < 8) (hj : j < 8) : pat (sol l k p) j = if j = k then p else 0 := by
  rcases below8 hk with rfl | rfl | rfl | rfl | rfl | rfl | rfl | rfl <;> rcases below8 hj with rfl | rfl | rfl | rfl | rfl | rfl | rfl | rfl <;> rfl

theorem nodB_sol {l : Int} {k : Nat} {p : Int} (hl : 0 ≤ l ∧ l ≤ 2) (hk : k < 8) (hp : 2 ≤ p ∧ p < 4096) : nodB (sol l k p) = true := by
  refine nodB_yes (by unfold sol; rw [level_setP]; exact hl) (fun j hj => linkB_iff.2 ?_) ⟨k, hk, by rw [pat_sol l p hk hk, if_pos rfl]; omega⟩
  rw [pat_sol l p hk hj]
  by_cases h : j = k
  · rw [if_pos h]; exact .inr hp
  · rw [if_neg h]; exact .inl rfl

/-- A node laid upon a block. -/
def put (xs : List Int) (q : Nat) (n : Nod) : List Int := Wd.lay xs (q * 64) (blk n)

theorem lay_at (xs : List Int) (k : Nat) (ys : List Int) (h : k + ys.length ≤ xs.length) (i : Nat) : (Wd.lay xs k ys).getD i 0 = if k ≤ i ∧ i < k + ys.length then ys.getD (i - k) 0 else xs.getD i 0 := by
  unfold Wd.lay
  simp only [List.getD_eq_getElem?_getD]
  by_cases h1 : i < k
  · rw [if_neg (by omega), List.getElem?_append_left (by rw [List.length_take]; omega), List.getElem?_take_of_lt h1]
  · rw [List.getElem?_append_right (by rw [List.length_take]; omega), List.length_take, Nat.min_eq_left (by omega)]
    by_cases h2 : i < k + ys.length
    · rw [if_pos ⟨by omega, h2⟩, List.getElem?_append_left (by omega)]
    · rw [if_neg (by omega), List.getElem?_append_right (by omega), List.getElem?_drop]
      congr 2; omega

theorem put_length {xs : List Int} {q : Nat} {n : Nod} (h : q < xs.length / 64) : (put xs q n).length = xs.length :=
  Wd.lay_length _ _ _ (by rw [blk_length]; omega)

theorem rd_at {xs : List Int} (hd : Wd.devB xs.length = true) (q : Nat) (hq : q < xs.length / 64) : Wd.rdR xs (q : Int) = (xs.drop (q * 64)).take 64 := by
  unfold Wd.rdR Wd.rdE
  rw [hd, if_pos]
  · rw [Int.toNat_natCast]
  · rw [if_pos rfl, if_pos (by omega)]

theorem block_ext {xs ys : List Int} {q : Nat} (h1 : q * 64 + 64 ≤ xs.length) (h2 : ys.length = 64) (h : ∀ i, i < 64 → xs.getD (q * 64 + i) 0 = ys.getD i 0) : (xs.drop (q * 64)).take 64 = ys := by
  refine List.ext_getElem (by simp; omega) fun i a b => ?_
  have hi : i < 64 := by omega
  have := h i hi
  simp only [List.getElem_take, List.getElem_drop]
  rw [List.getD_eq_getElem?_getD, List.getD_eq_getElem?_getD, List.getElem?_eq_getElem (by omega), List.getElem?_eq_getElem (by omega)] at this
  exact this

theorem rd_put {xs : List Int} {q : Nat} {n : Nod} (hd : Wd.devB xs.length = true) (hq : q < xs.length / 64) : Wd.rdR (put xs q n) (q : Int) = blk n := by
  have hl := put_length (n := n) hq
  rw [rd_at (by rw [hl]; exact hd) q (by rw [hl]; exact hq)]
  refine block_ext (by rw [hl]; omega) (blk_length n) fun i hi => ?_
  unfold put
  rw [lay_at _ _ _ (by rw [blk_length]; omega), blk_length, if_pos ⟨by omega, by omega⟩]
  congr 1; omega

theorem rd_put_ne {xs : List Int} {q p : Nat} {n : Nod} (hd : Wd.devB xs.length = true) (hq : q < xs.length / 64) (hp : p < xs.length / 64) (hne : p ≠ q) : Wd.rdR (put xs q n) (p : Int) = Wd.rdR xs (p : Int) := by
  have hl := put_length (n := n) hq
  rw [rd_at (by rw [hl]; exact hd) p (by rw [hl]; exact hp), rd_at hd p hp]
  refine block_ext (by rw [hl]; omega) (by simp; omega) fun i hi => ?_
  unfold put
  rw [lay_at _ _ _ (by rw [blk_length]; omega), blk_length, if_neg (by omega)]
  simp [List.getD_eq_getElem?_getD, List.getElem?_take_of_lt hi, List.getElem?_drop]

/-- What a node of a tree of one sector leads to. -/
def pk (at_ d : Nat) : Nat → Int
  | 0 => d
  | k + 1 => ((at_ + k : Nat) : Int)
def nk (at_ s d k : Nat) : Nod := sol k (s / 8 ^ k % 8) (pk at_ d k)
/-- A device with so many nodes of that tree. -/
def ch (b at_ s d : Nat) : Nat → List Int
  | 0 => List.replicate (b * 64) 0
  | k + 1 => put (ch b at_ s d k) (at_ + k) (nk at_ s d k)

theorem ch_length {b at_ : Nat} (s d : Nat) (h : at_ + 3 ≤ b) : ∀ k, k ≤ 3 → (ch b at_ s d k).length = b * 64
  | 0, _ => List.length_replicate
  | k + 1, hk => by
    have := ch_length s d h k (by omega)
    show (put _ _ _).length = _
    rw [put_length (by rw [this]; omega), this]

theorem ch_bytes {b at_ : Nat} (s d : Nat) : ∀ k, ∀ x ∈ ch b at_ s d k, 0 ≤ x ∧ x < 256
  | 0 => fun x hx => by
    have : x = 0 := List.eq_of_mem_replicate hx
    omega
  | k + 1 => Wd.lay_bytes (ch_bytes s d k) (blk_bd _)

theorem pk_bd {b at_ d : Nat} (ha : 2 ≤ at_) (h : at_ + 3 ≤ b) (hb : b ≤ 4096) (hd : 2 ≤ d) (hd2 : d < 4096) : ∀ k, k ≤ 3 → 2 ≤ pk at_ d k ∧ pk at_ d k < 4096
  | 0, _ => by show 2 ≤ (d : Int) ∧ (d : Int) < 4096; omega
  | k + 1, hk => by show 2 ≤ ((at_ + k : Nat) : Int) ∧ ((at_ + k : Nat) : Int) < 4096; omega

theorem nk_ok {b at_ d : Nat} (s : Nat) (ha : 2 ≤ at_) (h : at_ + 3 ≤ b) (hb : b ≤ 4096) (hd : 2 ≤ d) (hd2 : d < 4096) (k : Nat) (hk : k < 3) : nodB (nk at_ s d k) = true :=
  nodB_sol (by omega) (by omega) (pk_bd ha h hb hd hd2 k (by omega))

/-- A device with a tree of one sector. -/
structure Cha (xs : List Int) (b at_ s d : Nat) : Prop where
  ha : 2 ≤ at_
  hb : at_ + 3 ≤ b
  hs : s < 512
  hd : 2 ≤ d
  len : xs.length / 64 = b
  dev : Wd.devB xs.length = true

/-- One of its nodes stands. -/
def Sta (xs : List Int) (at_ s d k : Nat) : Prop := okN xs ((at_ + k : Nat) : Int) k = true ∧ nd xs ((at_ + k : Nat) : Int) = nk at_ s d k

theorem sta_of {xs : List Int} {at_ s d k : Nat} (hn : nodB (nk at_ s d k) = true) (h : Wd.rdR xs ((at_ + k : Nat) : Int) = blk (nk at_ s d k)) : Sta xs at_ s d k := by
  have h1 := par_blk hn
  have h2 : nd xs ((at_ + k : Nat) : Int) = nk at_ s d k := by unfold nd; rw [h]; exact h1.2
  refine ⟨?_, h2⟩
  unfold okN
  rw [h2, h, h1.1]
  have : (nk at_ s d k).level = (k : Int) := level_setP _ _ _
  rw [this]; simp

theorem devB_b {b : Nat} (h4 : 4 ≤ b) (hb : b ≤ 4096) : Wd.devB (b * 64) = true := Wd.devB_iff.2 ⟨by omega, by omega, by omega⟩

/-- What a block of the device says. -/
theorem ch_rd {b at_ : Nat} (s d : Nat) (ha : 2 ≤ at_) (h : at_ + 3 ≤ b) (hb : b ≤ 4096) (p : Nat) (hp : p < b) : ∀ k, k ≤ 3 → Wd.rdR (ch b at_ s d k) (p : Int) = if at_ ≤ p ∧ p < at_ + k then blk (nk at_ s d (p - at_)) else List.replicate 64 0
  | 0, _ => by
    rw [if_neg (by omega)]
    have hl := ch_length s d h 0 (by omega)
    rw [rd_at (by rw [hl]; exact devB_b (by omega) hb) p (by rw [hl]; omega)]
    refine block_ext (by rw [hl]; omega) List.length_replicate fun i hi => ?_
    show (List.replicate (b * 64) (0 : Int)).getD _ 0 = _
    simp only [List.getD_eq_getElem?_getD, List.getElem?_replicate]
    rw [if_pos (by omega), if_pos hi]
  | k + 1, hk => by
    have hl := ch_length s d h k (by omega)
    have hdv : Wd.devB (ch b at_ s d k).length = true := by rw [hl]; exact devB_b (by omega) hb
    show Wd.rdR (put _ _ _) _ = _
    by_cases e : p = at_ + k
    · subst e
      rw [rd_put hdv (by rw [hl]; omega), if_pos ⟨by omega, by omega⟩]
      congr 2; omega
    · rw [rd_put_ne hdv (by rw [hl]; omega) (by rw [hl]; omega) e, ch_rd s d ha h hb p hp k (by omega)]
      by_cases h2 : at_ ≤ p ∧ p < at_ + k
      · rw [if_pos h2, if_pos ⟨h2.1, by omega⟩]
      · rw [if_neg h2, if_neg (by omega)]

theorem ch_cha {b at_ s d : Nat} (ha : 2 ≤ at_) (h : at_ + 3 ≤ b) (hb : b ≤ 4096) (hs : s < 512) (hd : 2 ≤ d) : Cha (ch b at_ s d 3) b at_ s d :=
  ⟨ha, h, hs, hd, by rw [ch_length s d h 3 (by omega)]; omega, by rw [ch_length s d h 3 (by omega)]; exact devB_b (by omega) hb⟩

theorem ch_sta {b at_ s d : Nat} (ha : 2 ≤ at_) (h : at_ + 3 ≤ b) (hb : b ≤ 4096) (hd : 2 ≤ d) (hd2 : d < 4096) (k : Nat) (hk : k < 3) : Sta (ch b at_ s d 3) at_ s d k :=
  sta_of (nk_ok s ha h hb hd hd2 k hk) (by
    rw [ch_rd s d ha h hb (at_ + k) (by omega) 3 (by omega), if_pos ⟨by omega, by omega⟩]
    congr 2; omega)

/-! What is met. -/

section
variable {f : Int → Nat → St → Option St} {n : Nod} {pl : Nat}
theorem go_pass {s : St} {j : Nat} (m : Nat) (h : ∀ i, j ≤ i → i < j + m → pat n i = 0) : go f n pl (j + m) s = go f n pl j s := by
  induction m with
  | zero => rfl
  | succ m ih =>
    have h1 := ih (fun i a b => h i a (by omega))
    cases h2 : go f n pl (j + m) s with
    | none => rw [h2] at h1; rw [← h1]; exact go_none h2 1
    | some t => rw [h2] at h1; rw [← h1]; exact go_skip h2 (h (j + m) (by omega) (by omega))

theorem go_sol {s : St} {k : Nat} {l p : Int} (hk : k < 8) (hp : ¬ p = 0) : go f (sol l k p) pl 8 s = f p (pl * 8 + k) s := by
  have h1 : go f (sol l k p) pl k s = some s := by
    have := go_pass (f := f) (n := sol l k p) (pl := pl) (s := s) (j := 0) k (fun i _ hi => by rw [pat_sol l p hk (by omega), if_neg (by omega)])
    rw [Nat.zero_add] at this
    rw [this]; rfl
  have h2 : go f (sol l k p) pl (k + 1) s = f p (pl * 8 + k) s := by
    have e : pat (sol l k p) k = p := by rw [pat_sol l p hk hk, if_pos rfl]
    rw [go_step h1 (by rw [e]; exact hp), e]
  have h3 := go_pass (f := f) (n := sol l k p) (pl := pl) (s := s) (j := k + 1) (7 - k) (fun i a b => by rw [pat_sol l p hk (by omega), if_neg (by omega)])
  rw [show k + 1 + (7 - k) = 8 by omega] at h3
  rw [h3, h2]
end

theorem met_sol {xs : List Int} {at_ s d k : Nat} (hS : Sta xs at_ s d k) (hp : ¬ pk at_ d k = 0) (pl : Nat) (u : St) : met xs (k + 1) ((at_ + k : Nat) : Int) pl u = met xs k (pk at_ d k) (pl * 8 + s / 8 ^ k % 8) ⟨u.nodes ++ [((at_ + k : Nat) : Int)], u.sec, u.dat⟩ := by
  rw [met_yes hS.1, hS.2]
  unfold nk
  rw [go_sol (by omega) hp]

theorem met_one {xs : List Int} {b at_ s d : Nat} (hC : Cha xs b at_ s d) (h0 : Sta xs at_ s d 0) (pl : Nat) (u : St) : met xs 1 ((at_ : Nat) : Int) pl u = some ⟨u.nodes ++ [(at_ : Int)], u.sec.set (pl * 8 + s % 8) d, u.dat ++ [(d : Int)]⟩ := by
  have h := met_sol h0 (by show ¬ (d : Int) = 0; have := hC.hd; omega) pl u
  have e0 : ((at_ + 0 : Nat) : Int) = (at_ : Int) := by rw [Nat.add_zero]
  rw [e0] at h
  rw [h, met_zero]
  simp [pk]

theorem met_twoL {xs : List Int} {b at_ s d : Nat} (hC : Cha xs b at_ s d) (h0 : Sta xs at_ s d 0) (h1 : Sta xs at_ s d 1) (pl : Nat) (u : St) : met xs 2 ((at_ + 1 : Nat) : Int) pl u = some ⟨u.nodes ++ [((at_ + 1 : Nat) : Int), (at_ : Int)], u.sec.set ((pl * 8 + s / 8 % 8) * 8 + s % 8) d, u.dat ++ [(d : Int)]⟩ := by
  have e : pk at_ d 1 = ((at_ : Nat) : Int) := by show ((at_ + 0 : Nat) : Int) = _; rw [Nat.add_zero]
  have h := met_sol h1 (by rw [e]; have := hC.ha; omega) pl u
  rw [h, e, met_one hC h0]
  simp

theorem met_all {xs : List Int} {b at_ s d : Nat} (hC : Cha xs b at_ s d) (h0 : Sta xs at_ s d 0) (h1 : Sta xs at_ s d 1) (h2 : Sta xs at_ s d 2) : met xs 3 ((at_ + 2 : Nat) : Int) 0 s0 = some ⟨[((at_ + 2 : Nat) : Int), ((at_ + 1 : Nat) : Int), (at_ : Int)], (List.replicate 512 0).set s d, [(d : Int)]⟩ := by
  have h := met_sol h2 (by show ¬ ((at_ + 1 : Nat) : Int) = 0; omega) 0 s0
  rw [h]
  show met xs 2 ((at_ + 1 : Nat) : Int) _ _ = _
  rw [met_twoL hC h0 h1]
  have := hC.hs
  have e : ((0 * 8 + s / 8 ^ 2 % 8) * 8 + s / 8 % 8) * 8 + s % 8 = s := by omega
  rw [e]
  rfl

theorem mem_map {s d : Nat} (x : Int) : x ∈ (List.replicate 512 (0 : Int)).set s (d : Int) → x = 0 ∨ x = d := by
  intro hx
  rcases List.mem_or_eq_of_mem_set hx with h | h
  · exact .inl (List.eq_of_mem_replicate h)
  · exact .inr h

theorem has_map {s d : Nat} (hs : s < 512) : (d : Int) ∈ (List.replicate 512 (0 : Int)).set s (d : Int) := by
  generalize hn : 512 = n at *
  refine List.mem_iff_getElem.2 ⟨s, by simpa using hs, ?_⟩
  simp

theorem map_at {s d j : Nat} (hs : s < 512) : ((List.replicate 512 (0 : Int)).set s (d : Int)).getD j 0 = if j = s then (d : Int) else 0 := by
  generalize hn : 512 = n at *
  rw [List.getD_eq_getElem?_getD]
  by_cases h : j = s
  · subst h
    rw [if_pos rfl, List.getElem?_set_self (by simpa using hs)]; rfl
  · rw [if_neg h, List.getElem?_set_ne (by omega), List.getElem?_replicate]
    split <;> rfl

/-- A tree of one sector, whose block is none of its nodes. -/
theorem tre_one {xs : List Int} {b at_ s d : Nat} (hC : Cha xs b at_ s d) (h0 : Sta xs at_ s d 0) (h1 : Sta xs at_ s d 1) (h2 : Sta xs at_ s d 2) (hd : d < b) (hn : ¬ (at_ ≤ d ∧ d < at_ + 3)) :
    tre xs ((at_ + 2 : Nat) : Int) = some ⟨[((at_ + 2 : Nat) : Int), ((at_ + 1 : Nat) : Int), (at_ : Int)], (List.replicate 512 0).set s d, [(d : Int)]⟩ := by
  have hm := met_all hC h0 h1 h2
  have ha := hC.ha
  have hb := hC.hb
  have hs := hC.hs
  unfold tre
  rw [if_neg (by omega), if_pos (bsB_iff.2 ⟨by omega, by rw [hC.len]; omega⟩), hm]
  show (if apB _ _ _ = true then _ else none) = _
  rw [if_pos]
  simp only [apB, Bool.and_eq_true, decide_eq_true_eq, Bool.not_eq_true', List.any_eq_false, outB, Bool.or_eq_true, not_or]
  refine ⟨by simp; omega, fun x hx => ?_⟩
  rw [hC.len]
  rcases mem_map x hx with rfl | rfl
  · exact ⟨by omega, by simp; omega⟩
  · exact ⟨by omega, by simp; omega⟩

/-- A tree of one sector, whose block is one of its nodes, is none. -/
theorem tre_self {xs : List Int} {b at_ s d : Nat} (hC : Cha xs b at_ s d) (h0 : Sta xs at_ s d 0) (h1 : Sta xs at_ s d 1) (h2 : Sta xs at_ s d 2) (hn : at_ ≤ d ∧ d < at_ + 3) :
    tre xs ((at_ + 2 : Nat) : Int) = none := by
  have hm := met_all hC h0 h1 h2
  have ha := hC.ha
  have hb := hC.hb
  have hs := hC.hs
  unfold tre
  rw [if_neg (by omega), if_pos (bsB_iff.2 ⟨by omega, by rw [hC.len]; omega⟩), hm]
  show (if apB _ _ _ = true then _ else none) = _
  rw [if_neg]
  intro h
  simp only [apB, Bool.and_eq_true, decide_eq_true_eq, Bool.not_eq_true', List.any_eq_false, outB, Bool.or_eq_true, not_or] at h
  have := (h.2 _ (has_map hs)).2
  simp at this
  omega

/-- Where there is no node of that level, there is no tree. -/
theorem tre_no {xs : List Int} {p : Int} (h0 : ¬ p = 0) (h : met xs 3 p 0 s0 = none) : tre xs p = none := by
  unfold tre
  rw [if_neg h0, h]
  by_cases hb : bsB p ((xs.length / 64 : Nat) : Int) = true
  · rw [if_pos hb]
  · rw [if_neg hb]

theorem tre_far {xs : List Int} {p : Int} (h0 : ¬ p = 0) (h : ¬ (2 ≤ p ∧ p < ((xs.length / 64 : Nat) : Int))) : tre xs p = none := by
  unfold tre
  rw [if_neg h0, if_neg (fun e => h (bsB_iff.1 e))]

/-- A block of noughts is no node. -/
theorem okN_zeros {xs : List Int} {p : Int} (h : Wd.rdR xs p = List.replicate 64 0) (L : Nat) : okN xs p L = false := by
  have : parE (List.replicate 64 0) = 4 := by
    refine (par_name List.length_replicate ?_).1
    decide
  unfold okN
  rw [h, this]; rfl

theorem okN_level {xs : List Int} {at_ s d k L : Nat} (h : Sta xs at_ s d k) (hne : k ≠ L) : okN xs ((at_ + k : Nat) : Int) L = false := by
  unfold okN
  rw [h.2]
  have : (nk at_ s d k).level = (k : Int) := level_setP _ _ _
  rw [this]
  have e : ((k : Int) == (L : Int)) = false := by simp; omega
  rw [e, Bool.and_false]

end Wt
namespace Wt
open Wn Go.Proofs.YtfflhiajbioheaaGreat

/-- One byte of a node's block changed: it is none. -/
theorem blk_byte {n : Nod} (hn : nodB n = true) {ys : List Int} {i : Nat} {c : Int} (hi : i < 64) (hc : 0 < c ∧ c < 256) (hl : ys.length = 64)
    (h : ∀ j, j < 64 → ys.getD j 0 = if j = i then ((((blk n).getD i 0).toNat ^^^ c.toNat : Nat) : Int) else (blk n).getD j 0) : ¬ parE ys = 0 := by
  obtain ⟨p, hp⟩ : ∃ p, p = min i 60 := ⟨_, rfl⟩
  have hp1 : p ≤ 60 := by omega
  have hpi : p ≤ i ∧ i < p + 4 := by omega
  obtain ⟨zs, hz⟩ : ∃ zs : List Int, zs = (List.replicate 4 (0 : Int)).set (i - p) c := ⟨_, rfl⟩
  have hzl : zs.length = 4 := by rw [hz]; simp
  have hzb : ∀ y ∈ zs, 0 ≤ y ∧ y < 256 := by
    intro y hy
    rw [hz] at hy
    rcases List.mem_or_eq_of_mem_set hy with h | h
    · have := List.eq_of_mem_replicate h; omega
    · omega
  have hza : ∀ k, zs.getD k 0 = if k = i - p then c else 0 := by
    intro k
    rw [hz, List.getD_eq_getElem?_getD]
    by_cases e : k = i - p
    · subst e
      rw [if_pos rfl, List.getElem?_set_self (by simp; omega)]; rfl
    · rw [if_neg e, List.getElem?_set_ne (by omega), List.getElem?_replicate]
      split <;> rfl
  have hys : ys = Wc.zipx (blk n) (Wc.runAt p (60 - p) zs) := by
    have hbl := blk_length n
    have hrl : (Wc.runAt p (60 - p) zs).length = 64 := by simp [Wc.runAt, hzl]; omega
    refine List.ext_getElem (by rw [hl]; simp [Wc.zipx, hbl, hrl]) fun j h1 h2 => ?_
    have hj : j < 64 := by omega
    have k1 := h j hj
    have k2 := chg_end (blk n) zs p 60 hbl hzl hp1 (blk_bd n) j (by omega)
    have k3 : chg (blk n) zs p 4 j = if j = i then ((((blk n).getD i 0).toNat ^^^ c.toNat : Nat) : Int) else (blk n).getD j 0 := by
      unfold chg
      by_cases e : j = i
      · subst e
        rw [if_pos hpi, if_pos rfl, hza, if_pos rfl]
      · rw [if_neg e]
        by_cases e2 : p ≤ j ∧ j < p + 4
        · rw [if_pos e2, hza, if_neg (by omega)]
          have hbj := blk_bd n ((blk n).getD j 0) (by rw [List.getD_eq_getElem?_getD, List.getElem?_eq_getElem (by omega)]; simp)
          show (((blk n).getD j 0).toNat ^^^ 0 : Nat) = (blk n).getD j 0
          rw [Nat.xor_zero]; omega
        · rw [if_neg e2]
    rw [← k3, k2] at k1
    rw [List.getD_eq_getElem?_getD, List.getD_eq_getElem?_getD, List.getElem?_eq_getElem h1, List.getElem?_eq_getElem h2] at k1
    exact k1
  intro hE
  rw [hys] at hE
  have h0 := (par_changed hn p (60 - p) zs hzl hzb (by omega)).1 hE c (by
    have := hza (i - p)
    rw [if_pos rfl, List.getD_eq_getElem?_getD, List.getElem?_eq_getElem (by omega)] at this
    rw [← this]; exact List.getElem_mem _)
  omega

theorem rd_other {xs ys : List Int} {p : Nat} (hl : ys.length = xs.length) (hd : Wd.devB xs.length = true) (hp : p < xs.length / 64) (h : ∀ i, i < 64 → ys.getD (p * 64 + i) 0 = xs.getD (p * 64 + i) 0) : Wd.rdR ys (p : Int) = Wd.rdR xs (p : Int) := by
  rw [rd_at (by rw [hl]; exact hd) p (by rw [hl]; exact hp), rd_at hd p hp]
  refine block_ext (by rw [hl]; omega) (by simp; omega) fun i hi => ?_
  rw [h i hi]
  simp [List.getD_eq_getElem?_getD, List.getElem?_take_of_lt hi, List.getElem?_drop]

/-- With one byte of one of its nodes changed a tree is none. -/
theorem tre_byte {b at_ s d k i : Nat} {c : Int} {ys : List Int} (ha : 2 ≤ at_) (h : at_ + 3 ≤ b) (hb : b ≤ 4096) (hd : 2 ≤ d) (hd2 : d < 4096) (hk : k < 3) (hi : i < 64) (hc : 0 < c ∧ c < 256)
    (hl : ys.length = b * 64) (hy : ∀ j, j < b * 64 → ys.getD j 0 = if j = (at_ + k) * 64 + i then ((((ch b at_ s d 3).getD ((at_ + k) * 64 + i) 0).toNat ^^^ c.toNat : Nat) : Int) else (ch b at_ s d 3).getD j 0) :
    tre ys ((at_ + 2 : Nat) : Int) = none := by
  have hcl := ch_length s d h 3 (by omega)
  have hdv : Wd.devB (ch b at_ s d 3).length = true := by rw [hcl]; exact devB_b (by omega) hb
  have hlx : ys.length = (ch b at_ s d 3).length := by rw [hl, hcl]
  have hrd : ∀ j, j < 3 → Wd.rdR (ch b at_ s d 3) ((at_ + j : Nat) : Int) = blk (nk at_ s d j) := by
    intro j hj
    rw [ch_rd s d ha h hb (at_ + j) (by omega) 3 (by omega), if_pos ⟨by omega, by omega⟩]
    congr 2; omega
  have hsta : ∀ j, j < 3 → j ≠ k → Sta ys at_ s d j := fun j hj hne => sta_of (nk_ok s ha h hb hd hd2 j hj) (by
    rw [rd_other hlx hdv (by rw [hcl]; omega) (fun i' hi' => by rw [hy _ (by omega), if_neg (by omega)])]
    exact hrd j hj)
  have hbad : okN ys ((at_ + k : Nat) : Int) k = false := by
    have hbk : ¬ parE (Wd.rdR ys ((at_ + k : Nat) : Int)) = 0 := by
      rw [rd_at (by rw [hlx]; exact hdv) (at_ + k) (by rw [hl]; omega)]
      refine blk_byte (nk_ok s ha h hb hd hd2 k hk) hi hc (by simp; omega) fun j hj => ?_
      have e1 : ((ys.drop ((at_ + k) * 64)).take 64).getD j 0 = ys.getD ((at_ + k) * 64 + j) 0 := by
        simp [List.getD_eq_getElem?_getD, List.getElem?_take_of_lt hj, List.getElem?_drop]
      have e2 : ∀ j, j < 64 → (blk (nk at_ s d k)).getD j 0 = (ch b at_ s d 3).getD ((at_ + k) * 64 + j) 0 := by
        intro j hj
        rw [← hrd k hk, rd_at hdv (at_ + k) (by rw [hcl]; omega)]
        simp [List.getD_eq_getElem?_getD, List.getElem?_take_of_lt hj, List.getElem?_drop]
      rw [e1, e2 i hi, e2 j hj, hy _ (by omega)]
      by_cases e : j = i
      · rw [if_pos e, if_pos (by omega)]
      · rw [if_neg e, if_neg (by omega)]
    unfold okN
    have : (parE (Wd.rdR ys ((at_ + k : Nat) : Int)) == 0) = false := by simpa using hbk
    rw [this]; rfl
  have hpk : ∀ j, j ≤ 3 → ¬ pk at_ d j = 0 := fun j hj => by have := pk_bd ha h hb hd hd2 j hj; omega
  refine tre_no (by omega) ?_
  have hk3 : k = 0 ∨ k = 1 ∨ k = 2 := by omega
  rcases hk3 with rfl | rfl | rfl
  · rw [met_sol (hsta 2 (by omega) (by omega)) (hpk 2 (by omega)) 0 s0]
    show met ys 2 ((at_ + 1 : Nat) : Int) _ _ = none
    rw [met_sol (hsta 1 (by omega) (by omega)) (hpk 1 (by omega))]
    show met ys 1 ((at_ + 0 : Nat) : Int) _ _ = none
    exact met_no hbad _ _
  · rw [met_sol (hsta 2 (by omega) (by omega)) (hpk 2 (by omega)) 0 s0]
    exact met_no hbad _ _
  · exact met_no hbad _ _

/-- A root that leads to one node twice. -/
def two (p : Int) : Nod := ⟨2, p, p, 0, 0, 0, 0, 0, 0⟩

theorem two_ok {p : Int} (h : 2 ≤ p ∧ p < 4096) : nodB (two p) = true := by
  refine nodB_yes ⟨by show (0 : Int) ≤ 2; omega, by show (2 : Int) ≤ 2; omega⟩ (fun j hj => linkB_iff.2 ?_) ⟨0, by omega, by show ¬ p = 0; omega⟩
  rcases below8 hj with rfl | rfl | rfl | rfl | rfl | rfl | rfl | rfl
  · exact .inr h
  · exact .inr h
  all_goals exact .inl rfl

theorem tre_twice {b at_ s d : Nat} (ha : 2 ≤ at_) (h : at_ + 3 ≤ b) (hb : b ≤ 4096) (hs : s < 512) (hd : 2 ≤ d) (hd2 : d < 4096) : tre (put (ch b at_ s d 3) (at_ + 2) (two ((at_ + 1 : Nat) : Int))) ((at_ + 2 : Nat) : Int) = none := by
  have hcl := ch_length s d h 3 (by omega)
  have hdv : Wd.devB (ch b at_ s d 3).length = true := by rw [hcl]; exact devB_b (by omega) hb
  have hq : at_ + 2 < (ch b at_ s d 3).length / 64 := by rw [hcl]; omega
  have hpl := put_length (n := two ((at_ + 1 : Nat) : Int)) hq
  obtain ⟨ys, hys⟩ : ∃ ys, ys = put (ch b at_ s d 3) (at_ + 2) (two ((at_ + 1 : Nat) : Int)) := ⟨_, rfl⟩
  have hn := two_ok (p := ((at_ + 1 : Nat) : Int)) (by omega)
  have hr : Wd.rdR ys ((at_ + 2 : Nat) : Int) = blk (two ((at_ + 1 : Nat) : Int)) := by rw [hys]; exact rd_put hdv hq
  have hsta : ∀ j, j < 2 → Sta ys at_ s d j := fun j hj => sta_of (nk_ok s ha h hb hd hd2 j (by omega)) (by
    rw [hys, rd_put_ne hdv hq (by rw [hcl]; omega) (by omega), ch_rd s d ha h hb (at_ + j) (by omega) 3 (by omega), if_pos ⟨by omega, by omega⟩]
    congr 2; omega)
  rw [← hys]
  have hC : Cha ys b at_ s d := ⟨ha, h, hs, hd, by rw [hys, hpl, hcl]; omega, by rw [hys, hpl]; exact hdv⟩
  have hb2 := par_blk hn
  have hnd : nd ys ((at_ + 2 : Nat) : Int) = two ((at_ + 1 : Nat) : Int) := by unfold nd; rw [hr]; exact hb2.2
  have hok : okN ys ((at_ + 2 : Nat) : Int) 2 = true := by
    unfold okN
    rw [hnd, hr, hb2.1]; rfl
  have hz : ¬ ((at_ + 1 : Nat) : Int) = 0 := by omega
  cases ht : tre ys ((at_ + 2 : Nat) : Int) with
  | none => rfl
  | some t =>
    exfalso
    obtain ⟨-, -, hm, hnd2, -⟩ := tre_met (by omega) ht
    rw [met_yes hok, hnd] at hm
    have g0 : go (met ys 2) (two ((at_ + 1 : Nat) : Int)) 0 0 ⟨s0.nodes ++ [((at_ + 2 : Nat) : Int)], s0.sec, s0.dat⟩ = some ⟨s0.nodes ++ [((at_ + 2 : Nat) : Int)], s0.sec, s0.dat⟩ := rfl
    have g1 := go_step g0 hz
    rw [show pat (two ((at_ + 1 : Nat) : Int)) 0 = ((at_ + 1 : Nat) : Int) from rfl, met_twoL hC (hsta 0 (by omega)) (hsta 1 (by omega))] at g1
    have g2 := go_step g1 hz
    rw [show pat (two ((at_ + 1 : Nat) : Int)) (0 + 1) = ((at_ + 1 : Nat) : Int) from rfl, met_twoL hC (hsta 0 (by omega)) (hsta 1 (by omega))] at g2
    have g8 := go_pass (f := met ys 2) (n := two ((at_ + 1 : Nat) : Int)) (pl := 0) (s := ⟨s0.nodes ++ [((at_ + 2 : Nat) : Int)], s0.sec, s0.dat⟩) (j := 0 + 1 + 1) 6 (fun i a c => by
      have hi : i = 2 ∨ i = 3 ∨ i = 4 ∨ i = 5 ∨ i = 6 ∨ i = 7 := by omega
      rcases hi with rfl | rfl | rfl | rfl | rfl | rfl <;> rfl)
    rw [g2] at g8
    have g9 : some _ = some t := g8.symm.trans hm
    have e := congrArg St.nodes (Option.some.inj g9)
    rw [← e] at hnd2
    have e2 : s0.nodes = [] := rfl
    rw [e2] at hnd2
    simp at hnd2

end Wt
namespace Wt
open Wn

/-- A pointer that leads to a node of that level, and whatever is below it. -/
def Way (xs : List Int) : Nat → Int → Prop
  | 0, _ => True
  | L + 1, p => okN xs p L = true ∧ 2 ≤ p ∧ ∀ k, k < 8 → ¬ pat (nd xs p) k = 0 → Way xs L (pat (nd xs p) k)

theorem go_each {f : Int → Nat → St → Option St} {n : Nod} {pl : Nat} {s : St} {k : Nat} : ∀ (m : Nat) (t : St), go f n pl m s = some t → k < m → ¬ pat n k = 0 → ∃ u v, f (pat n k) (pl * 8 + k) u = some v
  | 0, _, _, hk, _ => by omega
  | m + 1, t, h, hk, hp => by
    cases h1 : go f n pl m s with
    | none => simp [go, h1] at h
    | some u =>
      by_cases e : k = m
      · subst e
        rw [go_step h1 hp] at h
        exact ⟨u, t, h⟩
      · exact go_each m u h1 (by omega) hp

theorem met_way (xs : List Int) : ∀ (L : Nat) (p : Int) (pl : Nat) (s t : St), met xs L p pl s = some t → 2 ≤ p → Way xs L p
  | 0, _, _, _, _, _, _ => trivial
  | L + 1, p, pl, s, t, h, hp => by
    cases ho : okN xs p L
    · rw [met_no ho] at h; cases h
    · rw [met_yes ho] at h
      refine ⟨ho, hp, fun k hk hz => ?_⟩
      obtain ⟨u, v, e⟩ := go_each 8 t h hk hz
      exact met_way xs L _ _ u v e (by have := pat_link (okN_nod ho).1 hk; omega)

/-- Where a way stands: what is still to be found is v. -/
def On (xs : List Int) (v : Int) (L : Nat) (p : Int) (r : Nat) : Prop := (p = 0 ∧ v = 0) ∨ (¬ p = 0 ∧ Way xs L p ∧ look xs L p r = v ∧ r < 8 ^ L)

theorem On.last {xs : List Int} {v : Int} {p : Int} {r : Nat} (h : On xs v 0 p r) : p = v := by
  rcases h with ⟨rfl, rfl⟩ | ⟨-, -, h, -⟩
  · rfl
  · exact h

theorem On.zero {xs : List Int} {v : Int} {L r : Nat} (h : On xs v L 0 r) : v = 0 := by
  rcases h with ⟨-, h⟩ | ⟨h, -⟩
  · exact h
  · exact absurd rfl h

theorem On.next {xs : List Int} {v : Int} {L : Nat} {p : Int} {r : Nat} (h : On xs v (L + 1) p r) (hp : ¬ p = 0) :
    okN xs p L = true ∧ 2 ≤ p ∧ r < 8 * 8 ^ L ∧ r / 8 ^ L < 8 ∧ On xs v L (pat (nd xs p) (r / 8 ^ L)) (r % 8 ^ L) := by
  rcases h with ⟨h, -⟩ | ⟨-, ⟨h1, h2, h3⟩, h4, h5⟩
  · exact absurd h hp
  · have hD : 0 < 8 ^ L := Nat.pos_of_ne_zero (by simp)
    have hr8 : r / 8 ^ L < 8 := by rw [Nat.div_lt_iff_lt_mul hD, Nat.mul_comm, ← Nat.pow_succ]; exact h5
    refine ⟨h1, h2, by rw [Nat.mul_comm, ← Nat.pow_succ]; exact h5, hr8, ?_⟩
    simp only [look] at h4
    by_cases hz : pat (nd xs p) (r / 8 ^ L) = 0
    · rw [if_pos hz] at h4
      exact .inl ⟨hz, h4.symm⟩
    · rw [if_neg hz] at h4
      exact .inr ⟨hz, h3 _ hr8 hz, h4, Nat.mod_lt _ hD⟩

/-- A tree's way to each sector. -/
theorem On.start {xs : List Int} {root : Int} {t : St} (hr : ¬ root = 0) (h : tre xs root = some t) (s : Nat) (hs : s < 512) : On xs (t.sec.getD s 0) 3 root s := by
  obtain ⟨h2, -, hm, -⟩ := tre_met hr h
  exact .inr ⟨hr, met_way xs 3 root 0 s0 t hm h2, (met_map hm hr s hs).symm, hs⟩

/-- What is told of a tree. -/
theorem tree_told {xs : List Int} {root : Int} (hr : ¬ root = 0) (h : treE xs root = 0) :
    Wd.devB xs.length = true ∧ (treS xs root).length = 512 ∧ (∃ a, treN xs root = root :: a) ∧ (treN xs root).Nodup ∧ (treN xs root).length ≤ 1000 ∧ ∀ s, s < 512 → On xs ((treS xs root).getD s 0) 3 root s := by
  cases hd : Wd.devB xs.length with
  | false => rw [(tre_dev hd).1] at h; omega
  | true =>
    cases ht : tre xs root with
    | none => rw [(tre_none hd ht).1] at h; omega
    | some t =>
      have h3 := tre_some hd ht
      obtain ⟨-, -, hm, hnd, -⟩ := tre_met hr ht
      obtain ⟨a, ha⟩ := met_root hm
      have hrm := met_room xs 3 root 0 s0 t hm
      refine ⟨rfl, treS_len h, ⟨a, by rw [h3.2.1, ha]; rfl⟩, by rw [h3.2.1]; exact hnd, ?_, fun s hs => ?_⟩
      · rw [h3.2.1]
        have e : s0.nodes.length = 0 := rfl
        have e2 : room 3 = 73 := rfl
        omega
      · rw [h3.2.2]; exact On.start hr ht s hs

theorem nodup_at {l : List Int} (h : l.Nodup) {i k : Nat} (hi : i < l.length) (hk : k < i) : (l.getD k 0 == l.getD i 0) = false := by
  have e1 : l.getD k 0 = l[k] := by simp [show k < l.length by omega]
  have e2 : l.getD i 0 = l[i] := by simp [hi]
  rw [e1, e2]
  have := (List.pairwise_iff_getElem.1 h) k i (by omega) hi hk
  simpa using this

/-- What is told where there is none. -/
theorem tree_untold {xs : List Int} {root : Int} (h : ¬ treE xs root = 0) : treS xs root = [] ∧ treN xs root = [] := by
  cases hd : Wd.devB xs.length with
  | false => exact ⟨(tre_dev hd).2.2, (tre_dev hd).2.1⟩
  | true =>
    cases ht : tre xs root with
    | none => exact ⟨(tre_none hd ht).2.2, (tre_none hd ht).2.1⟩
    | some t => exact absurd (tre_some hd ht).1 h

theorem tree_zero {xs : List Int} (h : treE xs 0 = 0) : treS xs 0 = List.replicate 512 0 ∧ treN xs 0 = [] := by
  have ht : tre xs 0 = some s0 := by unfold tre; rw [if_pos rfl]
  cases hd : Wd.devB xs.length with
  | false => rw [(tre_dev hd).1] at h; omega
  | true => exact ⟨(tre_some hd ht).2.2, (tre_some hd ht).2.1⟩

end Wt
namespace Go.Proofs.YtfflhiajbioheaaGreat
open Go.RowKit

set_option maxHeartbeats 1600000 in
theorem apply_ob (ai : Option Addr) (ni ci : Nat) (a : Option Addr) (n cap : Nat) (xs : List Int) (l : List Wd.Io) (w : World) (hv : Wc.Bs w (.slice ai ni ci) xs) (hI : Wd.Is w (.slice a n cap) l) (hz : Wd.stepsE ni l = 0) :
    Calls Tryz.prog 39 #[.slice ai ni ci, .slice a n cap] w fun e w' => ∃ g, e = .returned (.tuple #[.slice (some ⟨g, 0, none⟩) ni ni, .int .i64 0]) ∧ w.heap.size ≤ g ∧ Wc.Ob 5 w.heap.size w' (.slice (some ⟨g, 0, none⟩) ni ni) (Wd.app xs l) ∧ Below w.heap.size w w' := by
  have hni : ni ≤ 140737488355328 := by obtain ⟨_, _, _, h1, _, _, _, h5, _⟩ := hv; cases h1; exact h5
  have hl := Wc.bs_len hv
  have HV := Wc.hid hv
  have HI := Wc.hid hI
  have HZ := Wc.hid hz
  clear hv hI
  have HL := Wc.hid hl
  clear hl
  go_enter Tryz.func39, Tryz.ntmps39
  go_wp2_with fail
  refine (steps_any _ _ _ _ _ _ l _ hni HI.out).mono ?_
  rintro e w1 ⟨rfl, hb1⟩
  rw [hz]
  go_wp2_with fail
  refine (copied_any _ _ _ xs _ (HV.out.keep hb1)).mono ?_
  rintro e w2 ⟨g, rfl, hg, hO, hb2⟩
  have HO := Wc.hid hO
  have hst := Wd.stepsE_zero HZ.out
  have hd := Wd.devB_iff.1 hst.1
  have HI1 := Wc.hid (HI.out.keep hb1)
  have HST := Wc.hid hst.2.2
  have HD := Wc.hid hd
  have HB1 := Wc.hid hb1
  have HBB := Wc.hid hb2
  have HG := Wc.hid hg
  clear hO hst hd hb2 hb1 hg
  go_wp2_with fail
  refine (writeAll_any w1 w2 g ni ni (ni / 64) a n cap xs l (by have := HD.out; omega) (by have := HD.out; omega) HBB.out HO.out HI1.out HST.out).mono ?_
  rintro e w3 ⟨rfl, hO3, hb3⟩
  go_wp2_with fail
  go_ret2
  have hsz := HB1.out.size
  exact ⟨g, rfl, by have := HG.out; omega, hO3.base hsz, Wc.step HB1.out (Nat.le_refl _) hb3⟩

/-- One step that writes, in memory. -/
theorem one_is (w : World) (a1 : Option Addr) (c1 T : Nat) (p : Int) (X : List Int) (hX : Wc.Bs w (.slice a1 64 c1) X) (s1 : Wc.Shaped (.slice a1 64 c1)) (g : Nat) (hg : g = w.heap.size) :
    Wd.Is (w.alloc (.cells #[.int .i64 1, .int .i64 p, .slice a1 64 c1] T)) (.slice (some ⟨g, 0, none⟩) 1 1) [⟨1, p, X⟩] := by
  subst hg
  have l1 := Wc.bs_len hX
  have hb := (Below.refl w.heap.size w).alloc (Nat.le_refl _) (.cells #[.int .i64 1, .int .i64 p, .slice a1 64 c1] T)
  refine ⟨_, 1, 1, rfl, rfl, Nat.le_refl _, by omega, by omega, fun _ => ⟨w.heap.size, 0, rfl, by simp, fun i hi => ?_⟩⟩
  match i, hi with
  | 0, _ => exact ⟨a1, c1, by simp, by simp, by simp [l1], by simpa [l1] using hX.keep hb, by simpa [l1] using s1⟩

theorem one_step {n : Nat} {p : Nat} {X : List Int} (hd : Wd.devB n = true) (hp : p < n / 64) (hX : X.length = 64) : Wd.stepsE n [⟨1, (p : Int), X⟩] = 0 := by
  have h1 : Wd.okIo ((n : Int) / 64) ⟨1, (p : Int), X⟩ = true := Wd.rightB_iff.2 (.inl ⟨rfl, show (0 : Int) ≤ p by omega, show (p : Int) < (n : Int) / 64 by omega, hX⟩)
  refine Wd.stepsE_ok hd (show 1 ≤ 1048576 by omega) ?_
  rw [List.all_cons, h1]; rfl

theorem app_put (xs : List Int) (p : Nat) (n : Wn.Nod) : Wd.app xs [⟨1, (p : Int), Wn.blk n⟩] = Wt.put xs p n := by
  show Wd.lay _ ((p : Int).toNat * 64) _ = _
  rw [Int.toNat_natCast]; rfl

end Go.Proofs.YtfflhiajbioheaaGreat
namespace Go.Proofs.YtfflhiajbioheaaGreat
open Go.RowKit

theorem makeN (k : Nat) (hk : k ≤ 140737488355328) (w : World) : (Instr.makeSlice 48 (.int .i64 (k : Int)) (.int .i64 (k : Int))).run Tryz.prog w = .ok (.slice (some ⟨w.heap.size, 0, none⟩) k k) (w.alloc (.cells (madeCells #[.int .u8 0] k) 5)) :=
  run_make_row' (P := Tryz.prog) 48 5 (.int .u8 0) 1 Tryz.underlying48 Tryz.infoU8 rfl .i64 .i64 k (by omega) (by omega) w

theorem made_ob (k : Nat) (hk : k ≤ 140737488355328) (w : World) : Wc.Ob 5 w.heap.size (w.alloc (.cells (madeCells #[.int .u8 0] k) 5)) (.slice (some ⟨w.heap.size, 0, none⟩) k k) (List.replicate k 0) := by
  refine ⟨⟨by simp, .inr ⟨w.heap.size, k, madeCells #[Value.int .u8 0] k, by simp, Nat.le_refl _, (by show (w.heap.push _)[_]? = _; simp), by simp, by unfold maxLen; omega, ?_, ?_⟩⟩, by simpa using hk, by intro x hx; rw [List.mem_replicate] at hx; omega⟩
  · rw [← Array.length_toList, Wc.made_zero]; simp
  · rw [Wc.made_zero]; simp

theorem ob_nh {base : Nat} {w : World} {v : Value} {xs : List Int} {B : Nat} {n : Wn.Nod} (h : Wc.Ob 5 base w v xs) (hB : Nh w B n) (o : Nat) (u : Value) : Wc.Ob 5 base (w.setCell ⟨B, o, none⟩ u) v xs := by
  refine ⟨⟨h.1.1, ?_⟩, h.2⟩
  rcases h.1.2 with hn | ⟨g, cap, cur, hv, hbg, hg, rest⟩
  · exact .inl hn
  · refine .inr ⟨g, cap, cur, hv, hbg, ?_, rest⟩
    rw [heap_setCell_other _ _ _ _ (by
      show g ≠ B
      rintro rfl
      unfold Nh at hB
      rw [hg] at hB
      injection hB with hB
      injection hB with _ h2
      exact absurd h2 (by decide))]
    exact hg

end Go.Proofs.YtfflhiajbioheaaGreat
