/-
  Blocks of a device behind steps. It speaks of no program.
  Devices block by block: which superblock is picked, which records stand, which image is sound. It speaks of no program but for what Open tells.
-/
import Derived.Test.YtfflhiajbioheaaGreatJB
import Derived.Test.YtfflhiajbioheaaGreatJL
namespace Wd
open Go Go.RowKit

/-- Block q of a device. -/
def blk (xs : List Int) (q : Nat) : List Int := (xs.drop (q * 64)).take 64

theorem blk_get (xs : List Int) (q i : Nat) : (blk xs q)[i]? = if i < 64 then xs[q * 64 + i]? else none := by
  unfold blk
  by_cases h : i < 64
  · simp [h]
  · rw [if_neg h, List.getElem?_eq_none]
    simp; omega

theorem lay_get (xs : List Int) (k : Nat) (ys : List Int) (h : k + ys.length ≤ xs.length) (i : Nat) : (lay xs k ys)[i]? = if i < k then xs[i]? else if i < k + ys.length then ys[i - k]? else xs[i]? := by
  have e : (xs.take k).length = k := by simp; omega
  unfold lay
  by_cases h1 : i < k
  · rw [if_pos h1, List.getElem?_append_left (by omega)]; simp [h1]
  · rw [if_neg h1, List.getElem?_append_right (by omega), e]
    by_cases h2 : i < k + ys.length
    · rw [if_pos h2, List.getElem?_append_left (by omega)]
    · rw [if_neg h2, List.getElem?_append_right (by omega), List.getElem?_drop]
      congr 1; omega

theorem blk_lay (xs ys : List Int) (p q : Nat) (hy : ys.length = 64) (h : p * 64 + 64 ≤ xs.length) : blk (lay xs (p * 64) ys) q = if p = q then ys else blk xs q := by
  apply List.ext_getElem?
  intro i
  rw [blk_get]
  by_cases hi : i < 64
  · rw [if_pos hi, lay_get _ _ _ (by omega)]
    by_cases hpq : p = q
    · subst hpq
      rw [if_neg (by omega), if_pos (by omega), if_pos rfl]
      congr 1; omega
    · rw [if_neg hpq, blk_get, if_pos hi]
      by_cases h1 : q * 64 + i < p * 64
      · rw [if_pos h1]
      · rw [if_neg h1, if_neg (by omega)]
  · rw [if_neg hi]
    by_cases hpq : p = q
    · rw [if_pos hpq, List.getElem?_eq_none (by omega)]
    · rw [if_neg hpq, blk_get, if_neg hi]

theorem rdR_blk {xs : List Int} {q : Nat} (hd : devB xs.length = true) (hq : q < xs.length / 64) : rdE xs.length q = 0 ∧ rdR xs q = blk xs q := by
  have e : rdE xs.length q = 0 := by unfold rdE; rw [if_pos hd, if_pos (by omega)]
  refine ⟨e, ?_⟩
  unfold rdR
  rw [if_pos e]; rfl

end Wd
namespace Wi
open Wt

/-- A device of so many blocks, block by block. -/
def Bdv (xs : List Int) (B : Nat) (bl : Nat → List Int) : Prop := xs.length = B * 64 ∧ ∀ q, q < B → Wd.blk xs q = bl q
theorem Bdv.zeros (B : Nat) : Bdv (List.replicate (B * 64) 0) B fun _ => List.replicate 64 0 := by
  refine ⟨List.length_replicate, fun q hq => ?_⟩
  unfold Wd.blk
  rw [List.drop_replicate, List.take_replicate, Nat.min_eq_left (by omega)]
theorem Bdv.lay {xs : List Int} {B : Nat} {bl : Nat → List Int} (h : Bdv xs B bl) {p : Nat} {X : List Int} (hp : p < B) (hX : X.length = 64) : Bdv (Wd.lay xs (p * 64) X) B fun q => if p = q then X else bl q := by
  refine ⟨by rw [Wd.lay_length _ _ _ (by rw [hX, h.1]; omega), h.1], fun q hq => ?_⟩
  rw [Wd.blk_lay _ _ _ _ hX (by rw [h.1]; omega)]
  by_cases e : p = q
  · simp only [if_pos e]
  · simp only [if_neg e]
    exact h.2 q hq
theorem Bdv.dev {xs : List Int} {B : Nat} {bl : Nat → List Int} (h : Bdv xs B bl) (h4 : 4 ≤ B) (hB : B ≤ 4096) : Wd.devB xs.length = true ∧ xs.length / 64 = B := by
  rw [h.1]
  exact ⟨devB_b h4 hB, by omega⟩
theorem Bdv.rd {xs : List Int} {B : Nat} {bl : Nat → List Int} (h : Bdv xs B bl) (h4 : 4 ≤ B) (hB : B ≤ 4096) {q : Nat} (hq : q < B) : Wd.rdR xs (q : Int) = bl q := by
  obtain ⟨h1, h2⟩ := h.dev h4 hB
  rw [(Wd.rdR_blk h1 (by rw [h2]; exact hq)).2, h.2 q hq]
theorem Bdv.recOk {xs : List Int} {B : Nat} {bl : Nat → List Int} (h : Bdv xs B bl) (h4 : 4 ≤ B) (hB : B ≤ 4096) {q : Nat} (h2 : 2 ≤ q) (hq : q < B) {r : Wr.Rec} (hr : Wr.recB r = true) (hb : bl q = Wr.blk r) : recOk xs (q : Int) = true ∧ recAt xs (q : Int) = r := by
  have := Wr.par_blk hr
  refine ⟨recOk_iff.2 ⟨by omega, ?_⟩, ?_⟩
  · rw [h.rd h4 hB hq, hb]; exact this.1
  · unfold recAt; rw [h.rd h4 hB hq, hb]; exact this.2
theorem zeros_rec : Wr.parE (List.replicate 64 0) ≠ 0 := by decide
theorem Bdv.no {xs : List Int} {B : Nat} {bl : Nat → List Int} (h : Bdv xs B bl) (h4 : 4 ≤ B) (hB : B ≤ 4096) {q : Nat} (hq : q < B) (hb : bl q = List.replicate 64 0) : Wi.recOk xs (q : Int) = false := by
  cases e : Wi.recOk xs (q : Int) with
  | false => rfl
  | true =>
    have := (recOk_iff.1 e).2
    rw [h.rd h4 hB hq, hb] at this
    exact absurd this zeros_rec
theorem recOk_far {xs : List Int} {p : Int} (h : ¬ p < ((xs.length / 64 : Nat) : Int)) : recOk xs p = false := by
  cases e : recOk xs p with
  | false => rfl
  | true => exact absurd (recOk_in e).2.1 h
end Wi
namespace Go.Proofs.YtfflhiajbioheaaGreat
open Go.RowKit

theorem pick_zero {xs : List Int} {B : Nat} {bl : Nat → List Int} {s : Ws.Sup} (h : Wi.Bdv xs B bl) (h4 : 4 ≤ B) (hB : B ≤ 4096) (hs : Ws.supB s = true) (hb : s.blocks = (B : Int)) (h0 : bl 0 = Ws.blk s) (h1 : bl 1 = List.replicate 64 0) : pickA xs = (s, 0, 0) := by
  have hd := h.dev h4 hB
  have hp := Ws.par_blk hs
  have e0 := h.2 0 (by omega)
  have e1 := h.2 1 (by omega)
  unfold Wd.blk at e0 e1
  rw [Nat.zero_mul, List.drop_zero, h0] at e0
  rw [Nat.one_mul, h1] at e1
  have hg := (Ws.supB_iff.1 hs).1
  unfold pickA
  rw [if_pos hd.1]
  unfold Ws.pickR Ws.picks
  rw [e0, e1, zeros_slot2, hd.2, (Ws.slot_yes (b := Ws.blk s) ⟨hp.1, by rw [hp.2]; exact hb⟩).1, hp.2]
  have c2 : 0 < s.gen := by omega
  have c1 : ¬ s.gen < Ws.s0.gen := by show ¬ s.gen < 0; omega
  simp only [if_pos c2, if_neg c1]
theorem pick_one {xs : List Int} {B : Nat} {bl : Nat → List Int} {s : Ws.Sup} (h : Wi.Bdv xs B bl) (h4 : 4 ≤ B) (hB : B ≤ 4096) (hs : Ws.supB s = true) (hb : s.blocks = (B : Int)) (h0 : bl 0 = List.replicate 64 0) (h1 : bl 1 = Ws.blk s) : pickA xs = (s, 1, 0) := by
  have hd := h.dev h4 hB
  have hp := Ws.par_blk hs
  have e0 := h.2 0 (by omega)
  have e1 := h.2 1 (by omega)
  unfold Wd.blk at e0 e1
  rw [Nat.zero_mul, List.drop_zero, h0] at e0
  rw [Nat.one_mul, h1] at e1
  have hg := (Ws.supB_iff.1 hs).1
  unfold pickA
  rw [if_pos hd.1]
  unfold Ws.pickR Ws.picks
  rw [e0, e1, zeros_slot2, hd.2, (Ws.slot_yes (b := Ws.blk s) ⟨hp.1, by rw [hp.2]; exact hb⟩).1, hp.2]
  have c2 : ¬ 0 < Ws.s0.gen := by decide
  have c1 : Ws.s0.gen < s.gen := by show 0 < s.gen; omega
  simp only [if_neg c2, if_pos c1]
theorem opn_norecs {xs : List Int} {s : Ws.Sup} {t : Int} (hp : pickA xs = (s, t, 0)) (hr : Wi.recs xs s.first = none) : opnE xs = 7 := by
  unfold opnE
  simp only [hp, hr]
  rfl
theorem opn_unsound {xs : List Int} {s : Ws.Sup} {t : Int} {b : List Int} (hp : pickA xs = (s, t, 0)) (hr : Wi.recs xs s.first = some b) (hs : Wi.sndB xs s b = false) : opnE xs = 6 := by
  unfold opnE
  simp only [hp, hr, hs]
  rfl
end Go.Proofs.YtfflhiajbioheaaGreat
