/-
  Devices behind commits: which superblock is picked, whether they open. It speaks of no program but for what Open tells.
-/
import Derived.Test.YtfflhiajbioheaaGreatEa
namespace Wq
open Wi
theorem one_flush (xs : List Int) : Wd.one xs ⟨2, 0, []⟩ = xs := by simp [Wd.one, Wd.lay]
/-- A commit's last steps write the other slot. -/
theorem app_tail (X : List Int) (s : Ws.Sup) (t : Nat) (ht : t ≤ 1) (root size first : Int) : Wd.app X (tail3 s (t : Int) root size first) = Wd.lay X ((1 - t) * 64) (Ws.blk (nxt s root size first)) := by
  have e : (1 - (t : Int)).toNat = 1 - t := by omega
  unfold tail3 Wd.app
  simp only [List.foldl_cons, List.foldl_nil, one_flush]
  unfold Wd.one
  simp only [e]
theorem app_sts (X : List Int) (s : Ws.Sup) (t : Nat) (ht : t ≤ 1) (l : List Wd.Io) (root size first : Int) : Wd.app X (sts s (t : Int) l root size first) = Wd.lay (Wd.app X l) ((1 - t) * 64) (Ws.blk (nxt s root size first)) := by
  unfold sts
  rw [Wd.app_append, app_tail _ _ _ ht]

/-- A device whose picked superblock is s, in slot t. -/
structure Cdv (X : List Int) (B : Nat) (s : Ws.Sup) (t : Nat) (bl : Nat → List Int) : Prop where
  bdv : Bdv X B bl
  h4 : 4 ≤ B
  hB : B ≤ 4096
  ht : t ≤ 1
  hs : Ws.supB s = true
  hb : s.blocks = (B : Int)
  here : bl t = Ws.blk s
  there : bl (1 - t) = List.replicate 64 0 ∨ ∃ o, Ws.supB o = true ∧ o.blocks = (B : Int) ∧ o.gen < s.gen ∧ bl (1 - t) = Ws.blk o
theorem Cdv.dev {X : List Int} {B : Nat} {s : Ws.Sup} {t : Nat} {bl : Nat → List Int} (H : Cdv X B s t bl) : Wd.devB X.length = true ∧ X.length / 64 = B := H.bdv.dev H.h4 H.hB
/-- The new superblock, written. -/
theorem Cdv.next {X : List Int} {B : Nat} {s : Ws.Sup} {t : Nat} {bl : Nat → List Int} (H : Cdv X B s t bl) {root size first : Int} (hn : Ws.supB (nxt s root size first) = true) :
    Cdv (Wd.lay X ((1 - t) * 64) (Ws.blk (nxt s root size first))) B (nxt s root size first) (1 - t) (fun q => if 1 - t = q then Ws.blk (nxt s root size first) else bl q) := by
  have h4 := H.h4
  have ht := H.ht
  refine ⟨H.bdv.lay (by omega) (Ws.blk_length _), h4, H.hB, by omega, hn, H.hb, if_pos rfl, .inr ⟨s, H.hs, H.hb, ?_, ?_⟩⟩
  · show s.gen < s.gen + 1; omega
  · rw [if_neg (by omega), show 1 - (1 - t) = t by omega]; exact H.here
theorem Cdv.new {m : Nat} (h : 4 ≤ m) (h2 : m ≤ 4096) : Cdv (newI m) m (newS m) 0 (fun q => if 0 = q then Ws.blk (newS m) else List.replicate 64 0) := by
  refine ⟨?_, h, h2, by omega, newS_ok h h2, rfl, if_pos rfl, .inl (if_neg (by omega))⟩
  have := (Bdv.zeros m).lay (p := 0) (X := Ws.blk (newS m)) (by omega) (Ws.blk_length _)
  rw [Nat.zero_mul] at this
  exact this
/-- Other blocks written: the same superblock. -/
theorem Cdv.lay {X : List Int} {B : Nat} {s : Ws.Sup} {t : Nat} {bl : Nat → List Int} (H : Cdv X B s t bl) {p : Nat} {Y : List Int} (h2 : 2 ≤ p) (hp : p < B) (hY : Y.length = 64) : Cdv (Wd.lay X (p * 64) Y) B s t (fun q => if p = q then Y else bl q) := by
  have ht := H.ht
  refine ⟨H.bdv.lay hp hY, H.h4, H.hB, ht, H.hs, H.hb, (if_neg (by omega)).trans H.here, ?_⟩
  have e : (if p = 1 - t then Y else bl (1 - t)) = bl (1 - t) := if_neg (by omega)
  simp only [e]
  exact H.there
end Wq
namespace Go.Proofs.YtfflhiajbioheaaGreat
open Go.RowKit
theorem cdv_pick {X : List Int} {B : Nat} {s : Ws.Sup} {t : Nat} {bl : Nat → List Int} (H : Wq.Cdv X B s t bl) : pickA X = (s, (t : Int), 0) := by
  have hd := H.dev
  have hp := Ws.par_blk H.hs
  have h4 := H.h4
  have e0 := H.bdv.2 0 (by omega)
  have e1 := H.bdv.2 1 (by omega)
  unfold Wd.blk at e0 e1
  rw [Nat.zero_mul, List.drop_zero] at e0
  rw [Nat.one_mul] at e1
  have hg := (Ws.supB_iff.1 H.hs).1
  have hss : Ws.slotS (B : Int) (Ws.blk s) = s := by rw [(Ws.slot_yes (b := Ws.blk s) ⟨hp.1, by rw [hp.2]; exact H.hb⟩).1, hp.2]
  obtain ⟨o, ho, hoo⟩ : ∃ o, Ws.slotS (B : Int) (bl (1 - t)) = o ∧ o.gen < s.gen := by
    rcases H.there with h | ⟨o, h1, h2, h3, h⟩
    · exact ⟨Ws.s0, by rw [h, zeros_slot2], by show (0 : Int) < s.gen; omega⟩
    · have ho := Ws.par_blk h1
      exact ⟨o, by rw [h, (Ws.slot_yes (b := Ws.blk o) ⟨ho.1, by rw [ho.2]; exact h2⟩).1, ho.2], h3⟩
  unfold pickA
  rw [if_pos hd.1]
  unfold Ws.pickR
  rw [e0, e1, hd.2]
  have ht := H.ht
  have c2 : 0 < s.gen := by omega
  have hh := H.here
  by_cases h0 : t = 0
  · subst h0
    rw [hh, hss, ho]
    unfold Ws.picks
    have c1 : ¬ s.gen < o.gen := by omega
    simp only [if_pos c2, if_neg c1]
    rfl
  · obtain rfl : t = 1 := by omega
    rw [hh, hss, ho]
    unfold Ws.picks
    by_cases c3 : 0 < o.gen
    · simp only [if_pos c3, if_pos hoo]
      rfl
    · have c4 : Ws.s0.gen < s.gen := c2
      simp only [if_neg c3, if_pos c4]
      rfl
/-- With no tree and no records it opens. -/
theorem cdv_empty {X : List Int} {B : Nat} {s : Ws.Sup} {t : Nat} {bl : Nat → List Int} (H : Wq.Cdv X B s t bl) (hr : s.root = 0) (hf : s.first = 0) : opnE X = 0 ∧ opnS X = s ∧ opnT X = (t : Int) ∧ opnL X = [] := by
  have ho := opn_recs (cdv_pick H) (b := []) (by rw [hf]; exact Wi.chn_zero _ _ _) (by
    show (Wi.trB X _ (s.root, s.size) && true) = true
    rw [Bool.and_true, hr]
    exact sz_zero H.dev.1 _ _)
  exact ⟨ho.1, ho.2.1, ho.2.2.1, by unfold opnL; rw [ho.2.2.2]; rfl⟩
end Go.Proofs.YtfflhiajbioheaaGreat
