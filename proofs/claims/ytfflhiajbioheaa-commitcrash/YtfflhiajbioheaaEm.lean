/-
  What a crash leaves of a commit: which superblock is picked. It speaks of no program but for what Pick tells.
-/
import Derived.Test.YtfflhiajbioheaaEj
namespace Wq
open Wi
theorem app_inv {P : List Int → Prop} {l : List Wd.Io} {xs : List Int} (h0 : P xs) : ∀ k, k ≤ l.length → (∀ j, j < k → ∀ X, P X → P (Wd.one X (l.getD j Wd.d0))) → P (Wd.app xs (l.take k))
  | 0, _, _ => by rw [List.take_zero]; exact h0
  | k + 1, hk, h => by
    rw [take_succ_at (by omega), Wd.app_snoc]
    exact h k (by omega) _ (app_inv h0 k (by omega) (fun j hj => h j (by omega)))
theorem crA_inv {P : List Int → Prop} {l : List Wd.Io} {ks : List Bool} {s : Nat} {xs : List Int} (h0 : P xs) : ∀ k, (∀ j, j < k → ∀ X, P X → P (Wd.one X (l.getD (s + j) Wd.d0))) → P (Wd.crA ks l s xs k)
  | 0, _ => h0
  | k + 1, h => by
    have ih := crA_inv (ks := ks) h0 k (fun j hj => h j (by omega))
    show P (if ks.getD k false = true then Wd.one (Wd.crA ks l s xs k) (l.getD (s + k) Wd.d0) else Wd.crA ks l s xs k)
    split
    · exact h k (by omega) _ ih
    · exact ih
/-- What each step keeps a crash keeps. -/
theorem crash_inv {P : List Int → Prop} {l : List Wd.Io} {ks : List Bool} {xs : List Int} {cut : Nat} (hc : cut ≤ l.length) (h0 : P xs) (h : ∀ j, j < cut → ∀ X, P X → P (Wd.one X (l.getD j Wd.d0))) : P (Wd.crashL xs l cut ks) := by
  have hs := Wd.safe_le l cut
  unfold Wd.crashL
  exact crA_inv (app_inv h0 _ (by omega) (fun j hj => h j (by omega))) _ (fun j hj => h _ (by omega))

/-- The two slots of a device. -/
def Slots (B : Nat) (b0 : List Int) (b1 : List Int → Prop) (X : List Int) : Prop := X.length = B * 64 ∧ Wd.blk X 0 = b0 ∧ b1 (Wd.blk X 1)
theorem slots_far {B : Nat} {b0 : List Int} {b1 : List Int → Prop} (X : List Int) {x : Wd.Io} (hx : okW (B : Int) x = true) (h : Slots B b0 b1 X) : Slots B b0 b1 (Wd.one X x) := by
  obtain ⟨h1, h2, h3, h4⟩ := okW_iff.1 hx
  obtain ⟨k1, k2, k3⟩ := h
  obtain ⟨p, hp⟩ : ∃ p : Nat, x.pos = p := ⟨x.pos.toNat, by omega⟩
  rw [Wd.one_pos hp]
  refine ⟨by rw [Wd.lay_length _ _ _ (by omega), k1], ?_, ?_⟩
  · rw [Wd.blk_lay _ _ _ _ h4 (by omega), if_neg (by omega)]; exact k2
  · rw [Wd.blk_lay _ _ _ _ h4 (by omega), if_neg (by omega)]; exact k3
theorem slots_cdv {B : Nat} (h4 : 4 ≤ B) (hB : B ≤ 4096) {s : Ws.Sup} (hs : Ws.supB s = true) (hb : s.blocks = (B : Int)) {X : List Int} (h : Slots B (Ws.blk s) (fun b => b = List.replicate 64 0) X) : Cdv X B s 0 (Wd.blk X) :=
  ⟨⟨h.1, fun _ _ => rfl⟩, h4, hB, by omega, hs, hb, h.2.1, .inl h.2.2⟩
theorem slots_new {B : Nat} (h4 : 4 ≤ B) (hB : B ≤ 4096) {s : Ws.Sup} (hs : Ws.supB s = true) (hb : s.blocks = (B : Int)) {root size first : Int} (hn : Ws.supB (nxt s root size first) = true) {X : List Int} (h : Slots B (Ws.blk s) (fun b => b = Ws.blk (nxt s root size first)) X) : Cdv X B (nxt s root size first) 1 (Wd.blk X) :=
  ⟨⟨h.1, fun _ _ => rfl⟩, h4, hB, by omega, hn, hb, h.2.2, .inr ⟨s, hs, hb, by show s.gen < s.gen + 1; omega, h.2.1⟩⟩
theorem sts_at {s : Ws.Sup} {t : Int} {l : List Wd.Io} {root size first : Int} : (∀ j, j < l.length → (sts s t l root size first).getD j Wd.d0 = l.getD j Wd.d0) ∧ (sts s t l root size first).getD l.length Wd.d0 = ⟨2, 0, []⟩ ∧
    (sts s t l root size first).getD (l.length + 1) Wd.d0 = ⟨1, 1 - t, Ws.blk (nxt s root size first)⟩ ∧ (sts s t l root size first).getD (l.length + 2) Wd.d0 = ⟨2, 0, []⟩ ∧ (sts s t l root size first).length = l.length + 3 := by
  unfold sts tail3
  refine ⟨fun j hj => ?_, ?_, ?_, ?_, by simp⟩
  · rw [List.getD_eq_getElem?_getD, List.getElem?_append_left hj, ← List.getD_eq_getElem?_getD]
  all_goals rw [List.getD_eq_getElem?_getD, List.getElem?_append_right (by omega)]
  · rw [Nat.sub_self]; rfl
  · rw [Nat.add_sub_cancel_left]; rfl
  · rw [Nat.add_sub_cancel_left]; rfl
theorem all_at {m : Int} {l : List Wd.Io} (h : l.all (okW m) = true) {j : Nat} (hj : j < l.length) : okW m (l.getD j Wd.d0) = true := by
  rw [List.all_eq_true] at h
  rw [show l.getD j Wd.d0 = l[j] by simp [hj]]
  exact h _ (List.getElem_mem hj)
end Wq
namespace Go.Proofs.Ytfflhiajbioheaa
open Go.RowKit

/-- Whatever a crash leaves of a commit upon a device with one superblock: the old one, or the new one. -/
theorem crash_pick {B : Nat} (h4 : 4 ≤ B) (hB : B ≤ 4096) {s : Ws.Sup} (hs : Ws.supB s = true) (hb : s.blocks = (B : Int)) {l : List Wd.Io} (hl : l.all (Wq.okW (B : Int)) = true) {root size first : Int} (hn : Ws.supB (Wq.nxt s root size first) = true) {xs : List Int} (hx : Wq.Slots B (Ws.blk s) (fun b => b = List.replicate 64 0) xs) {ks : List Bool} {cut : Nat} (hc : cut ≤ l.length + 3) :
    (cut < l.length + 3 ∧ pickA (Wd.crashL xs (Wq.sts s 0 l root size first) cut ks) = (s, 0, 0)) ∨ (l.length + 1 < cut ∧ pickA (Wd.crashL xs (Wq.sts s 0 l root size first) cut ks) = (Wq.nxt s root size first, 1, 0)) := by
  obtain ⟨a1, a2, a3, a4, a5⟩ := Wq.sts_at (s := s) (t := 0) (l := l) (root := root) (size := size) (first := first)
  have hw : ∀ (b1 : List Int → Prop) (X : List Int) (j : Nat), j ≤ l.length → Wq.Slots B (Ws.blk s) b1 X → Wq.Slots B (Ws.blk s) b1 (Wd.one X ((Wq.sts s 0 l root size first).getD j Wd.d0)) := by
    intro b1 X j hj h
    by_cases e : j = l.length
    · rw [e, a2, Wq.one_flush]; exact h
    · rw [a1 j (by omega)]; exact Wq.slots_far X (Wq.all_at hl (by omega)) h
  have hset : ∀ X, X.length = B * 64 → Wd.blk X 0 = Ws.blk s → Wq.Slots B (Ws.blk s) (fun b => b = Ws.blk (Wq.nxt s root size first)) (Wd.one X ((Wq.sts s 0 l root size first).getD (l.length + 1) Wd.d0)) := by
    intro X h1 h2
    rw [a3, Wd.one_pos (p := 1) (by show (1 : Int) - 0 = ((1 : Nat) : Int); rfl)]
    refine ⟨by rw [Wd.lay_length _ _ _ (by rw [Ws.blk_length]; omega), h1], ?_, ?_⟩
    · rw [Wd.blk_lay _ _ _ _ (Ws.blk_length _) (by omega), if_neg (by omega)]; exact h2
    · show Wd.blk (Wd.lay X (1 * 64) (Ws.blk (Wq.nxt s root size first))) 1 = _
      rw [Wd.blk_lay _ _ _ _ (Ws.blk_length _) (by omega), if_pos rfl]
  by_cases c1 : cut ≤ l.length + 1
  · have h := Wq.crash_inv (ks := ks) (cut := cut) (l := Wq.sts s 0 l root size first) (by omega) hx (fun j hj X h => hw _ X j (by omega) h)
    exact .inl ⟨by omega, cdv_pick (Wq.slots_cdv h4 hB hs hb h)⟩
  by_cases c2 : cut = l.length + 2
  · have h0 : Wq.Slots B (Ws.blk s) (fun b => b = List.replicate 64 0 ∨ b = Ws.blk (Wq.nxt s root size first)) xs := ⟨hx.1, hx.2.1, .inl hx.2.2⟩
    have h := Wq.crash_inv (ks := ks) (cut := cut) (l := Wq.sts s 0 l root size first) (by omega) h0 (fun j hj X h => by
      by_cases e : j = l.length + 1
      · subst e
        have := hset X h.1 h.2.1
        exact ⟨this.1, this.2.1, .inr this.2.2⟩
      · exact hw _ X j (by omega) h)
    rcases h.2.2 with h3 | h3
    · exact .inl ⟨by omega, cdv_pick (Wq.slots_cdv h4 hB hs hb ⟨h.1, h.2.1, h3⟩)⟩
    · exact .inr ⟨by omega, cdv_pick (Wq.slots_new h4 hB hs hb hn ⟨h.1, h.2.1, h3⟩)⟩
  · obtain rfl : cut = l.length + 3 := by omega
    have hsafe : Wd.safeN (Wq.sts s 0 l root size first) (l.length + 3) = l.length + 3 := by
      show (if ((Wq.sts s 0 l root size first).getD (l.length + 2) Wd.d0).kind = 2 then _ else _) = _
      rw [a4, if_pos rfl]
    have he : Wd.crashL xs (Wq.sts s 0 l root size first) (l.length + 3) ks = Wd.app xs ((Wq.sts s 0 l root size first).take (l.length + 3)) := by
      unfold Wd.crashL
      rw [hsafe, Nat.sub_self]
      rfl
    have h1 := Wq.app_inv (xs := xs) hx (l := Wq.sts s 0 l root size first) (l.length + 1) (by omega) (fun j hj X h => hw _ X j (by omega) h)
    have h2 := hset _ h1.1 h1.2.1
    have e2 : Wd.app xs ((Wq.sts s 0 l root size first).take (l.length + 3)) = Wd.one (Wd.app xs ((Wq.sts s 0 l root size first).take (l.length + 1))) ((Wq.sts s 0 l root size first).getD (l.length + 1) Wd.d0) := by
      rw [Wq.take_succ_at (k := l.length + 2) (by omega), Wd.app_snoc, a4, Wq.one_flush, Wq.take_succ_at (k := l.length + 1) (by omega), Wd.app_snoc]
    refine .inr ⟨by omega, ?_⟩
    rw [he, e2]
    exact cdv_pick (Wq.slots_new h4 hB hs hb hn h2)
theorem new_slots {m : Nat} (h : 4 ≤ m) (h2 : m ≤ 4096) : Wq.Slots m (Ws.blk (Wi.newS m)) (fun b => b = List.replicate 64 0) (Wi.newI m) := by
  have H := Wq.Cdv.new h h2
  refine ⟨H.bdv.1, (H.bdv.2 0 (by omega)).trans (if_pos rfl), (H.bdv.2 1 (by omega)).trans (if_neg (by omega))⟩
end Go.Proofs.Ytfflhiajbioheaa
