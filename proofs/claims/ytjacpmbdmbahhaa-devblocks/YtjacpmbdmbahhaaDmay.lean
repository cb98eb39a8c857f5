/-
  What may stand in a block behind a crash; memory of the call's own that holds slices. It speaks of no program.
-/
import Derived.Test.YtjacpmbdmbahhaaDblk
import Derived.Test.YtjacpmbdmbahhaaDrc
namespace Wd
open Go Go.RowKit

/-- What stands in block q for sure, and what may, behind one step more. -/
def stp (q : Nat) (st : List Int × List (List Int)) (x : Io) : List Int × List (List Int) :=
  if x.kind = 2 then (if st.2 = [] then st else (st.2.getLastD [], [])) else if x.pos = (q : Int) then (st.1, st.2 ++ [x.data]) else st

def smay (xs : List Int) (l : List Io) (q : Nat) : Nat → List Int × List (List Int)
  | 0 => (blk xs q, [])
  | k + 1 => stp q (smay xs l q k) (l.getD k d0)

theorem smay_last {m : Int} {xs : List Int} {l : List Io} (q : Nat) (h : l.all (okIo m) = true) : ∀ k, k ≤ l.length → (smay xs l q k).2.getLastD (smay xs l q k).1 = lastW xs l q k
  | 0, _ => rfl
  | k + 1, hk => by
    have ih := smay_last q h k (by omega) (xs := xs)
    have hok := all_at h k (by omega)
    simp only [smay, lastW]
    generalize l.getD k d0 = x at *
    generalize smay xs l q k = st at *
    unfold stp
    by_cases h2 : x.kind = 2
    · have hnh : ¬ hits x q := fun hh => by have := hh.1; omega
      rw [if_pos h2, if_neg hnh, ← ih]
      by_cases he : st.2 = []
      · rw [if_pos he]
      · rw [if_neg he]
        cases hs : st.2 with
        | nil => exact absurd hs he
        | cons y ys => rfl
    · rw [if_neg h2]
      have h1 := ok_write hok h2
      by_cases hp : x.pos = (q : Int)
      · rw [if_pos hp, if_pos ⟨h1, hp⟩]
        simp
      · rw [if_neg hp, if_neg (fun hh => hp hh.2)]
        exact ih

theorem smay_flush (xs : List Int) (l : List Io) (q k : Nat) (h : k = 0 ∨ ∃ j, k = j + 1 ∧ (l.getD j d0).kind = 2) : (smay xs l q k).2 = [] := by
  rcases h with rfl | ⟨j, rfl, h2⟩
  · rfl
  · simp only [smay]
    unfold stp
    rw [if_pos h2]
    by_cases he : (smay xs l q j).2 = []
    · rw [if_pos he]; exact he
    · rw [if_neg he]

theorem safe_flush (l : List Io) : ∀ cut, safeN l cut = 0 ∨ ∃ j, safeN l cut = j + 1 ∧ (l.getD j d0).kind = 2
  | 0 => .inl rfl
  | cut + 1 => by
    simp only [safeN]
    by_cases h : (l.getD cut d0).kind = 2
    · rw [if_pos h]; exact .inr ⟨cut, rfl, h⟩
    · rw [if_neg h]; exact safe_flush l cut

theorem cr_may {m : Nat} (hm : 0 < m) {xs : List Int} {l : List Io} {ks : List Bool} (q cut : Nat) (hx : xs.length = m * 64) (h : l.all (okIo m) = true) (hc : cut ≤ l.length) :
    ∀ j, j ≤ cut - safeN l cut → (crA ks l (safeN l cut) (app xs (l.take (safeN l cut))) j).length = m * 64 ∧ (smay xs l q (safeN l cut + j)).1 = lastW xs l q (safeN l cut) ∧
      blk (crA ks l (safeN l cut) (app xs (l.take (safeN l cut))) j) q ∈ (smay xs l q (safeN l cut + j)).1 :: (smay xs l q (safeN l cut + j)).2
  | 0, _ => by
    have hs := safe_le l cut
    have e := smay_last q h (safeN l cut) (by omega) (xs := xs)
    rw [smay_flush xs l q (safeN l cut) (safe_flush l cut)] at e
    have eb := blk_app hm q hx h (safeN l cut) (by omega)
    refine ⟨?_, e, ?_⟩
    · show (app xs (l.take (safeN l cut))).length = _
      rw [app_length hm _ _ hx (all_take h _), hx]
    · show blk (app xs (l.take (safeN l cut))) q ∈ _
      rw [eb, ← e]
      exact List.mem_cons_self
  | j + 1, hj => by
    obtain ⟨h1, h2, h3⟩ := cr_may hm q cut hx h hc j (by omega) (ks := ks)
    have hs := safe_le l cut
    have hok := all_at h (safeN l cut + j) (by omega)
    have hk2 := safe_kind l cut (safeN l cut + j) (by omega) (by omega)
    have ec : crA ks l (safeN l cut) (app xs (l.take (safeN l cut))) (j + 1) = if ks.getD j false = true then one (crA ks l (safeN l cut) (app xs (l.take (safeN l cut))) j) (l.getD (safeN l cut + j) d0) else crA ks l (safeN l cut) (app xs (l.take (safeN l cut))) j := rfl
    have es : smay xs l q (safeN l cut + (j + 1)) = stp q (smay xs l q (safeN l cut + j)) (l.getD (safeN l cut + j) d0) := rfl
    rw [ec, es]
    generalize l.getD (safeN l cut + j) d0 = x at *
    generalize crA ks l (safeN l cut) (app xs (l.take (safeN l cut))) j = Y at *
    generalize smay xs l q (safeN l cut + j) = st at *
    have hx1 := ok_write hok hk2
    unfold stp
    rw [if_neg hk2]
    refine ⟨?_, ?_, ?_⟩
    · split
      · rw [one_length hm h1 hok, h1]
      · exact h1
    · split
      · exact h2
      · exact h2
    · by_cases hp : x.pos = (q : Int)
      · rw [if_pos hp]
        split
        · rw [blk_one q h1 hok, if_pos ⟨hx1, hp⟩]; simp
        · simp only [List.mem_cons, List.mem_append] at h3 ⊢
          rcases h3 with h3 | h3
          · exact .inl h3
          · exact .inr (.inl h3)
      · rw [if_neg hp]
        split
        · rw [blk_one q h1 hok, if_neg (fun hh => hp hh.2)]; exact h3
        · exact h3

/-- Whatever is kept, each block is one that stands for sure, or one that may. -/
theorem crash_may {m : Nat} (hm : 0 < m) {xs : List Int} {l : List Io} {ks : List Bool} (q cut : Nat) (hx : xs.length = m * 64) (h : l.all (okIo m) = true) (hc : cut ≤ l.length) :
    (crashL xs l cut ks).length = m * 64 ∧ blk (crashL xs l cut ks) q ∈ (smay xs l q cut).1 :: (smay xs l q cut).2 := by
  have hs := safe_le l cut
  obtain ⟨h1, -, h3⟩ := cr_may hm q cut hx h hc (cut - safeN l cut) (Nat.le_refl _) (ks := ks)
  rw [show safeN l cut + (cut - safeN l cut) = cut by omega] at h3
  exact ⟨h1, h3⟩

/-- Bytes of a block and where they lie. -/
abbrev Bl : Type := List Int × (Option Addr × Nat)
def slv (e : Bl) : Value := .slice e.2.1 64 e.2.2
def b0 : Bl := ([], (none, 0))

theorem last_map (M : List Bl) (t : Nat) (h : M.length = t + 1) (ht : t < M.length) : (M.map Prod.fst).getLastD [] = M[t].1 := by
  rw [List.getLastD_eq_getLast?, List.getLast?_eq_getElem?]; simp [h]

/-- Things of one cell, of up to 64 bytes, are put behind memory of the call's own. -/
theorem append_wide {α : Type} {val : α → Value} {d : α} {P : Program} {e t ty base bytes : Nat} {i : TypeInfo} {z : Value} {w : World} {v u : Value} {xs ys : List α} (ht : P.underlying t = some (.slice e)) (hi : P.info? e = some i) (hz : i.zero = some z) (hsz : i.size = 1) (hby : i.bytes = bytes)
    (hzs : z.cells.size = 1) (h8 : bytes ≤ 64) (h1 : ∀ x : α, (val x).oneCell' = true)
    (hv : Wv.Ov val e base w v xs) (hu : Wv.Rv val d w u ys) (hs : Wv.Shaped u) (hl : xs.length + ys.length ≤ 1048576) (hbase : base ≤ w.heap.size) :
    ∃ v' w', Sem.run P (Builtin.append_ #[t, t] ty #[v, u]) w = .ok v' w' ∧ Wv.Ov val e base w' v' (xs ++ ys) ∧ Below base w w' := by
  rcases hs with rfl | ⟨ad, n, cap, rfl⟩
  · have hr := run_append_owned_none (P := P) w base t ty e i 1 ht hi v _ _ hv.1
    have h0 := Wv.rv_len hu
    obtain rfl := List.eq_nil_of_length_eq_zero h0
    exact ⟨_, _, hr, by rw [List.append_nil]; exact hv, Below.refl _ _⟩
  · have h0 := Wv.rv_len hu
    obtain ⟨v', w', k1, k2, k3, k4⟩ := run_append_own (P := P) w base t ty e i z 1 bytes ht hi hz hsz hby hzs (by decide) v _ _ hv.1 ad n cap (ys.map val) (by simpa using h0) (by
        intro j c hj
        have hjn : j < n := by have := (List.getElem?_eq_some_iff.1 hj).1; simpa [h0] using this
        rcases hu.open with ⟨_, a', cap', h, _⟩ | ⟨b, off, n', cap', h, _, _, _, _, _, _, hc⟩
        · cases h; omega
        · cases h
          rw [Wv.add_none, hc j hjn]; simpa [h0, hjn] using hj) (by
        intro c hc; obtain ⟨x, _, rfl⟩ := List.mem_map.1 hc; exact h1 x) (by unfold maxLen; omega) (by
          have := Nat.mul_le_mul_left (xs.length + n) h8
          omega) hbase
    refine ⟨v', w', k1, ⟨by simpa [h0] using k2, by simp; omega⟩, ?_⟩
    exact (Below.refl _ _).grown k3 hbase (fun g hg => (hv.1.lt g hg).1)

theorem ov_slice {α : Type} {val : α → Value} {e base : Nat} {w : World} {v : Value} {xs : List α} (h : Wv.Ov val e base w v xs) : (xs = [] ∧ v = .slice none 0 0) ∨ ∃ g c, v = .slice (some ⟨g, 0, none⟩) xs.length c := by
  rcases h.1.2 with ⟨rfl, h0⟩ | ⟨g, cap, cur, rfl, _⟩
  · exact .inl ⟨List.eq_nil_of_length_eq_zero h0, rfl⟩
  · exact .inr ⟨g, cap, rfl⟩

end Wd
