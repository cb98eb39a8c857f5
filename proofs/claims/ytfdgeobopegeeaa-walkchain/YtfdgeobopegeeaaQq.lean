/-
  A device with a tree of one sector and a superblock in the second slot: whether it opens.
-/
import Derived.Test.YtfdgeobopegeeaaQp
import Derived.Test.YtfdgeobopegeeaaJI
namespace Wi
open Wt
/-- The device of a tree of one sector, block by block. -/
def chB (a s d : Nat) (k : Nat) : Nat → List Int := fun q => if a ≤ q ∧ q < a + k then Wn.blk (nk a s d (q - a)) else List.replicate 64 0
theorem ch_bdv {b a : Nat} (s d : Nat) (_ha : 2 ≤ a) (h : a + 3 ≤ b) : ∀ k, k ≤ 3 → Bdv (ch b a s d k) b (chB a s d k)
  | 0, _ => by
    have := Bdv.zeros b
    refine ⟨this.1, fun q hq => ?_⟩
    rw [show ch b a s d 0 = List.replicate (b * 64) 0 from rfl, this.2 q hq]
    unfold chB
    rw [if_neg (by omega)]
  | k + 1, hk => by
    have := (ch_bdv s d _ha h k (by omega)).lay (p := a + k) (X := Wn.blk (nk a s d k)) (by omega) (Wn.blk_length _)
    refine ⟨this.1, fun q hq => ?_⟩
    refine (this.2 q hq).trans ?_
    unfold chB
    by_cases e : a + k = q
    · subst e
      rw [if_pos ⟨by omega, by omega⟩]
      simp only [Nat.add_sub_cancel_left]
      rfl
    · simp only [if_neg e]
      by_cases h2 : a ≤ q ∧ q < a + k
      · rw [if_pos h2, if_pos ⟨h2.1, by omega⟩]
      · rw [if_neg h2, if_neg (by omega)]

/-- The superblock, the device. -/
def trS (b a z : Nat) : Ws.Sup := ⟨7, b, ((a + 2 : Nat) : Int), z, 0⟩
def trX (b a s d z : Nat) : List Int := Wd.lay (ch b a s d 3) (1 * 64) (Ws.blk (trS b a z))
theorem trS_ok {b a z : Nat} (ha : 2 ≤ a) (h : a + 3 ≤ b) (hb : b ≤ 4096) (hz : z ≤ 512) : Ws.supB (trS b a z) = true := by
  rw [Ws.supB_iff]
  refine ⟨⟨show (1 : Int) ≤ 7 by decide, show (7 : Int) ≤ 1099511627776 by decide⟩, ⟨?_, ?_⟩, ⟨?_, ?_⟩, .inr ⟨?_, ?_⟩, .inl rfl⟩
  · show (4 : Int) ≤ (b : Int); omega
  · show (b : Int) ≤ 4096; omega
  · show (0 : Int) ≤ (z : Int); omega
  · show (z : Int) ≤ 512; omega
  · show (2 : Int) ≤ ((a + 2 : Nat) : Int); omega
  · show ((a + 2 : Nat) : Int) < (b : Int); omega
theorem trX_bdv {b a : Nat} (s d z : Nat) (ha : 2 ≤ a) (h : a + 3 ≤ b) : Bdv (trX b a s d z) b (fun q => if 1 = q then Ws.blk (trS b a z) else chB a s d 3 q) :=
  (ch_bdv s d ha h 3 (by omega)).lay (by omega) (Ws.blk_length _)
theorem trX_cha {b a s d z : Nat} (ha : 2 ≤ a) (h : a + 3 ≤ b) (hb : b ≤ 4096) (hs : s < 512) (hd : 2 ≤ d) : Cha (trX b a s d z) b a s d := by
  have hv := (trX_bdv s d z ha h).dev (by omega) hb
  exact ⟨ha, h, hs, hd, hv.2, hv.1⟩
theorem trX_sta {b a s d z : Nat} (ha : 2 ≤ a) (h : a + 3 ≤ b) (hb : b ≤ 4096) (hd : 2 ≤ d) (hd2 : d < 4096) (k : Nat) (hk : k < 3) : Sta (trX b a s d z) a s d k := by
  refine sta_of (nk_ok s ha h hb hd hd2 k hk) ?_
  rw [(trX_bdv s d z ha h).rd (by omega) hb (q := a + k) (by omega)]
  unfold chB
  simp only [if_neg (show ¬ 1 = a + k by omega)]
  rw [if_pos ⟨by omega, by omega⟩]
  congr 2; omega
end Wi
namespace Go.Proofs.Ytfdgeobopegeeaa
open Go.RowKit
theorem trX_pick {b a s d z : Nat} (ha : 2 ≤ a) (h : a + 3 ≤ b) (hb : b ≤ 4096) (hz : z ≤ 512) : pickA (Wi.trX b a s d z) = (Wi.trS b a z, 1, 0) := by
  refine pick_one (Wi.trX_bdv s d z ha h) (by omega) hb (Wi.trS_ok ha h hb hz) rfl ?_ (by simp)
  simp only [if_neg (show ¬ 1 = 0 by omega)]
  unfold Wi.chB
  rw [if_neg (by omega)]
/-- Where the sector's block is a node, or the sector is none of the size's, it does not open. -/
theorem trX_no {b a s d z : Nat} (ha : 2 ≤ a) (h : a + 3 ≤ b) (hb : b ≤ 4096) (hz : z ≤ 512) (hs : s < 512) (hd : 2 ≤ d) (hd2 : d < b) (hno : (a ≤ d ∧ d < a + 3) ∨ z ≤ s) : opnE (Wi.trX b a s d z) = 6 := by
  have hC := Wi.trX_cha (z := z) ha h hb hs hd
  have hS := fun k hk => Wi.trX_sta (s := s) (z := z) ha h hb hd (show d < 4096 by omega) k hk
  refine opn_unsound (trX_pick ha h hb hz) (Wi.chn_zero _ _ _) ?_
  show (Wi.trB _ _ _ && true) = false
  rw [Bool.and_true]
  have hsz : Wi.szB (Wi.trX b a s d z) ((Wi.trS b a z).root, (Wi.trS b a z).size) = false := by
    unfold Wi.szB
    show ((Wt.tre _ ((a + 2 : Nat) : Int)).isSome && ((Wt.treS _ ((a + 2 : Nat) : Int)).drop (z : Int).toNat).all (· == 0)) = false
    by_cases hit : a ≤ d ∧ d < a + 3
    · rw [Wt.tre_self hC (hS 0 (by omega)) (hS 1 (by omega)) (hS 2 (by omega)) hit]; rfl
    · have ht := Wt.tre_one hC (hS 0 (by omega)) (hS 1 (by omega)) (hS 2 (by omega)) hd2 hit
      rw [(Wt.tre_some hC.dev ht).2.2, Int.toNat_natCast, Bool.and_eq_false_iff]
      right
      rw [List.all_eq_false]
      refine ⟨(d : Int), ?_, by simp; omega⟩
      have hle : z ≤ s := by
        rcases hno with h | h
        · exact absurd h hit
        · exact h
      generalize h512 : 512 = n at *
      refine List.mem_iff_getElem.2 ⟨s - z, by simp; omega, ?_⟩
      simp [show z + (s - z) = s by omega]
  unfold Wi.trB
  rw [hsz]; rfl
/-- Else it opens. -/
theorem trX_yes {b a s d z : Nat} (ha : 2 ≤ a) (h : a + 3 ≤ b) (hb : b ≤ 4096) (hz : z ≤ 512) (hs : s < z) (hd : 2 ≤ d) (hd2 : d < b) (hit : ¬ (a ≤ d ∧ d < a + 3)) :
    opnE (Wi.trX b a s d z) = 0 ∧ opnS (Wi.trX b a s d z) = Wi.trS b a z ∧ opnT (Wi.trX b a s d z) = 1 ∧ opnB (Wi.trX b a s d z) = [] := by
  have hC := Wi.trX_cha (z := z) ha h hb (show s < 512 by omega) hd
  have hS := fun k hk => Wi.trX_sta (s := s) (z := z) ha h hb hd (show d < 4096 by omega) k hk
  refine opn_recs (trX_pick ha h hb hz) (Wi.chn_zero _ _ _) ?_
  rw [Wi.sndB_iff (by simp)]
  have ht := Wt.tre_one hC (hS 0 (by omega)) (hS 1 (by omega)) (hS 2 (by omega)) hd2 hit
  have h3 := Wt.tre_some hC.dev ht
  have e1 : Wi.trees (Wi.trS b a z) (List.map (Wi.recAt (Wi.trX b a s d z)) []) = [(((a + 2 : Nat) : Int), (z : Int))] := rfl
  rw [e1]
  constructor
  · rw [List.all_cons, List.all_nil, Bool.and_true]
    unfold Wi.szB
    rw [ht, h3.2.2, Int.toNat_natCast]
    show (true && _) = true
    rw [Bool.true_and, List.all_eq_true]
    intro x hx
    obtain ⟨i, hi, rfl⟩ := List.mem_iff_getElem.1 hx
    generalize h512 : 512 = n at *
    simp only [List.getElem_drop]
    rw [List.getElem_set_ne (by omega)]
    simp
  · have eN : Wi.allN (Wi.trX b a s d z) [(((a + 2 : Nat) : Int), (z : Int))] = [((a + 2 : Nat) : Int), ((a + 1 : Nat) : Int), (a : Int)] := by
      unfold Wi.allN; rw [List.flatMap_cons, List.flatMap_nil, List.append_nil, h3.2.1]
    rw [eN]
    refine ⟨by simp, fun p hp hq => ?_⟩
    have hq2 : p ∈ Wi.secs (Wi.trX b a s d z) (((a + 2 : Nat) : Int), (z : Int)) := by
      unfold Wi.allD at hq; simpa using hq
    obtain ⟨k1, k2⟩ := Wi.secs_mem.1 hq2
    rw [h3.2.2] at k1
    rcases Wt.mem_map p (List.mem_of_mem_take k1) with h5 | h5
    · exact k2 h5
    · subst h5
      simp only [List.mem_cons, List.not_mem_nil, or_false] at hp
      omega
end Go.Proofs.Ytfdgeobopegeeaa
