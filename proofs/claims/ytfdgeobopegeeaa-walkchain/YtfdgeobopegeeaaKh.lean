/-
  A device with a tree of one sector and a superblock in the first slot; a device with records alone: what is met of them. It speaks of no program but for what Open tells.
-/
import Derived.Test.YtfdgeobopegeeaaKf
import Derived.Test.YtfdgeobopegeeaaQq
import Derived.Test.YtfdgeobopegeeaaQx
namespace Wi
open Wt
/-- The superblock, the device. -/
def tzS (b a z : Nat) : Ws.Sup := ⟨1, b, ((a + 2 : Nat) : Int), z, 0⟩
def tzX (b a s d z : Nat) : List Int := Wd.lay (ch b a s d 3) (0 * 64) (Ws.blk (tzS b a z))
theorem tzS_ok {b a z : Nat} (ha : 2 ≤ a) (h : a + 3 ≤ b) (hb : b ≤ 4096) (hz : z ≤ 512) : Ws.supB (tzS b a z) = true := by
  rw [Ws.supB_iff]
  refine ⟨⟨show (1 : Int) ≤ 1 by decide, show (1 : Int) ≤ 1099511627776 by decide⟩, ⟨?_, ?_⟩, ⟨?_, ?_⟩, .inr ⟨?_, ?_⟩, .inl rfl⟩
  · show (4 : Int) ≤ (b : Int); omega
  · show (b : Int) ≤ 4096; omega
  · show (0 : Int) ≤ (z : Int); omega
  · show (z : Int) ≤ 512; omega
  · show (2 : Int) ≤ ((a + 2 : Nat) : Int); omega
  · show ((a + 2 : Nat) : Int) < (b : Int); omega
theorem tzX_bdv {b a : Nat} (s d z : Nat) (ha : 2 ≤ a) (h : a + 3 ≤ b) : Bdv (tzX b a s d z) b (fun q => if 0 = q then Ws.blk (tzS b a z) else chB a s d 3 q) :=
  (ch_bdv s d ha h 3 (by omega)).lay (by omega) (Ws.blk_length _)
theorem tzX_cha {b a s d z : Nat} (ha : 2 ≤ a) (h : a + 3 ≤ b) (hb : b ≤ 4096) (hs : s < 512) (hd : 2 ≤ d) : Cha (tzX b a s d z) b a s d := by
  have hv := (tzX_bdv s d z ha h).dev (by omega) hb
  exact ⟨ha, h, hs, hd, hv.2, hv.1⟩
theorem tzX_sta {b a s d z : Nat} (ha : 2 ≤ a) (h : a + 3 ≤ b) (hb : b ≤ 4096) (hd : 2 ≤ d) (hd2 : d < 4096) (k : Nat) (hk : k < 3) : Sta (tzX b a s d z) a s d k := by
  refine sta_of (nk_ok s ha h hb hd hd2 k hk) ?_
  rw [(tzX_bdv s d z ha h).rd (by omega) hb (q := a + k) (by omega)]
  unfold chB
  simp only [if_neg (show ¬ 0 = a + k by omega)]
  rw [if_pos ⟨by omega, by omega⟩]
  congr 2; omega
end Wi
namespace Wj
open Wt Wn
theorem wlk_none (xs : List Int) (T : List Int) : ∀ L, wlk xs L 0 T = T
  | 0 => led_zero T
  | L + 1 => by show (if (0 : Int) = 0 then T else _) = T; rw [if_pos rfl]
theorem wgo_sol {f : Int → List Int → List Int} (hf : ∀ T, f 0 T = T) (l : Int) {k : Nat} (p : Int) (hk : k < 8) (T : List Int) : ∀ j, j ≤ 8 → wgo f (sol l k p) j T = if k < j then f p T else T
  | 0, _ => by rw [if_neg (by omega)]; rfl
  | j + 1, hj => by
    show f (pat (sol l k p) j) (wgo f (sol l k p) j T) = _
    rw [wgo_sol hf l p hk T j (by omega), pat_sol l p hk (by omega)]
    by_cases e : j = k
    · subst e
      rw [if_pos rfl, if_neg (by omega), if_pos (by omega)]
    · rw [if_neg e]
      by_cases h : k < j
      · rw [if_pos h, if_pos (by omega), hf]
      · rw [if_neg h, if_neg (by omega), hf]
theorem wlk_sol {xs : List Int} {at_ s d k : Nat} (hS : Sta xs at_ s d k) (h0 : 0 < at_) (T : List Int) (hT : ¬ ((at_ + k : Nat) : Int) ∈ T) : wlk xs (k + 1) ((at_ + k : Nat) : Int) T = wlk xs k (pk at_ d k) (T ++ [((at_ + k : Nat) : Int)]) := by
  show (if ((at_ + k : Nat) : Int) = 0 then T else if ((at_ + k : Nat) : Int) ∈ T then T ++ [((at_ + k : Nat) : Int)] else wgo (wlk xs k) (nd xs ((at_ + k : Nat) : Int)) 8 (T ++ [((at_ + k : Nat) : Int)])) = _
  rw [if_neg (by omega), if_neg hT, hS.2]
  unfold nk
  rw [wgo_sol (fun T => wlk_none xs T k) _ _ (Nat.mod_lt _ (by omega)) _ 8 (Nat.le_refl _), if_pos (Nat.mod_lt _ (by omega))]
/-- What is met of a tree of one sector. -/
theorem wlk_one {xs : List Int} {at_ s d : Nat} (h0 : Sta xs at_ s d 0) (h1 : Sta xs at_ s d 1) (h2 : Sta xs at_ s d 2) (ha : 2 ≤ at_) (hd : ¬ d = 0) : wlk xs 3 ((at_ + 2 : Nat) : Int) [0, 1] = [0, 1, ((at_ + 2 : Nat) : Int), ((at_ + 1 : Nat) : Int), ((at_ : Nat) : Int), (d : Int)] := by
  rw [wlk_sol h2 (by omega) _ (by simp; omega)]
  show wlk xs 2 ((at_ + 1 : Nat) : Int) _ = _
  rw [wlk_sol h1 (by omega) _ (by simp; omega)]
  show wlk xs 1 ((at_ + 0 : Nat) : Int) _ = _
  rw [wlk_sol h0 (by omega) _ (by simp; omega)]
  show led _ (d : Int) = _
  rw [led_yes (by omega)]
  rfl
/-- Records without trees. -/
theorem fold_flat (xs : List Int) : ∀ (l : List Wr.Rec) (T : List Int), (∀ r ∈ l, r.root = 0) → l.foldl (fun T r => wlk xs 3 r.root (led T r.next)) T = T ++ l.flatMap fun r => led [] r.next
  | [], T, _ => by simp
  | r :: l, T, h => by
    rw [List.foldl_cons, h r (by simp), wlk_none, fold_flat xs l _ (fun x hx => h x (by simp [hx])), List.flatMap_cons]
    unfold led
    by_cases e : r.next = 0
    · rw [if_pos e, if_pos e]; simp
    · rw [if_neg e, if_neg e]; simp
end Wj
namespace Go.Proofs.Ytfdgeobopegeeaa
open Go.RowKit
theorem tzX_pick {b a s d z : Nat} (ha : 2 ≤ a) (h : a + 3 ≤ b) (hb : b ≤ 4096) (hz : z ≤ 512) : pickA (Wi.tzX b a s d z) = (Wi.tzS b a z, 0, 0) := by
  refine pick_zero (Wi.tzX_bdv s d z ha h) (by omega) hb (Wi.tzS_ok ha h hb hz) rfl (by simp) ?_
  simp only [if_neg (show ¬ 0 = 1 by omega)]
  unfold Wi.chB
  rw [if_neg (by omega)]
/-- It opens. -/
theorem tzX_yes {b a s d z : Nat} (ha : 2 ≤ a) (h : a + 3 ≤ b) (hb : b ≤ 4096) (hz : z ≤ 512) (hs : s < z) (hd : 2 ≤ d) (hd2 : d < b) (hit : ¬ (a ≤ d ∧ d < a + 3)) :
    opnE (Wi.tzX b a s d z) = 0 ∧ opnS (Wi.tzX b a s d z) = Wi.tzS b a z ∧ opnT (Wi.tzX b a s d z) = 0 ∧ opnB (Wi.tzX b a s d z) = [] := by
  have hC := Wi.tzX_cha (z := z) ha h hb (show s < 512 by omega) hd
  have hS := fun k hk => Wi.tzX_sta (s := s) (z := z) ha h hb hd (show d < 4096 by omega) k hk
  refine opn_recs (tzX_pick ha h hb hz) (Wi.chn_zero _ _ _) ?_
  rw [Wi.sndB_iff (by simp)]
  have ht := Wt.tre_one hC (hS 0 (by omega)) (hS 1 (by omega)) (hS 2 (by omega)) hd2 hit
  have h3 := Wt.tre_some hC.dev ht
  have e1 : Wi.trees (Wi.tzS b a z) (List.map (Wi.recAt (Wi.tzX b a s d z)) []) = [(((a + 2 : Nat) : Int), (z : Int))] := rfl
  rw [e1]
  constructor
  · rw [List.all_cons, List.all_nil, Bool.and_true]
    unfold Wi.szB
    rw [ht, h3.2.2, Int.toNat_natCast]
    show (true && _) = true
    rw [Bool.true_and, List.all_eq_true]
    intro x hx
    obtain ⟨i, hi, rfl⟩ := List.mem_iff_getElem.1 hx
    generalize h512 : 512 = n at *
    simp only [List.getElem_drop]
    rw [List.getElem_set_ne (by omega)]
    simp
  · have eN : Wi.allN (Wi.tzX b a s d z) [(((a + 2 : Nat) : Int), (z : Int))] = [((a + 2 : Nat) : Int), ((a + 1 : Nat) : Int), (a : Int)] := by
      unfold Wi.allN; rw [List.flatMap_cons, List.flatMap_nil, List.append_nil, h3.2.1]
    rw [eN]
    refine ⟨by simp, fun p hp hq => ?_⟩
    have hq2 : p ∈ Wi.secs (Wi.tzX b a s d z) (((a + 2 : Nat) : Int), (z : Int)) := by
      unfold Wi.allD at hq; simpa using hq
    obtain ⟨k1, k2⟩ := Wi.secs_mem.1 hq2
    rw [h3.2.2] at k1
    rcases Wt.mem_map p (List.mem_of_mem_take k1) with h5 | h5
    · exact k2 h5
    · subst h5
      simp only [List.mem_cons, List.not_mem_nil, or_false] at hp
      omega
theorem tzX_cnt {b a s d z : Nat} (ha : 2 ≤ a) (h : a + 3 ≤ b) (hb : b ≤ 4096) (hz : z ≤ 512) (hs : s < z) (hd : 2 ≤ d) (hd2 : d < b) (hit : ¬ (a ≤ d ∧ d < a + 3)) :
    opnE (Wi.tzX b a s d z) = 0 ∧ (Wi.tzX b a s d z).length / 64 = b ∧ cnt (Wi.tzX b a s d z) = [0, 1, ((a + 2 : Nat) : Int), ((a + 1 : Nat) : Int), ((a : Nat) : Int), (d : Int)] := by
  obtain ⟨o1, o2, -, o4⟩ := tzX_yes ha h hb hz hs hd hd2 hit
  have hS := fun k hk => Wi.tzX_sta (s := s) (z := z) ha h hb hd (show d < 4096 by omega) k hk
  refine ⟨o1, ((Wi.tzX_bdv s d z ha h).dev (by omega) hb).2, ?_⟩
  unfold cnt opnL
  rw [o2, o4]
  show Wj.wlk _ 3 ((a + 2 : Nat) : Int) (Wj.led [0, 1] 0) = _
  rw [Wj.led_zero, Wj.wlk_one (hS 0 (by omega)) (hS 1 (by omega)) (hS 2 (by omega)) ha (by omega)]
theorem rcX_cnt {a n : Nat} (ha : 2 ≤ a) (h : a + n ≤ 20) (hn : n ≤ 10) : opnE (Wi.rcX 20 a n (Wi.fr n a 1)) = 0 ∧ (Wi.rcX 20 a n (Wi.fr n a 1)).length / 64 = 20 ∧ cnt (Wi.rcX 20 a n (Wi.fr n a 1)) = [0, 1] ++ Wi.sq a n := by
  have H := Wi.rcX_rdv (b := 20) (f := Wi.fr n a 1) (by omega) (by omega) ha h (fun i hi => Wi.fr_ok ha (by omega) (by omega) (by omega) hi)
  obtain ⟨xs, hx⟩ : ∃ xs, Wi.rcX 20 a n (Wi.fr n a 1) = xs := ⟨_, rfl⟩
  rw [hx] at H ⊢
  have key : opnE xs = 0 ∧ opnS xs = Wi.rcS 20 a n ∧ opnB xs = Wi.sq a n ∧ ∀ r ∈ opnL xs, r.root = 0 := by
    by_cases h0 : n = 0
    · subst h0
      have ho := opn_recs (xs := xs) (s := Wi.rcS 20 a 0) (t := 0) (b := []) (rdv_pick H) (Wi.chn_zero _ _ _) (by
        unfold Wi.sndB
        refine snd_zeros H.dev.1 _ _ (fun t ht => ?_)
        have : t = ((Wi.rcS 20 a 0).root, (Wi.rcS 20 a 0).size) := by simpa [Wi.trees] using ht
        rw [this]; rfl)
      refine ⟨ho.1, ho.2.1, ho.2.2.2, fun r hr => ?_⟩
      unfold opnL at hr
      rw [ho.2.2.2] at hr
      cases hr
    · obtain ⟨o1, o2, -, o4, o5, -⟩ := rdv_yes H (by omega) (by omega) (fun i hi => by show (if i + 1 < n then _ else _) = _; rw [if_pos hi]) (by show (if n - 1 + 1 < n then _ else _) = _; rw [if_neg (by omega)]) (fun i j hj hi => by show ¬ (1 : Int) + j = 1 + i; omega) (fun i _ _ => rfl) (fun i _ => rfl)
      refine ⟨o1, o2, o4, fun r hr => ?_⟩
      rw [o5] at hr
      obtain ⟨i, hi, rfl⟩ := List.mem_map.1 hr
      rfl
  obtain ⟨o1, o2, o4, o5⟩ := key
  refine ⟨o1, H.dev.2, ?_⟩
  have hl := Wj.lnk_ptrs _ _ (img_of o1).lnk
  have hl2 : Wj.led [] (opnS xs).first ++ (opnL xs).flatMap (fun r => Wj.led [] r.next) = opnB xs := hl
  have hled : Wj.led [0, 1] (opnS xs).first = [0, 1] ++ Wj.led [] (opnS xs).first := by
    unfold Wj.led; split <;> rfl
  unfold cnt Wj.cAll
  rw [Wj.fold_flat xs _ _ o5, show (opnS xs).root = 0 by rw [o2]; rfl, Wj.wlk_none, hled, List.append_assoc, hl2, o4]
theorem used_recs : ∀ a, a < 7 → ∀ n, n < 5 → 2 ≤ a → Wj.usedN ([0, 1] ++ Wi.sq a n) 20 = 2 + n := by decide
theorem used_one : ∀ a, a < 7 → 2 ≤ a → Wj.usedN [0, 1, ((a + 2 : Nat) : Int), ((a + 1 : Nat) : Int), ((a : Nat) : Int), ((15 : Nat) : Int)] 20 = 6 := by decide
theorem count_one : ∀ a, a < 7 → 2 ≤ a → ∀ k : Nat, k < 20 → List.count (k : Int) [0, 1, ((a + 2 : Nat) : Int), ((a + 1 : Nat) : Int), ((a : Nat) : Int), ((15 : Nat) : Int)] = if k < 2 ∨ (a ≤ k ∧ k < a + 3) ∨ k = 15 then 1 else 0 := by decide
end Go.Proofs.Ytfdgeobopegeeaa
