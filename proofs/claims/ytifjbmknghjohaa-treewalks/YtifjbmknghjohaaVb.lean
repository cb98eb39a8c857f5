/-
  The plain mathematics of a tree of one sector that is bent: a byte changed, a node that is led to twice. It speaks of no program.
-/
import Derived.Test.YtifjbmknghjohaaVc
import Derived.Test.YtifjbmknghjohaaSchg
namespace Wt
open Wn Go.Proofs.Ytifjbmknghjohaa

/-- One byte of a node's block changed: it is none. -/
theorem blk_byte {n : Nod} (hn : nodB n = true) {ys : List Int} {i : Nat} {c : Int} (hi : i < 64) (hc : 0 < c ∧ c < 256) (hl : ys.length = 64)
    (h : ∀ j, j < 64 → ys.getD j 0 = if j = i then ((((blk n).getD i 0).toNat ^^^ c.toNat : Nat) : Int) else (blk n).getD j 0) : ¬ parE ys = 0 := by
  obtain ⟨p, hp⟩ : ∃ p, p = min i 60 := ⟨_, rfl⟩
  have hp1 : p ≤ 60 := by omega
  have hpi : p ≤ i ∧ i < p + 4 := by omega
  obtain ⟨zs, hz⟩ : ∃ zs : List Int, zs = (List.replicate 4 (0 : Int)).set (i - p) c := ⟨_, rfl⟩
  have hzl : zs.length = 4 := by rw [hz]; simp
  have hzb : ∀ y ∈ zs, 0 ≤ y ∧ y < 256 := by
    intro y hy
    rw [hz] at hy
    rcases List.mem_or_eq_of_mem_set hy with h | h
    · have := List.eq_of_mem_replicate h; omega
    · omega
  have hza : ∀ k, zs.getD k 0 = if k = i - p then c else 0 := by
    intro k
    rw [hz, List.getD_eq_getElem?_getD]
    by_cases e : k = i - p
    · subst e
      rw [if_pos rfl, List.getElem?_set_self (by simp; omega)]; rfl
    · rw [if_neg e, List.getElem?_set_ne (by omega), List.getElem?_replicate]
      split <;> rfl
  have hys : ys = Wc.zipx (blk n) (Wc.runAt p (60 - p) zs) := by
    have hbl := blk_length n
    have hrl : (Wc.runAt p (60 - p) zs).length = 64 := by simp [Wc.runAt, hzl]; omega
    refine List.ext_getElem (by rw [hl]; simp [Wc.zipx, hbl, hrl]) fun j h1 h2 => ?_
    have hj : j < 64 := by omega
    have k1 := h j hj
    have k2 := chg_end (blk n) zs p 60 hbl hzl hp1 (blk_bd n) j (by omega)
    have k3 : chg (blk n) zs p 4 j = if j = i then ((((blk n).getD i 0).toNat ^^^ c.toNat : Nat) : Int) else (blk n).getD j 0 := by
      unfold chg
      by_cases e : j = i
      · subst e
        rw [if_pos hpi, if_pos rfl, hza, if_pos rfl]
      · rw [if_neg e]
        by_cases e2 : p ≤ j ∧ j < p + 4
        · rw [if_pos e2, hza, if_neg (by omega)]
          have hbj := blk_bd n ((blk n).getD j 0) (by rw [List.getD_eq_getElem?_getD, List.getElem?_eq_getElem (by omega)]; simp)
          show (((blk n).getD j 0).toNat ^^^ 0 : Nat) = (blk n).getD j 0
          rw [Nat.xor_zero]; omega
        · rw [if_neg e2]
    rw [← k3, k2] at k1
    rw [List.getD_eq_getElem?_getD, List.getD_eq_getElem?_getD, List.getElem?_eq_getElem h1, List.getElem?_eq_getElem h2] at k1
    exact k1
  intro hE
  rw [hys] at hE
  have h0 := (par_changed hn p (60 - p) zs hzl hzb (by omega)).1 hE c (by
    have := hza (i - p)
    rw [if_pos rfl, List.getD_eq_getElem?_getD, List.getElem?_eq_getElem (by omega)] at this
    rw [← this]; exact List.getElem_mem _)
  omega

theorem rd_other {xs ys : List Int} {p : Nat} (hl : ys.length = xs.length) (hd : Wd.devB xs.length = true) (hp : p < xs.length / 64) (h : ∀ i, i < 64 → ys.getD (p * 64 + i) 0 = xs.getD (p * 64 + i) 0) : Wd.rdR ys (p : Int) = Wd.rdR xs (p : Int) := by
  rw [rd_at (by rw [hl]; exact hd) p (by rw [hl]; exact hp), rd_at hd p hp]
  refine block_ext (by rw [hl]; omega) (by simp; omega) fun i hi => ?_
  rw [h i hi]
  simp [List.getD_eq_getElem?_getD, List.getElem?_take_of_lt hi, List.getElem?_drop]

/-- With one byte of one of its nodes changed a tree is none. -/
theorem tre_byte {b at_ s d k i : Nat} {c : Int} {ys : List Int} (ha : 2 ≤ at_) (h : at_ + 3 ≤ b) (hb : b ≤ 4096) (hd : 2 ≤ d) (hd2 : d < 4096) (hk : k < 3) (hi : i < 64) (hc : 0 < c ∧ c < 256)
    (hl : ys.length = b * 64) (hy : ∀ j, j < b * 64 → ys.getD j 0 = if j = (at_ + k) * 64 + i then ((((ch b at_ s d 3).getD ((at_ + k) * 64 + i) 0).toNat ^^^ c.toNat : Nat) : Int) else (ch b at_ s d 3).getD j 0) :
    tre ys ((at_ + 2 : Nat) : Int) = none := by
  have hcl := ch_length s d h 3 (by omega)
  have hdv : Wd.devB (ch b at_ s d 3).length = true := by rw [hcl]; exact devB_b (by omega) hb
  have hlx : ys.length = (ch b at_ s d 3).length := by rw [hl, hcl]
  have hrd : ∀ j, j < 3 → Wd.rdR (ch b at_ s d 3) ((at_ + j : Nat) : Int) = blk (nk at_ s d j) := by
    intro j hj
    rw [ch_rd s d ha h hb (at_ + j) (by omega) 3 (by omega), if_pos ⟨by omega, by omega⟩]
    congr 2; omega
  have hsta : ∀ j, j < 3 → j ≠ k → Sta ys at_ s d j := fun j hj hne => sta_of (nk_ok s ha h hb hd hd2 j hj) (by
    rw [rd_other hlx hdv (by rw [hcl]; omega) (fun i' hi' => by rw [hy _ (by omega), if_neg (by omega)])]
    exact hrd j hj)
  have hbad : okN ys ((at_ + k : Nat) : Int) k = false := by
    have hbk : ¬ parE (Wd.rdR ys ((at_ + k : Nat) : Int)) = 0 := by
      rw [rd_at (by rw [hlx]; exact hdv) (at_ + k) (by rw [hl]; omega)]
      refine blk_byte (nk_ok s ha h hb hd hd2 k hk) hi hc (by simp; omega) fun j hj => ?_
      have e1 : ((ys.drop ((at_ + k) * 64)).take 64).getD j 0 = ys.getD ((at_ + k) * 64 + j) 0 := by
        simp [List.getD_eq_getElem?_getD, List.getElem?_take_of_lt hj, List.getElem?_drop]
      have e2 : ∀ j, j < 64 → (blk (nk at_ s d k)).getD j 0 = (ch b at_ s d 3).getD ((at_ + k) * 64 + j) 0 := by
        intro j hj
        rw [← hrd k hk, rd_at hdv (at_ + k) (by rw [hcl]; omega)]
        simp [List.getD_eq_getElem?_getD, List.getElem?_take_of_lt hj, List.getElem?_drop]
      rw [e1, e2 i hi, e2 j hj, hy _ (by omega)]
      by_cases e : j = i
      · rw [if_pos e, if_pos (by omega)]
      · rw [if_neg e, if_neg (by omega)]
    unfold okN
    have : (parE (Wd.rdR ys ((at_ + k : Nat) : Int)) == 0) = false := by simpa using hbk
    rw [this]; rfl
  have hpk : ∀ j, j ≤ 3 → ¬ pk at_ d j = 0 := fun j hj => by have := pk_bd ha h hb hd hd2 j hj; omega
  refine tre_no (by omega) ?_
  have hk3 : k = 0 ∨ k = 1 ∨ k = 2 := by omega
  rcases hk3 with rfl | rfl | rfl
  · rw [met_sol (hsta 2 (by omega) (by omega)) (hpk 2 (by omega)) 0 s0]
    show met ys 2 ((at_ + 1 : Nat) : Int) _ _ = none
    rw [met_sol (hsta 1 (by omega) (by omega)) (hpk 1 (by omega))]
    show met ys 1 ((at_ + 0 : Nat) : Int) _ _ = none
    exact met_no hbad _ _
  · rw [met_sol (hsta 2 (by omega) (by omega)) (hpk 2 (by omega)) 0 s0]
    exact met_no hbad _ _
  · exact met_no hbad _ _

/-- A root that leads to one node twice. -/
def two (p : Int) : Nod := ⟨2, p, p, 0, 0, 0, 0, 0, 0⟩

theorem two_ok {p : Int} (h : 2 ≤ p ∧ p < 4096) : nodB (two p) = true := by
  refine nodB_yes ⟨by show (0 : Int) ≤ 2; omega, by show (2 : Int) ≤ 2; omega⟩ (fun j hj => linkB_iff.2 ?_) ⟨0, by omega, by show ¬ p = 0; omega⟩
  rcases below8 hj with rfl | rfl | rfl | rfl | rfl | rfl | rfl | rfl
  · exact .inr h
  · exact .inr h
  all_goals exact .inl rfl

theorem tre_twice {b at_ s d : Nat} (ha : 2 ≤ at_) (h : at_ + 3 ≤ b) (hb : b ≤ 4096) (hs : s < 512) (hd : 2 ≤ d) (hd2 : d < 4096) : tre (put (ch b at_ s d 3) (at_ + 2) (two ((at_ + 1 : Nat) : Int))) ((at_ + 2 : Nat) : Int) = none := by
  have hcl := ch_length s d h 3 (by omega)
  have hdv : Wd.devB (ch b at_ s d 3).length = true := by rw [hcl]; exact devB_b (by omega) hb
  have hq : at_ + 2 < (ch b at_ s d 3).length / 64 := by rw [hcl]; omega
  have hpl := put_length (n := two ((at_ + 1 : Nat) : Int)) hq
  obtain ⟨ys, hys⟩ : ∃ ys, ys = put (ch b at_ s d 3) (at_ + 2) (two ((at_ + 1 : Nat) : Int)) := ⟨_, rfl⟩
  have hn := two_ok (p := ((at_ + 1 : Nat) : Int)) (by omega)
  have hr : Wd.rdR ys ((at_ + 2 : Nat) : Int) = blk (two ((at_ + 1 : Nat) : Int)) := by rw [hys]; exact rd_put hdv hq
  have hsta : ∀ j, j < 2 → Sta ys at_ s d j := fun j hj => sta_of (nk_ok s ha h hb hd hd2 j (by omega)) (by
    rw [hys, rd_put_ne hdv hq (by rw [hcl]; omega) (by omega), ch_rd s d ha h hb (at_ + j) (by omega) 3 (by omega), if_pos ⟨by omega, by omega⟩]
    congr 2; omega)
  rw [← hys]
  have hC : Cha ys b at_ s d := ⟨ha, h, hs, hd, by rw [hys, hpl, hcl]; omega, by rw [hys, hpl]; exact hdv⟩
  have hb2 := par_blk hn
  have hnd : nd ys ((at_ + 2 : Nat) : Int) = two ((at_ + 1 : Nat) : Int) := by unfold nd; rw [hr]; exact hb2.2
  have hok : okN ys ((at_ + 2 : Nat) : Int) 2 = true := by
    unfold okN
    rw [hnd, hr, hb2.1]; rfl
  have hz : ¬ ((at_ + 1 : Nat) : Int) = 0 := by omega
  cases ht : tre ys ((at_ + 2 : Nat) : Int) with
  | none => rfl
  | some t =>
    exfalso
    obtain ⟨-, -, hm, hnd2, -⟩ := tre_met (by omega) ht
    rw [met_yes hok, hnd] at hm
    have g0 : go (met ys 2) (two ((at_ + 1 : Nat) : Int)) 0 0 ⟨s0.nodes ++ [((at_ + 2 : Nat) : Int)], s0.sec, s0.dat⟩ = some ⟨s0.nodes ++ [((at_ + 2 : Nat) : Int)], s0.sec, s0.dat⟩ := rfl
    have g1 := go_step g0 hz
    rw [show pat (two ((at_ + 1 : Nat) : Int)) 0 = ((at_ + 1 : Nat) : Int) from rfl, met_twoL hC (hsta 0 (by omega)) (hsta 1 (by omega))] at g1
    have g2 := go_step g1 hz
    rw [show pat (two ((at_ + 1 : Nat) : Int)) (0 + 1) = ((at_ + 1 : Nat) : Int) from rfl, met_twoL hC (hsta 0 (by omega)) (hsta 1 (by omega))] at g2
    have g8 := go_pass (f := met ys 2) (n := two ((at_ + 1 : Nat) : Int)) (pl := 0) (s := ⟨s0.nodes ++ [((at_ + 2 : Nat) : Int)], s0.sec, s0.dat⟩) (j := 0 + 1 + 1) 6 (fun i a c => by
      have hi : i = 2 ∨ i = 3 ∨ i = 4 ∨ i = 5 ∨ i = 6 ∨ i = 7 := by omega
      rcases hi with rfl | rfl | rfl | rfl | rfl | rfl <;> rfl)
    rw [g2] at g8
    have g9 : some _ = some t := g8.symm.trans hm
    have e := congrArg St.nodes (Option.some.inj g9)
    rw [← e] at hnd2
    have e2 : s0.nodes = [] := rfl
    rw [e2] at hnd2
    simp at hnd2

end Wt
