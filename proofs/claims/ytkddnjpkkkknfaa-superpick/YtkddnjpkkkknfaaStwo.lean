/-
  Two blocks laid upon a device of noughts, and what Pick then tells; a byte of a superblock's block changed; two steps in memory.
-/
import Derived.Test.YtkddnjpkkkknfaaSwake
import Derived.Test.YtkddnjpkkkknfaaSback
namespace Go.Proofs.Ytkddnjpkkkknfaa
open Go.RowKit

/-- The two steps. -/
def two (X Y : List Int) : List Wd.Io := [⟨1, 0, X⟩, ⟨1, 1, Y⟩]

theorem two_app (X Y : List Int) (n : Nat) (hn : n = 384) (hX : X.length = 64) (hY : Y.length = 64) : Wd.app (List.replicate n 0) (two X Y) = X ++ (Y ++ List.replicate 256 0) := by
  have e1 : Wd.one (List.replicate n 0) ⟨1, 0, X⟩ = X ++ List.replicate 320 0 := by
    show Wd.lay _ (0 * 64) X = _
    unfold Wd.lay
    rw [Nat.zero_mul, List.take_zero, List.nil_append, List.drop_replicate, hX, show n - (0 + 64) = 320 by omega]
  have e2 : Wd.one (X ++ List.replicate 320 0) ⟨1, 1, Y⟩ = X ++ (Y ++ List.replicate 256 0) := by
    show Wd.lay _ (1 * 64) Y = _
    unfold Wd.lay
    rw [Nat.one_mul, List.take_append_of_le_length (by omega), List.take_of_length_le (by omega), hY, List.drop_append, List.drop_eq_nil_of_le (by omega), List.nil_append, List.drop_replicate, hX]
  show Wd.one (Wd.one _ _) _ = _
  rw [e1, e2]

theorem two_steps (X Y : List Int) (n : Nat) (hn : n = 384) (hX : X.length = 64) (hY : Y.length = 64) : Wd.stepsE n (two X Y) = 0 := by
  refine Wd.stepsE_ok (Wd.devB_iff.2 (by omega)) (show 2 ≤ 1048576 by omega) ?_
  have h1 : Wd.okIo ((n : Int) / 64) ⟨1, 0, X⟩ = true := Wd.rightB_iff.2 (.inl ⟨rfl, show (0 : Int) ≤ 0 by omega, show (0 : Int) < (n : Int) / 64 by omega, hX⟩)
  have h2 : Wd.okIo ((n : Int) / 64) ⟨1, 1, Y⟩ = true := Wd.rightB_iff.2 (.inl ⟨rfl, show (0 : Int) ≤ 1 by omega, show (1 : Int) < (n : Int) / 64 by omega, hY⟩)
  unfold two
  rw [List.all_cons, h1, List.all_cons, h2]; rfl

theorem two_pick (X Y : List Int) (n : Nat) (hn : n = 384) (hX : X.length = 64) (hY : Y.length = 64) :
    Wd.stepsE (List.replicate n (0 : Int)).length (two X Y) = 0 ∧ (Wd.appR (List.replicate n 0) (two X Y)).length = 384 ∧ pickA (Wd.appR (List.replicate n 0) (two X Y)) = Ws.picks (Ws.slotS 6 X) (Ws.slotS 6 Y) := by
  have h0 : Wd.stepsE (List.replicate n (0 : Int)).length (two X Y) = 0 := by rw [List.length_replicate]; exact two_steps X Y n hn hX hY
  have h1 : Wd.appR (List.replicate n 0) (two X Y) = X ++ (Y ++ List.replicate 256 0) := by
    unfold Wd.appR
    rw [if_pos h0, two_app X Y n hn hX hY]
  have hl : (X ++ (Y ++ List.replicate 256 (0 : Int))).length = 384 := by rw [List.length_append, List.length_append, List.length_replicate, hX, hY]
  have e1 : (X ++ (Y ++ List.replicate 256 (0 : Int))).take 64 = X := by rw [List.take_append_of_le_length (by omega), List.take_of_length_le (by omega)]
  have e2 : ((X ++ (Y ++ List.replicate 256 (0 : Int))).drop 64).take 64 = Y := by
    rw [List.drop_append_of_le_length (by omega), List.drop_eq_nil_of_le (by omega), List.nil_append, List.take_append_of_le_length (by omega), List.take_of_length_le (by omega)]
  refine ⟨h0, by rw [h1, hl], ?_⟩
  rw [h1, pickA, hl, if_pos (by decide)]
  unfold Ws.pickR
  rw [hl, e1, e2]
  rfl

/-- A superblock's own slot. -/
theorem slot_own {s : Ws.Sup} (h : Ws.supB s = true) (n : Int) (hn : s.blocks = n) : Ws.slotS n (Ws.blk s) = s := by
  have hp := Ws.par_blk h
  have := (Ws.slot_yes (n := n) (b := Ws.blk s) ⟨hp.1, by rw [hp.2]; exact hn⟩).1
  rw [this, hp.2]

theorem slot_other {s : Ws.Sup} (h : Ws.supB s = true) (n : Int) (hn : ¬ s.blocks = n) : Ws.slotS n (Ws.blk s) = Ws.s0 := by
  have hp := Ws.par_blk h
  exact Ws.slot_no (fun e => hn (by rw [← e.2, hp.2]))

/-- One byte is another one. -/
theorem slot_bent {s : Ws.Sup} (h : Ws.supB s = true) (n q : Int) (hq : 0 ≤ q ∧ q < 256) (hne : ¬ q = (Ws.blk s).getD 9 0) : Ws.slotS n ((Ws.blk s).set 9 q) = Ws.s0 := by
  refine Ws.slot_no (fun e => ?_)
  have hl := Ws.blk_length s
  have hb := Ws.blk_bd s
  obtain ⟨v, hv⟩ : ∃ v, (Ws.blk s).getD 9 0 = v := ⟨_, rfl⟩
  have hvb : 0 ≤ v ∧ v < 256 := by
    rw [← hv]
    exact hb _ (by rw [List.getD_eq_getElem?_getD, List.getElem?_eq_getElem (by omega)]; simp)
  have hd := Nat.xor_lt_two_pow (n := 8) (x := v.toNat) (y := q.toNat) (by omega) (by omega)
  have key := Ws.par_changed h 9 51 [((v.toNat ^^^ q.toNat : Nat) : Int), 0, 0, 0] rfl (by intro y hy; simp at hy; omega) rfl
  have e2 : Wc.zipx (Ws.blk s) (Wc.runAt 9 51 [((v.toNat ^^^ q.toNat : Nat) : Int), 0, 0, 0]) = (Ws.blk s).set 9 q := by
    refine List.ext_getElem (by simp [Wc.zipx, Wc.runAt, hl]) fun i h1 h2 => ?_
    have hi : i < (Ws.blk s).length := by simpa using h2
    have hbi := hb (Ws.blk s)[i] (List.getElem_mem _)
    simp only [Wc.zipx, List.getElem_zipWith]
    rw [List.getElem_set]
    by_cases h9 : 9 = i
    · subst h9
      have e3 : (Wc.runAt 9 51 [((v.toNat ^^^ q.toNat : Nat) : Int), 0, 0, 0])[9]'(by simp [Wc.runAt]) = ((v.toNat ^^^ q.toNat : Nat) : Int) := rfl
      have e4 : (Ws.blk s)[9] = v := by rw [← hv, List.getD_eq_getElem?_getD, List.getElem?_eq_getElem hi]; rfl
      rw [e3, e4, if_pos rfl, Int.toNat_natCast, Wc.xor_self_left]
      omega
    · have e3 : (Wc.runAt 9 51 [((v.toNat ^^^ q.toNat : Nat) : Int), 0, 0, 0])[i]'(by simp [Wc.runAt]; omega) = 0 := by
        have : (Wc.runAt 9 51 [((v.toNat ^^^ q.toNat : Nat) : Int), 0, 0, 0]) = (List.replicate 64 (0 : Int)).set 9 ((v.toNat ^^^ q.toNat : Nat) : Int) := rfl
        simp only [this]
        rw [List.getElem_set, if_neg h9, List.getElem_replicate]
      rw [e3, if_neg h9, Int.toNat_zero, Nat.xor_zero]
      omega
  rw [e2] at key
  have := key.1 e.1 _ (List.mem_cons_self)
  have hx : v.toNat ^^^ q.toNat = 0 := by omega
  have := Wc.xor_zero_iff.1 hx
  omega

/-- Two steps, written out in memory. -/
theorem two_is (w : World) (a1 a2 : Option Addr) (c1 c2 T : Nat) (X Y : List Int) (hX : Wc.Bs w (.slice a1 64 c1) X) (hY : Wc.Bs w (.slice a2 64 c2) Y) (s1 : Wc.Shaped (.slice a1 64 c1)) (s2 : Wc.Shaped (.slice a2 64 c2)) (g : Nat) (hg : g = w.heap.size) :
    Wd.Is (w.alloc (.cells #[.int .i64 1, .int .i64 0, .slice a1 64 c1, .int .i64 1, .int .i64 1, .slice a2 64 c2] T)) (.slice (some ⟨g, 0, none⟩) 2 2) (two X Y) := by
  subst hg
  have l1 := Wc.bs_len hX
  have l2 := Wc.bs_len hY
  have hb := (Below.refl w.heap.size w).alloc (Nat.le_refl _) (.cells #[.int .i64 1, .int .i64 0, .slice a1 64 c1, .int .i64 1, .int .i64 1, .slice a2 64 c2] T)
  refine ⟨_, 2, 2, rfl, rfl, Nat.le_refl _, by omega, by omega, fun _ => ⟨w.heap.size, 0, rfl, by simp, fun i hi => ?_⟩⟩
  match i, hi with
  | 0, _ => exact ⟨a1, c1, by simp [two], by simp [two], by simp [two, l1], by simpa [two, l1] using hX.keep hb, by simpa [two, l1] using s1⟩
  | 1, _ => exact ⟨a2, c2, by simp [two], by simp [two], by simp [two, l2], by simpa [two, l2] using hY.keep hb, by simpa [two, l2] using s2⟩

end Go.Proofs.Ytkddnjpkkkknfaa
