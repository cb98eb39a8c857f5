/-
  What commit.rightChain returns, for every records and blocks.
-/
import Derived.Test.YtfflhiajbioheaaGreatEc
namespace Go.Proofs.YtfflhiajbioheaaGreat
open Go.RowKit

set_option maxRecDepth 100000 in
set_option maxHeartbeats 3200000 in
theorem rightChain15_any (a : Option Addr) (n cap : Nat) (old : List Wr.Rec) (a' : Option Addr) (n' cap' : Nat) (bl : List Int) (w : World) (ho : Wi.Rs w (.slice a n cap) old) (hb : Wd.In w (.slice a' n' cap') bl) :
    Calls Tryz.prog 27 #[.slice a n cap, .slice a' n' cap'] w fun e w' => e = .returned (.bool (Wq.chB old bl)) ∧ Below w.heap.size w w' := by
  have hL := Wi.rs_len ho
  have hM := Wv.rv_len hb
  have hn : n ≤ 1099511627776 := by obtain ⟨_, _, _, h1, _, _, _, h5, _⟩ := ho; cases h1; exact h5
  have hn2 : n' ≤ 17592186044416 := by obtain ⟨_, _, _, h1, _, _, _, h5, _⟩ := hb; cases h1; exact h5
  have HO := Wc.hid ho
  have HB := Wc.hid hb
  by_cases hne : n = n'
  case neg =>
    have hC := Wc.hid (Wq.chB_len (old := old) (blocks := bl) (by rw [hL, hM]; exact hne))
    have hne2 : ¬ (n : Int) = (n' : Int) := by omega
    clear ho hb
    go_enter Tryz.func27, Tryz.ntmps27
    go_wp2_with fail
    go_ret
    exact ⟨by rw [hC.out]; rfl, Below.refl _ _⟩
  subst hne
  have HL := Wc.hid hL
  have HM := Wc.hid hM
  clear ho hb hL hM hn2
  go_enter Tryz.func27, Tryz.ntmps27
  go_wp2_with fail
  go_loopw [14] (fun i wr => ∃ k : Nat, i = .int .i64 k ∧ k ≤ n ∧ Hid (∀ j, j < k → Wq.okC old bl j = true) ∧ Hid (Below w.heap.size w wr)) (fun i _ => n - (intOf i).toNat)
  case atStart => exact ⟨0, rfl, Nat.zero_le _, fun j h => by omega, Below.refl _ _⟩
  case round =>
    obtain ⟨k, rfl, hk, HZ, BW⟩ := hrel
    by_cases hlt : k < n
    · obtain ⟨b, off, rfl, hbl, hcs⟩ : ∃ b off, a = some ⟨b, off, none⟩ ∧ b < w.heap.size ∧ ∀ i, i < n → Wi.Ra w b (off + i * 8) (old.getD i Wr.r0) := by
        obtain ⟨_, _, _, h1, _, _, _, _, h6⟩ := HO.out; cases h1; exact h6 (by omega)
      obtain ⟨b', off', rfl, hbl', hcs'⟩ : ∃ b off, a' = some ⟨b, off, none⟩ ∧ b < w.heap.size ∧ ∀ i, i < n → w.cell? ⟨b, off + i, none⟩ = some (.int .i64 (bl.getD i 0)) := by
        obtain ⟨_, _, _, h1, _, _, _, _, h6⟩ := HB.out; cases h1; exact h6 (by omega)
      have hj : Wq.okC old bl k = (Wr.recB (old.getD k Wr.r0) && Wq.bkB (bl.getD k 0)) := rfl
      obtain ⟨c0, c1, c2, c3, c4, c5, c6, c7⟩ := (hcs k hlt).keep BW.out
      have cb0 := (BW.out.cell (p := ⟨b', off' + k, none⟩) hbl').trans (hcs' k hlt)
      obtain ⟨x, hx⟩ : ∃ x, old.getD k Wr.r0 = x := ⟨_, rfl⟩
      obtain ⟨y, hy⟩ : ∃ y, bl.getD k 0 = y := ⟨_, rfl⟩
      rw [hx] at c0 c1 c2 c3 c4 c5 c6 c7
      rw [hx, hy] at hj
      rw [hy] at cb0
      have HJ := Wc.hid hj
      have hbr : b' < wr.heap.size := Nat.lt_of_lt_of_le hbl' BW.out.size
      have bA := Wc.hid ((Below.refl wr.heap.size wr).alloc (Nat.le_refl _) (.cells #[.int .i64 x.next, .int .i64 x.id, .int .i64 x.parent, .int .i64 x.root, .int .i64 x.size, .int .i64 x.kind, .int .i64 x.frames, .int .i64 x.digest] 39))
      have HR := Wc.hid (Rh.new wr x)
      clear hx hy hj hcs hcs' hbl hbl'
      cases hB : Wr.recB x
      · have hno := Wc.hid (Wq.chB_bad (by rw [HL.out]; exact hlt) (HJ.out.trans (by rw [hB, Bool.false_and])))
        have HE := Wc.hid (Wr.recE_no hB)
        have ⟨d0, d1, d2, d3, d4, d5, d6, d7⟩ := HR.out.rc
        go_wp2_with (go_at_call 47; refine (check8_any x _).mono ?_; rintro e w1 ⟨rfl, hb1⟩; rw [HE.out]; have HB1 := Wc.hid hb1; clear hb1)
        go_ret
        exact ⟨by rw [hno.out]; rfl, Wc.step (Wc.step BW.out (Nat.le_refl _) bA.out) (Nat.le_refl _) HB1.out⟩
      · have HE := Wc.hid (Wr.recE_yes hB)
        have ⟨d0, d1, d2, d3, d4, d5, d6, d7⟩ := HR.out.rc
        cases hK : Wq.bkB y
        · have hno := Wc.hid (Wq.chB_bad (by rw [HL.out]; exact hlt) (HJ.out.trans (by rw [hB, hK]; rfl)))
          go_wp2_with (first | (go_at_call 47; refine (check8_any x _).mono ?_; rintro e w1 ⟨rfl, hb1⟩; rw [HE.out]; have HB1 := Wc.hid hb1; have cb1 := (Wc.step (Below.refl wr.heap.size wr) (Nat.le_refl _) (Wc.step bA.out (Nat.le_refl _) hb1)).cell (p := ⟨b', off' + k, none⟩) hbr; rw [cb0] at cb1; clear hb1) | (go_at_call 48; refine (isBlock15_any _ _).mono ?_; rintro e w' ⟨rfl, rfl⟩; rw [hK]))
          go_ret
          exact ⟨by rw [hno.out]; rfl, Wc.step (Wc.step BW.out (Nat.le_refl _) bA.out) (Nat.le_refl _) HB1.out⟩
        · have hyes : Hid (Wq.okC old bl k = true) := Wc.hid (HJ.out.trans (by rw [hB, hK]; rfl))
          go_wp2_with (first | (go_at_call 47; refine (check8_any x _).mono ?_; rintro e w1 ⟨rfl, hb1⟩; rw [HE.out]; have HB1 := Wc.hid hb1; have cb1 := (Wc.step (Below.refl wr.heap.size wr) (Nat.le_refl _) (Wc.step bA.out (Nat.le_refl _) hb1)).cell (p := ⟨b', off' + k, none⟩) hbr; rw [cb0] at cb1; clear hb1) | (go_at_call 48; refine (isBlock15_any _ _).mono ?_; rintro e w' ⟨rfl, rfl⟩; rw [hK]))
          go_roundw
          case rel =>
            refine ⟨k + 1, by go_num, by omega, fun j hj => ?_, Wc.hid (Wc.step (Wc.step BW.out (Nat.le_refl _) bA.out) (Nat.le_refl _) HB1.out)⟩
            by_cases hjk : j = k
            · subst hjk; exact hyes.out
            · exact HZ.out j (by omega)
          case measure => simp [intOf]; omega
    · obtain rfl : k = n := by omega
      have hR := Wc.hid (Wq.chB_iff.2 ⟨by rw [HL.out, HM.out], fun j hj => HZ.out j (by rw [HL.out] at hj; exact hj)⟩)
      go_wp2_with fail
      go_ret
      exact ⟨by rw [hR.out]; rfl, BW.out⟩
end Go.Proofs.YtfflhiajbioheaaGreat
