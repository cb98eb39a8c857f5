/-
  What open.isBlock, uses.take and uses.takeTree return, for every input.
-/
import Derived.Test.YtiobegoiehjfiaaGreatQs
import Derived.Test.YtiobegoiehjfiaaGreatJH
namespace Wi
open Go Go.RowKit
theorem take_snocI (xs : List Int) (k : Nat) (h : k < xs.length) : xs.take (k + 1) = xs.take k ++ [xs.getD k 0] := by rw [List.take_add_one]; simp [h]
theorem okT_take {U : Nat → Int} {k : Int} {ps : List Int} {i : Nat} (h : i < ps.length) : okT U k (ps.take (i + 1)) = (okT U k (ps.take i) && (ps.getD i 0 == 0 || (U (ps.getD i 0).toNat == 0 || U (ps.getD i 0).toNat == k))) := by
  rw [take_snocI ps i h, okT_snoc]
theorem okT_no {U : Nat → Int} {k : Int} {ps : List Int} {i : Nat} (h : okT U k (ps.take i) = false) : okT U k ps = false := by
  cases h1 : okT U k ps
  · rfl
  · rw [okT_iff] at h1
    have : okT U k (ps.take i) = true := okT_iff.2 fun p hp => h1 p (List.mem_of_mem_take hp)
    rw [h] at this; cases this
/-- All else stays but one block. -/
def But (g : Nat) (w w' : World) : Prop := Below g w w' ∧ ∀ b, ¬ b = g → w'.heap[b]? = w.heap[b]?
theorem But.refl (g : Nat) (w : World) : But g w w := ⟨Below.refl _ _, fun _ _ => rfl⟩
theorem But.trans {g : Nat} {a b c : World} (h : But g a b) (k : But g b c) : But g a c := ⟨h.1.trans k.1, fun i hi => (k.2 i hi).trans (h.2 i hi)⟩
theorem But.set {g : Nat} {a b : World} (h : But g a b) (o : Nat) (u : Value) : But g a (b.setCell ⟨g, o, none⟩ u) :=
  ⟨h.1.setCell (p := ⟨g, o, none⟩) (Nat.le_refl _) u, fun i hi => by rw [heap_setCell_other _ _ _ _ hi]; exact h.2 i hi⟩
theorem in_but {g : Nat} {w w' : World} {a : Option Addr} {n c : Nat} {ps : List Int} (h : Wd.In w (.slice a n c) ps) (hb : But g w w') (hg : 0 < n → ∀ b o, a = some ⟨b, o, none⟩ → ¬ b = g) : Wd.In w' (.slice a n c) ps := by
  obtain ⟨a', n', c', h1, h2, h3, h4, h5, h6⟩ := h
  cases h1
  refine ⟨a, n, c, rfl, h2, h3, h4, h5, fun h0 => ?_⟩
  obtain ⟨b, off, k1, k2, k3⟩ := h6 h0
  have hne := hg h0 b off k1
  exact ⟨b, off, k1, Nat.lt_of_lt_of_le k2 hb.1.size, fun i hi => (World.cell?_of_block (a := ⟨b, off + i, none⟩) (hb.2 b hne)).trans (k3 i hi)⟩
end Wi
namespace Go.Proofs.YtiobegoiehjfiaaGreat
open Go.RowKit

theorem isblock_any (p : Int) (w : World) : Calls Tryz.prog 74 #[.int .i64 p] w fun e w' => e = .returned (.bool (p != 0)) ∧ w = w' := by
  go_enter Tryz.func74, Tryz.ntmps74
  go_wp2
  go_ret
  exact ⟨rfl, rfl⟩

set_option maxHeartbeats 1600000 in
theorem indexb_any (a : Option Addr) (n cap : Nat) (xs : List Int) (w : World) (hl : Wd.In w (.slice a n cap) xs) :
    Calls Tryz.prog 94 #[.slice a n cap, .func (.func 74) #[] #[]] w fun e w' => ∃ r : Int, e = .returned (.int .i64 r) ∧ decide (0 ≤ r) = !(xs.all (· == 0)) ∧ w = w' := by
  obtain ⟨a', n', cap', h1, hl, hcap, hcap2, hln, hpos⟩ := hl
  cases h1
  have HP := Wc.hid hpos
  have HL := Wc.hid hl
  clear hpos hl
  go_enter Tryz.func94, Tryz.ntmps94
  go_wp2_with fail
  go_loop [8] (fun i => ∃ k : Nat, i = .int .i64 k ∧ k ≤ n ∧ Hid (∀ j, j < k → xs.getD j 0 = 0)) (fun i => n - (intOf i).toNat)
  case atStart => exact ⟨0, rfl, by omega, fun j h => by omega⟩
  case round =>
    obtain ⟨k, rfl, hk, HZ⟩ := hrel
    by_cases hlt : k < n
    · obtain ⟨b, off, rfl, hblt, hcs⟩ := HP.out (by omega)
      have h1 := hcs k hlt
      obtain ⟨x, hx⟩ : ∃ x, xs.getD k 0 = x := ⟨_, rfl⟩
      rw [hx] at h1
      have HX := Wc.hid hx
      clear hx hcs
      cases hp : (x != 0)
      · have HPp := Wc.hid hp
        clear hp
        go_wp2_with fail
        refine (isblock_any x w).mono ?_
        rintro e w1 ⟨rfl, rfl⟩
        rw [HPp.out]
        go_wp2_with fail
        go_round
        case rel =>
          refine ⟨k + 1, by go_num, by omega, fun j hj => ?_⟩
          by_cases hjk : j = k
          · subst hjk; rw [HX.out]; simpa using HPp.out
          · exact HZ.out j (by omega)
        case measure => simp [intOf]; omega
      · have HPp := Wc.hid hp
        clear hp
        go_wp2_with fail
        refine (isblock_any x w).mono ?_
        rintro e w1 ⟨rfl, rfl⟩
        rw [HPp.out]
        go_wp2_with fail
        go_ret
        refine ⟨_, rfl, ?_, rfl⟩
        have : xs.all (· == 0) = false := all_not (k := k) (by rw [HL.out]; exact hlt) (by rw [HX.out]; simpa using HPp.out)
        rw [this]; simp
    · go_wp2_with fail
      go_ret
      refine ⟨_, rfl, ?_, rfl⟩
      have : xs.all (· == 0) = true := all_upto (fun j hj => by rw [HZ.out j (by rw [HL.out] at hj; omega)]; rfl)
      rw [this]; rfl

set_option maxHeartbeats 800000 in
theorem containsb_any (a : Option Addr) (n cap : Nat) (xs : List Int) (w : World) (hl : Wd.In w (.slice a n cap) xs) :
    Calls Tryz.prog 77 #[.slice a n cap, .func (.func 74) #[] #[]] w fun e w' => e = .returned (.bool (!(xs.all (· == 0)))) ∧ w = w' := by
  have HI := Wc.hid (indexb_any a n cap xs w hl)
  clear hl
  go_enter Tryz.func77, Tryz.ntmps77
  go_wp2_with fail
  refine HI.out.mono ?_
  rintro e w1 ⟨r, rfl, hr, rfl⟩
  have HR := Wc.hid hr
  clear hr
  go_wp2_with fail
  go_ret
  exact ⟨ret_bool (by rw [← HR.out]), rfl⟩

set_option maxHeartbeats 3200000 in
theorem take_any (g m : Nat) (U : Nat → Int) (a : Option Addr) (n cap : Nat) (ps : List Int) (k : Int) (w : World) (_hm : m ≤ 100000) (hU : w.rowIs g 3 m (fun j => .int .i64 (U j))) (hps : Wd.In w (.slice a n cap) ps) (hne : 0 < n → ∀ b o, a = some ⟨b, o, none⟩ → ¬ b = g) (hbd : ∀ p ∈ ps, 0 ≤ p ∧ p < m) :
    Calls Tryz.prog 59 #[.slice (some ⟨g, 0, none⟩) m m, .slice a n cap, .int .i64 k] w fun e w' => e = .returned (.bool (Wi.okT U k ps)) ∧ Wi.But g w w' ∧ (Wi.okT U k ps = true → w'.rowIs g 3 m (fun j => .int .i64 (Wi.upT U k ps j))) := by
  obtain ⟨a', n', cap', h1, hl, hcap, hcap2, hln, hpos⟩ := hps
  cases h1
  have HP := Wc.hid hpos
  have HL := Wc.hid hl
  have HU := Wc.hid hU
  have HN := Wc.hid hne
  have HBD := Wc.hid hbd
  clear hpos hl hU hne hbd
  go_enter Tryz.func59, Tryz.ntmps59
  go_wp2_with fail
  go_loopw [11] (fun i wr => ∃ j : Nat, i = .int .i64 j ∧ j ≤ n ∧ Hid (Wi.But g w wr) ∧ Hid (Wi.okT U k (ps.take j) = true) ∧ Hid (wr.rowIs g 3 m (fun q => .int .i64 (Wi.upT U k (ps.take j) q)))) (fun i _ => n - (intOf i).toNat)
  case atStart => exact ⟨0, rfl, by omega, Wc.hid (Wi.But.refl _ _), Wc.hid (by simp [Wi.okT]), Wc.hid (by rw [List.take_zero, Wi.upT_nil]; exact HU.out)⟩
  case round =>
    obtain ⟨j, rfl, hj, RB, RK, RU⟩ := hrel
    by_cases hlt : j < n
    · obtain ⟨b, off, rfl, hblt, hcs⟩ := HP.out (by omega)
      have hjl : j < ps.length := by rw [HL.out]; exact hlt
      obtain ⟨p, hp⟩ : ∃ p : Nat, ps.getD j 0 = p := ⟨(ps.getD j 0).toNat, by have := (HBD.out _ (mem_getD hjl)).1; omega⟩
      have hpm : p < m := by have := (HBD.out _ (mem_getD hjl)).2; omega
      have h1 : wr.cell? ⟨b, off + j, none⟩ = some (.int .i64 (p : Int)) := by
        rw [World.cell?_of_block (a := ⟨b, off + j, none⟩) (RB.out.2 b (HN.out (by omega) b off rfl)), hcs j hlt, hp]
      have HO := Wc.hid (Wi.okT_take (U := U) (k := k) hjl)
      have HT := Wc.hid (Wi.take_snocI ps j hjl)
      rw [hp] at HO HT
      have h2 := RU.out.cell hpm
      have h3 := RU.out.frozen p
      have HPM := Wc.hid hpm
      clear hcs hp hjl
      by_cases hz : p = 0
      · subst hz
        clear h2 h3
        go_wp2_with fail
        refine (isblock_any 0 _).mono ?_
        rintro e w1 ⟨rfl, rfl⟩
        go_wp2_with fail
        go_roundw
        case rel => exact ⟨j + 1, by go_num, by omega, RB, Wc.hid (by rw [HO.out, RK.out]; rfl), Wc.hid (by rw [HT.out]; show wr.rowIs g 3 m (fun q => .int .i64 (Wi.upT U k (ps.take j ++ [0]) q)); rw [Wi.upT_zero]; exact RU.out)⟩
        case measure => simp [intOf]; omega
      · have hzb : ((p : Int) != 0) = true := by rw [bne_iff_ne]; omega
        have HZN := Wc.hid hz
        clear hz
        obtain ⟨y, hy⟩ : ∃ y, Wi.upT U k (ps.take j) p = y := ⟨_, rfl⟩
        have HY := Wc.hid hy
        rw [hy] at h2
        clear hy
        cases hy0 : (y != 0)
        · have HY0 := Wc.hid hy0
          have HRK : Hid (Wi.okT U k (ps.take (j + 1)) = true) := Wc.hid (by
            rw [HO.out, RK.out]
            have e0 : y = 0 := by simpa using HY0.out
            have e1 := HY.out
            rw [e0] at e1
            unfold Wi.upT at e1
            split at e1
            · rename_i hh
              have := Wi.okT_iff.1 RK.out _ hh.1 (by have := HZN.out; omega)
              simp at this ⊢
              omega
            · simp [e1])
          have HRU : Hid ((wr.setCell ⟨g, p, none⟩ (.int .i64 k)).rowIs g 3 m (fun q => .int .i64 (Wi.upT U k (ps.take (j + 1)) q))) := Wc.hid (by
            refine (World.rowIs.set RU.out p (.int .i64 k)).congr fun q _ => ?_
            rw [HT.out, Wi.upT_snoc U k (ps.take j) p HZN.out q]
            by_cases e : q = p
            · rw [if_pos e, if_pos e]
            · rw [if_neg e, if_neg e])
          have HRB := Wc.hid (RB.out.set p (.int .i64 k))
          clear hy0
          go_wp2_with fail
          refine (isblock_any p _).mono ?_
          rintro e w1 ⟨rfl, rfl⟩
          rw [hzb]
          have hy0 := HY0.out
          go_wp2_with fail
          go_roundw
          case rel => exact ⟨j + 1, by go_num, by omega, HRB, HRK, HRU⟩
          case measure => simp [intOf]; omega
        · cases hyk : (y != k)
          · have HYK := Wc.hid hyk
            have HY0 := Wc.hid hy0
            have HRK : Hid (Wi.okT U k (ps.take (j + 1)) = true) := Wc.hid (by
              rw [HO.out, RK.out]
              have e0 : y = k := by simpa using HYK.out
              have e1 := HY.out
              rw [e0] at e1
              unfold Wi.upT at e1
              split at e1
              · rename_i hh
                have := Wi.okT_iff.1 RK.out _ hh.1 (by have := HZN.out; omega)
                simp at this ⊢
                omega
              · simp [e1])
            have HRU : Hid ((wr.setCell ⟨g, p, none⟩ (.int .i64 k)).rowIs g 3 m (fun q => .int .i64 (Wi.upT U k (ps.take (j + 1)) q))) := Wc.hid (by
              refine (World.rowIs.set RU.out p (.int .i64 k)).congr fun q _ => ?_
              rw [HT.out, Wi.upT_snoc U k (ps.take j) p HZN.out q]
              by_cases e : q = p
              · rw [if_pos e, if_pos e]
              · rw [if_neg e, if_neg e])
            have HRB := Wc.hid (RB.out.set p (.int .i64 k))
            clear hy0 hyk
            go_wp2_with fail
            refine (isblock_any p _).mono ?_
            rintro e w1 ⟨rfl, rfl⟩
            rw [hzb]
            have hy0 := HY0.out
            have hyk := HYK.out
            go_wp2_with fail
            go_roundw
            case rel => exact ⟨j + 1, by go_num, by omega, HRB, HRK, HRU⟩
            case measure => simp [intOf]; omega
          · have HYK := Wc.hid hyk
            have HY0 := Wc.hid hy0
            have HF : Hid (Wi.okT U k ps = false) := Wc.hid (Wi.okT_no (i := j + 1) (by
              rw [HO.out, RK.out]
              have e0 : ¬ y = k := by simpa using HYK.out
              have e2 : ¬ y = 0 := by simpa using HY0.out
              have e1 := HY.out
              unfold Wi.upT at e1
              split at e1
              · exact absurd e1.symm e0
              · have := HZN.out
                simp
                omega))
            clear hy0 hyk
            go_wp2_with fail
            refine (isblock_any p _).mono ?_
            rintro e w1 ⟨rfl, rfl⟩
            rw [hzb]
            have hy0 := HY0.out
            have hyk := HYK.out
            go_wp2_with fail
            go_ret
            exact ⟨ret_bool HF.out.symm, RB.out, fun h => by rw [HF.out] at h; cases h⟩
    · go_wp2_with fail
      go_ret
      have h1 := RK.out
      have h2 := RU.out
      rw [List.take_of_length_le (by rw [HL.out]; omega)] at h1 h2
      exact ⟨ret_bool h1.symm, RB.out, fun _ => h2⟩

end Go.Proofs.YtiobegoiehjfiaaGreat
