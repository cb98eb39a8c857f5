/-
  What found.apart returns, for whatever is met.
-/
import Derived.Test.YtifjbmknghjohaaTa
namespace Go.Proofs.Ytifjbmknghjohaa
open Go.RowKit

theorem mem_getD {xs : List Int} {k : Nat} (h : k < xs.length) : xs.getD k 0 ∈ xs := by
  rw [getD_at h]; exact List.getElem_mem h

theorem take_snoc (xs : List Int) (k : Nat) (h : k < xs.length) : xs.take (k + 1) = xs.take k ++ [xs.getD k 0] := by
  rw [List.take_succ_eq_append_getElem h, getD_at h]

theorem nodup_snoc {l : List Int} {x : Int} : (l ++ [x]).Nodup ↔ l.Nodup ∧ ¬ x ∈ l := by
  rw [List.nodup_append]
  constructor
  · rintro ⟨h1, -, h3⟩
    exact ⟨h1, fun hx => h3 x hx x (by simp) rfl⟩
  · rintro ⟨h1, h2⟩
    refine ⟨h1, by simp, fun a ha b hb e => ?_⟩
    have : b = x := by simpa using hb
    subst this
    subst e
    exact h2 ha

theorem nodup_take_no {l : List Int} {k : Nat} (hk : k < l.length) (h : l.getD k 0 ∈ l.take k) : ¬ l.Nodup := by
  intro hn
  have h1 : (l.take (k + 1)).Nodup := hn.sublist (List.take_sublist _ _)
  rw [take_snoc l k hk, nodup_snoc] at h1
  exact h1.2 h

theorem Marks.new (w : World) (m : Nat) : Marks (w.alloc (.cells (madeCells #[.bool false] m) 4)) w.heap.size m [] :=
  (World.rowIs_made w (.bool false) m 4).congr fun j _ => by simp

theorem Marks.set {w : World} {g m : Nat} {l : List Int} (h : Marks w g m l) (k : Nat) : Marks (w.setCell ⟨g, k, none⟩ (.bool true)) g m (l ++ [(k : Int)]) := by
  refine (World.rowIs.set h k (.bool true)).congr fun j _ => ?_
  by_cases e : j = k
  · subst e; rw [if_pos rfl]; simp
  · rw [if_neg e]
    have : ¬ (j : Int) = (k : Int) := by omega
    simp [this]

set_option maxRecDepth 100000 in
set_option maxHeartbeats 6400000 in
theorem apart_any (B g nb m : Nat) (s : Wt.St) (w : World) (hF : Fo w B g nb s) (hm : m ≤ 100000) (h0 : ¬ s.nodes = []) (hnd : ∀ x ∈ s.nodes, 0 ≤ x ∧ x < m) (hsc : ∀ x ∈ s.sec, 0 ≤ x) :
    Calls Try.prog 43 #[.pointer (some ⟨B, 0, none⟩), .int .i64 m] w fun e w' => e = .returned (.bool (Wt.apB s.nodes s.sec m)) ∧ Below w.heap.size w w' := by
  have hmk := run_make_row' (P := Try.prog) 67 4 (.bool false) 1 Try.underlying67 Try.infoB rfl .i64 .i64 m (by omega) (by omega)
  have a1 := One.new w (.int .i64 m) 3
  have c1 := a1.cell
  have b2 : Below w.heap.size w (w.alloc (.cells #[.int .i64 m] 3)) := (Below.refl _ _).alloc (Nat.le_refl _) _
  have b3 : Below (w.alloc (.cells #[.int .i64 m] 3)).heap.size (w.alloc (.cells #[.int .i64 m] 3)) ((w.alloc (.cells #[.int .i64 m] 3)).alloc (.cells (madeCells #[.bool false] m) 4)) := (Below.refl _ _).alloc (Nat.le_refl _) _
  have b4 : Below ((w.alloc (.cells #[.int .i64 m] 3)).alloc (.cells (madeCells #[.bool false] m) 4)).heap.size ((w.alloc (.cells #[.int .i64 m] 3)).alloc (.cells (madeCells #[.bool false] m) 4)) (((w.alloc (.cells #[.int .i64 m] 3)).alloc (.cells (madeCells #[.bool false] m) 4)).alloc (.cells #[.slice (some ⟨w.heap.size + 1, 0, none⟩) m m] 67)) := (Below.refl _ _).alloc (Nat.le_refl _) _
  have M4 : Marks (((w.alloc (.cells #[.int .i64 m] 3)).alloc (.cells (madeCells #[.bool false] m) 4)).alloc (.cells #[.slice (some ⟨w.heap.size + 1, 0, none⟩) m m] 67)) (w.heap.size + 1) m [] := by
    have h1 := World.rowIs.alloc (Marks.new (w.alloc (.cells #[.int .i64 m] 3)) m) (.cells #[.slice (some ⟨w.heap.size + 1, 0, none⟩) m m] 67)
    rw [show (w.alloc (.cells #[.int .i64 m] 3)).heap.size = w.heap.size + 1 by simp] at h1
    exact h1
  have A4 : One (((w.alloc (.cells #[.int .i64 m] 3)).alloc (.cells (madeCells #[.bool false] m) 4)).alloc (.cells #[.slice (some ⟨w.heap.size + 1, 0, none⟩) m m] 67)) w.heap.size (.int .i64 m) 3 := (a1.keep b3).keep b4
  have V4 : One (((w.alloc (.cells #[.int .i64 m] 3)).alloc (.cells (madeCells #[.bool false] m) 4)).alloc (.cells #[.slice (some ⟨w.heap.size + 1, 0, none⟩) m m] 67)) (w.heap.size + 1 + 1) (.slice (some ⟨w.heap.size + 1, 0, none⟩) m m) 67 := by
    have h1 := One.new ((w.alloc (.cells #[.int .i64 m] 3)).alloc (.cells (madeCells #[.bool false] m) 4)) (.slice (some ⟨w.heap.size + 1, 0, none⟩) m m) 67
    rw [show ((w.alloc (.cells #[.int .i64 m] 3)).alloc (.cells (madeCells #[.bool false] m) 4)).heap.size = w.heap.size + 1 + 1 by simp] at h1
    exact h1
  have B4 : Below w.heap.size w (((w.alloc (.cells #[.int .i64 m] 3)).alloc (.cells (madeCells #[.bool false] m) 4)).alloc (.cells #[.slice (some ⟨w.heap.size + 1, 0, none⟩) m m] 67)) := Wc.step (Wc.step b2 (Nat.le_refl _) b3) (Nat.le_refl _) b4
  obtain ⟨a, n, c, k0, k1, -, hO⟩ := hF.cells
  obtain ⟨hrow, hrl, hBn, hgn, -, hnbs⟩ := hF.row
  have hR := hO.rv (d := 0)
  rcases hR.open with ⟨hnil, -⟩ | ⟨b, off, n', cap, hsl, hpos, hlen, -, -, hnb, hblt, hcells⟩
  · exact absurd hnil h0
  cases hsl
  have k2 : (((w.alloc (.cells #[.int .i64 m] 3)).alloc (.cells (madeCells #[.bool false] m) 4)).alloc (.cells #[.slice (some ⟨w.heap.size + 1, 0, none⟩) m m] 67)).cell? ⟨B, 0, none⟩ = some (.slice (some ⟨b, off, none⟩) n c) := (B4.cell (p := ⟨B, 0, none⟩) (show B < w.heap.size by omega)).trans k0
  have K1 := Wc.hid k1
  have HBS := Wc.hid (show B < w.heap.size by omega)
  have HG := Wc.hid (show g < w.heap.size by omega)
  have HROW := Wc.hid hrow
  have HRL := Wc.hid hrl
  have HM := Wc.hid M4
  have HA := Wc.hid A4
  have HV := Wc.hid V4
  have HB := Wc.hid B4
  have HC := Wc.hid hcells
  have HBL := Wc.hid hblt
  have HL := Wc.hid hlen
  have HND := Wc.hid hnd
  have HSC := Wc.hid hsc
  clear hF b2 b3 b4 M4 A4 V4 B4 hO hR hcells hlen hnd hsc a1 h0 k0 k1 hrow hrl hBn hgn hnbs hblt
  go_enter Try.func43, Try.ntmps43
  go_wp2_with fail
  clear k2 c1 hmk
  have hmf : ∀ (fn : Fn) (first cap : Array Value) (w : World), (Instr.makeFunc fn first cap).run Try.prog w = .ok (.func fn first cap) w := fun _ _ _ _ => rfl
  go_loopw [15] (fun i wr => ∃ k : Nat, i = .int .i64 k ∧ k ≤ n ∧ Hid (Marks wr (w.heap.size + 1) m (s.nodes.take k)) ∧ Hid (s.nodes.take k).Nodup ∧ Hid (One wr w.heap.size (.int .i64 m) 3) ∧ Hid (One wr (w.heap.size + 1 + 1) (.slice (some ⟨w.heap.size + 1, 0, none⟩) m m) 67) ∧ Hid (Below w.heap.size w wr)) (fun i _ => n - (intOf i).toNat)
  case atStart => exact ⟨0, rfl, by omega, HM, by simp [Hid], HA, HV, HB⟩
  case round =>
    obtain ⟨k, rfl, hk, RM, RN, RA, RV, RB⟩ := hrel
    by_cases hlt : k < n
    · obtain ⟨j, hj⟩ : ∃ j : Nat, s.nodes.getD k 0 = j := by
        have := (HND.out _ (mem_getD (show k < s.nodes.length by rw [HL.out]; exact hlt))).1
        exact ⟨(s.nodes.getD k 0).toNat, by omega⟩
      have hjm : j < m := by
        have := (HND.out _ (mem_getD (show k < s.nodes.length by rw [HL.out]; exact hlt))).2
        omega
      have h1 : wr.cell? ⟨b, off + k, none⟩ = some (.int .i64 (j : Int)) := by
        rw [RB.out.cell (p := ⟨b, off + k, none⟩) HBL.out, HC.out k hlt, hj]
      have h2 := RV.out.cell
      have h3 := RM.out.cell hjm
      have h4 := RM.out.frozen j
      have HJ := Wc.hid hj
      clear hj
      cases hd : decide ((j : Int) ∈ s.nodes.take k)
      · rw [hd] at h3
        have HD := Wc.hid hd
        have hmem : ¬ s.nodes.getD k 0 ∈ s.nodes.take k := by rw [HJ.out]; simpa using hd
        have HN1 : Hid (s.nodes.take (k + 1)).Nodup := Wc.hid (by
          rw [take_snoc s.nodes k (by rw [HL.out]; exact hlt), nodup_snoc]
          exact ⟨RN.out, hmem⟩)
        have HM1 : Hid (Marks (wr.setCell ⟨w.heap.size + 1, j, none⟩ (.bool true)) (w.heap.size + 1) m (s.nodes.take (k + 1))) := Wc.hid (by
          rw [take_snoc s.nodes k (by rw [HL.out]; exact hlt), HJ.out]
          exact RM.out.set j)
        have HA1 := Wc.hid (RA.out.other (B' := w.heap.size + 1) (by omega) j (.bool true))
        have HV1 := Wc.hid (RV.out.other (B' := w.heap.size + 1) (by omega) j (.bool true))
        have HB1 := Wc.hid (RB.out.setCell (p := ⟨w.heap.size + 1, j, none⟩) (show w.heap.size ≤ w.heap.size + 1 by omega) (.bool true))
        clear hd hmem
        go_wp2_with fail
        go_roundw
        case rel => exact ⟨k + 1, by go_num, by omega, HM1, HN1, HA1, HV1, HB1⟩
        case measure => simp [intOf]; omega
      · rw [hd] at h3
        have HD := Wc.hid hd
        clear hd
        go_wp2_with fail
        go_ret
        refine ⟨ret_bool ?_, RB.out⟩
        have : ¬ s.nodes.Nodup := nodup_take_no (k := k) (by rw [HL.out]; exact hlt) (by rw [HJ.out]; simpa using HD.out)
        simp [Wt.apB, this]
    · obtain rfl : k = n := by omega
      have hall : s.nodes.take k = s.nodes := List.take_of_length_le (by rw [HL.out]; omega)
      have h1 : wr.cell? ⟨B, 1, none⟩ = some (.slice (some ⟨g, 0, none⟩) 512 512) := (RB.out.cell (p := ⟨B, 1, none⟩) HBS.out).trans K1.out
      rw [hall] at RM RN
      have HCF := Wc.hid (containsf_any g 0 512 512 s.sec (Wt.outB s.nodes m) (.pointer (some ⟨w.heap.size, 0, none⟩)) (.pointer (some ⟨w.heap.size + 1 + 1, 0, none⟩)) wr HRL.out (by omega) (fun i hi => by
        rw [Nat.zero_add, RB.out.cell (p := ⟨g, i, none⟩) HG.out]; exact HROW.out.cell hi) (fun x hx => clos_any _ _ _ m s.nodes x wr RA.out RV.out RM.out (HSC.out x hx) hm))
      go_wp2_with fail
      refine HCF.out.mono ?_
      rintro e w1 ⟨rfl, rfl⟩
      obtain ⟨q, hq⟩ : ∃ q, s.sec.any (Wt.outB s.nodes m) = q := ⟨_, rfl⟩
      rw [hq]
      have HQ := Wc.hid hq
      clear hq
      go_wp2_with fail
      go_ret
      refine ⟨ret_bool ?_, RB.out⟩
      unfold Wt.apB
      rw [HQ.out]
      have := RN.out
      simp [this]

end Go.Proofs.Ytifjbmknghjohaa
