/-
  What open.isBlock, uses.take and uses.takeTree return, for every input.
  What uses.takeTree and open.sound return, for every device and every tree.
  What open.sound returns, for every device, superblock and records.
  What open.Open returns, for every device.
  What open.New and open.Find, keep.Records and keep.State return, for every input.
  What open.Find, keep.Records and keep.State return, for every input; the statements' own wakes returns true.
-/
import Derived.Test.YtfflhiajbioheaaGreatJK
import Derived.Test.YtfflhiajbioheaaGreatJH
import Derived.Test.YtfflhiajbioheaaGreatJC
import Derived.Test.YtfflhiajbioheaaGreatJI
import Derived.Test.YtfflhiajbioheaaGreatJF
namespace Wi
open Go Go.RowKit
theorem take_snocI (xs : List Int) (k : Nat) (h : k < xs.length) : xs.take (k + 1) = xs.take k ++ [xs.getD k 0] := by rw [List.take_add_one]; simp [h]
theorem okT_take {U : Nat → Int} {k : Int} {ps : List Int} {i : Nat} (h : i < ps.length) : okT U k (ps.take (i + 1)) = (okT U k (ps.take i) && (ps.getD i 0 == 0 || (U (ps.getD i 0).toNat == 0 || U (ps.getD i 0).toNat == k))) := by
  rw [take_snocI ps i h, okT_snoc]
theorem okT_no {U : Nat → Int} {k : Int} {ps : List Int} {i : Nat} (h : okT U k (ps.take i) = false) : okT U k ps = false := by
  cases h1 : okT U k ps
  · rfl
  · rw [okT_iff] at h1
    have : okT U k (ps.take i) = true := okT_iff.2 fun p hp => h1 p (List.mem_of_mem_take hp)
    rw [h] at this; cases this
/-- All else stays but one block. -/
def But (g : Nat) (w w' : World) : Prop := Below g w w' ∧ ∀ b, ¬ b = g → w'.heap[b]? = w.heap[b]?
theorem But.refl (g : Nat) (w : World) : But g w w := ⟨Below.refl _ _, fun _ _ => rfl⟩
theorem But.trans {g : Nat} {a b c : World} (h : But g a b) (k : But g b c) : But g a c := ⟨h.1.trans k.1, fun i hi => (k.2 i hi).trans (h.2 i hi)⟩
theorem But.set {g : Nat} {a b : World} (h : But g a b) (o : Nat) (u : Value) : But g a (b.setCell ⟨g, o, none⟩ u) :=
  ⟨h.1.setCell (p := ⟨g, o, none⟩) (Nat.le_refl _) u, fun i hi => by rw [heap_setCell_other _ _ _ _ hi]; exact h.2 i hi⟩
theorem in_but {g : Nat} {w w' : World} {a : Option Addr} {n c : Nat} {ps : List Int} (h : Wd.In w (.slice a n c) ps) (hb : But g w w') (hg : 0 < n → ∀ b o, a = some ⟨b, o, none⟩ → ¬ b = g) : Wd.In w' (.slice a n c) ps := by
  obtain ⟨a', n', c', h1, h2, h3, h4, h5, h6⟩ := h
  cases h1
  refine ⟨a, n, c, rfl, h2, h3, h4, h5, fun h0 => ?_⟩
  obtain ⟨b, off, k1, k2, k3⟩ := h6 h0
  have hne := hg h0 b off k1
  exact ⟨b, off, k1, Nat.lt_of_lt_of_le k2 hb.1.size, fun i hi => (World.cell?_of_block (a := ⟨b, off + i, none⟩) (hb.2 b hne)).trans (k3 i hi)⟩
end Wi
namespace Go.Proofs.YtfflhiajbioheaaGreat
open Go.RowKit

theorem isblock_any (p : Int) (w : World) : Calls Tryz.prog 89 #[.int .i64 p] w fun e w' => e = .returned (.bool (p != 0)) ∧ w = w' := by
  go_enter Tryz.func89, Tryz.ntmps89
  go_wp2
  go_ret
  exact ⟨rfl, rfl⟩

set_option maxHeartbeats 1600000 in
theorem indexb_any (a : Option Addr) (n cap : Nat) (xs : List Int) (w : World) (hl : Wd.In w (.slice a n cap) xs) :
    Calls Tryz.prog 100 #[.slice a n cap, .func (.func 89) #[] #[]] w fun e w' => ∃ r : Int, e = .returned (.int .i64 r) ∧ decide (0 ≤ r) = !(xs.all (· == 0)) ∧ w = w' := by
  obtain ⟨a', n', cap', h1, hl, hcap, hcap2, hln, hpos⟩ := hl
  cases h1
  have HP := Wc.hid hpos
  have HL := Wc.hid hl
  clear hpos hl
  go_enter Tryz.func100, Tryz.ntmps100
  go_wp2_with fail
  go_loop [8] (fun i => ∃ k : Nat, i = .int .i64 k ∧ k ≤ n ∧ Hid (∀ j, j < k → xs.getD j 0 = 0)) (fun i => n - (intOf i).toNat)
  case atStart => exact ⟨0, rfl, by omega, fun j h => by omega⟩
  case round =>
    obtain ⟨k, rfl, hk, HZ⟩ := hrel
    by_cases hlt : k < n
    · obtain ⟨b, off, rfl, hblt, hcs⟩ := HP.out (by omega)
      have h1 := hcs k hlt
      obtain ⟨x, hx⟩ : ∃ x, xs.getD k 0 = x := ⟨_, rfl⟩
      rw [hx] at h1
      have HX := Wc.hid hx
      clear hx hcs
      cases hp : (x != 0)
      · have HPp := Wc.hid hp
        clear hp
        go_wp2_with fail
        refine (isblock_any x w).mono ?_
        rintro e w1 ⟨rfl, rfl⟩
        rw [HPp.out]
        go_wp2_with fail
        go_round
        case rel =>
          refine ⟨k + 1, by go_num, by omega, fun j hj => ?_⟩
          by_cases hjk : j = k
          · subst hjk; rw [HX.out]; simpa using HPp.out
          · exact HZ.out j (by omega)
        case measure => simp [intOf]; omega
      · have HPp := Wc.hid hp
        clear hp
        go_wp2_with fail
        refine (isblock_any x w).mono ?_
        rintro e w1 ⟨rfl, rfl⟩
        rw [HPp.out]
        go_wp2_with fail
        go_ret
        refine ⟨_, rfl, ?_, rfl⟩
        have : xs.all (· == 0) = false := all_not (k := k) (by rw [HL.out]; exact hlt) (by rw [HX.out]; simpa using HPp.out)
        rw [this]; simp
    · go_wp2_with fail
      go_ret
      refine ⟨_, rfl, ?_, rfl⟩
      have : xs.all (· == 0) = true := all_upto (fun j hj => by rw [HZ.out j (by rw [HL.out] at hj; omega)]; rfl)
      rw [this]; rfl

set_option maxHeartbeats 800000 in
theorem containsb_any (a : Option Addr) (n cap : Nat) (xs : List Int) (w : World) (hl : Wd.In w (.slice a n cap) xs) :
    Calls Tryz.prog 92 #[.slice a n cap, .func (.func 89) #[] #[]] w fun e w' => e = .returned (.bool (!(xs.all (· == 0)))) ∧ w = w' := by
  have HI := Wc.hid (indexb_any a n cap xs w hl)
  clear hl
  go_enter Tryz.func92, Tryz.ntmps92
  go_wp2_with fail
  refine HI.out.mono ?_
  rintro e w1 ⟨r, rfl, hr, rfl⟩
  have HR := Wc.hid hr
  clear hr
  go_wp2_with fail
  go_ret
  exact ⟨ret_bool (by rw [← HR.out]), rfl⟩

set_option maxHeartbeats 3200000 in
theorem take_any (g m : Nat) (U : Nat → Int) (a : Option Addr) (n cap : Nat) (ps : List Int) (k : Int) (w : World) (_hm : m ≤ 100000) (hU : w.rowIs g 3 m (fun j => .int .i64 (U j))) (hps : Wd.In w (.slice a n cap) ps) (hne : 0 < n → ∀ b o, a = some ⟨b, o, none⟩ → ¬ b = g) (hbd : ∀ p ∈ ps, 0 ≤ p ∧ p < m) :
    Calls Tryz.prog 74 #[.slice (some ⟨g, 0, none⟩) m m, .slice a n cap, .int .i64 k] w fun e w' => e = .returned (.bool (Wi.okT U k ps)) ∧ Wi.But g w w' ∧ (Wi.okT U k ps = true → w'.rowIs g 3 m (fun j => .int .i64 (Wi.upT U k ps j))) := by
  obtain ⟨a', n', cap', h1, hl, hcap, hcap2, hln, hpos⟩ := hps
  cases h1
  have HP := Wc.hid hpos
  have HL := Wc.hid hl
  have HU := Wc.hid hU
  have HN := Wc.hid hne
  have HBD := Wc.hid hbd
  clear hpos hl hU hne hbd
  go_enter Tryz.func74, Tryz.ntmps74
  go_wp2_with fail
  go_loopw [11] (fun i wr => ∃ j : Nat, i = .int .i64 j ∧ j ≤ n ∧ Hid (Wi.But g w wr) ∧ Hid (Wi.okT U k (ps.take j) = true) ∧ Hid (wr.rowIs g 3 m (fun q => .int .i64 (Wi.upT U k (ps.take j) q)))) (fun i _ => n - (intOf i).toNat)
  case atStart => exact ⟨0, rfl, by omega, Wc.hid (Wi.But.refl _ _), Wc.hid (by simp [Wi.okT]), Wc.hid (by rw [List.take_zero, Wi.upT_nil]; exact HU.out)⟩
  case round =>
    obtain ⟨j, rfl, hj, RB, RK, RU⟩ := hrel
    by_cases hlt : j < n
    · obtain ⟨b, off, rfl, hblt, hcs⟩ := HP.out (by omega)
      have hjl : j < ps.length := by rw [HL.out]; exact hlt
      obtain ⟨p, hp⟩ : ∃ p : Nat, ps.getD j 0 = p := ⟨(ps.getD j 0).toNat, by have := (HBD.out _ (mem_getD hjl)).1; omega⟩
      have hpm : p < m := by have := (HBD.out _ (mem_getD hjl)).2; omega
      have h1 : wr.cell? ⟨b, off + j, none⟩ = some (.int .i64 (p : Int)) := by
        rw [World.cell?_of_block (a := ⟨b, off + j, none⟩) (RB.out.2 b (HN.out (by omega) b off rfl)), hcs j hlt, hp]
      have HO := Wc.hid (Wi.okT_take (U := U) (k := k) hjl)
      have HT := Wc.hid (Wi.take_snocI ps j hjl)
      rw [hp] at HO HT
      have h2 := RU.out.cell hpm
      have h3 := RU.out.frozen p
      have HPM := Wc.hid hpm
      clear hcs hp hjl
      by_cases hz : p = 0
      · subst hz
        clear h2 h3
        go_wp2_with fail
        refine (isblock_any 0 _).mono ?_
        rintro e w1 ⟨rfl, rfl⟩
        go_wp2_with fail
        go_roundw
        case rel => exact ⟨j + 1, by go_num, by omega, RB, Wc.hid (by rw [HO.out, RK.out]; rfl), Wc.hid (by rw [HT.out]; show wr.rowIs g 3 m (fun q => .int .i64 (Wi.upT U k (ps.take j ++ [0]) q)); rw [Wi.upT_zero]; exact RU.out)⟩
        case measure => simp [intOf]; omega
      · have hzb : ((p : Int) != 0) = true := by rw [bne_iff_ne]; omega
        have HZN := Wc.hid hz
        clear hz
        obtain ⟨y, hy⟩ : ∃ y, Wi.upT U k (ps.take j) p = y := ⟨_, rfl⟩
        have HY := Wc.hid hy
        rw [hy] at h2
        clear hy
        cases hy0 : (y != 0)
        · have HY0 := Wc.hid hy0
          have HRK : Hid (Wi.okT U k (ps.take (j + 1)) = true) := Wc.hid (by
            rw [HO.out, RK.out]
            have e0 : y = 0 := by simpa using HY0.out
            have e1 := HY.out
            rw [e0] at e1
            unfold Wi.upT at e1
            split at e1
            · rename_i hh
              have := Wi.okT_iff.1 RK.out _ hh.1 (by have := HZN.out; omega)
              simp at this ⊢
              omega
            · simp [e1])
          have HRU : Hid ((wr.setCell ⟨g, p, none⟩ (.int .i64 k)).rowIs g 3 m (fun q => .int .i64 (Wi.upT U k (ps.take (j + 1)) q))) := Wc.hid (by
            refine (World.rowIs.set RU.out p (.int .i64 k)).congr fun q _ => ?_
            rw [HT.out, Wi.upT_snoc U k (ps.take j) p HZN.out q]
            by_cases e : q = p
            · rw [if_pos e, if_pos e]
            · rw [if_neg e, if_neg e])
          have HRB := Wc.hid (RB.out.set p (.int .i64 k))
          clear hy0
          go_wp2_with fail
          refine (isblock_any p _).mono ?_
          rintro e w1 ⟨rfl, rfl⟩
          rw [hzb]
          have hy0 := HY0.out
          go_wp2_with fail
          go_roundw
          case rel => exact ⟨j + 1, by go_num, by omega, HRB, HRK, HRU⟩
          case measure => simp [intOf]; omega
        · cases hyk : (y != k)
          · have HYK := Wc.hid hyk
            have HY0 := Wc.hid hy0
            have HRK : Hid (Wi.okT U k (ps.take (j + 1)) = true) := Wc.hid (by
              rw [HO.out, RK.out]
              have e0 : y = k := by simpa using HYK.out
              have e1 := HY.out
              rw [e0] at e1
              unfold Wi.upT at e1
              split at e1
              · rename_i hh
                have := Wi.okT_iff.1 RK.out _ hh.1 (by have := HZN.out; omega)
                simp at this ⊢
                omega
              · simp [e1])
            have HRU : Hid ((wr.setCell ⟨g, p, none⟩ (.int .i64 k)).rowIs g 3 m (fun q => .int .i64 (Wi.upT U k (ps.take (j + 1)) q))) := Wc.hid (by
              refine (World.rowIs.set RU.out p (.int .i64 k)).congr fun q _ => ?_
              rw [HT.out, Wi.upT_snoc U k (ps.take j) p HZN.out q]
              by_cases e : q = p
              · rw [if_pos e, if_pos e]
              · rw [if_neg e, if_neg e])
            have HRB := Wc.hid (RB.out.set p (.int .i64 k))
            clear hy0 hyk
            go_wp2_with fail
            refine (isblock_any p _).mono ?_
            rintro e w1 ⟨rfl, rfl⟩
            rw [hzb]
            have hy0 := HY0.out
            have hyk := HYK.out
            go_wp2_with fail
            go_roundw
            case rel => exact ⟨j + 1, by go_num, by omega, HRB, HRK, HRU⟩
            case measure => simp [intOf]; omega
          · have HYK := Wc.hid hyk
            have HY0 := Wc.hid hy0
            have HF : Hid (Wi.okT U k ps = false) := Wc.hid (Wi.okT_no (i := j + 1) (by
              rw [HO.out, RK.out]
              have e0 : ¬ y = k := by simpa using HYK.out
              have e2 : ¬ y = 0 := by simpa using HY0.out
              have e1 := HY.out
              unfold Wi.upT at e1
              split at e1
              · exact absurd e1.symm e0
              · have := HZN.out
                simp
                omega))
            clear hy0 hyk
            go_wp2_with fail
            refine (isblock_any p _).mono ?_
            rintro e w1 ⟨rfl, rfl⟩
            rw [hzb]
            have hy0 := HY0.out
            have hyk := HYK.out
            go_wp2_with fail
            go_ret
            exact ⟨ret_bool HF.out.symm, RB.out, fun h => by rw [HF.out] at h; cases h⟩
    · go_wp2_with fail
      go_ret
      have h1 := RK.out
      have h2 := RU.out
      rw [List.take_of_length_le (by rw [HL.out]; omega)] at h1 h2
      exact ⟨ret_bool h1.symm, RB.out, fun _ => h2⟩

end Go.Proofs.YtfflhiajbioheaaGreat
namespace Go.Proofs.YtfflhiajbioheaaGreat
open Go.RowKit

theorem Tryz.size3 : (Tryz.prog.info? 3).map (·.size) = some 1 := by kernel_rfl

/-- A part of a slice of ints, from q on. -/
theorem slice_ints (a : Option Addr) (n cap q : Nat) (h : q ≤ n) (w : World) :
    (Instr.slice 28 (.slice a n cap) (some (.int .i64 (q : Int))) none none).run Tryz.prog w = .ok (.slice (if cap = q then a else a.map (·.add q)) (n - q) (cap - q)) w := by
  have h0 := Tryz.size3
  cases hq : Tryz.prog.info? 3 with
  | none => rw [hq] at h0; cases h0
  | some i =>
    rw [hq] at h0
    have hi : i.size = 1 := by simpa using h0
    by_cases hc : cap = q
    · simp [Instr.slice, run_underlying Tryz.underlying28, Instr.sliceBounds, run_sliceBound, sizeOf, typeInfo, hq, hi, h, hc]
    · simp [Instr.slice, run_underlying Tryz.underlying28, Instr.sliceBounds, run_sliceBound, sizeOf, typeInfo, hq, hi, h, hc]
theorem map_zero1 (a : Option Addr) : a.map (·.add (0 * 1)) = a := by cases a <;> rfl
/-- A part of a slice of ints, up to t. -/
theorem slice_intsTo (a : Option Addr) (n cap t : Nat) (h : t ≤ n) (hc : n ≤ cap) (w : World) :
    (Instr.slice 28 (.slice a n cap) none (some (.int .i64 (t : Int))) none).run Tryz.prog w = .ok (.slice a t cap) w := by
  have h0 := Tryz.size3
  have hm := map_zero1 a
  cases hq : Tryz.prog.info? 3 with
  | none => rw [hq] at h0; cases h0
  | some i =>
    have htc : t ≤ cap := by omega
    simp [Instr.slice, run_underlying Tryz.underlying28, Instr.sliceBounds, run_sliceBound, sizeOf, typeInfo, hq, htc]
    exact fun _ => by simpa using hm
theorem in_drop {w : World} {a : Option Addr} {n cap : Nat} {xs : List Int} (h : Wd.In w (.slice a n cap) xs) (q : Nat) (hq : q ≤ n) : Wd.In w (.slice (if cap = q then a else a.map (·.add q)) (n - q) (cap - q)) (xs.drop q) := by
  obtain ⟨a', n', c', h1, h2, h3, h4, h5, h6⟩ := h
  cases h1
  refine ⟨_, _, _, rfl, by rw [List.length_drop, h2], by omega, by omega, by omega, fun h0 => ?_⟩
  obtain ⟨b, off, rfl, k2, k3⟩ := h6 (by omega)
  rw [if_neg (by omega)]
  refine ⟨b, off + q, by rw [Option.map_some, Wc.add_none], k2, fun i hi => ?_⟩
  rw [Nat.add_assoc, k3 (q + i) (by omega)]
  simp [List.getD_eq_getElem?_getD, List.getElem?_drop]
theorem in_take {w : World} {a : Option Addr} {n cap : Nat} {xs : List Int} (h : Wd.In w (.slice a n cap) xs) (q : Nat) (hq : q ≤ n) : Wd.In w (.slice a q cap) (xs.take q) := by
  obtain ⟨a', n', c', h1, h2, h3, h4, h5, h6⟩ := h
  cases h1
  refine ⟨_, _, _, rfl, by rw [List.length_take, h2]; omega, by omega, by omega, by omega, fun h0 => ?_⟩
  obtain ⟨b, off, rfl, k2, k3⟩ := h6 (by omega)
  refine ⟨b, off, rfl, k2, fun i hi => ?_⟩
  rw [k3 i (by omega)]
  simp [List.getD_eq_getElem?_getD, hi]

/-- What takeTree does. -/
def TtPost (xs : List Int) (w0 : World) (g m : Nat) (U : Nat → Int) (t : Int × Int) : Ending → World → Prop := fun e w' =>
  e = .returned (.bool (Wi.trB xs U t)) ∧ Below w0.heap.size w0 w' ∧ (Wi.trB xs U t = true → w'.rowIs g 3 m (fun j => .int .i64 (Wi.trU xs U t j)))

set_option maxHeartbeats 3200000 in
theorem taketree_any (w0 w : World) (g m size : Nat) (U : Nat → Int) (v : Value) (xs : List Int) (root : Int) (hv : Wc.Bs w0 v xs) (hd : Wd.devB xs.length = true) (hmx : xs.length / 64 = m) (hs : size ≤ 512) (hb : Below w0.heap.size w0 w) (hg : w0.heap.size ≤ g) (hU : w.rowIs g 3 m (fun j => .int .i64 (U j))) (hgl : g < w.heap.size) :
    Calls Tryz.prog 75 #[.slice (some ⟨g, 0, none⟩) m m, v, .int .i64 root, .int .i64 (size : Int)] w (TtPost xs w0 g m U (root, (size : Int))) := by
  have hm : m ≤ 100000 := by have := Wd.devB_iff.1 hd; omega
  have HV := Wc.hid hv
  have HD := Wc.hid hd
  have HMX := Wc.hid hmx
  have HB := Wc.hid hb
  have HG := Wc.hid hg
  have HU := Wc.hid hU
  have HGL := Wc.hid hgl
  clear hv hd hmx hb hg hU hgl
  go_enter Tryz.func75, Tryz.ntmps75
  go_wp2_with fail
  refine (map_any v xs root _ (HV.out.keep HB.out)).mono ?_
  rintro e w1 ⟨a, n, c, rfl, h1, hb1, hy1⟩
  cases hz : (Wt.tre xs root).isSome
  · have hE : Wt.treE xs root = 6 := by unfold Wt.treE; rw [if_pos HD.out, hz]; rfl
    rw [hE]
    have HF : Hid (Wi.trB xs U (root, (size : Int)) = false) := Wc.hid (by unfold Wi.trB Wi.szB; rw [hz]; rfl)
    have HB1 := Wc.hid (Wc.step HB.out (Nat.le_refl _) hb1)
    clear hE hz h1 hb1 hy1
    go_wp2_with fail
    go_ret
    exact ⟨ret_bool HF.out.symm, HB1.out, fun h => by rw [HF.out] at h; cases h⟩
  · have hE : Wt.treE xs root = 0 := by unfold Wt.treE; rw [if_pos HD.out, hz]; rfl
    rw [hE]
    have HZ := Wc.hid hz
    have HE := Wc.hid hE
    have hlen := Wt.treS_len hE
    have hn : n = 512 := by rw [← Wv.rv_len h1]; exact hlen
    subst hn
    have hcap : 512 ≤ c := by obtain ⟨_, _, _, e1, _, e3, _⟩ := h1; cases e1; exact e3
    have HB1 := Wc.hid (Wc.step HB.out (Nat.le_refl _) hb1)
    have HU1 := Wc.hid (row_keep HU.out hb1)
    have HGL1 := Wc.hid (Nat.lt_of_lt_of_le HGL.out hb1.size)
    have HY1 := Wc.hid (fun b o (e : a = some ⟨b, o, none⟩) => show ¬ b = g by
      have := hy1 ⟨b, o, none⟩ 512 c (by rw [e])
      have := HGL.out
      simp at *; omega)
    have H1 := Wc.hid h1
    have s1 := slice_ints a 512 c size hs
    have s2 := slice_intsTo a 512 c size hs hcap
    have D1 := Wc.hid (in_drop h1 size hs)
    obtain ⟨a1, ha1⟩ : ∃ a1, (if c = size then a else a.map (·.add size)) = a1 := ⟨_, rfl⟩
    rw [ha1] at s1 D1
    clear ha1 hz hE h1 hb1 hy1 hlen
    go_wp2_with fail
    refine (nodes_any v xs root _ (HV.out.keep HB1.out)).mono ?_
    rintro e w2 ⟨b, bn, bc, rfl, h2, hb2, hy2⟩
    rw [HE.out]
    have HB2 := Wc.hid (Wc.step HB1.out (Nat.le_refl _) hb2)
    have HU2 := Wc.hid (row_keep HU1.out hb2)
    have H12 := Wc.hid (H1.out.keep hb2)
    have D2 := Wc.hid (D1.out.keep hb2)
    have HY2 := Wc.hid (fun b' o (e : b = some ⟨b', o, none⟩) => show ¬ b' = g by
      have := hy2 ⟨b', o, none⟩ bn bc (by rw [e])
      have := HGL1.out
      simp at *; omega)
    have H2 := Wc.hid h2
    clear h2 hb2 hy2
    obtain ⟨q, hq⟩ : ∃ q, ((Wt.treS xs root).drop size).all (· == 0) = q := ⟨_, rfl⟩
    have HQ := Wc.hid hq
    obtain ⟨o1, ho1⟩ : ∃ o1, Wi.okT U 2 (Wt.treN xs root) = o1 := ⟨_, rfl⟩
    have HO1 := Wc.hid ho1
    obtain ⟨o2, ho2⟩ : ∃ o2, Wi.okT (Wi.upT U 2 (Wt.treN xs root)) 3 ((Wt.treS xs root).take size) = o2 := ⟨_, rfl⟩
    have HO2 := Wc.hid ho2
    have HT : Hid (Wi.trB xs U (root, (size : Int)) = (q && (o1 && o2))) := Wc.hid (by
      unfold Wi.trB Wi.szB
      simp only [Int.toNat_natCast]
      rw [HZ.out, hq, ho1, ho2]; rfl)
    clear hq ho1 ho2
    go_wp2_with fail
    refine (containsb_any a1 _ _ _ _ D2.out).mono ?_
    rintro e w3 ⟨rfl, rfl⟩
    rw [HQ.out]
    cases q
    · go_wp2_with fail
      go_ret
      have := HT.out
      exact ⟨ret_bool this.symm, HB2.out, fun h => by rw [this] at h; cases h⟩
    · go_wp2_with fail
      refine (take_any g m U b bn bc (Wt.treN xs root) 2 _ hm HU2.out H2.out (fun _ => HY2.out) (fun p hp => by have := Wi.treN_bounds xs root p hp; rw [HMX.out] at this; omega)).mono ?_
      rintro e w4 ⟨rfl, hb4, hU4⟩
      rw [HO1.out]
      have HB4 := Wc.hid (HB2.out.trans (hb4.1.mono HG.out))
      have HU4 := Wc.hid hU4
      have H4 := Wc.hid (Wi.in_but H12.out hb4 (fun _ => HY1.out))
      clear hb4 hU4
      cases o1
      · go_wp2_with fail
        go_ret
        have := HT.out
        exact ⟨ret_bool this.symm, HB4.out, fun h => by rw [this] at h; cases h⟩
      · go_wp2_with fail
        refine (take_any g m (Wi.upT U 2 (Wt.treN xs root)) a size c ((Wt.treS xs root).take size) 3 _ hm (HU4.out HO1.out) (in_take H4.out size hs) (fun _ => HY1.out) (fun p hp => by
          have := Wi.treS_bounds xs root p (List.mem_of_mem_take hp); rw [HMX.out] at this
          have := Wd.devB_iff.1 HD.out
          have := HMX.out
          omega)).mono ?_
        rintro e w5 ⟨rfl, hb5, hU5⟩
        rw [HO2.out]
        have HB5 := Wc.hid (HB4.out.trans (hb5.1.mono HG.out))
        have HU5 := Wc.hid hU5
        clear hb5 hU5
        go_wp2_with fail
        go_ret
        have h6 := HT.out
        refine ⟨ret_bool h6.symm, HB5.out, fun h => ?_⟩
        rw [h6] at h
        have h7 := HU5.out (by rw [HO2.out]; simpa using h)
        unfold Wi.trU
        simpa only [Int.toNat_natCast] using h7

end Go.Proofs.YtfflhiajbioheaaGreat
namespace Go.Proofs.YtfflhiajbioheaaGreat
open Go.RowKit

theorem sndU_cons {xs : List Int} {U : Nat → Int} {t : Int × Int} {L : List (Int × Int)} : Wi.sndU xs U (t :: L) = (Wi.trB xs U t && Wi.sndU xs (Wi.trU xs U t) L) := rfl
theorem drop_cons {l : List Wr.Rec} {k : Nat} (h : k < l.length) : l.drop k = l.getD k Wr.r0 :: l.drop (k + 1) := by
  rw [List.drop_eq_getElem_cons h]; simp [h]
theorem okT_first (b : List Int) : Wi.okT Wi.u0 1 b = true := Wi.okT_iff.2 fun _ _ _ => .inl rfl

set_option maxRecDepth 100000 in
set_option maxHeartbeats 6400000 in
theorem sound_any (v : Value) (xs b : List Int) (s : Ws.Sup) (a a' : Option Addr) (n c n' c' : Nat) (w : World) (hv : Wc.Bs w v xs) (hd : Wd.devB xs.length = true) (hs : Ws.supB s = true) (hsb : s.blocks = ((xs.length / 64 : Nat) : Int))
   (hl : Wi.Rs w (.slice a n c) (b.map (Wi.recAt xs))) (hp : Wd.In w (.slice a' n' c') b) (hI : Wi.Iv xs b) :
    Calls Tryz.prog 54 #[v, sv s, .slice a n c, .slice a' n' c'] w fun e w' => e = .returned (.bool (Wi.sndB xs s b)) ∧ Below w.heap.size w w' := by
  have hsz := (Ws.supB_iff.1 hs).2.2.1
  obtain ⟨gen, blocks, root, size, first⟩ := s
  obtain ⟨m, hm⟩ : ∃ m : Nat, xs.length / 64 = m := ⟨_, rfl⟩
  rw [hm] at hsb
  simp only at hsb hsz
  subst hsb
  obtain ⟨sz, rfl⟩ : ∃ sz : Nat, size = sz := ⟨size.toNat, by omega⟩
  have hszN : sz ≤ 512 := by omega
  have hmb : m ≤ 4096 := by have := Wd.devB_iff.1 hd; omega
  have hmk := run_make_row' (P := Tryz.prog) 102 3 (.int .i64 0) 8 Tryz.underlying102 Tryz.infoI rfl .i64 .i64 m (by omega) (by omega)
  have b1 : Below w.heap.size w (w.alloc (.cells #[.int .i64 gen, .int .i64 (m : Int), .int .i64 root, .int .i64 (sz : Int), .int .i64 first] 23)) := (Below.refl _ _).alloc (Nat.le_refl _) _
  have S1 := Sh.new w ⟨gen, m, root, sz, first⟩
  have ⟨c0, c1, c2, c3, c4⟩ := S1.sc
  have b2 : Below (w.alloc (.cells #[.int .i64 gen, .int .i64 (m : Int), .int .i64 root, .int .i64 (sz : Int), .int .i64 first] 23)).heap.size (w.alloc (.cells #[.int .i64 gen, .int .i64 (m : Int), .int .i64 root, .int .i64 (sz : Int), .int .i64 first] 23)) ((w.alloc (.cells #[.int .i64 gen, .int .i64 (m : Int), .int .i64 root, .int .i64 (sz : Int), .int .i64 first] 23)).alloc (.cells (madeCells #[.int .i64 0] m) 3)) := (Below.refl _ _).alloc (Nat.le_refl _) _
  have S2 := Wc.hid (S1.keep b2)
  have R2 := World.rowIs_made (w.alloc (.cells #[.int .i64 gen, .int .i64 (m : Int), .int .i64 root, .int .i64 (sz : Int), .int .i64 first] 23)) (.int .i64 0) m 3
  rw [show (w.alloc (.cells #[.int .i64 gen, .int .i64 (m : Int), .int .i64 root, .int .i64 (sz : Int), .int .i64 first] 23)).heap.size = w.heap.size + 1 by simp] at R2
  have B2 := Wc.hid (Wc.step b1 (Nat.le_refl _) b2)
  have HR2 := Wc.hid R2
  have HV := Wc.hid hv
  have HD := Wc.hid hd
  have HM := Wc.hid hm
  have HL := Wc.hid hl
  have HP := Wc.hid hp
  have HI := Wc.hid hI
  have HGS : Hid (w.heap.size + 1 < ((w.alloc (.cells #[.int .i64 gen, .int .i64 (m : Int), .int .i64 root, .int .i64 (sz : Int), .int .i64 first] 23)).alloc (.cells (madeCells #[.int .i64 0] m) 3)).heap.size) := Wc.hid (by simp)
  have HBD : Hid (∀ p ∈ b, 0 ≤ p ∧ p < (m : Int)) := Wc.hid fun p hp => by
    have := Wi.recOk_in (hI.2.2 p hp)
    rw [hm] at this
    omega
  have HNE : Hid (0 < n' → ∀ b o, a' = some ⟨b, o, none⟩ → ¬ b = w.heap.size + 1) := Wc.hid (by
    intro h0 b' o e
    obtain ⟨_, _, _, e1, e2, _, _, _, e6⟩ := hp
    cases e1
    obtain ⟨b2, o2, k1, k2, -⟩ := e6 h0
    rw [e] at k1
    cases k1
    omega)
  have HS : Hid (Wi.sndB xs ⟨gen, m, root, sz, first⟩ b = (Wi.trB xs (Wi.upT Wi.u0 1 b) (root, (sz : Int)) && Wi.sndU xs (Wi.trU xs (Wi.upT Wi.u0 1 b) (root, (sz : Int))) ((b.map (Wi.recAt xs)).map fun r => (r.root, r.size)))) := Wc.hid rfl
  clear hv hd hm hl hp hI b1 b2 S1 R2 hs hsz
  unfold sv
  go_enter Tryz.func54, Tryz.ntmps54
  go_wp2_with fail
  refine (take_any (w.heap.size + 1) m Wi.u0 a' n' c' b 1 _ (by omega) HR2.out (HP.out.keep B2.out) HNE.out HBD.out).mono ?_
  rintro e w3 ⟨rfl, hb3, hU3⟩
  rw [okT_first b]
  have HB3 := Wc.hid (B2.out.trans (hb3.1.mono (show w.heap.size ≤ w.heap.size + 1 by omega)))
  have HU3 := Wc.hid (hU3 (okT_first b))
  have S3 : Sh w3 w.heap.size ⟨gen, m, root, sz, first⟩ := by
    have h1 := S2.out
    unfold Sh at h1 ⊢
    rw [hb3.1.block w.heap.size (by omega)]
    exact h1
  have HS3 := Wc.hid S3
  have HG3 := Wc.hid (Nat.lt_of_lt_of_le HGS.out hb3.1.size)
  have ⟨e0, e1, e2, e3, e4⟩ := S3.sc
  clear hb3 hU3 S3 c0 c1 c2 c3 c4 hmk
  obtain ⟨q, hq⟩ : ∃ q, Wi.trB xs (Wi.upT Wi.u0 1 b) (root, (sz : Int)) = q := ⟨_, rfl⟩
  have HQ := Wc.hid hq
  clear hq
  go_wp2_with fail
  refine (taketree_any w _ (w.heap.size + 1) m sz (Wi.upT Wi.u0 1 b) v xs root HV.out HD.out HM.out hszN HB3.out (by omega) HU3.out HG3.out).mono ?_
  rintro e w4 ⟨rfl, hb4, hU4⟩
  rw [HQ.out]
  have HB4 := Wc.hid hb4
  cases q
  · clear hb4 hU4
    go_wp2_with fail
    go_ret
    exact ⟨ret_bool (by rw [HS.out, HQ.out]; rfl), HB4.out⟩
  · have HU4 := Wc.hid (hU4 HQ.out)
    have HS4 : Hid (Wi.sndU xs (Wi.trU xs (Wi.upT Wi.u0 1 b) (root, (sz : Int))) ((b.map (Wi.recAt xs)).map fun r => (r.root, r.size)) = Wi.sndB xs ⟨gen, m, root, sz, first⟩ b) := Wc.hid (by rw [HS.out, HQ.out]; rfl)
    have HG4 : Hid (w.heap.size + 1 < w4.heap.size) := Wc.hid (by
      obtain ⟨cs, hcs, -⟩ := HU4.out
      exact (Array.getElem?_eq_some_iff.1 hcs).1)
    obtain ⟨_, _, _, h1, hll, hlc, hlc2, hln, hpos⟩ := HL.out
    cases h1
    have HPS := Wc.hid hpos
    have HLL := Wc.hid hll
    clear hb4 hU4 hpos hll e0 e1 e2 e3 e4
    go_wp2_with fail
    go_loopw [31] (fun i wr => ∃ (k : Nat) (U : Nat → Int), i = .int .i64 k ∧ k ≤ n ∧ Hid (Below w.heap.size w wr) ∧ Hid (wr.rowIs (w.heap.size + 1) 3 m (fun j => .int .i64 (U j))) ∧ Hid (w.heap.size + 1 < wr.heap.size) ∧ Hid (Wi.sndU xs U (((b.map (Wi.recAt xs)).drop k).map fun r => (r.root, r.size)) = Wi.sndB xs ⟨gen, m, root, sz, first⟩ b)) (fun i _ => n - (intOf i).toNat)
    case atStart => exact ⟨0, _, rfl, by omega, HB4, HU4, HG4, HS4⟩
    case round =>
      obtain ⟨k, U, rfl, hk, RB, RU, RG, RS⟩ := hrel
      by_cases hlt : k < n
      · obtain ⟨g, off, rfl, hblt, hcs⟩ := HPS.out (by omega)
        have hx := (hcs k hlt).keep RB.out
        have hkl : k < (b.map (Wi.recAt xs)).length := by rw [HLL.out]; exact hlt
        have HC := Wc.hid (drop_cons hkl)
        have hrs : 0 ≤ ((b.map (Wi.recAt xs)).getD k Wr.r0).size ∧ ((b.map (Wi.recAt xs)).getD k Wr.r0).size ≤ 512 := by
          have hkb : k < b.length := by simpa using hkl
          rw [show (b.map (Wi.recAt xs)).getD k Wr.r0 = Wi.recAt xs b[k] by simp [hkb]]
          exact Wi.rec_size (Wi.recOk_in (HI.out.2.2 _ (List.getElem_mem hkb))).2.2.2
        obtain ⟨x, hxe⟩ : ∃ x, (b.map (Wi.recAt xs)).getD k Wr.r0 = x := ⟨_, rfl⟩
        rw [hxe] at hx HC hrs
        obtain ⟨x0, x1, x2, ro, si, x5, x6, x7⟩ := x
        simp only at hrs
        obtain ⟨z, rfl⟩ : ∃ z : Nat, si = z := ⟨si.toNat, by omega⟩
        have hz512 : z ≤ 512 := by omega
        have ⟨d0, d1, d2, d3, d4, d5, d6, d7⟩ := hx
        have ⟨f0, f1, f2, f3, f4, f5, f6, f7⟩ := (Rh.new wr ⟨x0, x1, x2, ro, z, x5, x6, x7⟩).rc
        have bA : Below wr.heap.size wr (wr.alloc (.cells #[.int .i64 x0, .int .i64 x1, .int .i64 x2, .int .i64 ro, .int .i64 (z : Int), .int .i64 x5, .int .i64 x6, .int .i64 x7] 39)) := (Below.refl _ _).alloc (Nat.le_refl _) _
        have HBA := Wc.hid (Wc.step RB.out (Nat.le_refl _) bA)
        have HUA := Wc.hid (row_keep RU.out bA)
        have HGA := Wc.hid (Nat.lt_of_lt_of_le RG.out bA.size)
        clear hcs hx hkl hrs hxe bA
        obtain ⟨q, hq⟩ : ∃ q, Wi.trB xs U (ro, (z : Int)) = q := ⟨_, rfl⟩
        have HQ2 := Wc.hid hq
        clear hq
        simp only at d0 d1 d2 d3 d4 d5 d6 d7 f0 f1 f2 f3 f4 f5 f6 f7
        go_wp2_with fail
        refine (taketree_any w _ (w.heap.size + 1) m z U v xs ro HV.out HD.out HM.out hz512 HBA.out (by omega) HUA.out HGA.out).mono ?_
        rintro e w5 ⟨rfl, hb5, hU5⟩
        rw [HQ2.out]
        have HB5 := Wc.hid hb5
        cases q
        · clear hb5 hU5
          go_wp2_with fail
          go_ret
          refine ⟨ret_bool ?_, HB5.out⟩
          rw [← RS.out, HC.out, List.map_cons, sndU_cons, HQ2.out]; rfl
        · have HU5 := Wc.hid (hU5 HQ2.out)
          have HG5 : Hid (w.heap.size + 1 < w5.heap.size) := Wc.hid (by
            obtain ⟨cs, hcs, -⟩ := HU5.out
            exact (Array.getElem?_eq_some_iff.1 hcs).1)
          clear hb5 hU5
          go_wp2_with fail
          go_roundw
          case rel =>
            refine ⟨k + 1, _, by go_num, by omega, HB5, HU5, HG5, Wc.hid ?_⟩
            rw [← RS.out, HC.out, List.map_cons, sndU_cons, HQ2.out]; rfl
          case measure => simp [intOf]; omega
      · go_wp2_with fail
        go_ret
        refine ⟨ret_bool ?_, RB.out⟩
        rw [← RS.out, List.drop_of_length_le (by rw [HLL.out]; omega)]; rfl

end Go.Proofs.YtfflhiajbioheaaGreat
namespace Go.Proofs.YtfflhiajbioheaaGreat
open Go.RowKit

/-- A state as a value. -/
def stv (s : Ws.Sup) (t : Int) (v : Value) : Value := .agg #[.int .i64 s.gen, .int .i64 s.blocks, .int .i64 s.root, .int .i64 s.size, .int .i64 s.first, .int .i64 t, v]
/-- The block B is a state's own cells. -/
def Zh (w : World) (B : Nat) (s : Ws.Sup) (t : Int) (v : Value) : Prop := w.heap[B]? = some (.cells #[.int .i64 s.gen, .int .i64 s.blocks, .int .i64 s.root, .int .i64 s.size, .int .i64 s.first, .int .i64 t, v] 26 (0, 0))
theorem Zh.new (w : World) (s : Ws.Sup) (t : Int) (v : Value) : Zh (w.alloc (.cells #[.int .i64 s.gen, .int .i64 s.blocks, .int .i64 s.root, .int .i64 s.size, .int .i64 s.first, .int .i64 t, v] 26)) w.heap.size s t v := by
  show (w.heap.push _)[w.heap.size]? = _; simp
theorem Zh.lt {w : World} {B : Nat} {s : Ws.Sup} {t : Int} {v : Value} (h : Zh w B s t v) : B < w.heap.size := (Array.getElem?_eq_some_iff.1 h).1
theorem Zh.keep {w w' : World} {B : Nat} {s : Ws.Sup} {t : Int} {v : Value} (h : Zh w B s t v) (hb : Below w.heap.size w w') : Zh w' B s t v := by
  unfold Zh; rw [hb.block B h.lt]; exact h
theorem Zh.frozen {w : World} {B : Nat} {s : Ws.Sup} {t : Int} {v : Value} (h : Zh w B s t v) (i : Nat) : w.frozen? ⟨B, i, none⟩ = false := by
  simp [World.frozen?, show w.heap[B]? = _ from h]
def Zc (w : World) (B : Nat) (s : Ws.Sup) (t : Int) (v : Value) : Prop :=
  w.cell? ⟨B, 0, none⟩ = some (.int .i64 s.gen) ∧ w.cell? ⟨B, 1, none⟩ = some (.int .i64 s.blocks) ∧ w.cell? ⟨B, 2, none⟩ = some (.int .i64 s.root) ∧ w.cell? ⟨B, 3, none⟩ = some (.int .i64 s.size) ∧ w.cell? ⟨B, 4, none⟩ = some (.int .i64 s.first) ∧
  w.cell? ⟨B, 5, none⟩ = some (.int .i64 t) ∧ w.cell? ⟨B, 6, none⟩ = some v
theorem Zh.zc {w : World} {B : Nat} {s : Ws.Sup} {t : Int} {v : Value} (h : Zh w B s t v) : Zc w B s t v := by
  have e : w.heap[B]? = _ := h
  refine ⟨?_, ?_, ?_, ?_, ?_, ?_, ?_⟩ <;> simp [World.cell?, e]
theorem Zh.over {w : World} {B : Nat} {s : Ws.Sup} {t : Int} {v : Value} (h : Zh w B s t v) (s' : Ws.Sup) (t' : Int) (v' : Value) :
    Zh (((((((w.setCell ⟨B, 0, none⟩ (.int .i64 s'.gen)).setCell ⟨B, 1, none⟩ (.int .i64 s'.blocks)).setCell ⟨B, 2, none⟩ (.int .i64 s'.root)).setCell ⟨B, 3, none⟩ (.int .i64 s'.size)).setCell ⟨B, 4, none⟩ (.int .i64 s'.first)).setCell ⟨B, 5, none⟩ (.int .i64 t')).setCell ⟨B, 6, none⟩ v') B s' t' v' := by
  have h0 := heap_setCell_same w B 0 _ 26 (.int .i64 s'.gen) h
  have h1 := heap_setCell_same _ B 1 _ 26 (.int .i64 s'.blocks) h0
  have h2 := heap_setCell_same _ B 2 _ 26 (.int .i64 s'.root) h1
  have h3 := heap_setCell_same _ B 3 _ 26 (.int .i64 s'.size) h2
  have h4 := heap_setCell_same _ B 4 _ 26 (.int .i64 s'.first) h3
  have h5 := heap_setCell_same _ B 5 _ 26 (.int .i64 t') h4
  have h6 := heap_setCell_same _ B 6 _ 26 v' h5
  unfold Zh
  simpa using h6
theorem below7 {B0 B : Nat} {a w : World} (h : Below B0 a w) (hB : B0 ≤ B) (s : Ws.Sup) (t : Int) (v : Value) :
    Below B0 a (((((((w.setCell ⟨B, 0, none⟩ (.int .i64 s.gen)).setCell ⟨B, 1, none⟩ (.int .i64 s.blocks)).setCell ⟨B, 2, none⟩ (.int .i64 s.root)).setCell ⟨B, 3, none⟩ (.int .i64 s.size)).setCell ⟨B, 4, none⟩ (.int .i64 s.first)).setCell ⟨B, 5, none⟩ (.int .i64 t)).setCell ⟨B, 6, none⟩ v) :=
  ((((((h.setCell (p := ⟨B, 0, none⟩) hB _).setCell (p := ⟨B, 1, none⟩) hB _).setCell (p := ⟨B, 2, none⟩) hB _).setCell (p := ⟨B, 3, none⟩) hB _).setCell (p := ⟨B, 4, none⟩) hB _).setCell (p := ⟨B, 5, none⟩) hB _).setCell (p := ⟨B, 6, none⟩) hB _
theorem ret_cell27 {fn : Func} {tmps : Array Value} {w : World} {B : Nat} {s : Ws.Sup} {t : Int} {a : Option Addr} {n c : Nat} {v : Value} (hr : fn.results = #[.cell 2 26, .tmp 3]) (hp : tmps.getD 2 undef = .pointer (some ⟨B, 0, none⟩)) (hv : tmps.getD 3 undef = v) (h : Zc w B s t (.slice a n c)) :
    (results fn tmps).run Tryz.prog w = .ok (.tuple #[stv s t (.slice a n c), v]) w := by
  obtain ⟨c0, c1, c2, c3, c4, c5, c6⟩ := h
  rw [results_cell_tmp hr, hp, hv]
  simp [go_sem, c0, c1, c2, c3, c4, c5, c6, stv]
/-- Records stay where a block is written that holds none of them. -/
theorem rs_set {w : World} {v : Value} {l : List Wr.Rec} {B : Nat} (h : Wi.Rs w v l) (hB : ∀ b o n c, v = .slice (some ⟨b, o, none⟩) n c → 0 < n → ¬ b = B) (o : Nat) (u : Value) : Wi.Rs (w.setCell ⟨B, o, none⟩ u) v l := by
  obtain ⟨a, n, cap, rfl, h2, h3, h4, h5, h6⟩ := h
  refine ⟨a, n, cap, rfl, h2, h3, h4, h5, fun hn => ?_⟩
  obtain ⟨b, off, rfl, k2, k3⟩ := h6 hn
  have hne := hB b off n cap rfl hn
  have hc : ∀ i, (w.setCell ⟨B, o, none⟩ u).cell? ⟨b, i, none⟩ = w.cell? ⟨b, i, none⟩ := fun i => World.cell?_of_block (a := ⟨b, i, none⟩) (heap_setCell_other _ _ _ _ hne)
  refine ⟨b, off, rfl, by have := ((Below.refl 0 w).setCell (p := ⟨B, o, none⟩) (Nat.zero_le _) u).size; omega, fun i hi => ?_⟩
  obtain ⟨r0, r1, r2, r3, r4, r5, r6, r7⟩ := k3 i hi
  exact ⟨(hc _).trans r0, (hc _).trans r1, (hc _).trans r2, (hc _).trans r3, (hc _).trans r4, (hc _).trans r5, (hc _).trans r6, (hc _).trans r7⟩

/-- A state's cells hold no records: they are too few. -/
theorem rs_apart {w : World} {v u : Value} {l : List Wr.Rec} {B : Nat} {s : Ws.Sup} {t : Int} (h : Wi.Rs w v l) (hZ : Zh w B s t u) : ∀ b o n c, v = .slice (some ⟨b, o, none⟩) n c → 0 < n → ¬ b = B := by
  intro b o n c hv hn e
  subst e
  obtain ⟨a, n', cap, h1, h2, h3, h4, h5, h6⟩ := h
  rw [hv] at h1
  cases h1
  obtain ⟨b', off, e, k2, k3⟩ := h6 hn
  cases e
  have h7 := (k3 0 hn).2.2.2.2.2.2.2
  have hz : w.heap[b]? = _ := hZ
  simp [World.cell?, hz] at h7

/-- What is told of a superblock that is picked. -/
theorem slot_pos {n : Int} {b : List Int} (h : 0 < (Ws.slotS n b).gen) : Ws.supB (Ws.slotS n b) = true ∧ (Ws.slotS n b).blocks = n := by
  by_cases e : Ws.parE b = 0 ∧ (Ws.par b).blocks = n
  · rw [(Ws.slot_yes e).1]; exact ⟨(Ws.parE_zero e.1).2.2, e.2⟩
  · rw [Ws.slot_no e] at h; exact absurd h (by decide)
theorem pick_told {xs : List Int} (h : (pickA xs).2.2 = 0) : Wd.devB xs.length = true ∧ Ws.supB (pickA xs).1 = true ∧ (pickA xs).1.blocks = ((xs.length / 64 : Nat) : Int) ∧ ((pickA xs).2.1 = 0 ∨ (pickA xs).2.1 = 1) := by
  unfold pickA at *
  by_cases hd : Wd.devB xs.length = true
  · rw [if_pos hd] at *
    unfold Ws.pickR Ws.picks at *
    refine ⟨hd, ?_⟩
    generalize hx : Ws.slotS ((xs.length / 64 : Nat) : Int) (xs.take 64) = x at *
    generalize hy : Ws.slotS ((xs.length / 64 : Nat) : Int) ((xs.drop 64).take 64) = y at *
    by_cases c1 : (if 0 < x.gen then x else Ws.s0).gen < y.gen
    · rw [if_pos c1] at h ⊢
      have hp : 0 < y.gen := by
        by_cases e : 0 < x.gen
        · rw [if_pos e] at c1; omega
        · rw [if_neg e] at c1; exact c1
      have := slot_pos (by rw [hy]; exact hp)
      rw [hy] at this
      exact ⟨this.1, this.2, .inr rfl⟩
    · rw [if_neg c1] at h ⊢
      by_cases c2 : 0 < x.gen
      · rw [if_pos c2] at h ⊢
        have := slot_pos (by rw [hx]; exact c2)
        rw [hx] at this
        exact ⟨this.1, this.2, .inl rfl⟩
      · rw [if_neg c2] at h; cases h
  · rw [if_neg hd] at h; cases h

/-- What Open tells. -/
def opnE (xs : List Int) : Int := if (pickA xs).2.2 = 0 then (match Wi.recs xs (pickA xs).1.first with | none => 7 | some b => if Wi.sndB xs (pickA xs).1 b = true then 0 else 6) else (pickA xs).2.2
def opnS (xs : List Int) : Ws.Sup := if opnE xs = 0 then (pickA xs).1 else Ws.s0
def opnT (xs : List Int) : Int := if opnE xs = 0 then (pickA xs).2.1 else 0
def opnB (xs : List Int) : List Int := if opnE xs = 0 then Wi.recP xs (pickA xs).1.first else []
def opnL (xs : List Int) : List Wr.Rec := (opnB xs).map (Wi.recAt xs)
def OpenPost (xs : List Int) (w : World) : Ending → World → Prop := fun e w' =>
  ∃ a n c, e = .returned (.tuple #[stv (opnS xs) (opnT xs) (.slice a n c), .int .i64 (opnE xs)]) ∧ Wi.Rs w' (.slice a n c) (opnL xs) ∧ Below w.heap.size w w'
theorem opn_bad {xs : List Int} {w w' : World} {E : Int} (h : opnE xs = E) (hE : ¬ E = 0) (hb : Below w.heap.size w w') : OpenPost xs w (.returned (.tuple #[stv Ws.s0 0 (.slice none 0 0), .int .i64 E])) w' := by
  refine ⟨none, 0, 0, ?_, ?_, hb⟩
  · unfold opnS opnT; rw [if_neg (by rw [h]; exact hE), if_neg (by rw [h]; exact hE), h]
  · unfold opnL opnB; rw [if_neg (by rw [h]; exact hE)]; exact Wi.Rs.nil _
theorem opn_good {xs : List Int} (h : opnE xs = 0) : (pickA xs).2.2 = 0 ∧ opnS xs = (pickA xs).1 ∧ opnT xs = (pickA xs).2.1 ∧ Wi.recs xs (pickA xs).1.first = some (opnB xs) ∧ Wi.sndB xs (pickA xs).1 (opnB xs) = true := by
  have hp : (pickA xs).2.2 = 0 := by
    by_cases e : (pickA xs).2.2 = 0
    · exact e
    · unfold opnE at h; rw [if_neg e] at h; exact absurd h e
  refine ⟨hp, by rw [opnS, if_pos h], by rw [opnT, if_pos h], ?_⟩
  have h' := h
  unfold opnE at h'
  rw [if_pos hp] at h'
  have hd := (pick_told hp).1
  rw [opnB, if_pos h]
  cases hr : Wi.recs xs (pickA xs).1.first with
  | none => rw [hr] at h'; cases h'
  | some b =>
    rw [hr] at h'
    rw [(Wi.rec_some hd hr).2.1]
    refine ⟨rfl, ?_⟩
    by_cases e : Wi.sndB xs (pickA xs).1 b = true
    · exact e
    · simp only at h'
      rw [if_neg e] at h'; cases h'

set_option maxRecDepth 100000 in
set_option maxHeartbeats 6400000 in
theorem oopen_any (v : Value) (xs : List Int) (w : World) (hv : Wc.Bs w v xs) : Calls Tryz.prog 38 #[v] w (OpenPost xs w) := by
  obtain ⟨ai, ni, ci, rfl, -⟩ := id hv
  have b1 : Below w.heap.size w (w.alloc (.cells #[.int .i64 0, .int .i64 0, .int .i64 0, .int .i64 0, .int .i64 0, .int .i64 0, .slice none 0 0] 26)) := (Below.refl _ _).alloc (Nat.le_refl _) _
  have Z1 := Wc.hid (Zh.new w Ws.s0 0 (.slice none 0 0))
  have V0 := Wc.hid hv
  have V1 := Wc.hid (hv.keep b1)
  have B1 := Wc.hid b1
  clear hv b1
  obtain ⟨s, hs⟩ : ∃ s, (pickA xs).1 = s := ⟨_, rfl⟩
  obtain ⟨t, ht⟩ : ∃ t, (pickA xs).2.1 = t := ⟨_, rfl⟩
  obtain ⟨E, hE⟩ : ∃ E, (pickA xs).2.2 = E := ⟨_, rfl⟩
  have HS := Wc.hid hs
  have HT := Wc.hid ht
  have HE := Wc.hid hE
  clear hs ht hE
  go_enter Tryz.func38, Tryz.ntmps38
  go_wp2_with fail
  refine (pick_any ai ni ci xs _ V1.out).mono ?_
  rintro e w1 ⟨rfl, hb1⟩
  rw [HS.out, HT.out, HE.out]
  unfold sv
  have bA : Below w1.heap.size w1 (w1.alloc (.cells #[.int .i64 s.gen, .int .i64 s.blocks, .int .i64 s.root, .int .i64 s.size, .int .i64 s.first] 23)) := (Below.refl _ _).alloc (Nat.le_refl _) _
  have B2 := Wc.hid (Wc.step (Wc.step B1.out (Nat.le_refl _) hb1) (Nat.le_refl _) bA)
  have Z2 := Wc.hid ((Z1.out.keep hb1).keep bA)
  have S2 := Wc.hid (Sh.new w1 s)
  have ⟨c0, c1, c2, c3, c4⟩ := S2.out.sc
  have ⟨z0, z1, z2, z3, z4, z5, z6⟩ := Z2.out.zc
  have zf := Z2.out.frozen
  clear hb1 bA
  by_cases h0 : E = 0
  · subst h0
    have hpk := pick_told HE.out
    rw [HS.out, HT.out] at hpk
    obtain ⟨hd, hsb, hbl, hsl⟩ := hpk
    have HD := Wc.hid hd
    have HSB := Wc.hid hsb
    have HBL := Wc.hid hbl
    clear hd hsb hbl hsl z0 z1 z2 z3 z4 z5 z6 zf
    go_wp2_with fail
    refine (records_any _ xs s.first _ (V0.out.keep B2.out)).mono ?_
    rintro e w2 ⟨a, n, c, a', n', c', rfl, hR, hP, hb2⟩
    have B3 := Wc.hid (Wc.step B2.out (Nat.le_refl _) hb2)
    have Z3 := Wc.hid (Z2.out.keep hb2)
    have S3 := Wc.hid (S2.out.keep hb2)
    have ⟨d0, d1, d2, d3, d4⟩ := S3.out.sc
    clear hb2 c0 c1 c2 c3 c4
    cases hr : Wi.recs xs s.first with
    | none =>
      have h7 := Wi.rec_none HD.out hr
      rw [h7.1]
      have HO : Hid (opnE xs = 7) := Wc.hid (by unfold opnE; rw [if_pos HE.out, HS.out, hr])
      have ⟨z0, z1, z2, z3, z4, z5, z6⟩ := Z3.out.zc
      have zf := Z3.out.frozen
      clear h7 hr hR hP
      go_wp2_with fail
      exact bodyPost_ret (ret_cell27 rfl rfl rfl (Z3.out.over Ws.s0 0 (.slice none 0 0)).zc) rfl (opn_bad HO.out (by decide) (below7 B3.out (Nat.le_refl _) Ws.s0 0 (.slice none 0 0)))
    | some b =>
      have h7 := Wi.rec_some HD.out hr
      rw [h7.1]
      rw [h7.2.2] at hR
      rw [h7.2.1] at hP
      have HR := Wc.hid hR
      have HP := Wc.hid hP
      have HI := Wc.hid (Wi.recs_told hr).2.1
      have HRR := Wc.hid hr
      have HP1 := Wc.hid h7.2.1
      clear h7 hr hR hP
      obtain ⟨q, hq⟩ : ∃ q, Wi.sndB xs s b = q := ⟨_, rfl⟩
      have HQ := Wc.hid hq
      clear hq
      go_wp2_with fail
      refine (sound_any _ xs b s a a' n c n' c' _ (V0.out.keep B3.out) HD.out HSB.out HBL.out HR.out HP.out HI.out).mono ?_
      rintro e w3 ⟨rfl, hb3⟩
      rw [HQ.out]
      have B4 := Wc.hid (Wc.step B3.out (Nat.le_refl _) hb3)
      have Z4 := Wc.hid (Z3.out.keep hb3)
      have S4 := Wc.hid (S3.out.keep hb3)
      have R4 := Wc.hid (HR.out.keep hb3)
      have ⟨f0, f1, f2, f3, f4⟩ := S4.out.sc
      have ⟨z0, z1, z2, z3, z4, z5, z6⟩ := Z4.out.zc
      have zf := Z4.out.frozen
      clear hb3 d0 d1 d2 d3 d4
      cases q
      · have HO : Hid (opnE xs = 6) := Wc.hid (by unfold opnE; rw [if_pos HE.out, HS.out, HRR.out]; simp [HQ.out])
        go_wp2_with fail
        exact bodyPost_ret (ret_cell27 rfl rfl rfl (Z4.out.over Ws.s0 0 (.slice none 0 0)).zc) rfl (opn_bad HO.out (by decide) (below7 B4.out (Nat.le_refl _) Ws.s0 0 (.slice none 0 0)))
      · have HO : Hid (opnE xs = 0) := Wc.hid (by unfold opnE; rw [if_pos HE.out, HS.out, HRR.out]; simp [HQ.out])
        go_wp2_with fail
        refine bodyPost_ret (ret_cell27 rfl rfl rfl (Z4.out.over s t (.slice a n c)).zc) rfl ⟨a, n, c, ?_, ?_, below7 B4.out (Nat.le_refl _) s t (.slice a n c)⟩
        · unfold opnS opnT
          rw [if_pos HO.out, if_pos HO.out, HS.out, HT.out, HO.out]; rfl
        · unfold opnL opnB
          rw [if_pos HO.out, HS.out, HP1.out]
          have hne := rs_apart R4.out Z4.out
          exact rs_set (rs_set (rs_set (rs_set (rs_set (rs_set (rs_set R4.out hne _ _) hne _ _) hne _ _) hne _ _) hne _ _) hne _ _) hne _ _
  · have hEb : (E != 0) = true := by simpa using h0
    have HO : Hid (opnE xs = E) := Wc.hid (by unfold opnE; rw [if_neg (by rw [HE.out]; exact h0), HE.out])
    have HN := Wc.hid h0
    clear h0
    go_wp2_with fail
    exact bodyPost_ret (ret_cell27 rfl rfl rfl (Z2.out.over Ws.s0 0 (.slice none 0 0)).zc) rfl (opn_bad HO.out HN.out (below7 B2.out (Nat.le_refl _) Ws.s0 0 (.slice none 0 0)))

end Go.Proofs.YtfflhiajbioheaaGreat
namespace Wi
open Wt
/-- A new image's superblock, a new image. -/
def newS (m : Nat) : Ws.Sup := ⟨1, m, 0, 0, 0⟩
def newI (m : Nat) : List Int := Wd.lay (List.replicate (m * 64) 0) 0 (Ws.blk (newS m))
theorem newS_ok {m : Nat} (h : 4 ≤ m) (h2 : m ≤ 4096) : Ws.supB (newS m) = true := by
  have h3 : (4 : Int) ≤ m := by omega
  have h4 : (m : Int) ≤ 4096 := by omega
  rw [Ws.supB_iff]
  exact ⟨⟨show (1 : Int) ≤ 1 by decide, show (1 : Int) ≤ 1099511627776 by decide⟩, ⟨h3, h4⟩, ⟨show (0 : Int) ≤ 0 by decide, show (0 : Int) ≤ 512 by decide⟩, .inl rfl, .inl rfl⟩
theorem newI_length {m : Nat} (h : 4 ≤ m) : (newI m).length = m * 64 := by
  unfold newI
  rw [Wd.lay_length _ _ _ (by rw [Ws.blk_length, List.length_replicate]; omega), List.length_replicate]
theorem newI_bytes (m : Nat) : ∀ x ∈ newI m, 0 ≤ x ∧ x < 256 := Wd.lay_bytes (fun x hx => by rw [List.eq_of_mem_replicate hx]; decide) (Ws.blk_bd _)
theorem newI_form {m : Nat} : newI m = Ws.blk (newS m) ++ List.replicate (m * 64 - 64) 0 := by
  unfold newI Wd.lay
  rw [List.take_zero, List.nil_append, Nat.zero_add, Ws.blk_length, List.drop_replicate]
theorem newI_zero (m : Nat) : (newI m).take 64 = Ws.blk (newS m) := by
  rw [newI_form, List.take_append_of_le_length (by rw [Ws.blk_length]; omega), List.take_of_length_le (by rw [Ws.blk_length]; omega)]
theorem newI_rest {m : Nat} (h : 4 ≤ m) : ((newI m).drop 64).take 64 = List.replicate 64 0 := by
  rw [newI_form, List.drop_append, Ws.blk_length, List.drop_eq_nil_of_le (by rw [Ws.blk_length]; omega), List.nil_append, Nat.sub_self, List.drop_zero, List.take_replicate]
  congr 1
  omega
end Wi
namespace Go.Proofs.YtfflhiajbioheaaGreat
open Go.RowKit

theorem zeros_slot2 (n : Int) : Ws.slotS n (List.replicate 64 0) = Ws.s0 := by
  refine Ws.slot_no ?_
  rintro ⟨h, -⟩
  have : Ws.parE (List.replicate 64 0) = 4 := by decide
  rw [this] at h; cases h
theorem new_pick {m : Nat} (h : 4 ≤ m) (h2 : m ≤ 4096) : pickA (Wi.newI m) = (Wi.newS m, 0, 0) := by
  have hl := Wi.newI_length h
  have hb := Ws.par_blk (Wi.newS_ok h h2)
  unfold pickA
  rw [if_pos (by rw [hl]; exact Wt.devB_b h h2)]
  unfold Ws.pickR
  rw [Wi.newI_zero, Wi.newI_rest h, zeros_slot2, hl, Nat.mul_div_cancel _ (by omega), (Ws.slot_yes (b := Ws.blk (Wi.newS m)) ⟨hb.1, by rw [hb.2]; rfl⟩).1, hb.2]
  rfl
theorem sz_zero {xs : List Int} (hd : Wd.devB xs.length = true) (U : Nat → Int) (z : Int) : Wi.trB xs U (0, z) = true := by
  have ht : Wt.tre xs 0 = some Wt.s0 := by simp [Wt.tre]
  have h3 := Wt.tre_some hd ht
  unfold Wi.trB Wi.szB
  rw [ht, h3.2.1, h3.2.2, Wi.s0_nodes, Wi.s0_sec]
  have h1 : ((List.replicate 512 (0 : Int)).drop z.toNat).all (· == 0) = true := by
    rw [List.all_eq_true]; intro x hx
    rw [List.eq_of_mem_replicate (List.mem_of_mem_drop hx)]; rfl
  have h2 : Wi.okT (Wi.upT U 2 []) 3 ((List.replicate 512 0).take z.toNat) = true := Wi.okT_iff.2 fun p hp h0 => absurd (List.eq_of_mem_replicate (List.mem_of_mem_take hp)) h0
  simp only [h1, h2]
  rfl
theorem opn_recs {xs : List Int} {s : Ws.Sup} {t : Int} {b : List Int} (hp : pickA xs = (s, t, 0)) (hr : Wi.recs xs s.first = some b) (hs : Wi.sndB xs s b = true) : opnE xs = 0 ∧ opnS xs = s ∧ opnT xs = t ∧ opnB xs = b := by
  have hE : opnE xs = 0 := by
    unfold opnE
    simp only [hp, hr, hs]
    rfl
  have hg := opn_good hE
  rw [hp] at hg
  refine ⟨hE, hg.2.1, hg.2.2.1, ?_⟩
  have := hg.2.2.2.1
  simp only at this
  rw [hr] at this
  cases this; rfl
theorem new_open {m : Nat} (h : 4 ≤ m) (h2 : m ≤ 4096) : opnE (Wi.newI m) = 0 ∧ opnS (Wi.newI m) = Wi.newS m ∧ opnT (Wi.newI m) = 0 ∧ opnB (Wi.newI m) = [] := by
  refine opn_recs (new_pick h h2) (Wi.chn_zero _ _ _) ?_
  show (Wi.trB _ _ _ && true) = true
  rw [Bool.and_true]
  exact sz_zero (by rw [Wi.newI_length h]; exact Wt.devB_b h h2) _ _
theorem zeros_open {n : Nat} (h : 4 ≤ n) (h2 : n ≤ 4096) (k : Nat) (hk : n * 64 = k) : opnE (List.replicate k 0) = 8 := by
  subst hk
  have : pickA (List.replicate (n * 64) 0) = (Ws.s0, 0, 8) := by
    unfold pickA
    rw [if_pos (by rw [List.length_replicate]; exact Wt.devB_b h h2)]
    unfold Ws.pickR
    rw [List.take_replicate, List.drop_replicate, List.take_replicate, Nat.min_eq_left (by omega), Nat.min_eq_left (by omega), zeros_slot2]
    rfl
  unfold opnE
  rw [this]
  rfl

set_option maxHeartbeats 1600000 in
theorem new_no (z : Int) (w : World) (h : ¬ (4 ≤ z ∧ z ≤ 4096)) : Calls Tryz.prog 37 #[.int .i64 z] w fun e w' => e = .returned (.tuple #[.slice none 0 0, .int .i64 2]) ∧ w = w' := by
  by_cases h4 : z < 4
  · go_enter Tryz.func37, Tryz.ntmps37
    go_wp2_with fail
    go_ret2
    exact ⟨rfl, rfl⟩
  · have h5 : 4096 < z := by omega
    clear h
    go_enter Tryz.func37, Tryz.ntmps37
    go_wp2_with fail
    go_ret2
    exact ⟨rfl, rfl⟩

set_option maxHeartbeats 1600000 in
theorem new_yes (m N : Nat) (w : World) (h : 4 ≤ m) (h2 : m ≤ 4096) (hN : m * 64 = N) :
    Calls Tryz.prog 37 #[.int .i64 (m : Int)] w fun e w' => ∃ g, e = .returned (.tuple #[.slice (some ⟨g, 0, none⟩) N N, .int .i64 0]) ∧ w.heap.size ≤ g ∧ Wc.Ob 5 w.heap.size w' (.slice (some ⟨g, 0, none⟩) N N) (Wi.newI m) ∧ Below w.heap.size w w' := by
  have eN : (m : Int) * 64 = (N : Int) := by omega
  have hN1 : 64 ≤ N := by omega
  have hN2 : N ≤ 262144 := by omega
  have hmk := makeN N (by omega)
  have HN := Wc.hid hN
  clear hN
  go_enter Tryz.func37, Tryz.ntmps37
  go_wp2_with fail
  refine (bytes6_ok (Wi.newS m) _ (Wi.newS_ok h h2)).mono ?_
  rintro e w1 ⟨g1, rfl, hg1, hR1, hb1⟩
  have bA : Below w1.heap.size w1 (w1.alloc (.cells (madeCells #[.int .u8 0] N) 5)) := (Below.refl _ _).alloc (Nat.le_refl _) _
  have hS1 := (hR1.bs (Ws.blk_length _) (Ws.blk_bd _)).keep bA
  have hO1 := (made_ob N (by omega) w1).base hb1.size
  obtain ⟨w2, hrun, hO2, hb2, -⟩ := Wd.copy_run (P := Tryz.prog) (ty := 3) (k := 0) Tryz.underlying48 Tryz.sizeU8 hO1 hS1 (by rw [Ws.blk_length]; omega)
  rw [Nat.sub_zero] at hrun
  have HB2 := Wc.hid ((Wc.step hb1 (Nat.le_refl _) bA).trans hb2)
  have HO2 := Wc.hid hO2
  have HG := Wc.hid hb1.size
  clear hR1 hb1 bA hS1 hO1 hO2 hb2
  go_wp2_with fail
  go_ret2
  refine ⟨_, rfl, HG.out, ?_, HB2.out⟩
  have := HO2.out
  rw [← HN.out] at this ⊢
  exact this

end Go.Proofs.YtfflhiajbioheaaGreat
namespace Wi
theorem fnd_none {l : List Wr.Rec} {id : Int} (h : ∀ j, j < l.length → ((l.getD j Wr.r0).id == id && (l.getD j Wr.r0).kind == 0) = false) : fnd l id = none := by
  unfold fnd
  rw [List.findIdx?_eq_none_iff]
  intro x hx
  obtain ⟨j, hj, rfl⟩ := List.getElem_of_mem hx
  have := h j hj
  rwa [show l.getD j Wr.r0 = l[j] by simp [hj]] at this
theorem fnd_some {l : List Wr.Rec} {id : Int} {k : Nat} (hk : k < l.length) (h : ∀ j, j < k → ((l.getD j Wr.r0).id == id && (l.getD j Wr.r0).kind == 0) = false) (h1 : ((l.getD k Wr.r0).id == id && (l.getD k Wr.r0).kind == 0) = true) : fnd l id = some k := by
  unfold fnd
  rw [List.findIdx?_eq_some_iff_getElem]
  refine ⟨hk, by rwa [show l.getD k Wr.r0 = l[k] by simp [hk]] at h1, fun j hj => ?_⟩
  have := h j hj
  rw [show l.getD j Wr.r0 = l[j] by simp [show j < l.length by omega]] at this
  simpa using this
/-- Are two lists of records one? -/
def recsB (l m : List Wr.Rec) : Bool := l.length == m.length && (List.range l.length).all fun i => Go.Proofs.YtfflhiajbioheaaGreat.recEq (l.getD i Wr.r0) (m.getD i Wr.r0)
theorem recsB_iff {l m : List Wr.Rec} : recsB l m = true ↔ l = m := by
  unfold recsB
  rw [Bool.and_eq_true, beq_iff_eq, List.all_eq_true]
  constructor
  · rintro ⟨h1, h2⟩
    apply List.ext_getElem h1
    intro i hi hi'
    have := h2 i (List.mem_range.2 hi)
    rw [Go.Proofs.YtfflhiajbioheaaGreat.recEq_iff] at this
    simpa [hi, hi'] using this
  · rintro rfl
    exact ⟨rfl, fun i _ => Go.Proofs.YtfflhiajbioheaaGreat.recEq_iff.2 rfl⟩
end Wi
namespace Go.Proofs.YtfflhiajbioheaaGreat
open Go.RowKit

/-- Are two states one? -/
def stEq (s s' : Ws.Sup) (t t' : Int) (l l' : List Wr.Rec) : Bool := supEq s s' && (t == t' && Wi.recsB l l')
theorem stEq_iff {s s' : Ws.Sup} {t t' : Int} {l l' : List Wr.Rec} : stEq s s' t t' l l' = true ↔ s = s' ∧ t = t' ∧ l = l' := by
  unfold stEq
  rw [Bool.and_eq_true, Bool.and_eq_true, supEq_iff, beq_iff_eq, Wi.recsB_iff]

end Go.Proofs.YtfflhiajbioheaaGreat
