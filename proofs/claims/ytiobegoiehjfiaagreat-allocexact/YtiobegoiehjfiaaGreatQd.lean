/-
  What uses.takeTree and open.sound return, for every device and every tree.
-/
import Derived.Test.YtiobegoiehjfiaaGreatQc
import Derived.Test.YtiobegoiehjfiaaGreatQb
import Derived.Test.YtiobegoiehjfiaaGreatJC
namespace Go.Proofs.YtiobegoiehjfiaaGreat
open Go.RowKit

theorem Tryz.size3 : (Tryz.prog.info? 3).map (·.size) = some 1 := by kernel_rfl

/-- A part of a slice of ints, from q on. -/
theorem slice_ints (a : Option Addr) (n cap q : Nat) (h : q ≤ n) (w : World) :
    (Instr.slice 22 (.slice a n cap) (some (.int .i64 (q : Int))) none none).run Tryz.prog w = .ok (.slice (if cap = q then a else a.map (·.add q)) (n - q) (cap - q)) w := by
  have h0 := Tryz.size3
  cases hq : Tryz.prog.info? 3 with
  | none => rw [hq] at h0; cases h0
  | some i =>
    rw [hq] at h0
    have hi : i.size = 1 := by simpa using h0
    by_cases hc : cap = q
    · simp [Instr.slice, run_underlying Tryz.underlying22, Instr.sliceBounds, run_sliceBound, sizeOf, typeInfo, hq, hi, h, hc]
    · simp [Instr.slice, run_underlying Tryz.underlying22, Instr.sliceBounds, run_sliceBound, sizeOf, typeInfo, hq, hi, h, hc]
theorem map_zero1 (a : Option Addr) : a.map (·.add (0 * 1)) = a := by cases a <;> rfl
/-- A part of a slice of ints, up to t. -/
theorem slice_intsTo (a : Option Addr) (n cap t : Nat) (h : t ≤ n) (hc : n ≤ cap) (w : World) :
    (Instr.slice 22 (.slice a n cap) none (some (.int .i64 (t : Int))) none).run Tryz.prog w = .ok (.slice a t cap) w := by
  have h0 := Tryz.size3
  have hm := map_zero1 a
  cases hq : Tryz.prog.info? 3 with
  | none => rw [hq] at h0; cases h0
  | some i =>
    have htc : t ≤ cap := by omega
    simp [Instr.slice, run_underlying Tryz.underlying22, Instr.sliceBounds, run_sliceBound, sizeOf, typeInfo, hq, htc]
    exact fun _ => by simpa using hm
theorem in_drop {w : World} {a : Option Addr} {n cap : Nat} {xs : List Int} (h : Wd.In w (.slice a n cap) xs) (q : Nat) (hq : q ≤ n) : Wd.In w (.slice (if cap = q then a else a.map (·.add q)) (n - q) (cap - q)) (xs.drop q) := by
  obtain ⟨a', n', c', h1, h2, h3, h4, h5, h6⟩ := h
  cases h1
  refine ⟨_, _, _, rfl, by rw [List.length_drop, h2], by omega, by omega, by omega, fun h0 => ?_⟩
  obtain ⟨b, off, rfl, k2, k3⟩ := h6 (by omega)
  rw [if_neg (by omega)]
  refine ⟨b, off + q, by rw [Option.map_some, Wc.add_none], k2, fun i hi => ?_⟩
  rw [Nat.add_assoc, k3 (q + i) (by omega)]
  simp [List.getD_eq_getElem?_getD, List.getElem?_drop]
theorem in_take {w : World} {a : Option Addr} {n cap : Nat} {xs : List Int} (h : Wd.In w (.slice a n cap) xs) (q : Nat) (hq : q ≤ n) : Wd.In w (.slice a q cap) (xs.take q) := by
  obtain ⟨a', n', c', h1, h2, h3, h4, h5, h6⟩ := h
  cases h1
  refine ⟨_, _, _, rfl, by rw [List.length_take, h2]; omega, by omega, by omega, by omega, fun h0 => ?_⟩
  obtain ⟨b, off, rfl, k2, k3⟩ := h6 (by omega)
  refine ⟨b, off, rfl, k2, fun i hi => ?_⟩
  rw [k3 i (by omega)]
  simp [List.getD_eq_getElem?_getD, hi]

/-- What takeTree does. -/
def TtPost (xs : List Int) (w0 : World) (g m : Nat) (U : Nat → Int) (t : Int × Int) : Ending → World → Prop := fun e w' =>
  e = .returned (.bool (Wi.trB xs U t)) ∧ Below w0.heap.size w0 w' ∧ (Wi.trB xs U t = true → w'.rowIs g 3 m (fun j => .int .i64 (Wi.trU xs U t j)))

set_option maxHeartbeats 3200000 in
theorem taketree_any (w0 w : World) (g m size : Nat) (U : Nat → Int) (v : Value) (xs : List Int) (root : Int) (hv : Wc.Bs w0 v xs) (hd : Wd.devB xs.length = true) (hmx : xs.length / 64 = m) (hs : size ≤ 512) (hb : Below w0.heap.size w0 w) (hg : w0.heap.size ≤ g) (hU : w.rowIs g 3 m (fun j => .int .i64 (U j))) (hgl : g < w.heap.size) :
    Calls Tryz.prog 60 #[.slice (some ⟨g, 0, none⟩) m m, v, .int .i64 root, .int .i64 (size : Int)] w (TtPost xs w0 g m U (root, (size : Int))) := by
  have hm : m ≤ 100000 := by have := Wd.devB_iff.1 hd; omega
  have HV := Wc.hid hv
  have HD := Wc.hid hd
  have HMX := Wc.hid hmx
  have HB := Wc.hid hb
  have HG := Wc.hid hg
  have HU := Wc.hid hU
  have HGL := Wc.hid hgl
  clear hv hd hmx hb hg hU hgl
  go_enter Tryz.func60, Tryz.ntmps60
  go_wp2_with fail
  refine (map_any v xs root _ (HV.out.keep HB.out)).mono ?_
  rintro e w1 ⟨a, n, c, rfl, h1, hb1, hy1⟩
  cases hz : (Wt.tre xs root).isSome
  · have hE : Wt.treE xs root = 6 := by unfold Wt.treE; rw [if_pos HD.out, hz]; rfl
    rw [hE]
    have HF : Hid (Wi.trB xs U (root, (size : Int)) = false) := Wc.hid (by unfold Wi.trB Wi.szB; rw [hz]; rfl)
    have HB1 := Wc.hid (Wc.step HB.out (Nat.le_refl _) hb1)
    clear hE hz h1 hb1 hy1
    go_wp2_with fail
    go_ret
    exact ⟨ret_bool HF.out.symm, HB1.out, fun h => by rw [HF.out] at h; cases h⟩
  · have hE : Wt.treE xs root = 0 := by unfold Wt.treE; rw [if_pos HD.out, hz]; rfl
    rw [hE]
    have HZ := Wc.hid hz
    have HE := Wc.hid hE
    have hlen := Wt.treS_len hE
    have hn : n = 512 := by rw [← Wv.rv_len h1]; exact hlen
    subst hn
    have hcap : 512 ≤ c := by obtain ⟨_, _, _, e1, _, e3, _⟩ := h1; cases e1; exact e3
    have HB1 := Wc.hid (Wc.step HB.out (Nat.le_refl _) hb1)
    have HU1 := Wc.hid (row_keep HU.out hb1)
    have HGL1 := Wc.hid (Nat.lt_of_lt_of_le HGL.out hb1.size)
    have HY1 := Wc.hid (fun b o (e : a = some ⟨b, o, none⟩) => show ¬ b = g by
      have := hy1 ⟨b, o, none⟩ 512 c (by rw [e])
      have := HGL.out
      simp at *; omega)
    have H1 := Wc.hid h1
    have s1 := slice_ints a 512 c size hs
    have s2 := slice_intsTo a 512 c size hs hcap
    have D1 := Wc.hid (in_drop h1 size hs)
    obtain ⟨a1, ha1⟩ : ∃ a1, (if c = size then a else a.map (·.add size)) = a1 := ⟨_, rfl⟩
    rw [ha1] at s1 D1
    clear ha1 hz hE h1 hb1 hy1 hlen
    go_wp2_with fail
    refine (nodes_any v xs root _ (HV.out.keep HB1.out)).mono ?_
    rintro e w2 ⟨b, bn, bc, rfl, h2, hb2, hy2⟩
    rw [HE.out]
    have HB2 := Wc.hid (Wc.step HB1.out (Nat.le_refl _) hb2)
    have HU2 := Wc.hid (row_keep HU1.out hb2)
    have H12 := Wc.hid (H1.out.keep hb2)
    have D2 := Wc.hid (D1.out.keep hb2)
    have HY2 := Wc.hid (fun b' o (e : b = some ⟨b', o, none⟩) => show ¬ b' = g by
      have := hy2 ⟨b', o, none⟩ bn bc (by rw [e])
      have := HGL1.out
      simp at *; omega)
    have H2 := Wc.hid h2
    clear h2 hb2 hy2
    obtain ⟨q, hq⟩ : ∃ q, ((Wt.treS xs root).drop size).all (· == 0) = q := ⟨_, rfl⟩
    have HQ := Wc.hid hq
    obtain ⟨o1, ho1⟩ : ∃ o1, Wi.okT U 2 (Wt.treN xs root) = o1 := ⟨_, rfl⟩
    have HO1 := Wc.hid ho1
    obtain ⟨o2, ho2⟩ : ∃ o2, Wi.okT (Wi.upT U 2 (Wt.treN xs root)) 3 ((Wt.treS xs root).take size) = o2 := ⟨_, rfl⟩
    have HO2 := Wc.hid ho2
    have HT : Hid (Wi.trB xs U (root, (size : Int)) = (q && (o1 && o2))) := Wc.hid (by
      unfold Wi.trB Wi.szB
      simp only [Int.toNat_natCast]
      rw [HZ.out, hq, ho1, ho2]; rfl)
    clear hq ho1 ho2
    go_wp2_with fail
    refine (containsb_any a1 _ _ _ _ D2.out).mono ?_
    rintro e w3 ⟨rfl, rfl⟩
    rw [HQ.out]
    cases q
    · go_wp2_with fail
      go_ret
      have := HT.out
      exact ⟨ret_bool this.symm, HB2.out, fun h => by rw [this] at h; cases h⟩
    · go_wp2_with fail
      refine (take_any g m U b bn bc (Wt.treN xs root) 2 _ hm HU2.out H2.out (fun _ => HY2.out) (fun p hp => by have := Wi.treN_bounds xs root p hp; rw [HMX.out] at this; omega)).mono ?_
      rintro e w4 ⟨rfl, hb4, hU4⟩
      rw [HO1.out]
      have HB4 := Wc.hid (HB2.out.trans (hb4.1.mono HG.out))
      have HU4 := Wc.hid hU4
      have H4 := Wc.hid (Wi.in_but H12.out hb4 (fun _ => HY1.out))
      clear hb4 hU4
      cases o1
      · go_wp2_with fail
        go_ret
        have := HT.out
        exact ⟨ret_bool this.symm, HB4.out, fun h => by rw [this] at h; cases h⟩
      · go_wp2_with fail
        refine (take_any g m (Wi.upT U 2 (Wt.treN xs root)) a size c ((Wt.treS xs root).take size) 3 _ hm (HU4.out HO1.out) (in_take H4.out size hs) (fun _ => HY1.out) (fun p hp => by
          have := Wi.treS_bounds xs root p (List.mem_of_mem_take hp); rw [HMX.out] at this
          have := Wd.devB_iff.1 HD.out
          have := HMX.out
          omega)).mono ?_
        rintro e w5 ⟨rfl, hb5, hU5⟩
        rw [HO2.out]
        have HB5 := Wc.hid (HB4.out.trans (hb5.1.mono HG.out))
        have HU5 := Wc.hid hU5
        clear hb5 hU5
        go_wp2_with fail
        go_ret
        have h6 := HT.out
        refine ⟨ret_bool h6.symm, HB5.out, fun h => ?_⟩
        rw [h6] at h
        have h7 := HU5.out (by rw [HO2.out]; simpa using h)
        unfold Wi.trU
        simpa only [Int.toNat_natCast] using h7

end Go.Proofs.YtiobegoiehjfiaaGreat
