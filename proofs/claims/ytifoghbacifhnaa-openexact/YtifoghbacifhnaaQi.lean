/-
  OpenFinds: what the statement's function returns.
-/
import Derived.Test.YtifoghbacifhnaaQw
import Derived.Test.YtifoghbacifhnaaJB
namespace Wi
theorem lnk_at {xs : List Int} {b : List Int} {k : Nat} {p : Int} (h : Lnk xs p (b.drop k)) (hk : k < b.length) : b.getD k 0 = p ∧ ¬ p = 0 ∧ recOk xs p = true ∧ Lnk xs (recAt xs p).next (b.drop (k + 1)) := by
  rw [List.drop_eq_getElem_cons hk] at h
  obtain ⟨h1, h2, h3, h4⟩ := h
  subst h1
  exact ⟨by simp [hk], h2, h3, h4⟩
theorem lnk_end {xs : List Int} {b : List Int} {k : Nat} {p : Int} (h : Lnk xs p (b.drop k)) (hk : b.length ≤ k) : p = 0 := by
  rw [List.drop_eq_nil_of_le hk] at h; exact h
/-- Each whole record is found by its id. -/
theorem fnd_own {l : List Wr.Rec} (h : l.Pairwise (fun x y => ¬ x.id = y.id)) {k : Nat} (hk : k < l.length) : fnd l (l.getD k Wr.r0).id = if (l.getD k Wr.r0).kind = 0 then some k else none := by
  have hne : ∀ j, j < l.length → ¬ j = k → ¬ (l.getD j Wr.r0).id = (l.getD k Wr.r0).id := by
    intro j hj e
    rw [show l.getD j Wr.r0 = l[j] by simp [hj], show l.getD k Wr.r0 = l[k] by simp [hk]]
    rw [List.pairwise_iff_getElem] at h
    by_cases hlt : j < k
    · exact h j k hj hk hlt
    · exact fun e2 => h k j hk hj (by omega) e2.symm
  by_cases hz : (l.getD k Wr.r0).kind = 0
  · rw [if_pos hz]
    refine fnd_some hk (fun j hj => ?_) (by rw [hz]; simp)
    rw [Bool.and_eq_false_iff]
    left
    simpa using hne j (by omega) (by omega)
  · rw [if_neg hz]
    refine fnd_none (fun j hj => ?_)
    by_cases e : j = k
    · subst e
      rw [Bool.and_eq_false_iff]
      right
      simpa using hz
    · rw [Bool.and_eq_false_iff]
      left
      simpa using hne j hj e
/-- Is there a whole one of that id? -/
def metB (l : List Wr.Rec) (id : Int) : Bool := l.any fun r => r.id == id && r.kind == 0
theorem fnd_met (l : List Wr.Rec) (id : Int) : (fnd l id).isSome = metB l id := by
  unfold fnd metB
  rw [List.findIdx?_isSome]
theorem metB_snoc {l : List Wr.Rec} {id : Int} {k : Nat} (h : k < l.length) : metB (l.take (k + 1)) id = (metB (l.take k) id || ((l.getD k Wr.r0).id == id && (l.getD k Wr.r0).kind == 0)) := any_snoc _ h
end Wi
namespace Go.Proofs.Ytifoghbacifhnaa
open Go.RowKit

theorem hvy_nil (n : Nat) : Wd.heavyB n [] = !decide (n ≤ 19200) := by simp [Wd.heavyB]
theorem rw_nil (w : World) : Wd.Raw w none 0 0 [] := ⟨rfl, Nat.le_refl _, by omega, fun h => by omega⟩

set_option maxRecDepth 100000 in
set_option maxHeartbeats 3200000 in
theorem openFinds_heavy (ai : Option Addr) (ni ci : Nat) (id : Int) (w : World) (hh : 19200 < ni) :
    Calls Try.prog 7 #[.slice ai ni ci, .int .i64 id] w fun e w' => e = .returned (.bool true) ∧ Below w.heap.size w w' := by
  have hv : Wd.heavyB ni [] = true := by rw [hvy_nil]; simp; omega
  go_enter Try.func7, Try.ntmps7
  go_wp2_with fail
  refine (heavy_raw _ _ _ _ _ _ [] _ (rw_nil _)).mono ?_
  rintro e w1 ⟨rfl, rfl⟩
  rw [hv]
  go_wp2_with fail
  go_ret
  exact ⟨rfl, Below.refl _ _⟩

set_option maxRecDepth 100000 in
set_option maxHeartbeats 3200000 in
theorem openFinds_none (ai : Option Addr) (ni ci : Nat) (xs : List Int) (id : Int) (w : World) (hv : Wc.Bs w (.slice ai ni ci) xs) (hn : ni ≤ 19200) (hE : ¬ opnE xs = 0) :
    Calls Try.prog 7 #[.slice ai ni ci, .int .i64 id] w fun e w' => e = .returned (.bool true) ∧ Below w.heap.size w w' := by
  have hh : Wd.heavyB ni [] = false := by rw [hvy_nil]; simp; omega
  have hS : opnS xs = Ws.s0 := by unfold opnS; rw [if_neg hE]
  have hT : opnT xs = 0 := by unfold opnT; rw [if_neg hE]
  have hL : opnL xs = [] := by unfold opnL opnB; rw [if_neg hE]; rfl
  obtain ⟨E, hEE⟩ : ∃ E, opnE xs = E := ⟨_, rfl⟩
  rw [hEE] at hE
  have hz : (E != 0) = true := by simpa using hE
  have HV := Wc.hid hv
  have HS := Wc.hid hS
  have HT := Wc.hid hT
  have HL := Wc.hid hL
  have HE := Wc.hid hEE
  clear hv hS hT hL hEE hE
  go_enter Try.func7, Try.ntmps7
  go_wp2_with fail
  refine (heavy_raw _ _ _ _ _ _ [] _ (rw_nil _)).mono ?_
  rintro e w1 ⟨rfl, rfl⟩
  rw [hh]
  go_wp2_with fail
  refine (oopen_any _ xs _ HV.out).mono ?_
  rintro e w2 ⟨a, n, c, rfl, hR, hb2⟩
  rw [HE.out, HS.out, HT.out]
  rw [HL.out] at hR
  have bA : Below w2.heap.size w2 (w2.alloc (.cells #[.int .i64 Ws.s0.gen, .int .i64 Ws.s0.blocks, .int .i64 Ws.s0.root, .int .i64 Ws.s0.size, .int .i64 Ws.s0.first, .int .i64 0, .slice a n c] 27)) := (Below.refl _ _).alloc (Nat.le_refl _) _
  have HR := Wc.hid (hR.keep bA)
  have HB := Wc.hid (Wc.step hb2 (Nat.le_refl _) bA)
  have ⟨z0, z1, z2, z3, z4, z5, z6⟩ := (Zh.new w2 Ws.s0 0 (.slice a n c)).zc
  clear hR hb2 bA
  unfold stv
  go_wp2_with fail
  refine (kstate_any Ws.s0 Ws.s0 0 0 a none n c 0 0 [] [] _ HR.out (Wi.Rs.nil _)).mono ?_
  rintro e w3 ⟨rfl, hb3⟩
  rw [show stEq Ws.s0 Ws.s0 0 0 [] [] = true from stEq_iff.2 ⟨rfl, rfl, rfl⟩]
  have HB3 := Wc.hid (Wc.step HB.out (Nat.le_refl _) hb3)
  clear hb3 z0 z1 z2 z3 z4 z5 z6
  go_wp2_with fail
  refine (wakes_any _).mono ?_
  rintro e w4 ⟨rfl, hb4⟩
  have HB4 := Wc.hid (Wc.step HB3.out (Nat.le_refl _) hb4)
  clear hb4
  go_wp2_with fail
  go_ret
  exact ⟨rfl, HB4.out⟩

set_option maxRecDepth 100000 in
set_option maxHeartbeats 12800000 in
theorem openFinds_some (ai : Option Addr) (ni ci : Nat) (xs : List Int) (id : Int) (w : World) (hv : Wc.Bs w (.slice ai ni ci) xs) (hn : ni ≤ 19200) (hE : opnE xs = 0) :
    Calls Try.prog 7 #[.slice ai ni ci, .int .i64 id] w fun e w' => e = .returned (.bool true) ∧ Below w.heap.size w w' := by
  have hh : Wd.heavyB ni [] = false := by rw [hvy_nil]; simp; omega
  obtain ⟨hp, hS, hT, hr, hs⟩ := opn_good hE
  obtain ⟨hd, hsb, hbl, hsl⟩ := pick_told hp
  have hnl : xs.length = ni := Wc.bs_len hv
  obtain ⟨s, hse⟩ : ∃ s, (pickA xs).1 = s := ⟨_, rfl⟩
  obtain ⟨t, hte⟩ : ∃ t, (pickA xs).2.1 = t := ⟨_, rfl⟩
  obtain ⟨B, hBe⟩ : ∃ B, opnB xs = B := ⟨_, rfl⟩
  have hLe : opnL xs = B.map (Wi.recAt xs) := by unfold opnL; rw [hBe]
  rw [hse] at hS hr hs hsb hbl
  rw [hte] at hT
  rw [hBe] at hr hs
  have hrr := Wi.rec_some hd hr
  obtain ⟨hlk, hI, hpw, -⟩ := Wi.recs_told hr
  obtain ⟨m, hm⟩ : ∃ m : Nat, ni / 64 = m := ⟨_, rfl⟩
  have hmx : xs.length / 64 = m := by rw [hnl]; exact hm
  have hd0 : Wd.devB ni = true := by rw [← hnl]; exact hd
  obtain ⟨N, hN⟩ : ∃ N, B.length = N := ⟨_, rfl⟩
  have hN61 : N ≤ 61 := by rw [← hN]; exact hI.len
  obtain ⟨L, hL⟩ : ∃ L, B.map (Wi.recAt xs) = L := ⟨_, rfl⟩
  rw [hL] at hLe hrr hpw
  have hLl : L.length = N := by rw [← hL]; simpa using hN
  have HE := Wc.hid hE
  have HP := Wc.hid hp
  have HSE := Wc.hid hse
  have HTE := Wc.hid hte
  have HS := Wc.hid hS
  have HT := Wc.hid hT
  have HLE := Wc.hid hLe
  have HRR := Wc.hid hrr
  have HLK := Wc.hid hlk
  have HPW := Wc.hid hpw
  have HMX := Wc.hid hmx
  have HM := Wc.hid hm
  have HD := Wc.hid hd
  have HD0 := Wc.hid hd0
  have HN := Wc.hid hN
  have HL := Wc.hid hL
  have HLL := Wc.hid hLl
  have HV := Wc.hid hv
  have HNL := Wc.hid hnl
  have hni : ni ≤ 140737488355328 := by omega
  clear hE hp hS hT hr hs hd hsb hbl hsl hnl hse hte hBe hLe hrr hlk hI hpw hm hmx hd0 hN hL hLl hv
  go_enter Try.func7, Try.ntmps7
  go_wp2_with fail
  refine (heavy_raw _ _ _ _ _ _ [] _ (rw_nil _)).mono ?_
  rintro e w1 ⟨rfl, rfl⟩
  rw [hh]
  go_wp2_with fail
  refine (oopen_any _ xs _ HV.out).mono ?_
  rintro e w2 ⟨a, n, c, rfl, hR, hb2⟩
  rw [HE.out, HS.out, HT.out]
  rw [HLE.out] at hR
  obtain rfl : n = N := by rw [← Wi.rs_len hR]; exact HLL.out
  have bA : Below w2.heap.size w2 (w2.alloc (.cells #[.int .i64 s.gen, .int .i64 s.blocks, .int .i64 s.root, .int .i64 s.size, .int .i64 s.first, .int .i64 t, .slice a n c] 27)) := (Below.refl _ _).alloc (Nat.le_refl _) _
  have R2 := Wc.hid (hR.keep bA)
  have B2 := Wc.hid (Wc.step hb2 (Nat.le_refl _) bA)
  have Z2 := Wc.hid (Zh.new w2 s t (.slice a n c))
  clear hR hb2 bA
  unfold stv
  go_wp2_with fail
  refine (pick_any ai ni ci xs _ (HV.out.keep B2.out)).mono ?_
  rintro e w3 ⟨rfl, hb3⟩
  rw [HP.out, HSE.out, HTE.out]
  unfold sv
  have bA : Below w3.heap.size w3 (w3.alloc (.cells #[.int .i64 s.gen, .int .i64 s.blocks, .int .i64 s.root, .int .i64 s.size, .int .i64 s.first] 24)) := (Below.refl _ _).alloc (Nat.le_refl _) _
  have b3 := Wc.step hb3 (Nat.le_refl _) bA
  have R3 := Wc.hid (R2.out.keep b3)
  have B3 := Wc.hid (Wc.step B2.out (Nat.le_refl _) b3)
  have Z3 := Wc.hid (Z2.out.keep b3)
  have S3 := Wc.hid (Sh.new w3 s)
  have ⟨c0, c1, c2, c3, c4⟩ := S3.out.sc
  clear hb3 bA b3
  go_wp2_with fail
  refine (records_any _ xs s.first _ (HV.out.keep B3.out)).mono ?_
  rintro e w4 ⟨a', n', c', p', m', q', rfl, hR4, hP4, hb4⟩
  rw [HRR.out.1]
  rw [HRR.out.2.2] at hR4
  rw [HRR.out.2.1] at hP4
  obtain rfl : n' = n := by rw [← Wi.rs_len hR4]; exact HLL.out
  obtain rfl : m' = n' := by rw [← Wv.rv_len hP4]; exact HN.out
  have Z4 := Wc.hid (Z3.out.keep hb4)
  have S4 := Wc.hid (S3.out.keep hb4)
  have R4 := Wc.hid (R3.out.keep hb4)
  have B4 := Wc.hid (Wc.step B3.out (Nat.le_refl _) hb4)
  have HR4 := Wc.hid hR4
  have HP4 := Wc.hid hP4
  have ⟨d0, d1, d2, d3, d4⟩ := S4.out.sc
  have ⟨z0, z1, z2, z3, z4, z5, z6⟩ := Z4.out.zc
  have hq := neq_sup s s
  rw [supEq_iff.2 rfl] at hq
  clear c0 c1 c2 c3 c4 hR4 hP4 hb4
  go_wp2_with fail
  refine (krecs_any _ _ L L _ R4.out HR4.out).mono ?_
  rintro e w5 ⟨rfl, hb5⟩
  rw [Wi.recsB_iff.2 rfl]
  have Z5 := Wc.hid (Z4.out.keep hb5)
  have S5 := Wc.hid (S4.out.keep hb5)
  have R5 := Wc.hid (R4.out.keep hb5)
  have HR5 := Wc.hid (HR4.out.keep hb5)
  have HP5 := Wc.hid (HP4.out.keep hb5)
  have B5 := Wc.hid (Wc.step B4.out (Nat.le_refl _) hb5)
  have ⟨e0, e1, e2, e3, e4⟩ := S5.out.sc
  clear hb5 d0 d1 d2 d3 d4 z0 z1 z2 z3 z4 z5 z6 hq
  go_wp2_with fail
  obtain ⟨_, _, _, h1, hll, hlc, hlc2, hln, hpos⟩ := HR5.out
  cases h1
  have HPS := Wc.hid hpos
  obtain ⟨_, _, _, h1, hll', hlc', hlc2', hln', hpos'⟩ := HP5.out
  cases h1
  have HPP := Wc.hid hpos'
  clear hpos hll hpos' hll' e0 e1 e2 e3 e4
  go_loopw [13, 14, 15] (fun p q i wr => ∃ (k : Nat) (nx : Int), i = .int .i64 k ∧ k ≤ m' ∧ p = .int .i64 nx ∧ q = .bool (Wi.metB (L.take k) id) ∧ Hid (Wi.Lnk xs nx (B.drop k)) ∧ Hid (Below w5.heap.size w5 wr)) (fun _ _ i _ => m' - (intOf i).toNat)
  case atStart => exact ⟨0, s.first, rfl, by omega, rfl, rfl, Wc.hid HLK.out, Wc.hid (Below.refl _ _)⟩
  case round =>
    obtain ⟨k, nx, rfl, hk, rfl, rfl, RL, RB⟩ := hrel
    obtain ⟨q, hq⟩ : ∃ q, Wi.metB (L.take k) id = q := ⟨_, rfl⟩
    rw [hq]
    have HQ := Wc.hid hq
    clear hq
    by_cases hlt : k < m'
    · obtain ⟨g, off, rfl, hblt, hcs⟩ := HPS.out (by omega)
      obtain ⟨g', off', rfl, hblt', hcs'⟩ := HPP.out (by omega)
      have hkb : k < B.length := by rw [HN.out]; exact hlt
      have hkl : k < L.length := by rw [HLL.out]; exact hlt
      obtain ⟨l1, l2, l3, l4⟩ := Wi.lnk_at RL.out hkb
      obtain ⟨i1, i2, -, i4⟩ := Wi.recOk_in l3
      obtain ⟨p, rfl⟩ : ∃ p : Nat, nx = p := ⟨nx.toNat, by omega⟩
      rw [HMX.out] at i2
      have hp2 : 2 ≤ p := by omega
      have hpm : p < m := by omega
      have h1 := hcs' k hlt
      rw [l1] at h1
      have hLk : L.getD k Wr.r0 = Wi.recAt xs (p : Int) := by
        rw [← HL.out, show (B.map (Wi.recAt xs)).getD k Wr.r0 = Wi.recAt xs (B.getD k 0) by simp [hkb], l1]
      have h2 := hcs k hlt
      obtain ⟨x, hx⟩ : ∃ x, Wi.recAt xs (p : Int) = x := ⟨_, rfl⟩
      rw [hx] at hLk l4
      rw [hLk] at h2
      have hrd : Wd.rdR xs (p : Int) = (xs.drop (p * 64)).take 64 := Wt.rd_at HD.out p (by rw [HMX.out]; exact hpm)
      have HPA : Hid (Wr.par ((xs.drop (p * 64)).take 64) = x) := Wc.hid (by rw [← hrd]; exact hx)
      have HPE : Hid (Wr.parE ((xs.drop (p * 64)).take 64) = 0) := Wc.hid (by rw [← hrd]; exact (Wi.recOk_iff.1 l3).2)
      have hsp : p * 64 + 64 ≤ ni := by have := HM.out; omega
      have HF := Wc.hid (Wi.fnd_own HPW.out hkl)
      have HMS := Wc.hid (Wi.metB_snoc (id := id) hkl)
      rw [hLk] at HF HMS
      have hk2 := h2.keep RB.out
      have hk1 : wr.cell? ⟨g', off' + k, none⟩ = some (.int .i64 (p : Int)) := (RB.out.cell (p := ⟨g', off' + k, none⟩) hblt').trans h1
      have L4 := Wc.hid l4
      clear hcs hcs' hkb hkl l1 l2 l3 l4 i1 i2 i4 h1 h2 hLk hx hrd
      have BR := Wc.hid (Wc.step B5.out (Nat.le_refl _) RB.out)
      go_wp2_with fail
      refine (blocks_any ai ni ci _ hni).mono ?_
      rintro e w6 ⟨rfl, rfl⟩
      rw [HM.out]
      go_wp2_with fail
      refine (block_any ai ni ci p xs _ (HV.out.keep BR.out) hsp).mono ?_
      rintro e w6 ⟨ax, cx, rfl, hX, rfl⟩
      have HX := Wc.hid hX
      clear hX
      go_wp2_with fail
      refine (parse8_any _ _ _ HX.out).mono ?_
      rintro e w6 ⟨rfl, hb6⟩
      rw [HPA.out, HPE.out]
      unfold rv
      have bA : Below w6.heap.size w6 (w6.alloc (.cells #[.int .i64 x.next, .int .i64 x.id, .int .i64 x.parent, .int .i64 x.root, .int .i64 x.size, .int .i64 x.kind, .int .i64 x.frames, .int .i64 x.digest] 41)) := (Below.refl _ _).alloc (Nat.le_refl _) _
      have b6 := Wc.step hb6 (Nat.le_refl _) bA
      have ⟨d0, d1, d2, d3, d4, d5, d6, d7⟩ := hk2.keep b6
      have ⟨f0, f1, f2, f3, f4, f5, f6, f7⟩ := (Rh.new w6 x).rc
      have HRX := Wc.hid (Rh.new w6 x)
      have B6 := Wc.hid (Wc.step RB.out (Nat.le_refl _) b6)
      have BR6 := Wc.hid (Wc.step BR.out (Nat.le_refl _) b6)
      have Z6 := Wc.hid (Z5.out.keep B6.out)
      have R6 := Wc.hid (R5.out.keep B6.out)
      have ⟨z0, z1, z2, z3, z4, z5, z6⟩ := Z6.out.zc
      clear hb6 bA b6 hk2 hk1
      have hqr := neq_rec x x
      rw [recEq_iff.2 rfl] at hqr
      go_wp2_with fail
      go_quiet (fail)
      go_wp2_with fail
      refine (ofind_any s t x.id a m' c L _ (Wi.rs_drewN R6.out _)).mono ?_
      rintro e w7 ⟨rfl, hb7⟩
      have hb8 := (below_drewN (Below.refl (w6.alloc (.cells #[.int .i64 x.next, .int .i64 x.id, .int .i64 x.parent, .int .i64 x.root, .int .i64 x.size, .int .i64 x.kind, .int .i64 x.frames, .int .i64 x.digest] 41)).heap.size _) _).trans hb7
      have BN := Wc.hid (Wc.step B6.out (Nat.le_refl _) hb8)
      have ⟨k0, k1, k2, k3, k4, k5, k6, k7⟩ := (HRX.out.keep hb8).rc
      clear hb7 hb8 d0 d1 d2 d3 d4 d5 d6 d7 f0 f1 f2 f3 f4 f5 f6 f7 z0 z1 z2 z3 z4 z5 z6 hqr
      cases hk0 : (x.kind == 0)
      · have HK0 := Wc.hid hk0
        have hfn : Wi.fnd L x.id = none := by rw [HF.out, if_neg (by simpa using HK0.out)]
        have h1 : Wi.fndN L x.id = 0 := by unfold Wi.fndN; rw [hfn]
        have h2 : (Wi.fnd L x.id).isSome = false := by rw [hfn]; rfl
        rw [h1, h2]
        clear h1 h2 hfn
        have HN1 : Hid (Wi.metB (L.take (k + 1)) id = q) := Wc.hid (by rw [HMS.out, HQ.out, HK0.out]; simp)
        cases q
        · cases hi : (x.id == id)
          · go_wp2_with fail
            go_roundw
            case rel => exact ⟨k + 1, x.next, by go_num, by omega, rfl, by rw [HN1.out], L4, BN⟩
            case measure => simp [intOf]; omega
          · go_wp2_with fail
            go_roundw
            case rel => exact ⟨k + 1, x.next, by go_num, by omega, rfl, by rw [HN1.out], L4, BN⟩
            case measure => simp [intOf]; omega
        · go_wp2_with fail
          go_roundw
          case rel => exact ⟨k + 1, x.next, by go_num, by omega, rfl, by rw [HN1.out], L4, BN⟩
          case measure => simp [intOf]; omega
      · have HK0 := Wc.hid hk0
        have hfn : Wi.fnd L x.id = some k := by rw [HF.out, if_pos (by simpa using HK0.out)]
        have h1 : Wi.fndN L x.id = (k : Int) := by unfold Wi.fndN; rw [hfn]
        have h2 : (Wi.fnd L x.id).isSome = true := by rw [hfn]; rfl
        rw [h1, h2]
        clear h1 h2 hfn
        cases q
        · cases hi : (x.id == id)
          · have HN1 : Hid (Wi.metB (L.take (k + 1)) id = false) := Wc.hid (by rw [HMS.out, HQ.out, HK0.out, hi]; rfl)
            go_wp2_with fail
            go_roundw
            case rel => exact ⟨k + 1, x.next, by go_num, by omega, rfl, by rw [HN1.out], L4, BN⟩
            case measure => simp [intOf]; omega
          · have HN1 : Hid (Wi.metB (L.take (k + 1)) id = true) := Wc.hid (by rw [HMS.out, HQ.out, HK0.out, hi]; rfl)
            go_wp2_with fail
            go_roundw
            case rel => exact ⟨k + 1, x.next, by go_num, by omega, rfl, by rw [HN1.out], L4, BN⟩
            case measure => simp [intOf]; omega
        · have HN1 : Hid (Wi.metB (L.take (k + 1)) id = true) := Wc.hid (by rw [HMS.out, HQ.out]; rfl)
          go_wp2_with fail
          go_roundw
          case rel => exact ⟨k + 1, x.next, by go_num, by omega, rfl, by rw [HN1.out], L4, BN⟩
          case measure => simp [intOf]; omega
    · have ⟨z0, z1, z2, z3, z4, z5, z6⟩ := (Z5.out.keep RB.out).zc
      have hz0 : nx = 0 := Wi.lnk_end RL.out (by rw [HN.out]; omega)
      subst hz0
      have hmt : (Wi.fnd L id).isSome = q := by
        rw [Wi.fnd_met, ← HQ.out, List.take_of_length_le (by rw [HLL.out]; omega)]
      go_wp2_with fail
      refine (ofind_any s t id a m' c L _ (R5.out.keep RB.out)).mono ?_
      rintro e w6 ⟨rfl, hb6⟩
      rw [hmt]
      have B6 := Wc.hid (Wc.step (Wc.step B5.out (Nat.le_refl _) RB.out) (Nat.le_refl _) hb6)
      clear hb6 hmt z0 z1 z2 z3 z4 z5 z6
      cases q
      · go_wp2_with fail
        refine (wakes_any _).mono ?_
        rintro e w7 ⟨rfl, hb7⟩
        have B7 := Wc.hid (Wc.step B6.out (Nat.le_refl _) hb7)
        clear hb7
        go_wp2_with fail
        go_ret
        exact ⟨rfl, B7.out⟩
      · go_wp2_with fail
        refine (wakes_any _).mono ?_
        rintro e w7 ⟨rfl, hb7⟩
        have B7 := Wc.hid (Wc.step B6.out (Nat.le_refl _) hb7)
        clear hb7
        go_wp2_with fail
        go_ret
        exact ⟨rfl, B7.out⟩

end Go.Proofs.Ytifoghbacifhnaa
