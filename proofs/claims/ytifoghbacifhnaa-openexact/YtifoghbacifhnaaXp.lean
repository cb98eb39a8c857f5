/-
  OpenExact: what the statement's function returns.
-/
import Derived.Test.YtifoghbacifhnaaXi
import Derived.Test.YtifoghbacifhnaaXo
namespace Wi
/-- Where the statement's own search stands: nothing so far, or where. -/
def Wnt (l : List Wr.Rec) (id : Int) (k : Nat) (wt : Int) : Prop :=
  (wt = -1 ∧ ∀ j, j < k → ((l.getD j Wr.r0).id == id && (l.getD j Wr.r0).kind == 0) = false) ∨ ∃ j : Nat, wt = j ∧ fnd l id = some j
theorem Wnt.start (l : List Wr.Rec) (id : Int) : Wnt l id 0 (-1) := .inl ⟨rfl, fun j h => by omega⟩
theorem Wnt.no {l : List Wr.Rec} {id : Int} {k : Nat} {wt : Int} (h : Wnt l id k wt) (hw : wt < 0) (hk : ((l.getD k Wr.r0).id == id && (l.getD k Wr.r0).kind == 0) = false) : Wnt l id (k + 1) wt := by
  rcases h with ⟨h1, h2⟩ | ⟨j, h1, -⟩
  · refine .inl ⟨h1, fun j hj => ?_⟩
    by_cases e : j = k
    · subst e; exact hk
    · exact h2 j (by omega)
  · omega
theorem Wnt.yes {l : List Wr.Rec} {id : Int} {k : Nat} {wt : Int} (h : Wnt l id k wt) (hw : wt < 0) (hl : k < l.length) (hk : ((l.getD k Wr.r0).id == id && (l.getD k Wr.r0).kind == 0) = true) : Wnt l id (k + 1) (k : Int) := by
  rcases h with ⟨h1, h2⟩ | ⟨j, h1, -⟩
  · exact .inr ⟨k, rfl, fnd_some hl h2 hk⟩
  · omega
theorem Wnt.some {l : List Wr.Rec} {id : Int} {k : Nat} {wt : Int} (h : Wnt l id k wt) (hw : 0 ≤ wt) : ∃ j : Nat, wt = j ∧ fnd l id = some j := by
  rcases h with ⟨h1, -⟩ | h
  · omega
  · exact h
theorem Wnt.none {l : List Wr.Rec} {id : Int} {k : Nat} {wt : Int} (h : Wnt l id k wt) (hk : l.length ≤ k) (hw : wt < 0) : wt = -1 ∧ fnd l id = none := by
  rcases h with ⟨h1, h2⟩ | ⟨j, h1, -⟩
  · exact ⟨h1, fnd_none fun j hj => h2 j (by omega)⟩
  · omega
end Wi
namespace Go.Proofs.Ytifoghbacifhnaa
open Go.RowKit

theorem opn_nodev {xs : List Int} (hd : Wd.devB xs.length = false) : opnE xs = 2 ∧ opnS xs = Ws.s0 ∧ opnT xs = 0 ∧ opnL xs = [] := by
  have hp : (pickA xs).2.2 = 2 := by rw [pickA, if_neg (by rw [hd]; decide)]
  have hE : opnE xs = 2 := opn_nopick hp (by decide)
  have hn : ¬ opnE xs = 0 := by rw [hE]; decide
  exact ⟨hE, by unfold opnS; rw [if_neg hn], by unfold opnT; rw [if_neg hn], by unfold opnL opnB; rw [if_neg hn]; rfl⟩

set_option maxRecDepth 100000 in
set_option maxHeartbeats 12800000 in
theorem exact_lo (ai : Option Addr) (ni ci : Nat) (xs : List Int) (first id : Int) (z : Int) (h3 : z < 4) (s : Ws.Sup) (t : Int) (a : Option Addr) (n c : Nat) (l : List Wr.Rec) (w : World)
    (hv : Wc.Bs w (.slice ai ni ci) xs) (hsh : Wc.Shaped (.slice ai ni ci)) (hni : ni ≤ 19200) (hl : Wi.Rs w (.slice a n c) l) (hn : n ≤ 100) :
    Calls Try.prog 3 #[.slice ai ni ci, .int .i64 first, .int .i64 z, .int .i64 id, stv s t (.slice a n c)] w fun e w' => e = .returned (.bool true) ∧ Below w.heap.size w w' := by
  have hh : Wd.heavyB ni [] = false := by rw [hvy_nil]; simp; omega
  have HNL := Wc.hid (Wc.bs_len hv)
  have hnb : ni ≤ 140737488355328 := by omega
  have hls := hl
  obtain ⟨_, _, _, h1, hll, hlc, hlc2, hln, hpos⟩ := hls
  cases h1
  have HLL := Wc.hid hll
  have HPS := Wc.hid hpos
  clear hll hpos
  have hb : Below w.heap.size w (w.alloc (.cells #[.int .i64 s.gen, .int .i64 s.blocks, .int .i64 s.root, .int .i64 s.size, .int .i64 s.first, .int .i64 t, .slice a n c] 27)) := (Below.refl _ _).alloc (Nat.le_refl _) _
  have Z := Wc.hid (Zh.new w s t (.slice a n c))
  have HV := Wc.hid (hv.keep hb)
  have HL := Wc.hid (hl.keep hb)
  have HSH := Wc.hid hsh
  have B := Wc.hid hb
  have ⟨z0, z1, z2, z3, z4, z5, z6⟩ := Z.out.zc
  clear hv hsh hl hb
  unfold stv
  go_enter Try.func3, Try.ntmps3
  go_wp2_with fail
  refine (heavy_raw _ _ _ _ _ _ [] _ (rw_nil _)).mono ?_
  rintro e w1 ⟨rfl, rfl⟩
  rw [hh]
  go_wp2_with fail
  refine (twin_any _ xs _ HV.out HSH.out).mono ?_
  rintro e w2 ⟨v, rfl, hT, hb2⟩
  obtain ⟨ax, nx, cx, rfl, -⟩ := _root_.id hT
  have HT := Wc.hid hT
  clear hT HSH hh z0 z1 z2 z3 z4 z5 z6
  replace Z := Wc.hid (Z.out.keep hb2)
  replace HV := Wc.hid (HV.out.keep hb2)
  replace HL := Wc.hid (HL.out.keep hb2)
  replace B := Wc.hid (Wc.step B.out (Nat.le_refl _) hb2)
  clear hb2
  obtain ⟨E1, hE1⟩ : ∃ E1, Wi.recE xs first = E1 := ⟨_, rfl⟩
  obtain ⟨E, hE⟩ : ∃ E, opnE xs = E := ⟨_, rfl⟩
  obtain ⟨S, hS⟩ : ∃ S, opnS xs = S := ⟨_, rfl⟩
  obtain ⟨T, hTT⟩ : ∃ T, opnT xs = T := ⟨_, rfl⟩
  obtain ⟨L3, hL3⟩ : ∃ L3, opnL xs = L3 := ⟨_, rfl⟩
  have HE1 := Wc.hid hE1
  have HE := Wc.hid hE
  have HS := Wc.hid hS
  have HTT := Wc.hid hTT
  have HL3 := Wc.hid hL3
  clear hE1 hE hS hTT hL3
  go_wp2_with fail
  refine (records_any _ xs first _ HT.out).mono ?_
  rintro e w3 ⟨a1, n1, c1, a2, n2, c2, rfl, hR1, hP1, hb3⟩
  rw [HE1.out]
  have R1 := Wc.hid hR1
  have P1 := Wc.hid hP1
  clear hR1 hP1
  replace Z := Wc.hid (Z.out.keep hb3)
  replace HV := Wc.hid (HV.out.keep hb3)
  replace HL := Wc.hid (HL.out.keep hb3)
  replace HT := Wc.hid (HT.out.keep hb3)
  replace B := Wc.hid (Wc.step B.out (Nat.le_refl _) hb3)
  clear hb3
  go_wp2_with fail
  refine (oopen_any _ xs _ HT.out).mono ?_
  rintro e w4 ⟨a3, n3, c3, rfl, hR3, hb4⟩
  rw [HE.out, HS.out, HTT.out]
  rw [HL3.out] at hR3
  have bA : Below w4.heap.size w4 (w4.alloc (.cells #[.int .i64 S.gen, .int .i64 S.blocks, .int .i64 S.root, .int .i64 S.size, .int .i64 S.first, .int .i64 T, .slice a3 n3 c3] 27)) := (Below.refl _ _).alloc (Nat.le_refl _) _
  have R3 := Wc.hid (hR3.keep bA)
  have Y := Wc.hid (Zh.new w4 S T (.slice a3 n3 c3))
  have hb5 := Wc.step hb4 (Nat.le_refl _) bA
  clear hR3 bA hb4
  replace Z := Wc.hid (Z.out.keep hb5)
  replace HV := Wc.hid (HV.out.keep hb5)
  replace HL := Wc.hid (HL.out.keep hb5)
  replace HT := Wc.hid (HT.out.keep hb5)
  replace R1 := Wc.hid (R1.out.keep hb5)
  replace P1 := Wc.hid (P1.out.keep hb5)
  replace B := Wc.hid (Wc.step B.out (Nat.le_refl _) hb5)
  clear hb5
  unfold stv
  go_wp2_with fail
  refine (new_no z _ (by omega)).mono ?_
  rintro e w5 ⟨rfl, rfl⟩
  have ⟨z0, z1, z2, z3, z4, z5, z6⟩ := Z.out.zc
  go_wp2_with fail
  refine (ofind_any s t id a n c l _ HL.out).mono ?_
  rintro e w6 ⟨rfl, hb7⟩
  obtain ⟨fN, hfN⟩ : ∃ fN, Wi.fndN l id = fN := ⟨_, rfl⟩
  obtain ⟨fB, hfB⟩ : ∃ fB, (Wi.fnd l id).isSome = fB := ⟨_, rfl⟩
  rw [hfN, hfB]
  have HFN := Wc.hid hfN
  have HFB := Wc.hid hfB
  clear hfN hfB
  clear z0 z1 z2 z3 z4 z5 z6
  replace Z := Wc.hid (Z.out.keep hb7)
  replace Y := Wc.hid (Y.out.keep hb7)
  replace HV := Wc.hid (HV.out.keep hb7)
  replace HL := Wc.hid (HL.out.keep hb7)
  replace HT := Wc.hid (HT.out.keep hb7)
  replace R1 := Wc.hid (R1.out.keep hb7)
  replace P1 := Wc.hid (P1.out.keep hb7)
  replace R3 := Wc.hid (R3.out.keep hb7)
  replace B := Wc.hid (Wc.step B.out (Nat.le_refl _) hb7)
  clear hb7
  obtain ⟨_, _, _, h1, -, -, -, -, hpos⟩ := HL.out
  cases h1
  replace HPS := Wc.hid hpos
  clear hpos
  go_wp2_with fail
  go_loopw [21, 22] (fun q i wr => ∃ (k : Nat) (wt : Int), i = .int .i64 k ∧ k ≤ n ∧ q = .int .i64 wt ∧ Hid (Wi.Wnt l id k wt) ∧ Hid (Below w6.heap.size w6 wr)) (fun _ i _ => n - (intOf i).toNat)
  case atStart => exact ⟨0, -1, rfl, by omega, rfl, Wc.hid (Wi.Wnt.start l id), Wc.hid (Below.refl _ _)⟩
  case round =>
    obtain ⟨k, wt, rfl, hk, rfl, RW, RB⟩ := hrel
    have ⟨z0, z1, z2, z3, z4, z5, z6⟩ := (Z.out.keep RB.out).zc
    by_cases hlt : k < n
    · by_cases hw : wt < 0
      · obtain ⟨g, off, rfl, hbg, hcs⟩ := HPS.out (by omega)
        obtain ⟨x, hx⟩ : ∃ x, l.getD k Wr.r0 = x := ⟨_, rfl⟩
        have h1 := hcs k hlt
        rw [hx] at h1
        obtain ⟨-, g1, -, -, -, g5, -, -⟩ := h1.keep RB.out
        have HX := Wc.hid hx
        have HKL : Hid (k < l.length) := Wc.hid (by rw [HLL.out]; exact hlt)
        clear hcs h1 hx
        cases hi : (x.id == id)
        · have HW := Wc.hid (RW.out.no hw (by rw [HX.out, hi]; rfl))
          go_wp2_with fail
          go_roundw
          case rel => exact ⟨k + 1, wt, by go_num, by omega, rfl, HW, RB⟩
          case measure => simp [intOf]; omega
        · cases hk0 : (x.kind == 0)
          · have HW := Wc.hid (RW.out.no hw (by rw [HX.out, hi, hk0]; rfl))
            go_wp2_with fail
            go_roundw
            case rel => exact ⟨k + 1, wt, by go_num, by omega, rfl, HW, RB⟩
            case measure => simp [intOf]; omega
          · have HW := Wc.hid (RW.out.yes hw HKL.out (by rw [HX.out, hi, hk0]; rfl))
            go_wp2_with fail
            go_roundw
            case rel => exact ⟨k + 1, (k : Int), by go_num, by omega, rfl, HW, RB⟩
            case measure => simp [intOf]; omega
      · obtain ⟨j, rfl, hj⟩ := RW.out.some (by omega)
        obtain rfl : fN = (j : Int) := by rw [← HFN.out]; unfold Wi.fndN; rw [hj]
        obtain rfl : fB = true := by rw [← HFB.out, hj]; rfl
        have hmax : max (j : Int) 0 = (j : Int) := by omega
        clear hj RW
        replace Z := Wc.hid (Z.out.keep RB.out)
        replace Y := Wc.hid (Y.out.keep RB.out)
        replace HV := Wc.hid (HV.out.keep RB.out)
        replace HL := Wc.hid (HL.out.keep RB.out)
        replace HT := Wc.hid (HT.out.keep RB.out)
        replace R1 := Wc.hid (R1.out.keep RB.out)
        replace P1 := Wc.hid (P1.out.keep RB.out)
        replace R3 := Wc.hid (R3.out.keep RB.out)
        replace B := Wc.hid (Wc.step B.out (Nat.le_refl _) RB.out)
        go_wp2_with fail
        refine (bytes_any _ _ xs xs _ HT.out HV.out).mono ?_
        rintro e w7 ⟨rfl, hb7⟩
        rw [show (xs == xs) = true from beq_self_eq_true xs]
        replace Z := Wc.hid (Z.out.keep hb7)
        replace Y := Wc.hid (Y.out.keep hb7)
        replace HV := Wc.hid (HV.out.keep hb7)
        replace HL := Wc.hid (HL.out.keep hb7)
        replace HT := Wc.hid (HT.out.keep hb7)
        replace R1 := Wc.hid (R1.out.keep hb7)
        replace P1 := Wc.hid (P1.out.keep hb7)
        replace R3 := Wc.hid (R3.out.keep hb7)
        replace B := Wc.hid (Wc.step B.out (Nat.le_refl _) hb7)
        clear hb7
        go_wp2_with fail
        refine (blocks_any ai ni ci _ hnb).mono ?_
        rintro e w11 ⟨rfl, rfl⟩
        cases hd : Wd.devB ni
        · have hdx : Wd.devB xs.length = false := by rw [HNL.out]; exact hd
          have hr := Wi.rec_dev (first := first) hdx
          have ho := opn_nodev hdx
          have e1 : E1 = 2 := by rw [← HE1.out]; exact hr.1
          have e2 : E = 2 := by rw [← HE.out]; exact ho.1
          have e3 : S = Ws.s0 := by rw [← HS.out]; exact ho.2.1
          have e4 : T = 0 := by rw [← HTT.out]; exact ho.2.2.1
          have e5 : L3 = [] := by rw [← HL3.out]; exact ho.2.2.2
          have e6 : n1 = 0 := by rw [← Wi.rs_len R1.out, hr.2.2]; rfl
          have e7 : n2 = 0 := by rw [← Wv.rv_len P1.out, hr.2.1]; rfl
          subst e1 e2 e3 e4 e5 e6 e7
          clear hr ho hdx hd
          have ⟨y0, y1, y2, y3, y4, y5, y6⟩ := Y.out.zc
          go_wp2_with fail
          refine (kstate_any Ws.s0 Ws.s0 0 0 a3 none n3 c3 0 0 [] [] _ R3.out (Wi.Rs.nil _)).mono ?_
          rintro e w12 ⟨rfl, hb12⟩
          rw [show stEq Ws.s0 Ws.s0 0 0 [] [] = true from stEq_iff.2 ⟨rfl, rfl, rfl⟩]
          clear y0 y1 y2 y3 y4 y5 y6
          replace B := Wc.hid (Wc.step B.out (Nat.le_refl _) hb12)
          clear hb12
          go_wp2_with fail
          refine (wakes_any _).mono ?_
          rintro e w13 ⟨rfl, hb13⟩
          replace B := Wc.hid (Wc.step B.out (Nat.le_refl _) hb13)
          clear hb13
          go_wp2_with fail
          go_ret
          exact ⟨rfl, B.out⟩
        · have hdx : Wd.devB xs.length = true := by rw [HNL.out]; exact hd
          have HDX := Wc.hid hdx
          clear hdx hd
          go_wp2_with fail
          refine (refRecs_any _ xs first _ HV.out HDX.out).mono ?_
          rintro e w12 ⟨a5, n5, c5, a6, n6, c6, bad, rfl, hR5, hP5, hb12, -, -⟩
          replace Y := Wc.hid (Y.out.keep hb12)
          replace HV := Wc.hid (HV.out.keep hb12)
          replace R1 := Wc.hid (R1.out.keep hb12)
          replace P1 := Wc.hid (P1.out.keep hb12)
          replace R3 := Wc.hid (R3.out.keep hb12)
          replace B := Wc.hid (Wc.step B.out (Nat.le_refl _) hb12)
          clear hb12
          have R5 := Wc.hid hR5
          have P5 := Wc.hid hP5
          clear hR5 hP5
          cases hrc : Wi.recs xs first
          · have hr := Wi.rec_none HDX.out hrc
            have e1 : E1 = 7 := by rw [← HE1.out]; exact hr.1
            have e6 : n1 = 0 := by rw [← Wi.rs_len R1.out, hr.2.2]; rfl
            have e7 : n2 = 0 := by rw [← Wv.rv_len P1.out, hr.2.1]; rfl
            subst e1 e6 e7
            rw [show (none : Option (List Int)).isSome = false from rfl]
            clear hr hrc R1 P1 R5 P5
            go_wp2_with fail
            refine (refOpen_any _ xs _ HV.out HDX.out).mono ?_
            rintro e w14 ⟨a7, n7, c7, a8, n8, c8, a9, n9, c9, a10, n10, c10, k14, rfl, hR7, hb14, -⟩
            rw [HS.out, HTT.out, HE.out]
            rw [HL3.out] at hR7
            have bA : Below w14.heap.size w14 (w14.alloc (.cells #[.int .i64 S.gen, .int .i64 S.blocks, .int .i64 S.root, .int .i64 S.size, .int .i64 S.first, .int .i64 T, .slice a7 n7 c7, .slice a8 n8 c8, .slice a9 n9 c9, .slice a10 n10 c10] 53)) := (Below.refl _ _).alloc (Nat.le_refl _) _
            have bF : Below (w14.alloc (.cells #[.int .i64 S.gen, .int .i64 S.blocks, .int .i64 S.root, .int .i64 S.size, .int .i64 S.first, .int .i64 T, .slice a7 n7 c7, .slice a8 n8 c8, .slice a9 n9 c9, .slice a10 n10 c10] 53)).heap.size (w14.alloc (.cells #[.int .i64 S.gen, .int .i64 S.blocks, .int .i64 S.root, .int .i64 S.size, .int .i64 S.first, .int .i64 T, .slice a7 n7 c7, .slice a8 n8 c8, .slice a9 n9 c9, .slice a10 n10 c10] 53)) ((w14.alloc (.cells #[.int .i64 S.gen, .int .i64 S.blocks, .int .i64 S.root, .int .i64 S.size, .int .i64 S.first, .int .i64 T, .slice a7 n7 c7, .slice a8 n8 c8, .slice a9 n9 c9, .slice a10 n10 c10] 53)).alloc (.cells #[.int .i64 k14, .int .i64 E] 55)) := (Below.refl _ _).alloc (Nat.le_refl _) _
            have bAF := Wc.step bA (Nat.le_refl _) bF
            have ⟨i0, i1, i2, i3, i4, i5, i6, i7, i8, i9⟩ := ((Ih.new w14 S T (.slice a7 n7 c7) (.slice a8 n8 c8) (.slice a9 n9 c9) (.slice a10 n10 c10)).keep bF).ic
            have hF := Fh.new (w14.alloc (.cells #[.int .i64 S.gen, .int .i64 S.blocks, .int .i64 S.root, .int .i64 S.size, .int .i64 S.first, .int .i64 T, .slice a7 n7 c7, .slice a8 n8 c8, .slice a9 n9 c9, .slice a10 n10 c10] 53)) k14 E
            rw [show (w14.alloc (.cells #[.int .i64 S.gen, .int .i64 S.blocks, .int .i64 S.root, .int .i64 S.size, .int .i64 S.first, .int .i64 T, .slice a7 n7 c7, .slice a8 n8 c8, .slice a9 n9 c9, .slice a10 n10 c10] 53)).heap.size = w14.heap.size + 1 by simp] at hF
            obtain ⟨f0, f1, -⟩ := hF.fc
            have R7 := Wc.hid (hR7.keep bAF)
            have hb15 := Wc.step hb14 (Nat.le_refl _) bAF
            clear bA bF bAF hF hR7 hb14
            replace Y := Wc.hid (Y.out.keep hb15)
            replace R3 := Wc.hid (R3.out.keep hb15)
            replace B := Wc.hid (Wc.step B.out (Nat.le_refl _) hb15)
            clear hb15
            have ⟨y0, y1, y2, y3, y4, y5, y6⟩ := Y.out.zc
            have hee : (E == E) = true := beq_self_eq_true E
            unfold imv
            go_wp2_with fail
            refine (kstate_any S S T T a3 a7 n3 c3 n7 c7 L3 L3 _ R3.out R7.out).mono ?_
            rintro e w16 ⟨rfl, hb16⟩
            rw [show stEq S S T T L3 L3 = true from stEq_iff.2 ⟨rfl, rfl, rfl⟩]
            clear y0 y1 y2 y3 y4 y5 y6 i0 i1 i2 i3 i4 i5 i6 i7 i8 i9 f0 f1 hee
            replace B := Wc.hid (Wc.step B.out (Nat.le_refl _) hb16)
            clear hb16
            go_wp2_with fail
            refine (wakes_any _).mono ?_
            rintro e w17 ⟨rfl, hb17⟩
            replace B := Wc.hid (Wc.step B.out (Nat.le_refl _) hb17)
            clear hb17
            go_wp2_with fail
            go_ret
            exact ⟨rfl, B.out⟩
          · have hr := Wi.rec_some HDX.out hrc
            have e1 : E1 = 0 := by rw [← HE1.out]; exact hr.1
            subst e1
            rw [Option.isSome_some]
            clear hr hrc
            go_wp2_with fail
            refine (krecs_any _ _ (Wi.recL xs first) (Wi.recL xs first) _ R1.out R5.out).mono ?_
            rintro e w13 ⟨rfl, hb13⟩
            rw [Wi.recsB_iff.2 rfl]
            replace Y := Wc.hid (Y.out.keep hb13)
            replace HV := Wc.hid (HV.out.keep hb13)
            replace R3 := Wc.hid (R3.out.keep hb13)
            replace P1 := Wc.hid (P1.out.keep hb13)
            replace P5 := Wc.hid (P5.out.keep hb13)
            replace B := Wc.hid (Wc.step B.out (Nat.le_refl _) hb13)
            clear hb13
            go_wp2_with fail
            refine (ints_any _ _ (Wi.recP xs first) (Wi.recP xs first) _ P1.out P5.out).mono ?_
            rintro e w18 ⟨rfl, hb18⟩
            rw [show (Wi.recP xs first == Wi.recP xs first) = true from beq_self_eq_true _]
            replace Y := Wc.hid (Y.out.keep hb18)
            replace HV := Wc.hid (HV.out.keep hb18)
            replace R3 := Wc.hid (R3.out.keep hb18)
            replace B := Wc.hid (Wc.step B.out (Nat.le_refl _) hb18)
            clear hb18
            go_wp2_with fail
            refine (refOpen_any _ xs _ HV.out HDX.out).mono ?_
            rintro e w14 ⟨a7, n7, c7, a8, n8, c8, a9, n9, c9, a10, n10, c10, k14, rfl, hR7, hb14, -⟩
            rw [HS.out, HTT.out, HE.out]
            rw [HL3.out] at hR7
            have bA : Below w14.heap.size w14 (w14.alloc (.cells #[.int .i64 S.gen, .int .i64 S.blocks, .int .i64 S.root, .int .i64 S.size, .int .i64 S.first, .int .i64 T, .slice a7 n7 c7, .slice a8 n8 c8, .slice a9 n9 c9, .slice a10 n10 c10] 53)) := (Below.refl _ _).alloc (Nat.le_refl _) _
            have bF : Below (w14.alloc (.cells #[.int .i64 S.gen, .int .i64 S.blocks, .int .i64 S.root, .int .i64 S.size, .int .i64 S.first, .int .i64 T, .slice a7 n7 c7, .slice a8 n8 c8, .slice a9 n9 c9, .slice a10 n10 c10] 53)).heap.size (w14.alloc (.cells #[.int .i64 S.gen, .int .i64 S.blocks, .int .i64 S.root, .int .i64 S.size, .int .i64 S.first, .int .i64 T, .slice a7 n7 c7, .slice a8 n8 c8, .slice a9 n9 c9, .slice a10 n10 c10] 53)) ((w14.alloc (.cells #[.int .i64 S.gen, .int .i64 S.blocks, .int .i64 S.root, .int .i64 S.size, .int .i64 S.first, .int .i64 T, .slice a7 n7 c7, .slice a8 n8 c8, .slice a9 n9 c9, .slice a10 n10 c10] 53)).alloc (.cells #[.int .i64 k14, .int .i64 E] 55)) := (Below.refl _ _).alloc (Nat.le_refl _) _
            have bAF := Wc.step bA (Nat.le_refl _) bF
            have ⟨i0, i1, i2, i3, i4, i5, i6, i7, i8, i9⟩ := ((Ih.new w14 S T (.slice a7 n7 c7) (.slice a8 n8 c8) (.slice a9 n9 c9) (.slice a10 n10 c10)).keep bF).ic
            have hF := Fh.new (w14.alloc (.cells #[.int .i64 S.gen, .int .i64 S.blocks, .int .i64 S.root, .int .i64 S.size, .int .i64 S.first, .int .i64 T, .slice a7 n7 c7, .slice a8 n8 c8, .slice a9 n9 c9, .slice a10 n10 c10] 53)) k14 E
            rw [show (w14.alloc (.cells #[.int .i64 S.gen, .int .i64 S.blocks, .int .i64 S.root, .int .i64 S.size, .int .i64 S.first, .int .i64 T, .slice a7 n7 c7, .slice a8 n8 c8, .slice a9 n9 c9, .slice a10 n10 c10] 53)).heap.size = w14.heap.size + 1 by simp] at hF
            obtain ⟨f0, f1, -⟩ := hF.fc
            have R7 := Wc.hid (hR7.keep bAF)
            have hb15 := Wc.step hb14 (Nat.le_refl _) bAF
            clear bA bF bAF hF hR7 hb14
            replace Y := Wc.hid (Y.out.keep hb15)
            replace R3 := Wc.hid (R3.out.keep hb15)
            replace B := Wc.hid (Wc.step B.out (Nat.le_refl _) hb15)
            clear hb15
            have ⟨y0, y1, y2, y3, y4, y5, y6⟩ := Y.out.zc
            have hee : (E == E) = true := beq_self_eq_true E
            unfold imv
            go_wp2_with fail
            refine (kstate_any S S T T a3 a7 n3 c3 n7 c7 L3 L3 _ R3.out R7.out).mono ?_
            rintro e w16 ⟨rfl, hb16⟩
            rw [show stEq S S T T L3 L3 = true from stEq_iff.2 ⟨rfl, rfl, rfl⟩]
            clear y0 y1 y2 y3 y4 y5 y6 i0 i1 i2 i3 i4 i5 i6 i7 i8 i9 f0 f1 hee
            replace B := Wc.hid (Wc.step B.out (Nat.le_refl _) hb16)
            clear hb16
            go_wp2_with fail
            refine (wakes_any _).mono ?_
            rintro e w17 ⟨rfl, hb17⟩
            replace B := Wc.hid (Wc.step B.out (Nat.le_refl _) hb17)
            clear hb17
            go_wp2_with fail
            go_ret
            exact ⟨rfl, B.out⟩
    · by_cases hw : wt < 0
      · have hj := RW.out.none (by rw [HLL.out]; omega) hw
        obtain rfl : wt = -1 := hj.1
        obtain rfl : fN = 0 := by rw [← HFN.out]; unfold Wi.fndN; rw [hj.2]
        obtain rfl : fB = false := by rw [← HFB.out, hj.2]; rfl
        have hmax : max (-1 : Int) 0 = 0 := by decide
        clear hj RW
        replace Z := Wc.hid (Z.out.keep RB.out)
        replace Y := Wc.hid (Y.out.keep RB.out)
        replace HV := Wc.hid (HV.out.keep RB.out)
        replace HL := Wc.hid (HL.out.keep RB.out)
        replace HT := Wc.hid (HT.out.keep RB.out)
        replace R1 := Wc.hid (R1.out.keep RB.out)
        replace P1 := Wc.hid (P1.out.keep RB.out)
        replace R3 := Wc.hid (R3.out.keep RB.out)
        replace B := Wc.hid (Wc.step B.out (Nat.le_refl _) RB.out)
        go_wp2_with fail
        refine (bytes_any _ _ xs xs _ HT.out HV.out).mono ?_
        rintro e w7 ⟨rfl, hb7⟩
        rw [show (xs == xs) = true from beq_self_eq_true xs]
        replace Z := Wc.hid (Z.out.keep hb7)
        replace Y := Wc.hid (Y.out.keep hb7)
        replace HV := Wc.hid (HV.out.keep hb7)
        replace HL := Wc.hid (HL.out.keep hb7)
        replace HT := Wc.hid (HT.out.keep hb7)
        replace R1 := Wc.hid (R1.out.keep hb7)
        replace P1 := Wc.hid (P1.out.keep hb7)
        replace R3 := Wc.hid (R3.out.keep hb7)
        replace B := Wc.hid (Wc.step B.out (Nat.le_refl _) hb7)
        clear hb7
        go_wp2_with fail
        refine (blocks_any ai ni ci _ hnb).mono ?_
        rintro e w11 ⟨rfl, rfl⟩
        cases hd : Wd.devB ni
        · have hdx : Wd.devB xs.length = false := by rw [HNL.out]; exact hd
          have hr := Wi.rec_dev (first := first) hdx
          have ho := opn_nodev hdx
          have e1 : E1 = 2 := by rw [← HE1.out]; exact hr.1
          have e2 : E = 2 := by rw [← HE.out]; exact ho.1
          have e3 : S = Ws.s0 := by rw [← HS.out]; exact ho.2.1
          have e4 : T = 0 := by rw [← HTT.out]; exact ho.2.2.1
          have e5 : L3 = [] := by rw [← HL3.out]; exact ho.2.2.2
          have e6 : n1 = 0 := by rw [← Wi.rs_len R1.out, hr.2.2]; rfl
          have e7 : n2 = 0 := by rw [← Wv.rv_len P1.out, hr.2.1]; rfl
          subst e1 e2 e3 e4 e5 e6 e7
          clear hr ho hdx hd
          have ⟨y0, y1, y2, y3, y4, y5, y6⟩ := Y.out.zc
          go_wp2_with fail
          refine (kstate_any Ws.s0 Ws.s0 0 0 a3 none n3 c3 0 0 [] [] _ R3.out (Wi.Rs.nil _)).mono ?_
          rintro e w12 ⟨rfl, hb12⟩
          rw [show stEq Ws.s0 Ws.s0 0 0 [] [] = true from stEq_iff.2 ⟨rfl, rfl, rfl⟩]
          clear y0 y1 y2 y3 y4 y5 y6
          replace B := Wc.hid (Wc.step B.out (Nat.le_refl _) hb12)
          clear hb12
          go_wp2_with fail
          refine (wakes_any _).mono ?_
          rintro e w13 ⟨rfl, hb13⟩
          replace B := Wc.hid (Wc.step B.out (Nat.le_refl _) hb13)
          clear hb13
          go_wp2_with fail
          go_ret
          exact ⟨rfl, B.out⟩
        · have hdx : Wd.devB xs.length = true := by rw [HNL.out]; exact hd
          have HDX := Wc.hid hdx
          clear hdx hd
          go_wp2_with fail
          refine (refRecs_any _ xs first _ HV.out HDX.out).mono ?_
          rintro e w12 ⟨a5, n5, c5, a6, n6, c6, bad, rfl, hR5, hP5, hb12, -, -⟩
          replace Y := Wc.hid (Y.out.keep hb12)
          replace HV := Wc.hid (HV.out.keep hb12)
          replace R1 := Wc.hid (R1.out.keep hb12)
          replace P1 := Wc.hid (P1.out.keep hb12)
          replace R3 := Wc.hid (R3.out.keep hb12)
          replace B := Wc.hid (Wc.step B.out (Nat.le_refl _) hb12)
          clear hb12
          have R5 := Wc.hid hR5
          have P5 := Wc.hid hP5
          clear hR5 hP5
          cases hrc : Wi.recs xs first
          · have hr := Wi.rec_none HDX.out hrc
            have e1 : E1 = 7 := by rw [← HE1.out]; exact hr.1
            have e6 : n1 = 0 := by rw [← Wi.rs_len R1.out, hr.2.2]; rfl
            have e7 : n2 = 0 := by rw [← Wv.rv_len P1.out, hr.2.1]; rfl
            subst e1 e6 e7
            rw [show (none : Option (List Int)).isSome = false from rfl]
            clear hr hrc R1 P1 R5 P5
            go_wp2_with fail
            refine (refOpen_any _ xs _ HV.out HDX.out).mono ?_
            rintro e w14 ⟨a7, n7, c7, a8, n8, c8, a9, n9, c9, a10, n10, c10, k14, rfl, hR7, hb14, -⟩
            rw [HS.out, HTT.out, HE.out]
            rw [HL3.out] at hR7
            have bA : Below w14.heap.size w14 (w14.alloc (.cells #[.int .i64 S.gen, .int .i64 S.blocks, .int .i64 S.root, .int .i64 S.size, .int .i64 S.first, .int .i64 T, .slice a7 n7 c7, .slice a8 n8 c8, .slice a9 n9 c9, .slice a10 n10 c10] 53)) := (Below.refl _ _).alloc (Nat.le_refl _) _
            have bF : Below (w14.alloc (.cells #[.int .i64 S.gen, .int .i64 S.blocks, .int .i64 S.root, .int .i64 S.size, .int .i64 S.first, .int .i64 T, .slice a7 n7 c7, .slice a8 n8 c8, .slice a9 n9 c9, .slice a10 n10 c10] 53)).heap.size (w14.alloc (.cells #[.int .i64 S.gen, .int .i64 S.blocks, .int .i64 S.root, .int .i64 S.size, .int .i64 S.first, .int .i64 T, .slice a7 n7 c7, .slice a8 n8 c8, .slice a9 n9 c9, .slice a10 n10 c10] 53)) ((w14.alloc (.cells #[.int .i64 S.gen, .int .i64 S.blocks, .int .i64 S.root, .int .i64 S.size, .int .i64 S.first, .int .i64 T, .slice a7 n7 c7, .slice a8 n8 c8, .slice a9 n9 c9, .slice a10 n10 c10] 53)).alloc (.cells #[.int .i64 k14, .int .i64 E] 55)) := (Below.refl _ _).alloc (Nat.le_refl _) _
            have bAF := Wc.step bA (Nat.le_refl _) bF
            have ⟨i0, i1, i2, i3, i4, i5, i6, i7, i8, i9⟩ := ((Ih.new w14 S T (.slice a7 n7 c7) (.slice a8 n8 c8) (.slice a9 n9 c9) (.slice a10 n10 c10)).keep bF).ic
            have hF := Fh.new (w14.alloc (.cells #[.int .i64 S.gen, .int .i64 S.blocks, .int .i64 S.root, .int .i64 S.size, .int .i64 S.first, .int .i64 T, .slice a7 n7 c7, .slice a8 n8 c8, .slice a9 n9 c9, .slice a10 n10 c10] 53)) k14 E
            rw [show (w14.alloc (.cells #[.int .i64 S.gen, .int .i64 S.blocks, .int .i64 S.root, .int .i64 S.size, .int .i64 S.first, .int .i64 T, .slice a7 n7 c7, .slice a8 n8 c8, .slice a9 n9 c9, .slice a10 n10 c10] 53)).heap.size = w14.heap.size + 1 by simp] at hF
            obtain ⟨f0, f1, -⟩ := hF.fc
            have R7 := Wc.hid (hR7.keep bAF)
            have hb15 := Wc.step hb14 (Nat.le_refl _) bAF
            clear bA bF bAF hF hR7 hb14
            replace Y := Wc.hid (Y.out.keep hb15)
            replace R3 := Wc.hid (R3.out.keep hb15)
            replace B := Wc.hid (Wc.step B.out (Nat.le_refl _) hb15)
            clear hb15
            have ⟨y0, y1, y2, y3, y4, y5, y6⟩ := Y.out.zc
            have hee : (E == E) = true := beq_self_eq_true E
            unfold imv
            go_wp2_with fail
            refine (kstate_any S S T T a3 a7 n3 c3 n7 c7 L3 L3 _ R3.out R7.out).mono ?_
            rintro e w16 ⟨rfl, hb16⟩
            rw [show stEq S S T T L3 L3 = true from stEq_iff.2 ⟨rfl, rfl, rfl⟩]
            clear y0 y1 y2 y3 y4 y5 y6 i0 i1 i2 i3 i4 i5 i6 i7 i8 i9 f0 f1 hee
            replace B := Wc.hid (Wc.step B.out (Nat.le_refl _) hb16)
            clear hb16
            go_wp2_with fail
            refine (wakes_any _).mono ?_
            rintro e w17 ⟨rfl, hb17⟩
            replace B := Wc.hid (Wc.step B.out (Nat.le_refl _) hb17)
            clear hb17
            go_wp2_with fail
            go_ret
            exact ⟨rfl, B.out⟩
          · have hr := Wi.rec_some HDX.out hrc
            have e1 : E1 = 0 := by rw [← HE1.out]; exact hr.1
            subst e1
            rw [Option.isSome_some]
            clear hr hrc
            go_wp2_with fail
            refine (krecs_any _ _ (Wi.recL xs first) (Wi.recL xs first) _ R1.out R5.out).mono ?_
            rintro e w13 ⟨rfl, hb13⟩
            rw [Wi.recsB_iff.2 rfl]
            replace Y := Wc.hid (Y.out.keep hb13)
            replace HV := Wc.hid (HV.out.keep hb13)
            replace R3 := Wc.hid (R3.out.keep hb13)
            replace P1 := Wc.hid (P1.out.keep hb13)
            replace P5 := Wc.hid (P5.out.keep hb13)
            replace B := Wc.hid (Wc.step B.out (Nat.le_refl _) hb13)
            clear hb13
            go_wp2_with fail
            refine (ints_any _ _ (Wi.recP xs first) (Wi.recP xs first) _ P1.out P5.out).mono ?_
            rintro e w18 ⟨rfl, hb18⟩
            rw [show (Wi.recP xs first == Wi.recP xs first) = true from beq_self_eq_true _]
            replace Y := Wc.hid (Y.out.keep hb18)
            replace HV := Wc.hid (HV.out.keep hb18)
            replace R3 := Wc.hid (R3.out.keep hb18)
            replace B := Wc.hid (Wc.step B.out (Nat.le_refl _) hb18)
            clear hb18
            go_wp2_with fail
            refine (refOpen_any _ xs _ HV.out HDX.out).mono ?_
            rintro e w14 ⟨a7, n7, c7, a8, n8, c8, a9, n9, c9, a10, n10, c10, k14, rfl, hR7, hb14, -⟩
            rw [HS.out, HTT.out, HE.out]
            rw [HL3.out] at hR7
            have bA : Below w14.heap.size w14 (w14.alloc (.cells #[.int .i64 S.gen, .int .i64 S.blocks, .int .i64 S.root, .int .i64 S.size, .int .i64 S.first, .int .i64 T, .slice a7 n7 c7, .slice a8 n8 c8, .slice a9 n9 c9, .slice a10 n10 c10] 53)) := (Below.refl _ _).alloc (Nat.le_refl _) _
            have bF : Below (w14.alloc (.cells #[.int .i64 S.gen, .int .i64 S.blocks, .int .i64 S.root, .int .i64 S.size, .int .i64 S.first, .int .i64 T, .slice a7 n7 c7, .slice a8 n8 c8, .slice a9 n9 c9, .slice a10 n10 c10] 53)).heap.size (w14.alloc (.cells #[.int .i64 S.gen, .int .i64 S.blocks, .int .i64 S.root, .int .i64 S.size, .int .i64 S.first, .int .i64 T, .slice a7 n7 c7, .slice a8 n8 c8, .slice a9 n9 c9, .slice a10 n10 c10] 53)) ((w14.alloc (.cells #[.int .i64 S.gen, .int .i64 S.blocks, .int .i64 S.root, .int .i64 S.size, .int .i64 S.first, .int .i64 T, .slice a7 n7 c7, .slice a8 n8 c8, .slice a9 n9 c9, .slice a10 n10 c10] 53)).alloc (.cells #[.int .i64 k14, .int .i64 E] 55)) := (Below.refl _ _).alloc (Nat.le_refl _) _
            have bAF := Wc.step bA (Nat.le_refl _) bF
            have ⟨i0, i1, i2, i3, i4, i5, i6, i7, i8, i9⟩ := ((Ih.new w14 S T (.slice a7 n7 c7) (.slice a8 n8 c8) (.slice a9 n9 c9) (.slice a10 n10 c10)).keep bF).ic
            have hF := Fh.new (w14.alloc (.cells #[.int .i64 S.gen, .int .i64 S.blocks, .int .i64 S.root, .int .i64 S.size, .int .i64 S.first, .int .i64 T, .slice a7 n7 c7, .slice a8 n8 c8, .slice a9 n9 c9, .slice a10 n10 c10] 53)) k14 E
            rw [show (w14.alloc (.cells #[.int .i64 S.gen, .int .i64 S.blocks, .int .i64 S.root, .int .i64 S.size, .int .i64 S.first, .int .i64 T, .slice a7 n7 c7, .slice a8 n8 c8, .slice a9 n9 c9, .slice a10 n10 c10] 53)).heap.size = w14.heap.size + 1 by simp] at hF
            obtain ⟨f0, f1, -⟩ := hF.fc
            have R7 := Wc.hid (hR7.keep bAF)
            have hb15 := Wc.step hb14 (Nat.le_refl _) bAF
            clear bA bF bAF hF hR7 hb14
            replace Y := Wc.hid (Y.out.keep hb15)
            replace R3 := Wc.hid (R3.out.keep hb15)
            replace B := Wc.hid (Wc.step B.out (Nat.le_refl _) hb15)
            clear hb15
            have ⟨y0, y1, y2, y3, y4, y5, y6⟩ := Y.out.zc
            have hee : (E == E) = true := beq_self_eq_true E
            unfold imv
            go_wp2_with fail
            refine (kstate_any S S T T a3 a7 n3 c3 n7 c7 L3 L3 _ R3.out R7.out).mono ?_
            rintro e w16 ⟨rfl, hb16⟩
            rw [show stEq S S T T L3 L3 = true from stEq_iff.2 ⟨rfl, rfl, rfl⟩]
            clear y0 y1 y2 y3 y4 y5 y6 i0 i1 i2 i3 i4 i5 i6 i7 i8 i9 f0 f1 hee
            replace B := Wc.hid (Wc.step B.out (Nat.le_refl _) hb16)
            clear hb16
            go_wp2_with fail
            refine (wakes_any _).mono ?_
            rintro e w17 ⟨rfl, hb17⟩
            replace B := Wc.hid (Wc.step B.out (Nat.le_refl _) hb17)
            clear hb17
            go_wp2_with fail
            go_ret
            exact ⟨rfl, B.out⟩
      · obtain ⟨j, rfl, hj⟩ := RW.out.some (by omega)
        obtain rfl : fN = (j : Int) := by rw [← HFN.out]; unfold Wi.fndN; rw [hj]
        obtain rfl : fB = true := by rw [← HFB.out, hj]; rfl
        have hmax : max (j : Int) 0 = (j : Int) := by omega
        clear hj RW
        replace Z := Wc.hid (Z.out.keep RB.out)
        replace Y := Wc.hid (Y.out.keep RB.out)
        replace HV := Wc.hid (HV.out.keep RB.out)
        replace HL := Wc.hid (HL.out.keep RB.out)
        replace HT := Wc.hid (HT.out.keep RB.out)
        replace R1 := Wc.hid (R1.out.keep RB.out)
        replace P1 := Wc.hid (P1.out.keep RB.out)
        replace R3 := Wc.hid (R3.out.keep RB.out)
        replace B := Wc.hid (Wc.step B.out (Nat.le_refl _) RB.out)
        go_wp2_with fail
        refine (bytes_any _ _ xs xs _ HT.out HV.out).mono ?_
        rintro e w7 ⟨rfl, hb7⟩
        rw [show (xs == xs) = true from beq_self_eq_true xs]
        replace Z := Wc.hid (Z.out.keep hb7)
        replace Y := Wc.hid (Y.out.keep hb7)
        replace HV := Wc.hid (HV.out.keep hb7)
        replace HL := Wc.hid (HL.out.keep hb7)
        replace HT := Wc.hid (HT.out.keep hb7)
        replace R1 := Wc.hid (R1.out.keep hb7)
        replace P1 := Wc.hid (P1.out.keep hb7)
        replace R3 := Wc.hid (R3.out.keep hb7)
        replace B := Wc.hid (Wc.step B.out (Nat.le_refl _) hb7)
        clear hb7
        go_wp2_with fail
        refine (blocks_any ai ni ci _ hnb).mono ?_
        rintro e w11 ⟨rfl, rfl⟩
        cases hd : Wd.devB ni
        · have hdx : Wd.devB xs.length = false := by rw [HNL.out]; exact hd
          have hr := Wi.rec_dev (first := first) hdx
          have ho := opn_nodev hdx
          have e1 : E1 = 2 := by rw [← HE1.out]; exact hr.1
          have e2 : E = 2 := by rw [← HE.out]; exact ho.1
          have e3 : S = Ws.s0 := by rw [← HS.out]; exact ho.2.1
          have e4 : T = 0 := by rw [← HTT.out]; exact ho.2.2.1
          have e5 : L3 = [] := by rw [← HL3.out]; exact ho.2.2.2
          have e6 : n1 = 0 := by rw [← Wi.rs_len R1.out, hr.2.2]; rfl
          have e7 : n2 = 0 := by rw [← Wv.rv_len P1.out, hr.2.1]; rfl
          subst e1 e2 e3 e4 e5 e6 e7
          clear hr ho hdx hd
          have ⟨y0, y1, y2, y3, y4, y5, y6⟩ := Y.out.zc
          go_wp2_with fail
          refine (kstate_any Ws.s0 Ws.s0 0 0 a3 none n3 c3 0 0 [] [] _ R3.out (Wi.Rs.nil _)).mono ?_
          rintro e w12 ⟨rfl, hb12⟩
          rw [show stEq Ws.s0 Ws.s0 0 0 [] [] = true from stEq_iff.2 ⟨rfl, rfl, rfl⟩]
          clear y0 y1 y2 y3 y4 y5 y6
          replace B := Wc.hid (Wc.step B.out (Nat.le_refl _) hb12)
          clear hb12
          go_wp2_with fail
          refine (wakes_any _).mono ?_
          rintro e w13 ⟨rfl, hb13⟩
          replace B := Wc.hid (Wc.step B.out (Nat.le_refl _) hb13)
          clear hb13
          go_wp2_with fail
          go_ret
          exact ⟨rfl, B.out⟩
        · have hdx : Wd.devB xs.length = true := by rw [HNL.out]; exact hd
          have HDX := Wc.hid hdx
          clear hdx hd
          go_wp2_with fail
          refine (refRecs_any _ xs first _ HV.out HDX.out).mono ?_
          rintro e w12 ⟨a5, n5, c5, a6, n6, c6, bad, rfl, hR5, hP5, hb12, -, -⟩
          replace Y := Wc.hid (Y.out.keep hb12)
          replace HV := Wc.hid (HV.out.keep hb12)
          replace R1 := Wc.hid (R1.out.keep hb12)
          replace P1 := Wc.hid (P1.out.keep hb12)
          replace R3 := Wc.hid (R3.out.keep hb12)
          replace B := Wc.hid (Wc.step B.out (Nat.le_refl _) hb12)
          clear hb12
          have R5 := Wc.hid hR5
          have P5 := Wc.hid hP5
          clear hR5 hP5
          cases hrc : Wi.recs xs first
          · have hr := Wi.rec_none HDX.out hrc
            have e1 : E1 = 7 := by rw [← HE1.out]; exact hr.1
            have e6 : n1 = 0 := by rw [← Wi.rs_len R1.out, hr.2.2]; rfl
            have e7 : n2 = 0 := by rw [← Wv.rv_len P1.out, hr.2.1]; rfl
            subst e1 e6 e7
            rw [show (none : Option (List Int)).isSome = false from rfl]
            clear hr hrc R1 P1 R5 P5
            go_wp2_with fail
            refine (refOpen_any _ xs _ HV.out HDX.out).mono ?_
            rintro e w14 ⟨a7, n7, c7, a8, n8, c8, a9, n9, c9, a10, n10, c10, k14, rfl, hR7, hb14, -⟩
            rw [HS.out, HTT.out, HE.out]
            rw [HL3.out] at hR7
            have bA : Below w14.heap.size w14 (w14.alloc (.cells #[.int .i64 S.gen, .int .i64 S.blocks, .int .i64 S.root, .int .i64 S.size, .int .i64 S.first, .int .i64 T, .slice a7 n7 c7, .slice a8 n8 c8, .slice a9 n9 c9, .slice a10 n10 c10] 53)) := (Below.refl _ _).alloc (Nat.le_refl _) _
            have bF : Below (w14.alloc (.cells #[.int .i64 S.gen, .int .i64 S.blocks, .int .i64 S.root, .int .i64 S.size, .int .i64 S.first, .int .i64 T, .slice a7 n7 c7, .slice a8 n8 c8, .slice a9 n9 c9, .slice a10 n10 c10] 53)).heap.size (w14.alloc (.cells #[.int .i64 S.gen, .int .i64 S.blocks, .int .i64 S.root, .int .i64 S.size, .int .i64 S.first, .int .i64 T, .slice a7 n7 c7, .slice a8 n8 c8, .slice a9 n9 c9, .slice a10 n10 c10] 53)) ((w14.alloc (.cells #[.int .i64 S.gen, .int .i64 S.blocks, .int .i64 S.root, .int .i64 S.size, .int .i64 S.first, .int .i64 T, .slice a7 n7 c7, .slice a8 n8 c8, .slice a9 n9 c9, .slice a10 n10 c10] 53)).alloc (.cells #[.int .i64 k14, .int .i64 E] 55)) := (Below.refl _ _).alloc (Nat.le_refl _) _
            have bAF := Wc.step bA (Nat.le_refl _) bF
            have ⟨i0, i1, i2, i3, i4, i5, i6, i7, i8, i9⟩ := ((Ih.new w14 S T (.slice a7 n7 c7) (.slice a8 n8 c8) (.slice a9 n9 c9) (.slice a10 n10 c10)).keep bF).ic
            have hF := Fh.new (w14.alloc (.cells #[.int .i64 S.gen, .int .i64 S.blocks, .int .i64 S.root, .int .i64 S.size, .int .i64 S.first, .int .i64 T, .slice a7 n7 c7, .slice a8 n8 c8, .slice a9 n9 c9, .slice a10 n10 c10] 53)) k14 E
            rw [show (w14.alloc (.cells #[.int .i64 S.gen, .int .i64 S.blocks, .int .i64 S.root, .int .i64 S.size, .int .i64 S.first, .int .i64 T, .slice a7 n7 c7, .slice a8 n8 c8, .slice a9 n9 c9, .slice a10 n10 c10] 53)).heap.size = w14.heap.size + 1 by simp] at hF
            obtain ⟨f0, f1, -⟩ := hF.fc
            have R7 := Wc.hid (hR7.keep bAF)
            have hb15 := Wc.step hb14 (Nat.le_refl _) bAF
            clear bA bF bAF hF hR7 hb14
            replace Y := Wc.hid (Y.out.keep hb15)
            replace R3 := Wc.hid (R3.out.keep hb15)
            replace B := Wc.hid (Wc.step B.out (Nat.le_refl _) hb15)
            clear hb15
            have ⟨y0, y1, y2, y3, y4, y5, y6⟩ := Y.out.zc
            have hee : (E == E) = true := beq_self_eq_true E
            unfold imv
            go_wp2_with fail
            refine (kstate_any S S T T a3 a7 n3 c3 n7 c7 L3 L3 _ R3.out R7.out).mono ?_
            rintro e w16 ⟨rfl, hb16⟩
            rw [show stEq S S T T L3 L3 = true from stEq_iff.2 ⟨rfl, rfl, rfl⟩]
            clear y0 y1 y2 y3 y4 y5 y6 i0 i1 i2 i3 i4 i5 i6 i7 i8 i9 f0 f1 hee
            replace B := Wc.hid (Wc.step B.out (Nat.le_refl _) hb16)
            clear hb16
            go_wp2_with fail
            refine (wakes_any _).mono ?_
            rintro e w17 ⟨rfl, hb17⟩
            replace B := Wc.hid (Wc.step B.out (Nat.le_refl _) hb17)
            clear hb17
            go_wp2_with fail
            go_ret
            exact ⟨rfl, B.out⟩
          · have hr := Wi.rec_some HDX.out hrc
            have e1 : E1 = 0 := by rw [← HE1.out]; exact hr.1
            subst e1
            rw [Option.isSome_some]
            clear hr hrc
            go_wp2_with fail
            refine (krecs_any _ _ (Wi.recL xs first) (Wi.recL xs first) _ R1.out R5.out).mono ?_
            rintro e w13 ⟨rfl, hb13⟩
            rw [Wi.recsB_iff.2 rfl]
            replace Y := Wc.hid (Y.out.keep hb13)
            replace HV := Wc.hid (HV.out.keep hb13)
            replace R3 := Wc.hid (R3.out.keep hb13)
            replace P1 := Wc.hid (P1.out.keep hb13)
            replace P5 := Wc.hid (P5.out.keep hb13)
            replace B := Wc.hid (Wc.step B.out (Nat.le_refl _) hb13)
            clear hb13
            go_wp2_with fail
            refine (ints_any _ _ (Wi.recP xs first) (Wi.recP xs first) _ P1.out P5.out).mono ?_
            rintro e w18 ⟨rfl, hb18⟩
            rw [show (Wi.recP xs first == Wi.recP xs first) = true from beq_self_eq_true _]
            replace Y := Wc.hid (Y.out.keep hb18)
            replace HV := Wc.hid (HV.out.keep hb18)
            replace R3 := Wc.hid (R3.out.keep hb18)
            replace B := Wc.hid (Wc.step B.out (Nat.le_refl _) hb18)
            clear hb18
            go_wp2_with fail
            refine (refOpen_any _ xs _ HV.out HDX.out).mono ?_
            rintro e w14 ⟨a7, n7, c7, a8, n8, c8, a9, n9, c9, a10, n10, c10, k14, rfl, hR7, hb14, -⟩
            rw [HS.out, HTT.out, HE.out]
            rw [HL3.out] at hR7
            have bA : Below w14.heap.size w14 (w14.alloc (.cells #[.int .i64 S.gen, .int .i64 S.blocks, .int .i64 S.root, .int .i64 S.size, .int .i64 S.first, .int .i64 T, .slice a7 n7 c7, .slice a8 n8 c8, .slice a9 n9 c9, .slice a10 n10 c10] 53)) := (Below.refl _ _).alloc (Nat.le_refl _) _
            have bF : Below (w14.alloc (.cells #[.int .i64 S.gen, .int .i64 S.blocks, .int .i64 S.root, .int .i64 S.size, .int .i64 S.first, .int .i64 T, .slice a7 n7 c7, .slice a8 n8 c8, .slice a9 n9 c9, .slice a10 n10 c10] 53)).heap.size (w14.alloc (.cells #[.int .i64 S.gen, .int .i64 S.blocks, .int .i64 S.root, .int .i64 S.size, .int .i64 S.first, .int .i64 T, .slice a7 n7 c7, .slice a8 n8 c8, .slice a9 n9 c9, .slice a10 n10 c10] 53)) ((w14.alloc (.cells #[.int .i64 S.gen, .int .i64 S.blocks, .int .i64 S.root, .int .i64 S.size, .int .i64 S.first, .int .i64 T, .slice a7 n7 c7, .slice a8 n8 c8, .slice a9 n9 c9, .slice a10 n10 c10] 53)).alloc (.cells #[.int .i64 k14, .int .i64 E] 55)) := (Below.refl _ _).alloc (Nat.le_refl _) _
            have bAF := Wc.step bA (Nat.le_refl _) bF
            have ⟨i0, i1, i2, i3, i4, i5, i6, i7, i8, i9⟩ := ((Ih.new w14 S T (.slice a7 n7 c7) (.slice a8 n8 c8) (.slice a9 n9 c9) (.slice a10 n10 c10)).keep bF).ic
            have hF := Fh.new (w14.alloc (.cells #[.int .i64 S.gen, .int .i64 S.blocks, .int .i64 S.root, .int .i64 S.size, .int .i64 S.first, .int .i64 T, .slice a7 n7 c7, .slice a8 n8 c8, .slice a9 n9 c9, .slice a10 n10 c10] 53)) k14 E
            rw [show (w14.alloc (.cells #[.int .i64 S.gen, .int .i64 S.blocks, .int .i64 S.root, .int .i64 S.size, .int .i64 S.first, .int .i64 T, .slice a7 n7 c7, .slice a8 n8 c8, .slice a9 n9 c9, .slice a10 n10 c10] 53)).heap.size = w14.heap.size + 1 by simp] at hF
            obtain ⟨f0, f1, -⟩ := hF.fc
            have R7 := Wc.hid (hR7.keep bAF)
            have hb15 := Wc.step hb14 (Nat.le_refl _) bAF
            clear bA bF bAF hF hR7 hb14
            replace Y := Wc.hid (Y.out.keep hb15)
            replace R3 := Wc.hid (R3.out.keep hb15)
            replace B := Wc.hid (Wc.step B.out (Nat.le_refl _) hb15)
            clear hb15
            have ⟨y0, y1, y2, y3, y4, y5, y6⟩ := Y.out.zc
            have hee : (E == E) = true := beq_self_eq_true E
            unfold imv
            go_wp2_with fail
            refine (kstate_any S S T T a3 a7 n3 c3 n7 c7 L3 L3 _ R3.out R7.out).mono ?_
            rintro e w16 ⟨rfl, hb16⟩
            rw [show stEq S S T T L3 L3 = true from stEq_iff.2 ⟨rfl, rfl, rfl⟩]
            clear y0 y1 y2 y3 y4 y5 y6 i0 i1 i2 i3 i4 i5 i6 i7 i8 i9 f0 f1 hee
            replace B := Wc.hid (Wc.step B.out (Nat.le_refl _) hb16)
            clear hb16
            go_wp2_with fail
            refine (wakes_any _).mono ?_
            rintro e w17 ⟨rfl, hb17⟩
            replace B := Wc.hid (Wc.step B.out (Nat.le_refl _) hb17)
            clear hb17
            go_wp2_with fail
            go_ret
            exact ⟨rfl, B.out⟩

set_option maxRecDepth 100000 in
set_option maxHeartbeats 12800000 in
theorem exact_hi (ai : Option Addr) (ni ci : Nat) (xs : List Int) (first id : Int) (z : Int) (h3 : 4096 < z) (s : Ws.Sup) (t : Int) (a : Option Addr) (n c : Nat) (l : List Wr.Rec) (w : World)
    (hv : Wc.Bs w (.slice ai ni ci) xs) (hsh : Wc.Shaped (.slice ai ni ci)) (hni : ni ≤ 19200) (hl : Wi.Rs w (.slice a n c) l) (hn : n ≤ 100) :
    Calls Try.prog 3 #[.slice ai ni ci, .int .i64 first, .int .i64 z, .int .i64 id, stv s t (.slice a n c)] w fun e w' => e = .returned (.bool true) ∧ Below w.heap.size w w' := by
  have hh : Wd.heavyB ni [] = false := by rw [hvy_nil]; simp; omega
  have HNL := Wc.hid (Wc.bs_len hv)
  have hnb : ni ≤ 140737488355328 := by omega
  have hls := hl
  obtain ⟨_, _, _, h1, hll, hlc, hlc2, hln, hpos⟩ := hls
  cases h1
  have HLL := Wc.hid hll
  have HPS := Wc.hid hpos
  clear hll hpos
  have hb : Below w.heap.size w (w.alloc (.cells #[.int .i64 s.gen, .int .i64 s.blocks, .int .i64 s.root, .int .i64 s.size, .int .i64 s.first, .int .i64 t, .slice a n c] 27)) := (Below.refl _ _).alloc (Nat.le_refl _) _
  have Z := Wc.hid (Zh.new w s t (.slice a n c))
  have HV := Wc.hid (hv.keep hb)
  have HL := Wc.hid (hl.keep hb)
  have HSH := Wc.hid hsh
  have B := Wc.hid hb
  have ⟨z0, z1, z2, z3, z4, z5, z6⟩ := Z.out.zc
  clear hv hsh hl hb
  unfold stv
  go_enter Try.func3, Try.ntmps3
  go_wp2_with fail
  refine (heavy_raw _ _ _ _ _ _ [] _ (rw_nil _)).mono ?_
  rintro e w1 ⟨rfl, rfl⟩
  rw [hh]
  go_wp2_with fail
  refine (twin_any _ xs _ HV.out HSH.out).mono ?_
  rintro e w2 ⟨v, rfl, hT, hb2⟩
  obtain ⟨ax, nx, cx, rfl, -⟩ := _root_.id hT
  have HT := Wc.hid hT
  clear hT HSH hh z0 z1 z2 z3 z4 z5 z6
  replace Z := Wc.hid (Z.out.keep hb2)
  replace HV := Wc.hid (HV.out.keep hb2)
  replace HL := Wc.hid (HL.out.keep hb2)
  replace B := Wc.hid (Wc.step B.out (Nat.le_refl _) hb2)
  clear hb2
  obtain ⟨E1, hE1⟩ : ∃ E1, Wi.recE xs first = E1 := ⟨_, rfl⟩
  obtain ⟨E, hE⟩ : ∃ E, opnE xs = E := ⟨_, rfl⟩
  obtain ⟨S, hS⟩ : ∃ S, opnS xs = S := ⟨_, rfl⟩
  obtain ⟨T, hTT⟩ : ∃ T, opnT xs = T := ⟨_, rfl⟩
  obtain ⟨L3, hL3⟩ : ∃ L3, opnL xs = L3 := ⟨_, rfl⟩
  have HE1 := Wc.hid hE1
  have HE := Wc.hid hE
  have HS := Wc.hid hS
  have HTT := Wc.hid hTT
  have HL3 := Wc.hid hL3
  clear hE1 hE hS hTT hL3
  go_wp2_with fail
  refine (records_any _ xs first _ HT.out).mono ?_
  rintro e w3 ⟨a1, n1, c1, a2, n2, c2, rfl, hR1, hP1, hb3⟩
  rw [HE1.out]
  have R1 := Wc.hid hR1
  have P1 := Wc.hid hP1
  clear hR1 hP1
  replace Z := Wc.hid (Z.out.keep hb3)
  replace HV := Wc.hid (HV.out.keep hb3)
  replace HL := Wc.hid (HL.out.keep hb3)
  replace HT := Wc.hid (HT.out.keep hb3)
  replace B := Wc.hid (Wc.step B.out (Nat.le_refl _) hb3)
  clear hb3
  go_wp2_with fail
  refine (oopen_any _ xs _ HT.out).mono ?_
  rintro e w4 ⟨a3, n3, c3, rfl, hR3, hb4⟩
  rw [HE.out, HS.out, HTT.out]
  rw [HL3.out] at hR3
  have bA : Below w4.heap.size w4 (w4.alloc (.cells #[.int .i64 S.gen, .int .i64 S.blocks, .int .i64 S.root, .int .i64 S.size, .int .i64 S.first, .int .i64 T, .slice a3 n3 c3] 27)) := (Below.refl _ _).alloc (Nat.le_refl _) _
  have R3 := Wc.hid (hR3.keep bA)
  have Y := Wc.hid (Zh.new w4 S T (.slice a3 n3 c3))
  have hb5 := Wc.step hb4 (Nat.le_refl _) bA
  clear hR3 bA hb4
  replace Z := Wc.hid (Z.out.keep hb5)
  replace HV := Wc.hid (HV.out.keep hb5)
  replace HL := Wc.hid (HL.out.keep hb5)
  replace HT := Wc.hid (HT.out.keep hb5)
  replace R1 := Wc.hid (R1.out.keep hb5)
  replace P1 := Wc.hid (P1.out.keep hb5)
  replace B := Wc.hid (Wc.step B.out (Nat.le_refl _) hb5)
  clear hb5
  unfold stv
  go_wp2_with fail
  refine (new_no z _ (by omega)).mono ?_
  rintro e w5 ⟨rfl, rfl⟩
  have ⟨z0, z1, z2, z3, z4, z5, z6⟩ := Z.out.zc
  go_wp2_with fail
  refine (ofind_any s t id a n c l _ HL.out).mono ?_
  rintro e w6 ⟨rfl, hb7⟩
  obtain ⟨fN, hfN⟩ : ∃ fN, Wi.fndN l id = fN := ⟨_, rfl⟩
  obtain ⟨fB, hfB⟩ : ∃ fB, (Wi.fnd l id).isSome = fB := ⟨_, rfl⟩
  rw [hfN, hfB]
  have HFN := Wc.hid hfN
  have HFB := Wc.hid hfB
  clear hfN hfB
  clear z0 z1 z2 z3 z4 z5 z6
  replace Z := Wc.hid (Z.out.keep hb7)
  replace Y := Wc.hid (Y.out.keep hb7)
  replace HV := Wc.hid (HV.out.keep hb7)
  replace HL := Wc.hid (HL.out.keep hb7)
  replace HT := Wc.hid (HT.out.keep hb7)
  replace R1 := Wc.hid (R1.out.keep hb7)
  replace P1 := Wc.hid (P1.out.keep hb7)
  replace R3 := Wc.hid (R3.out.keep hb7)
  replace B := Wc.hid (Wc.step B.out (Nat.le_refl _) hb7)
  clear hb7
  obtain ⟨_, _, _, h1, -, -, -, -, hpos⟩ := HL.out
  cases h1
  replace HPS := Wc.hid hpos
  clear hpos
  go_wp2_with fail
  go_loopw [21, 22] (fun q i wr => ∃ (k : Nat) (wt : Int), i = .int .i64 k ∧ k ≤ n ∧ q = .int .i64 wt ∧ Hid (Wi.Wnt l id k wt) ∧ Hid (Below w6.heap.size w6 wr)) (fun _ i _ => n - (intOf i).toNat)
  case atStart => exact ⟨0, -1, rfl, by omega, rfl, Wc.hid (Wi.Wnt.start l id), Wc.hid (Below.refl _ _)⟩
  case round =>
    obtain ⟨k, wt, rfl, hk, rfl, RW, RB⟩ := hrel
    have ⟨z0, z1, z2, z3, z4, z5, z6⟩ := (Z.out.keep RB.out).zc
    by_cases hlt : k < n
    · by_cases hw : wt < 0
      · obtain ⟨g, off, rfl, hbg, hcs⟩ := HPS.out (by omega)
        obtain ⟨x, hx⟩ : ∃ x, l.getD k Wr.r0 = x := ⟨_, rfl⟩
        have h1 := hcs k hlt
        rw [hx] at h1
        obtain ⟨-, g1, -, -, -, g5, -, -⟩ := h1.keep RB.out
        have HX := Wc.hid hx
        have HKL : Hid (k < l.length) := Wc.hid (by rw [HLL.out]; exact hlt)
        clear hcs h1 hx
        cases hi : (x.id == id)
        · have HW := Wc.hid (RW.out.no hw (by rw [HX.out, hi]; rfl))
          go_wp2_with fail
          go_roundw
          case rel => exact ⟨k + 1, wt, by go_num, by omega, rfl, HW, RB⟩
          case measure => simp [intOf]; omega
        · cases hk0 : (x.kind == 0)
          · have HW := Wc.hid (RW.out.no hw (by rw [HX.out, hi, hk0]; rfl))
            go_wp2_with fail
            go_roundw
            case rel => exact ⟨k + 1, wt, by go_num, by omega, rfl, HW, RB⟩
            case measure => simp [intOf]; omega
          · have HW := Wc.hid (RW.out.yes hw HKL.out (by rw [HX.out, hi, hk0]; rfl))
            go_wp2_with fail
            go_roundw
            case rel => exact ⟨k + 1, (k : Int), by go_num, by omega, rfl, HW, RB⟩
            case measure => simp [intOf]; omega
      · obtain ⟨j, rfl, hj⟩ := RW.out.some (by omega)
        obtain rfl : fN = (j : Int) := by rw [← HFN.out]; unfold Wi.fndN; rw [hj]
        obtain rfl : fB = true := by rw [← HFB.out, hj]; rfl
        have hmax : max (j : Int) 0 = (j : Int) := by omega
        clear hj RW
        replace Z := Wc.hid (Z.out.keep RB.out)
        replace Y := Wc.hid (Y.out.keep RB.out)
        replace HV := Wc.hid (HV.out.keep RB.out)
        replace HL := Wc.hid (HL.out.keep RB.out)
        replace HT := Wc.hid (HT.out.keep RB.out)
        replace R1 := Wc.hid (R1.out.keep RB.out)
        replace P1 := Wc.hid (P1.out.keep RB.out)
        replace R3 := Wc.hid (R3.out.keep RB.out)
        replace B := Wc.hid (Wc.step B.out (Nat.le_refl _) RB.out)
        go_wp2_with fail
        refine (bytes_any _ _ xs xs _ HT.out HV.out).mono ?_
        rintro e w7 ⟨rfl, hb7⟩
        rw [show (xs == xs) = true from beq_self_eq_true xs]
        replace Z := Wc.hid (Z.out.keep hb7)
        replace Y := Wc.hid (Y.out.keep hb7)
        replace HV := Wc.hid (HV.out.keep hb7)
        replace HL := Wc.hid (HL.out.keep hb7)
        replace HT := Wc.hid (HT.out.keep hb7)
        replace R1 := Wc.hid (R1.out.keep hb7)
        replace P1 := Wc.hid (P1.out.keep hb7)
        replace R3 := Wc.hid (R3.out.keep hb7)
        replace B := Wc.hid (Wc.step B.out (Nat.le_refl _) hb7)
        clear hb7
        go_wp2_with fail
        refine (blocks_any ai ni ci _ hnb).mono ?_
        rintro e w11 ⟨rfl, rfl⟩
        cases hd : Wd.devB ni
        · have hdx : Wd.devB xs.length = false := by rw [HNL.out]; exact hd
          have hr := Wi.rec_dev (first := first) hdx
          have ho := opn_nodev hdx
          have e1 : E1 = 2 := by rw [← HE1.out]; exact hr.1
          have e2 : E = 2 := by rw [← HE.out]; exact ho.1
          have e3 : S = Ws.s0 := by rw [← HS.out]; exact ho.2.1
          have e4 : T = 0 := by rw [← HTT.out]; exact ho.2.2.1
          have e5 : L3 = [] := by rw [← HL3.out]; exact ho.2.2.2
          have e6 : n1 = 0 := by rw [← Wi.rs_len R1.out, hr.2.2]; rfl
          have e7 : n2 = 0 := by rw [← Wv.rv_len P1.out, hr.2.1]; rfl
          subst e1 e2 e3 e4 e5 e6 e7
          clear hr ho hdx hd
          have ⟨y0, y1, y2, y3, y4, y5, y6⟩ := Y.out.zc
          go_wp2_with fail
          refine (kstate_any Ws.s0 Ws.s0 0 0 a3 none n3 c3 0 0 [] [] _ R3.out (Wi.Rs.nil _)).mono ?_
          rintro e w12 ⟨rfl, hb12⟩
          rw [show stEq Ws.s0 Ws.s0 0 0 [] [] = true from stEq_iff.2 ⟨rfl, rfl, rfl⟩]
          clear y0 y1 y2 y3 y4 y5 y6
          replace B := Wc.hid (Wc.step B.out (Nat.le_refl _) hb12)
          clear hb12
          go_wp2_with fail
          refine (wakes_any _).mono ?_
          rintro e w13 ⟨rfl, hb13⟩
          replace B := Wc.hid (Wc.step B.out (Nat.le_refl _) hb13)
          clear hb13
          go_wp2_with fail
          go_ret
          exact ⟨rfl, B.out⟩
        · have hdx : Wd.devB xs.length = true := by rw [HNL.out]; exact hd
          have HDX := Wc.hid hdx
          clear hdx hd
          go_wp2_with fail
          refine (refRecs_any _ xs first _ HV.out HDX.out).mono ?_
          rintro e w12 ⟨a5, n5, c5, a6, n6, c6, bad, rfl, hR5, hP5, hb12, -, -⟩
          replace Y := Wc.hid (Y.out.keep hb12)
          replace HV := Wc.hid (HV.out.keep hb12)
          replace R1 := Wc.hid (R1.out.keep hb12)
          replace P1 := Wc.hid (P1.out.keep hb12)
          replace R3 := Wc.hid (R3.out.keep hb12)
          replace B := Wc.hid (Wc.step B.out (Nat.le_refl _) hb12)
          clear hb12
          have R5 := Wc.hid hR5
          have P5 := Wc.hid hP5
          clear hR5 hP5
          cases hrc : Wi.recs xs first
          · have hr := Wi.rec_none HDX.out hrc
            have e1 : E1 = 7 := by rw [← HE1.out]; exact hr.1
            have e6 : n1 = 0 := by rw [← Wi.rs_len R1.out, hr.2.2]; rfl
            have e7 : n2 = 0 := by rw [← Wv.rv_len P1.out, hr.2.1]; rfl
            subst e1 e6 e7
            rw [show (none : Option (List Int)).isSome = false from rfl]
            clear hr hrc R1 P1 R5 P5
            go_wp2_with fail
            refine (refOpen_any _ xs _ HV.out HDX.out).mono ?_
            rintro e w14 ⟨a7, n7, c7, a8, n8, c8, a9, n9, c9, a10, n10, c10, k14, rfl, hR7, hb14, -⟩
            rw [HS.out, HTT.out, HE.out]
            rw [HL3.out] at hR7
            have bA : Below w14.heap.size w14 (w14.alloc (.cells #[.int .i64 S.gen, .int .i64 S.blocks, .int .i64 S.root, .int .i64 S.size, .int .i64 S.first, .int .i64 T, .slice a7 n7 c7, .slice a8 n8 c8, .slice a9 n9 c9, .slice a10 n10 c10] 53)) := (Below.refl _ _).alloc (Nat.le_refl _) _
            have bF : Below (w14.alloc (.cells #[.int .i64 S.gen, .int .i64 S.blocks, .int .i64 S.root, .int .i64 S.size, .int .i64 S.first, .int .i64 T, .slice a7 n7 c7, .slice a8 n8 c8, .slice a9 n9 c9, .slice a10 n10 c10] 53)).heap.size (w14.alloc (.cells #[.int .i64 S.gen, .int .i64 S.blocks, .int .i64 S.root, .int .i64 S.size, .int .i64 S.first, .int .i64 T, .slice a7 n7 c7, .slice a8 n8 c8, .slice a9 n9 c9, .slice a10 n10 c10] 53)) ((w14.alloc (.cells #[.int .i64 S.gen, .int .i64 S.blocks, .int .i64 S.root, .int .i64 S.size, .int .i64 S.first, .int .i64 T, .slice a7 n7 c7, .slice a8 n8 c8, .slice a9 n9 c9, .slice a10 n10 c10] 53)).alloc (.cells #[.int .i64 k14, .int .i64 E] 55)) := (Below.refl _ _).alloc (Nat.le_refl _) _
            have bAF := Wc.step bA (Nat.le_refl _) bF
            have ⟨i0, i1, i2, i3, i4, i5, i6, i7, i8, i9⟩ := ((Ih.new w14 S T (.slice a7 n7 c7) (.slice a8 n8 c8) (.slice a9 n9 c9) (.slice a10 n10 c10)).keep bF).ic
            have hF := Fh.new (w14.alloc (.cells #[.int .i64 S.gen, .int .i64 S.blocks, .int .i64 S.root, .int .i64 S.size, .int .i64 S.first, .int .i64 T, .slice a7 n7 c7, .slice a8 n8 c8, .slice a9 n9 c9, .slice a10 n10 c10] 53)) k14 E
            rw [show (w14.alloc (.cells #[.int .i64 S.gen, .int .i64 S.blocks, .int .i64 S.root, .int .i64 S.size, .int .i64 S.first, .int .i64 T, .slice a7 n7 c7, .slice a8 n8 c8, .slice a9 n9 c9, .slice a10 n10 c10] 53)).heap.size = w14.heap.size + 1 by simp] at hF
            obtain ⟨f0, f1, -⟩ := hF.fc
            have R7 := Wc.hid (hR7.keep bAF)
            have hb15 := Wc.step hb14 (Nat.le_refl _) bAF
            clear bA bF bAF hF hR7 hb14
            replace Y := Wc.hid (Y.out.keep hb15)
            replace R3 := Wc.hid (R3.out.keep hb15)
            replace B := Wc.hid (Wc.step B.out (Nat.le_refl _) hb15)
            clear hb15
            have ⟨y0, y1, y2, y3, y4, y5, y6⟩ := Y.out.zc
            have hee : (E == E) = true := beq_self_eq_true E
            unfold imv
            go_wp2_with fail
            refine (kstate_any S S T T a3 a7 n3 c3 n7 c7 L3 L3 _ R3.out R7.out).mono ?_
            rintro e w16 ⟨rfl, hb16⟩
            rw [show stEq S S T T L3 L3 = true from stEq_iff.2 ⟨rfl, rfl, rfl⟩]
            clear y0 y1 y2 y3 y4 y5 y6 i0 i1 i2 i3 i4 i5 i6 i7 i8 i9 f0 f1 hee
            replace B := Wc.hid (Wc.step B.out (Nat.le_refl _) hb16)
            clear hb16
            go_wp2_with fail
            refine (wakes_any _).mono ?_
            rintro e w17 ⟨rfl, hb17⟩
            replace B := Wc.hid (Wc.step B.out (Nat.le_refl _) hb17)
            clear hb17
            go_wp2_with fail
            go_ret
            exact ⟨rfl, B.out⟩
          · have hr := Wi.rec_some HDX.out hrc
            have e1 : E1 = 0 := by rw [← HE1.out]; exact hr.1
            subst e1
            rw [Option.isSome_some]
            clear hr hrc
            go_wp2_with fail
            refine (krecs_any _ _ (Wi.recL xs first) (Wi.recL xs first) _ R1.out R5.out).mono ?_
            rintro e w13 ⟨rfl, hb13⟩
            rw [Wi.recsB_iff.2 rfl]
            replace Y := Wc.hid (Y.out.keep hb13)
            replace HV := Wc.hid (HV.out.keep hb13)
            replace R3 := Wc.hid (R3.out.keep hb13)
            replace P1 := Wc.hid (P1.out.keep hb13)
            replace P5 := Wc.hid (P5.out.keep hb13)
            replace B := Wc.hid (Wc.step B.out (Nat.le_refl _) hb13)
            clear hb13
            go_wp2_with fail
            refine (ints_any _ _ (Wi.recP xs first) (Wi.recP xs first) _ P1.out P5.out).mono ?_
            rintro e w18 ⟨rfl, hb18⟩
            rw [show (Wi.recP xs first == Wi.recP xs first) = true from beq_self_eq_true _]
            replace Y := Wc.hid (Y.out.keep hb18)
            replace HV := Wc.hid (HV.out.keep hb18)
            replace R3 := Wc.hid (R3.out.keep hb18)
            replace B := Wc.hid (Wc.step B.out (Nat.le_refl _) hb18)
            clear hb18
            go_wp2_with fail
            refine (refOpen_any _ xs _ HV.out HDX.out).mono ?_
            rintro e w14 ⟨a7, n7, c7, a8, n8, c8, a9, n9, c9, a10, n10, c10, k14, rfl, hR7, hb14, -⟩
            rw [HS.out, HTT.out, HE.out]
            rw [HL3.out] at hR7
            have bA : Below w14.heap.size w14 (w14.alloc (.cells #[.int .i64 S.gen, .int .i64 S.blocks, .int .i64 S.root, .int .i64 S.size, .int .i64 S.first, .int .i64 T, .slice a7 n7 c7, .slice a8 n8 c8, .slice a9 n9 c9, .slice a10 n10 c10] 53)) := (Below.refl _ _).alloc (Nat.le_refl _) _
            have bF : Below (w14.alloc (.cells #[.int .i64 S.gen, .int .i64 S.blocks, .int .i64 S.root, .int .i64 S.size, .int .i64 S.first, .int .i64 T, .slice a7 n7 c7, .slice a8 n8 c8, .slice a9 n9 c9, .slice a10 n10 c10] 53)).heap.size (w14.alloc (.cells #[.int .i64 S.gen, .int .i64 S.blocks, .int .i64 S.root, .int .i64 S.size, .int .i64 S.first, .int .i64 T, .slice a7 n7 c7, .slice a8 n8 c8, .slice a9 n9 c9, .slice a10 n10 c10] 53)) ((w14.alloc (.cells #[.int .i64 S.gen, .int .i64 S.blocks, .int .i64 S.root, .int .i64 S.size, .int .i64 S.first, .int .i64 T, .slice a7 n7 c7, .slice a8 n8 c8, .slice a9 n9 c9, .slice a10 n10 c10] 53)).alloc (.cells #[.int .i64 k14, .int .i64 E] 55)) := (Below.refl _ _).alloc (Nat.le_refl _) _
            have bAF := Wc.step bA (Nat.le_refl _) bF
            have ⟨i0, i1, i2, i3, i4, i5, i6, i7, i8, i9⟩ := ((Ih.new w14 S T (.slice a7 n7 c7) (.slice a8 n8 c8) (.slice a9 n9 c9) (.slice a10 n10 c10)).keep bF).ic
            have hF := Fh.new (w14.alloc (.cells #[.int .i64 S.gen, .int .i64 S.blocks, .int .i64 S.root, .int .i64 S.size, .int .i64 S.first, .int .i64 T, .slice a7 n7 c7, .slice a8 n8 c8, .slice a9 n9 c9, .slice a10 n10 c10] 53)) k14 E
            rw [show (w14.alloc (.cells #[.int .i64 S.gen, .int .i64 S.blocks, .int .i64 S.root, .int .i64 S.size, .int .i64 S.first, .int .i64 T, .slice a7 n7 c7, .slice a8 n8 c8, .slice a9 n9 c9, .slice a10 n10 c10] 53)).heap.size = w14.heap.size + 1 by simp] at hF
            obtain ⟨f0, f1, -⟩ := hF.fc
            have R7 := Wc.hid (hR7.keep bAF)
            have hb15 := Wc.step hb14 (Nat.le_refl _) bAF
            clear bA bF bAF hF hR7 hb14
            replace Y := Wc.hid (Y.out.keep hb15)
            replace R3 := Wc.hid (R3.out.keep hb15)
            replace B := Wc.hid (Wc.step B.out (Nat.le_refl _) hb15)
            clear hb15
            have ⟨y0, y1, y2, y3, y4, y5, y6⟩ := Y.out.zc
            have hee : (E == E) = true := beq_self_eq_true E
            unfold imv
            go_wp2_with fail
            refine (kstate_any S S T T a3 a7 n3 c3 n7 c7 L3 L3 _ R3.out R7.out).mono ?_
            rintro e w16 ⟨rfl, hb16⟩
            rw [show stEq S S T T L3 L3 = true from stEq_iff.2 ⟨rfl, rfl, rfl⟩]
            clear y0 y1 y2 y3 y4 y5 y6 i0 i1 i2 i3 i4 i5 i6 i7 i8 i9 f0 f1 hee
            replace B := Wc.hid (Wc.step B.out (Nat.le_refl _) hb16)
            clear hb16
            go_wp2_with fail
            refine (wakes_any _).mono ?_
            rintro e w17 ⟨rfl, hb17⟩
            replace B := Wc.hid (Wc.step B.out (Nat.le_refl _) hb17)
            clear hb17
            go_wp2_with fail
            go_ret
            exact ⟨rfl, B.out⟩
    · by_cases hw : wt < 0
      · have hj := RW.out.none (by rw [HLL.out]; omega) hw
        obtain rfl : wt = -1 := hj.1
        obtain rfl : fN = 0 := by rw [← HFN.out]; unfold Wi.fndN; rw [hj.2]
        obtain rfl : fB = false := by rw [← HFB.out, hj.2]; rfl
        have hmax : max (-1 : Int) 0 = 0 := by decide
        clear hj RW
        replace Z := Wc.hid (Z.out.keep RB.out)
        replace Y := Wc.hid (Y.out.keep RB.out)
        replace HV := Wc.hid (HV.out.keep RB.out)
        replace HL := Wc.hid (HL.out.keep RB.out)
        replace HT := Wc.hid (HT.out.keep RB.out)
        replace R1 := Wc.hid (R1.out.keep RB.out)
        replace P1 := Wc.hid (P1.out.keep RB.out)
        replace R3 := Wc.hid (R3.out.keep RB.out)
        replace B := Wc.hid (Wc.step B.out (Nat.le_refl _) RB.out)
        go_wp2_with fail
        refine (bytes_any _ _ xs xs _ HT.out HV.out).mono ?_
        rintro e w7 ⟨rfl, hb7⟩
        rw [show (xs == xs) = true from beq_self_eq_true xs]
        replace Z := Wc.hid (Z.out.keep hb7)
        replace Y := Wc.hid (Y.out.keep hb7)
        replace HV := Wc.hid (HV.out.keep hb7)
        replace HL := Wc.hid (HL.out.keep hb7)
        replace HT := Wc.hid (HT.out.keep hb7)
        replace R1 := Wc.hid (R1.out.keep hb7)
        replace P1 := Wc.hid (P1.out.keep hb7)
        replace R3 := Wc.hid (R3.out.keep hb7)
        replace B := Wc.hid (Wc.step B.out (Nat.le_refl _) hb7)
        clear hb7
        go_wp2_with fail
        refine (blocks_any ai ni ci _ hnb).mono ?_
        rintro e w11 ⟨rfl, rfl⟩
        cases hd : Wd.devB ni
        · have hdx : Wd.devB xs.length = false := by rw [HNL.out]; exact hd
          have hr := Wi.rec_dev (first := first) hdx
          have ho := opn_nodev hdx
          have e1 : E1 = 2 := by rw [← HE1.out]; exact hr.1
          have e2 : E = 2 := by rw [← HE.out]; exact ho.1
          have e3 : S = Ws.s0 := by rw [← HS.out]; exact ho.2.1
          have e4 : T = 0 := by rw [← HTT.out]; exact ho.2.2.1
          have e5 : L3 = [] := by rw [← HL3.out]; exact ho.2.2.2
          have e6 : n1 = 0 := by rw [← Wi.rs_len R1.out, hr.2.2]; rfl
          have e7 : n2 = 0 := by rw [← Wv.rv_len P1.out, hr.2.1]; rfl
          subst e1 e2 e3 e4 e5 e6 e7
          clear hr ho hdx hd
          have ⟨y0, y1, y2, y3, y4, y5, y6⟩ := Y.out.zc
          go_wp2_with fail
          refine (kstate_any Ws.s0 Ws.s0 0 0 a3 none n3 c3 0 0 [] [] _ R3.out (Wi.Rs.nil _)).mono ?_
          rintro e w12 ⟨rfl, hb12⟩
          rw [show stEq Ws.s0 Ws.s0 0 0 [] [] = true from stEq_iff.2 ⟨rfl, rfl, rfl⟩]
          clear y0 y1 y2 y3 y4 y5 y6
          replace B := Wc.hid (Wc.step B.out (Nat.le_refl _) hb12)
          clear hb12
          go_wp2_with fail
          refine (wakes_any _).mono ?_
          rintro e w13 ⟨rfl, hb13⟩
          replace B := Wc.hid (Wc.step B.out (Nat.le_refl _) hb13)
          clear hb13
          go_wp2_with fail
          go_ret
          exact ⟨rfl, B.out⟩
        · have hdx : Wd.devB xs.length = true := by rw [HNL.out]; exact hd
          have HDX := Wc.hid hdx
          clear hdx hd
          go_wp2_with fail
          refine (refRecs_any _ xs first _ HV.out HDX.out).mono ?_
          rintro e w12 ⟨a5, n5, c5, a6, n6, c6, bad, rfl, hR5, hP5, hb12, -, -⟩
          replace Y := Wc.hid (Y.out.keep hb12)
          replace HV := Wc.hid (HV.out.keep hb12)
          replace R1 := Wc.hid (R1.out.keep hb12)
          replace P1 := Wc.hid (P1.out.keep hb12)
          replace R3 := Wc.hid (R3.out.keep hb12)
          replace B := Wc.hid (Wc.step B.out (Nat.le_refl _) hb12)
          clear hb12
          have R5 := Wc.hid hR5
          have P5 := Wc.hid hP5
          clear hR5 hP5
          cases hrc : Wi.recs xs first
          · have hr := Wi.rec_none HDX.out hrc
            have e1 : E1 = 7 := by rw [← HE1.out]; exact hr.1
            have e6 : n1 = 0 := by rw [← Wi.rs_len R1.out, hr.2.2]; rfl
            have e7 : n2 = 0 := by rw [← Wv.rv_len P1.out, hr.2.1]; rfl
            subst e1 e6 e7
            rw [show (none : Option (List Int)).isSome = false from rfl]
            clear hr hrc R1 P1 R5 P5
            go_wp2_with fail
            refine (refOpen_any _ xs _ HV.out HDX.out).mono ?_
            rintro e w14 ⟨a7, n7, c7, a8, n8, c8, a9, n9, c9, a10, n10, c10, k14, rfl, hR7, hb14, -⟩
            rw [HS.out, HTT.out, HE.out]
            rw [HL3.out] at hR7
            have bA : Below w14.heap.size w14 (w14.alloc (.cells #[.int .i64 S.gen, .int .i64 S.blocks, .int .i64 S.root, .int .i64 S.size, .int .i64 S.first, .int .i64 T, .slice a7 n7 c7, .slice a8 n8 c8, .slice a9 n9 c9, .slice a10 n10 c10] 53)) := (Below.refl _ _).alloc (Nat.le_refl _) _
            have bF : Below (w14.alloc (.cells #[.int .i64 S.gen, .int .i64 S.blocks, .int .i64 S.root, .int .i64 S.size, .int .i64 S.first, .int .i64 T, .slice a7 n7 c7, .slice a8 n8 c8, .slice a9 n9 c9, .slice a10 n10 c10] 53)).heap.size (w14.alloc (.cells #[.int .i64 S.gen, .int .i64 S.blocks, .int .i64 S.root, .int .i64 S.size, .int .i64 S.first, .int .i64 T, .slice a7 n7 c7, .slice a8 n8 c8, .slice a9 n9 c9, .slice a10 n10 c10] 53)) ((w14.alloc (.cells #[.int .i64 S.gen, .int .i64 S.blocks, .int .i64 S.root, .int .i64 S.size, .int .i64 S.first, .int .i64 T, .slice a7 n7 c7, .slice a8 n8 c8, .slice a9 n9 c9, .slice a10 n10 c10] 53)).alloc (.cells #[.int .i64 k14, .int .i64 E] 55)) := (Below.refl _ _).alloc (Nat.le_refl _) _
            have bAF := Wc.step bA (Nat.le_refl _) bF
            have ⟨i0, i1, i2, i3, i4, i5, i6, i7, i8, i9⟩ := ((Ih.new w14 S T (.slice a7 n7 c7) (.slice a8 n8 c8) (.slice a9 n9 c9) (.slice a10 n10 c10)).keep bF).ic
            have hF := Fh.new (w14.alloc (.cells #[.int .i64 S.gen, .int .i64 S.blocks, .int .i64 S.root, .int .i64 S.size, .int .i64 S.first, .int .i64 T, .slice a7 n7 c7, .slice a8 n8 c8, .slice a9 n9 c9, .slice a10 n10 c10] 53)) k14 E
            rw [show (w14.alloc (.cells #[.int .i64 S.gen, .int .i64 S.blocks, .int .i64 S.root, .int .i64 S.size, .int .i64 S.first, .int .i64 T, .slice a7 n7 c7, .slice a8 n8 c8, .slice a9 n9 c9, .slice a10 n10 c10] 53)).heap.size = w14.heap.size + 1 by simp] at hF
            obtain ⟨f0, f1, -⟩ := hF.fc
            have R7 := Wc.hid (hR7.keep bAF)
            have hb15 := Wc.step hb14 (Nat.le_refl _) bAF
            clear bA bF bAF hF hR7 hb14
            replace Y := Wc.hid (Y.out.keep hb15)
            replace R3 := Wc.hid (R3.out.keep hb15)
            replace B := Wc.hid (Wc.step B.out (Nat.le_refl _) hb15)
            clear hb15
            have ⟨y0, y1, y2, y3, y4, y5, y6⟩ := Y.out.zc
            have hee : (E == E) = true := beq_self_eq_true E
            unfold imv
            go_wp2_with fail
            refine (kstate_any S S T T a3 a7 n3 c3 n7 c7 L3 L3 _ R3.out R7.out).mono ?_
            rintro e w16 ⟨rfl, hb16⟩
            rw [show stEq S S T T L3 L3 = true from stEq_iff.2 ⟨rfl, rfl, rfl⟩]
            clear y0 y1 y2 y3 y4 y5 y6 i0 i1 i2 i3 i4 i5 i6 i7 i8 i9 f0 f1 hee
            replace B := Wc.hid (Wc.step B.out (Nat.le_refl _) hb16)
            clear hb16
            go_wp2_with fail
            refine (wakes_any _).mono ?_
            rintro e w17 ⟨rfl, hb17⟩
            replace B := Wc.hid (Wc.step B.out (Nat.le_refl _) hb17)
            clear hb17
            go_wp2_with fail
            go_ret
            exact ⟨rfl, B.out⟩
          · have hr := Wi.rec_some HDX.out hrc
            have e1 : E1 = 0 := by rw [← HE1.out]; exact hr.1
            subst e1
            rw [Option.isSome_some]
            clear hr hrc
            go_wp2_with fail
            refine (krecs_any _ _ (Wi.recL xs first) (Wi.recL xs first) _ R1.out R5.out).mono ?_
            rintro e w13 ⟨rfl, hb13⟩
            rw [Wi.recsB_iff.2 rfl]
            replace Y := Wc.hid (Y.out.keep hb13)
            replace HV := Wc.hid (HV.out.keep hb13)
            replace R3 := Wc.hid (R3.out.keep hb13)
            replace P1 := Wc.hid (P1.out.keep hb13)
            replace P5 := Wc.hid (P5.out.keep hb13)
            replace B := Wc.hid (Wc.step B.out (Nat.le_refl _) hb13)
            clear hb13
            go_wp2_with fail
            refine (ints_any _ _ (Wi.recP xs first) (Wi.recP xs first) _ P1.out P5.out).mono ?_
            rintro e w18 ⟨rfl, hb18⟩
            rw [show (Wi.recP xs first == Wi.recP xs first) = true from beq_self_eq_true _]
            replace Y := Wc.hid (Y.out.keep hb18)
            replace HV := Wc.hid (HV.out.keep hb18)
            replace R3 := Wc.hid (R3.out.keep hb18)
            replace B := Wc.hid (Wc.step B.out (Nat.le_refl _) hb18)
            clear hb18
            go_wp2_with fail
            refine (refOpen_any _ xs _ HV.out HDX.out).mono ?_
            rintro e w14 ⟨a7, n7, c7, a8, n8, c8, a9, n9, c9, a10, n10, c10, k14, rfl, hR7, hb14, -⟩
            rw [HS.out, HTT.out, HE.out]
            rw [HL3.out] at hR7
            have bA : Below w14.heap.size w14 (w14.alloc (.cells #[.int .i64 S.gen, .int .i64 S.blocks, .int .i64 S.root, .int .i64 S.size, .int .i64 S.first, .int .i64 T, .slice a7 n7 c7, .slice a8 n8 c8, .slice a9 n9 c9, .slice a10 n10 c10] 53)) := (Below.refl _ _).alloc (Nat.le_refl _) _
            have bF : Below (w14.alloc (.cells #[.int .i64 S.gen, .int .i64 S.blocks, .int .i64 S.root, .int .i64 S.size, .int .i64 S.first, .int .i64 T, .slice a7 n7 c7, .slice a8 n8 c8, .slice a9 n9 c9, .slice a10 n10 c10] 53)).heap.size (w14.alloc (.cells #[.int .i64 S.gen, .int .i64 S.blocks, .int .i64 S.root, .int .i64 S.size, .int .i64 S.first, .int .i64 T, .slice a7 n7 c7, .slice a8 n8 c8, .slice a9 n9 c9, .slice a10 n10 c10] 53)) ((w14.alloc (.cells #[.int .i64 S.gen, .int .i64 S.blocks, .int .i64 S.root, .int .i64 S.size, .int .i64 S.first, .int .i64 T, .slice a7 n7 c7, .slice a8 n8 c8, .slice a9 n9 c9, .slice a10 n10 c10] 53)).alloc (.cells #[.int .i64 k14, .int .i64 E] 55)) := (Below.refl _ _).alloc (Nat.le_refl _) _
            have bAF := Wc.step bA (Nat.le_refl _) bF
            have ⟨i0, i1, i2, i3, i4, i5, i6, i7, i8, i9⟩ := ((Ih.new w14 S T (.slice a7 n7 c7) (.slice a8 n8 c8) (.slice a9 n9 c9) (.slice a10 n10 c10)).keep bF).ic
            have hF := Fh.new (w14.alloc (.cells #[.int .i64 S.gen, .int .i64 S.blocks, .int .i64 S.root, .int .i64 S.size, .int .i64 S.first, .int .i64 T, .slice a7 n7 c7, .slice a8 n8 c8, .slice a9 n9 c9, .slice a10 n10 c10] 53)) k14 E
            rw [show (w14.alloc (.cells #[.int .i64 S.gen, .int .i64 S.blocks, .int .i64 S.root, .int .i64 S.size, .int .i64 S.first, .int .i64 T, .slice a7 n7 c7, .slice a8 n8 c8, .slice a9 n9 c9, .slice a10 n10 c10] 53)).heap.size = w14.heap.size + 1 by simp] at hF
            obtain ⟨f0, f1, -⟩ := hF.fc
            have R7 := Wc.hid (hR7.keep bAF)
            have hb15 := Wc.step hb14 (Nat.le_refl _) bAF
            clear bA bF bAF hF hR7 hb14
            replace Y := Wc.hid (Y.out.keep hb15)
            replace R3 := Wc.hid (R3.out.keep hb15)
            replace B := Wc.hid (Wc.step B.out (Nat.le_refl _) hb15)
            clear hb15
            have ⟨y0, y1, y2, y3, y4, y5, y6⟩ := Y.out.zc
            have hee : (E == E) = true := beq_self_eq_true E
            unfold imv
            go_wp2_with fail
            refine (kstate_any S S T T a3 a7 n3 c3 n7 c7 L3 L3 _ R3.out R7.out).mono ?_
            rintro e w16 ⟨rfl, hb16⟩
            rw [show stEq S S T T L3 L3 = true from stEq_iff.2 ⟨rfl, rfl, rfl⟩]
            clear y0 y1 y2 y3 y4 y5 y6 i0 i1 i2 i3 i4 i5 i6 i7 i8 i9 f0 f1 hee
            replace B := Wc.hid (Wc.step B.out (Nat.le_refl _) hb16)
            clear hb16
            go_wp2_with fail
            refine (wakes_any _).mono ?_
            rintro e w17 ⟨rfl, hb17⟩
            replace B := Wc.hid (Wc.step B.out (Nat.le_refl _) hb17)
            clear hb17
            go_wp2_with fail
            go_ret
            exact ⟨rfl, B.out⟩
      · obtain ⟨j, rfl, hj⟩ := RW.out.some (by omega)
        obtain rfl : fN = (j : Int) := by rw [← HFN.out]; unfold Wi.fndN; rw [hj]
        obtain rfl : fB = true := by rw [← HFB.out, hj]; rfl
        have hmax : max (j : Int) 0 = (j : Int) := by omega
        clear hj RW
        replace Z := Wc.hid (Z.out.keep RB.out)
        replace Y := Wc.hid (Y.out.keep RB.out)
        replace HV := Wc.hid (HV.out.keep RB.out)
        replace HL := Wc.hid (HL.out.keep RB.out)
        replace HT := Wc.hid (HT.out.keep RB.out)
        replace R1 := Wc.hid (R1.out.keep RB.out)
        replace P1 := Wc.hid (P1.out.keep RB.out)
        replace R3 := Wc.hid (R3.out.keep RB.out)
        replace B := Wc.hid (Wc.step B.out (Nat.le_refl _) RB.out)
        go_wp2_with fail
        refine (bytes_any _ _ xs xs _ HT.out HV.out).mono ?_
        rintro e w7 ⟨rfl, hb7⟩
        rw [show (xs == xs) = true from beq_self_eq_true xs]
        replace Z := Wc.hid (Z.out.keep hb7)
        replace Y := Wc.hid (Y.out.keep hb7)
        replace HV := Wc.hid (HV.out.keep hb7)
        replace HL := Wc.hid (HL.out.keep hb7)
        replace HT := Wc.hid (HT.out.keep hb7)
        replace R1 := Wc.hid (R1.out.keep hb7)
        replace P1 := Wc.hid (P1.out.keep hb7)
        replace R3 := Wc.hid (R3.out.keep hb7)
        replace B := Wc.hid (Wc.step B.out (Nat.le_refl _) hb7)
        clear hb7
        go_wp2_with fail
        refine (blocks_any ai ni ci _ hnb).mono ?_
        rintro e w11 ⟨rfl, rfl⟩
        cases hd : Wd.devB ni
        · have hdx : Wd.devB xs.length = false := by rw [HNL.out]; exact hd
          have hr := Wi.rec_dev (first := first) hdx
          have ho := opn_nodev hdx
          have e1 : E1 = 2 := by rw [← HE1.out]; exact hr.1
          have e2 : E = 2 := by rw [← HE.out]; exact ho.1
          have e3 : S = Ws.s0 := by rw [← HS.out]; exact ho.2.1
          have e4 : T = 0 := by rw [← HTT.out]; exact ho.2.2.1
          have e5 : L3 = [] := by rw [← HL3.out]; exact ho.2.2.2
          have e6 : n1 = 0 := by rw [← Wi.rs_len R1.out, hr.2.2]; rfl
          have e7 : n2 = 0 := by rw [← Wv.rv_len P1.out, hr.2.1]; rfl
          subst e1 e2 e3 e4 e5 e6 e7
          clear hr ho hdx hd
          have ⟨y0, y1, y2, y3, y4, y5, y6⟩ := Y.out.zc
          go_wp2_with fail
          refine (kstate_any Ws.s0 Ws.s0 0 0 a3 none n3 c3 0 0 [] [] _ R3.out (Wi.Rs.nil _)).mono ?_
          rintro e w12 ⟨rfl, hb12⟩
          rw [show stEq Ws.s0 Ws.s0 0 0 [] [] = true from stEq_iff.2 ⟨rfl, rfl, rfl⟩]
          clear y0 y1 y2 y3 y4 y5 y6
          replace B := Wc.hid (Wc.step B.out (Nat.le_refl _) hb12)
          clear hb12
          go_wp2_with fail
          refine (wakes_any _).mono ?_
          rintro e w13 ⟨rfl, hb13⟩
          replace B := Wc.hid (Wc.step B.out (Nat.le_refl _) hb13)
          clear hb13
          go_wp2_with fail
          go_ret
          exact ⟨rfl, B.out⟩
        · have hdx : Wd.devB xs.length = true := by rw [HNL.out]; exact hd
          have HDX := Wc.hid hdx
          clear hdx hd
          go_wp2_with fail
          refine (refRecs_any _ xs first _ HV.out HDX.out).mono ?_
          rintro e w12 ⟨a5, n5, c5, a6, n6, c6, bad, rfl, hR5, hP5, hb12, -, -⟩
          replace Y := Wc.hid (Y.out.keep hb12)
          replace HV := Wc.hid (HV.out.keep hb12)
          replace R1 := Wc.hid (R1.out.keep hb12)
          replace P1 := Wc.hid (P1.out.keep hb12)
          replace R3 := Wc.hid (R3.out.keep hb12)
          replace B := Wc.hid (Wc.step B.out (Nat.le_refl _) hb12)
          clear hb12
          have R5 := Wc.hid hR5
          have P5 := Wc.hid hP5
          clear hR5 hP5
          cases hrc : Wi.recs xs first
          · have hr := Wi.rec_none HDX.out hrc
            have e1 : E1 = 7 := by rw [← HE1.out]; exact hr.1
            have e6 : n1 = 0 := by rw [← Wi.rs_len R1.out, hr.2.2]; rfl
            have e7 : n2 = 0 := by rw [← Wv.rv_len P1.out, hr.2.1]; rfl
            subst e1 e6 e7
            rw [show (none : Option (List Int)).isSome = false from rfl]
            clear hr hrc R1 P1 R5 P5
            go_wp2_with fail
            refine (refOpen_any _ xs _ HV.out HDX.out).mono ?_
            rintro e w14 ⟨a7, n7, c7, a8, n8, c8, a9, n9, c9, a10, n10, c10, k14, rfl, hR7, hb14, -⟩
            rw [HS.out, HTT.out, HE.out]
            rw [HL3.out] at hR7
            have bA : Below w14.heap.size w14 (w14.alloc (.cells #[.int .i64 S.gen, .int .i64 S.blocks, .int .i64 S.root, .int .i64 S.size, .int .i64 S.first, .int .i64 T, .slice a7 n7 c7, .slice a8 n8 c8, .slice a9 n9 c9, .slice a10 n10 c10] 53)) := (Below.refl _ _).alloc (Nat.le_refl _) _
            have bF : Below (w14.alloc (.cells #[.int .i64 S.gen, .int .i64 S.blocks, .int .i64 S.root, .int .i64 S.size, .int .i64 S.first, .int .i64 T, .slice a7 n7 c7, .slice a8 n8 c8, .slice a9 n9 c9, .slice a10 n10 c10] 53)).heap.size (w14.alloc (.cells #[.int .i64 S.gen, .int .i64 S.blocks, .int .i64 S.root, .int .i64 S.size, .int .i64 S.first, .int .i64 T, .slice a7 n7 c7, .slice a8 n8 c8, .slice a9 n9 c9, .slice a10 n10 c10] 53)) ((w14.alloc (.cells #[.int .i64 S.gen, .int .i64 S.blocks, .int .i64 S.root, .int .i64 S.size, .int .i64 S.first, .int .i64 T, .slice a7 n7 c7, .slice a8 n8 c8, .slice a9 n9 c9, .slice a10 n10 c10] 53)).alloc (.cells #[.int .i64 k14, .int .i64 E] 55)) := (Below.refl _ _).alloc (Nat.le_refl _) _
            have bAF := Wc.step bA (Nat.le_refl _) bF
            have ⟨i0, i1, i2, i3, i4, i5, i6, i7, i8, i9⟩ := ((Ih.new w14 S T (.slice a7 n7 c7) (.slice a8 n8 c8) (.slice a9 n9 c9) (.slice a10 n10 c10)).keep bF).ic
            have hF := Fh.new (w14.alloc (.cells #[.int .i64 S.gen, .int .i64 S.blocks, .int .i64 S.root, .int .i64 S.size, .int .i64 S.first, .int .i64 T, .slice a7 n7 c7, .slice a8 n8 c8, .slice a9 n9 c9, .slice a10 n10 c10] 53)) k14 E
            rw [show (w14.alloc (.cells #[.int .i64 S.gen, .int .i64 S.blocks, .int .i64 S.root, .int .i64 S.size, .int .i64 S.first, .int .i64 T, .slice a7 n7 c7, .slice a8 n8 c8, .slice a9 n9 c9, .slice a10 n10 c10] 53)).heap.size = w14.heap.size + 1 by simp] at hF
            obtain ⟨f0, f1, -⟩ := hF.fc
            have R7 := Wc.hid (hR7.keep bAF)
            have hb15 := Wc.step hb14 (Nat.le_refl _) bAF
            clear bA bF bAF hF hR7 hb14
            replace Y := Wc.hid (Y.out.keep hb15)
            replace R3 := Wc.hid (R3.out.keep hb15)
            replace B := Wc.hid (Wc.step B.out (Nat.le_refl _) hb15)
            clear hb15
            have ⟨y0, y1, y2, y3, y4, y5, y6⟩ := Y.out.zc
            have hee : (E == E) = true := beq_self_eq_true E
            unfold imv
            go_wp2_with fail
            refine (kstate_any S S T T a3 a7 n3 c3 n7 c7 L3 L3 _ R3.out R7.out).mono ?_
            rintro e w16 ⟨rfl, hb16⟩
            rw [show stEq S S T T L3 L3 = true from stEq_iff.2 ⟨rfl, rfl, rfl⟩]
            clear y0 y1 y2 y3 y4 y5 y6 i0 i1 i2 i3 i4 i5 i6 i7 i8 i9 f0 f1 hee
            replace B := Wc.hid (Wc.step B.out (Nat.le_refl _) hb16)
            clear hb16
            go_wp2_with fail
            refine (wakes_any _).mono ?_
            rintro e w17 ⟨rfl, hb17⟩
            replace B := Wc.hid (Wc.step B.out (Nat.le_refl _) hb17)
            clear hb17
            go_wp2_with fail
            go_ret
            exact ⟨rfl, B.out⟩
          · have hr := Wi.rec_some HDX.out hrc
            have e1 : E1 = 0 := by rw [← HE1.out]; exact hr.1
            subst e1
            rw [Option.isSome_some]
            clear hr hrc
            go_wp2_with fail
            refine (krecs_any _ _ (Wi.recL xs first) (Wi.recL xs first) _ R1.out R5.out).mono ?_
            rintro e w13 ⟨rfl, hb13⟩
            rw [Wi.recsB_iff.2 rfl]
            replace Y := Wc.hid (Y.out.keep hb13)
            replace HV := Wc.hid (HV.out.keep hb13)
            replace R3 := Wc.hid (R3.out.keep hb13)
            replace P1 := Wc.hid (P1.out.keep hb13)
            replace P5 := Wc.hid (P5.out.keep hb13)
            replace B := Wc.hid (Wc.step B.out (Nat.le_refl _) hb13)
            clear hb13
            go_wp2_with fail
            refine (ints_any _ _ (Wi.recP xs first) (Wi.recP xs first) _ P1.out P5.out).mono ?_
            rintro e w18 ⟨rfl, hb18⟩
            rw [show (Wi.recP xs first == Wi.recP xs first) = true from beq_self_eq_true _]
            replace Y := Wc.hid (Y.out.keep hb18)
            replace HV := Wc.hid (HV.out.keep hb18)
            replace R3 := Wc.hid (R3.out.keep hb18)
            replace B := Wc.hid (Wc.step B.out (Nat.le_refl _) hb18)
            clear hb18
            go_wp2_with fail
            refine (refOpen_any _ xs _ HV.out HDX.out).mono ?_
            rintro e w14 ⟨a7, n7, c7, a8, n8, c8, a9, n9, c9, a10, n10, c10, k14, rfl, hR7, hb14, -⟩
            rw [HS.out, HTT.out, HE.out]
            rw [HL3.out] at hR7
            have bA : Below w14.heap.size w14 (w14.alloc (.cells #[.int .i64 S.gen, .int .i64 S.blocks, .int .i64 S.root, .int .i64 S.size, .int .i64 S.first, .int .i64 T, .slice a7 n7 c7, .slice a8 n8 c8, .slice a9 n9 c9, .slice a10 n10 c10] 53)) := (Below.refl _ _).alloc (Nat.le_refl _) _
            have bF : Below (w14.alloc (.cells #[.int .i64 S.gen, .int .i64 S.blocks, .int .i64 S.root, .int .i64 S.size, .int .i64 S.first, .int .i64 T, .slice a7 n7 c7, .slice a8 n8 c8, .slice a9 n9 c9, .slice a10 n10 c10] 53)).heap.size (w14.alloc (.cells #[.int .i64 S.gen, .int .i64 S.blocks, .int .i64 S.root, .int .i64 S.size, .int .i64 S.first, .int .i64 T, .slice a7 n7 c7, .slice a8 n8 c8, .slice a9 n9 c9, .slice a10 n10 c10] 53)) ((w14.alloc (.cells #[.int .i64 S.gen, .int .i64 S.blocks, .int .i64 S.root, .int .i64 S.size, .int .i64 S.first, .int .i64 T, .slice a7 n7 c7, .slice a8 n8 c8, .slice a9 n9 c9, .slice a10 n10 c10] 53)).alloc (.cells #[.int .i64 k14, .int .i64 E] 55)) := (Below.refl _ _).alloc (Nat.le_refl _) _
            have bAF := Wc.step bA (Nat.le_refl _) bF
            have ⟨i0, i1, i2, i3, i4, i5, i6, i7, i8, i9⟩ := ((Ih.new w14 S T (.slice a7 n7 c7) (.slice a8 n8 c8) (.slice a9 n9 c9) (.slice a10 n10 c10)).keep bF).ic
            have hF := Fh.new (w14.alloc (.cells #[.int .i64 S.gen, .int .i64 S.blocks, .int .i64 S.root, .int .i64 S.size, .int .i64 S.first, .int .i64 T, .slice a7 n7 c7, .slice a8 n8 c8, .slice a9 n9 c9, .slice a10 n10 c10] 53)) k14 E
            rw [show (w14.alloc (.cells #[.int .i64 S.gen, .int .i64 S.blocks, .int .i64 S.root, .int .i64 S.size, .int .i64 S.first, .int .i64 T, .slice a7 n7 c7, .slice a8 n8 c8, .slice a9 n9 c9, .slice a10 n10 c10] 53)).heap.size = w14.heap.size + 1 by simp] at hF
            obtain ⟨f0, f1, -⟩ := hF.fc
            have R7 := Wc.hid (hR7.keep bAF)
            have hb15 := Wc.step hb14 (Nat.le_refl _) bAF
            clear bA bF bAF hF hR7 hb14
            replace Y := Wc.hid (Y.out.keep hb15)
            replace R3 := Wc.hid (R3.out.keep hb15)
            replace B := Wc.hid (Wc.step B.out (Nat.le_refl _) hb15)
            clear hb15
            have ⟨y0, y1, y2, y3, y4, y5, y6⟩ := Y.out.zc
            have hee : (E == E) = true := beq_self_eq_true E
            unfold imv
            go_wp2_with fail
            refine (kstate_any S S T T a3 a7 n3 c3 n7 c7 L3 L3 _ R3.out R7.out).mono ?_
            rintro e w16 ⟨rfl, hb16⟩
            rw [show stEq S S T T L3 L3 = true from stEq_iff.2 ⟨rfl, rfl, rfl⟩]
            clear y0 y1 y2 y3 y4 y5 y6 i0 i1 i2 i3 i4 i5 i6 i7 i8 i9 f0 f1 hee
            replace B := Wc.hid (Wc.step B.out (Nat.le_refl _) hb16)
            clear hb16
            go_wp2_with fail
            refine (wakes_any _).mono ?_
            rintro e w17 ⟨rfl, hb17⟩
            replace B := Wc.hid (Wc.step B.out (Nat.le_refl _) hb17)
            clear hb17
            go_wp2_with fail
            go_ret
            exact ⟨rfl, B.out⟩

set_option maxRecDepth 100000 in
set_option maxHeartbeats 12800000 in
theorem exact_yes (ai : Option Addr) (ni ci : Nat) (xs : List Int) (first id : Int) (m N : Nat) (h4 : 4 ≤ m) (h5 : m ≤ 4096) (h3 : m ≤ 300) (hN : m * 64 = N) (s : Ws.Sup) (t : Int) (a : Option Addr) (n c : Nat) (l : List Wr.Rec) (w : World)
    (hv : Wc.Bs w (.slice ai ni ci) xs) (hsh : Wc.Shaped (.slice ai ni ci)) (hni : ni ≤ 19200) (hl : Wi.Rs w (.slice a n c) l) (hn : n ≤ 100) :
    Calls Try.prog 3 #[.slice ai ni ci, .int .i64 first, .int .i64 (m : Int), .int .i64 id, stv s t (.slice a n c)] w fun e w' => e = .returned (.bool true) ∧ Below w.heap.size w w' := by
  have hh : Wd.heavyB ni [] = false := by rw [hvy_nil]; simp; omega
  have HNL := Wc.hid (Wc.bs_len hv)
  have hnb : ni ≤ 140737488355328 := by omega
  have HN : Hid (m * 64 = N) := Wc.hid hN
  have eN : (m : Int) * 64 = (N : Int) := by omega
  have hN1 : 256 ≤ N := by omega
  have hN2 : N ≤ 19200 := by omega
  have hmk := makeN N (by omega)
  clear hN
  have HNI : Hid ((Wi.newI m == Wd.lay (List.replicate N 0) 0 (Ws.blk (Wi.newS m))) = true) := Wc.hid (by rw [← HN.out]; exact beq_self_eq_true _)
  have hls := hl
  obtain ⟨_, _, _, h1, hll, hlc, hlc2, hln, hpos⟩ := hls
  cases h1
  have HLL := Wc.hid hll
  have HPS := Wc.hid hpos
  clear hll hpos
  have hb : Below w.heap.size w (w.alloc (.cells #[.int .i64 s.gen, .int .i64 s.blocks, .int .i64 s.root, .int .i64 s.size, .int .i64 s.first, .int .i64 t, .slice a n c] 27)) := (Below.refl _ _).alloc (Nat.le_refl _) _
  have Z := Wc.hid (Zh.new w s t (.slice a n c))
  have HV := Wc.hid (hv.keep hb)
  have HL := Wc.hid (hl.keep hb)
  have HSH := Wc.hid hsh
  have B := Wc.hid hb
  have ⟨z0, z1, z2, z3, z4, z5, z6⟩ := Z.out.zc
  clear hv hsh hl hb
  unfold stv
  go_enter Try.func3, Try.ntmps3
  go_wp2_with fail
  refine (heavy_raw _ _ _ _ _ _ [] _ (rw_nil _)).mono ?_
  rintro e w1 ⟨rfl, rfl⟩
  rw [hh]
  go_wp2_with fail
  refine (twin_any _ xs _ HV.out HSH.out).mono ?_
  rintro e w2 ⟨v, rfl, hT, hb2⟩
  obtain ⟨ax, nx, cx, rfl, -⟩ := _root_.id hT
  have HT := Wc.hid hT
  clear hT HSH hh z0 z1 z2 z3 z4 z5 z6
  replace Z := Wc.hid (Z.out.keep hb2)
  replace HV := Wc.hid (HV.out.keep hb2)
  replace HL := Wc.hid (HL.out.keep hb2)
  replace B := Wc.hid (Wc.step B.out (Nat.le_refl _) hb2)
  clear hb2
  obtain ⟨E1, hE1⟩ : ∃ E1, Wi.recE xs first = E1 := ⟨_, rfl⟩
  obtain ⟨E, hE⟩ : ∃ E, opnE xs = E := ⟨_, rfl⟩
  obtain ⟨S, hS⟩ : ∃ S, opnS xs = S := ⟨_, rfl⟩
  obtain ⟨T, hTT⟩ : ∃ T, opnT xs = T := ⟨_, rfl⟩
  obtain ⟨L3, hL3⟩ : ∃ L3, opnL xs = L3 := ⟨_, rfl⟩
  have HE1 := Wc.hid hE1
  have HE := Wc.hid hE
  have HS := Wc.hid hS
  have HTT := Wc.hid hTT
  have HL3 := Wc.hid hL3
  clear hE1 hE hS hTT hL3
  go_wp2_with fail
  refine (records_any _ xs first _ HT.out).mono ?_
  rintro e w3 ⟨a1, n1, c1, a2, n2, c2, rfl, hR1, hP1, hb3⟩
  rw [HE1.out]
  have R1 := Wc.hid hR1
  have P1 := Wc.hid hP1
  clear hR1 hP1
  replace Z := Wc.hid (Z.out.keep hb3)
  replace HV := Wc.hid (HV.out.keep hb3)
  replace HL := Wc.hid (HL.out.keep hb3)
  replace HT := Wc.hid (HT.out.keep hb3)
  replace B := Wc.hid (Wc.step B.out (Nat.le_refl _) hb3)
  clear hb3
  go_wp2_with fail
  refine (oopen_any _ xs _ HT.out).mono ?_
  rintro e w4 ⟨a3, n3, c3, rfl, hR3, hb4⟩
  rw [HE.out, HS.out, HTT.out]
  rw [HL3.out] at hR3
  have bA : Below w4.heap.size w4 (w4.alloc (.cells #[.int .i64 S.gen, .int .i64 S.blocks, .int .i64 S.root, .int .i64 S.size, .int .i64 S.first, .int .i64 T, .slice a3 n3 c3] 27)) := (Below.refl _ _).alloc (Nat.le_refl _) _
  have R3 := Wc.hid (hR3.keep bA)
  have Y := Wc.hid (Zh.new w4 S T (.slice a3 n3 c3))
  have hb5 := Wc.step hb4 (Nat.le_refl _) bA
  clear hR3 bA hb4
  replace Z := Wc.hid (Z.out.keep hb5)
  replace HV := Wc.hid (HV.out.keep hb5)
  replace HL := Wc.hid (HL.out.keep hb5)
  replace HT := Wc.hid (HT.out.keep hb5)
  replace R1 := Wc.hid (R1.out.keep hb5)
  replace P1 := Wc.hid (P1.out.keep hb5)
  replace B := Wc.hid (Wc.step B.out (Nat.le_refl _) hb5)
  clear hb5
  unfold stv
  go_wp2_with fail
  refine (new_yes m N _ h4 h5 HN.out).mono ?_
  rintro e w5 ⟨gn, rfl, -, hON, hb6⟩
  have BN := Wc.hid hON.bs
  clear hON
  replace Z := Wc.hid (Z.out.keep hb6)
  replace Y := Wc.hid (Y.out.keep hb6)
  replace HV := Wc.hid (HV.out.keep hb6)
  replace HL := Wc.hid (HL.out.keep hb6)
  replace HT := Wc.hid (HT.out.keep hb6)
  replace R1 := Wc.hid (R1.out.keep hb6)
  replace P1 := Wc.hid (P1.out.keep hb6)
  replace R3 := Wc.hid (R3.out.keep hb6)
  replace B := Wc.hid (Wc.step B.out (Nat.le_refl _) hb6)
  clear hb6
  have ⟨z0, z1, z2, z3, z4, z5, z6⟩ := Z.out.zc
  go_wp2_with fail
  refine (ofind_any s t id a n c l _ HL.out).mono ?_
  rintro e w6 ⟨rfl, hb7⟩
  obtain ⟨fN, hfN⟩ : ∃ fN, Wi.fndN l id = fN := ⟨_, rfl⟩
  obtain ⟨fB, hfB⟩ : ∃ fB, (Wi.fnd l id).isSome = fB := ⟨_, rfl⟩
  rw [hfN, hfB]
  have HFN := Wc.hid hfN
  have HFB := Wc.hid hfB
  clear hfN hfB
  clear z0 z1 z2 z3 z4 z5 z6
  replace Z := Wc.hid (Z.out.keep hb7)
  replace Y := Wc.hid (Y.out.keep hb7)
  replace HV := Wc.hid (HV.out.keep hb7)
  replace HL := Wc.hid (HL.out.keep hb7)
  replace HT := Wc.hid (HT.out.keep hb7)
  replace R1 := Wc.hid (R1.out.keep hb7)
  replace P1 := Wc.hid (P1.out.keep hb7)
  replace R3 := Wc.hid (R3.out.keep hb7)
  replace BN := Wc.hid (BN.out.keep hb7)
  replace B := Wc.hid (Wc.step B.out (Nat.le_refl _) hb7)
  clear hb7
  obtain ⟨_, _, _, h1, -, -, -, -, hpos⟩ := HL.out
  cases h1
  replace HPS := Wc.hid hpos
  clear hpos
  go_wp2_with fail
  go_loopw [21, 22] (fun q i wr => ∃ (k : Nat) (wt : Int), i = .int .i64 k ∧ k ≤ n ∧ q = .int .i64 wt ∧ Hid (Wi.Wnt l id k wt) ∧ Hid (Below w6.heap.size w6 wr)) (fun _ i _ => n - (intOf i).toNat)
  case atStart => exact ⟨0, -1, rfl, by omega, rfl, Wc.hid (Wi.Wnt.start l id), Wc.hid (Below.refl _ _)⟩
  case round =>
    obtain ⟨k, wt, rfl, hk, rfl, RW, RB⟩ := hrel
    have ⟨z0, z1, z2, z3, z4, z5, z6⟩ := (Z.out.keep RB.out).zc
    by_cases hlt : k < n
    · by_cases hw : wt < 0
      · obtain ⟨g, off, rfl, hbg, hcs⟩ := HPS.out (by omega)
        obtain ⟨x, hx⟩ : ∃ x, l.getD k Wr.r0 = x := ⟨_, rfl⟩
        have h1 := hcs k hlt
        rw [hx] at h1
        obtain ⟨-, g1, -, -, -, g5, -, -⟩ := h1.keep RB.out
        have HX := Wc.hid hx
        have HKL : Hid (k < l.length) := Wc.hid (by rw [HLL.out]; exact hlt)
        clear hcs h1 hx
        cases hi : (x.id == id)
        · have HW := Wc.hid (RW.out.no hw (by rw [HX.out, hi]; rfl))
          go_wp2_with fail
          go_roundw
          case rel => exact ⟨k + 1, wt, by go_num, by omega, rfl, HW, RB⟩
          case measure => simp [intOf]; omega
        · cases hk0 : (x.kind == 0)
          · have HW := Wc.hid (RW.out.no hw (by rw [HX.out, hi, hk0]; rfl))
            go_wp2_with fail
            go_roundw
            case rel => exact ⟨k + 1, wt, by go_num, by omega, rfl, HW, RB⟩
            case measure => simp [intOf]; omega
          · have HW := Wc.hid (RW.out.yes hw HKL.out (by rw [HX.out, hi, hk0]; rfl))
            go_wp2_with fail
            go_roundw
            case rel => exact ⟨k + 1, (k : Int), by go_num, by omega, rfl, HW, RB⟩
            case measure => simp [intOf]; omega
      · obtain ⟨j, rfl, hj⟩ := RW.out.some (by omega)
        obtain rfl : fN = (j : Int) := by rw [← HFN.out]; unfold Wi.fndN; rw [hj]
        obtain rfl : fB = true := by rw [← HFB.out, hj]; rfl
        have hmax : max (j : Int) 0 = (j : Int) := by omega
        clear hj RW
        replace Z := Wc.hid (Z.out.keep RB.out)
        replace Y := Wc.hid (Y.out.keep RB.out)
        replace HV := Wc.hid (HV.out.keep RB.out)
        replace HL := Wc.hid (HL.out.keep RB.out)
        replace HT := Wc.hid (HT.out.keep RB.out)
        replace R1 := Wc.hid (R1.out.keep RB.out)
        replace P1 := Wc.hid (P1.out.keep RB.out)
        replace R3 := Wc.hid (R3.out.keep RB.out)
        replace BN := Wc.hid (BN.out.keep RB.out)
        replace B := Wc.hid (Wc.step B.out (Nat.le_refl _) RB.out)
        go_wp2_with fail
        refine (bytes_any _ _ xs xs _ HT.out HV.out).mono ?_
        rintro e w7 ⟨rfl, hb7⟩
        rw [show (xs == xs) = true from beq_self_eq_true xs]
        replace Z := Wc.hid (Z.out.keep hb7)
        replace Y := Wc.hid (Y.out.keep hb7)
        replace HV := Wc.hid (HV.out.keep hb7)
        replace HL := Wc.hid (HL.out.keep hb7)
        replace HT := Wc.hid (HT.out.keep hb7)
        replace R1 := Wc.hid (R1.out.keep hb7)
        replace P1 := Wc.hid (P1.out.keep hb7)
        replace R3 := Wc.hid (R3.out.keep hb7)
        replace BN := Wc.hid (BN.out.keep hb7)
        replace B := Wc.hid (Wc.step B.out (Nat.le_refl _) hb7)
        clear hb7
        go_wp2_with fail
        refine (refSuperBytes_any (Wi.newS m) _ (Wi.newS_ok h4 h5)).mono ?_
        rintro e w8 ⟨vb, rfl, hS, hb8⟩
        obtain ⟨sp, sn, sc, rfl, -⟩ := _root_.id hS
        have bA : Below w7.heap.size w7 (w7.alloc (.cells (madeCells #[.int .u8 0] N) 5)) := (Below.refl _ _).alloc (Nat.le_refl _) _
        have hO1 := (made_ob N (by omega) w7).keep hb8
        obtain ⟨w9, hrun, hO2, hb9, -⟩ := Wd.copy_run (P := Try.prog) (ty := 3) (k := 0) Try.underlying22 Try.sizeU8 hO1 hS (by rw [Ws.blk_length]; omega)
        rw [Nat.sub_zero] at hrun
        have hb := (Wc.step bA (Nat.le_refl _) hb8).trans hb9
        have BX := Wc.hid hO2.bs
        clear hS bA hO1 hO2 hb8 hb9
        replace Z := Wc.hid (Z.out.keep hb)
        replace Y := Wc.hid (Y.out.keep hb)
        replace HV := Wc.hid (HV.out.keep hb)
        replace HL := Wc.hid (HL.out.keep hb)
        replace HT := Wc.hid (HT.out.keep hb)
        replace R1 := Wc.hid (R1.out.keep hb)
        replace P1 := Wc.hid (P1.out.keep hb)
        replace R3 := Wc.hid (R3.out.keep hb)
        replace BN := Wc.hid (BN.out.keep hb)
        replace B := Wc.hid (Wc.step B.out (Nat.le_refl _) hb)
        clear hb
        go_wp2_with fail
        refine (bytes_any _ _ _ _ _ BN.out BX.out).mono ?_
        rintro e w10 ⟨rfl, hb10⟩
        rw [HNI.out]
        replace Z := Wc.hid (Z.out.keep hb10)
        replace Y := Wc.hid (Y.out.keep hb10)
        replace HV := Wc.hid (HV.out.keep hb10)
        replace HL := Wc.hid (HL.out.keep hb10)
        replace HT := Wc.hid (HT.out.keep hb10)
        replace R1 := Wc.hid (R1.out.keep hb10)
        replace P1 := Wc.hid (P1.out.keep hb10)
        replace R3 := Wc.hid (R3.out.keep hb10)
        replace B := Wc.hid (Wc.step B.out (Nat.le_refl _) hb10)
        clear hb10
        clear BX hrun
        go_wp2_with fail
        refine (blocks_any ai ni ci _ hnb).mono ?_
        rintro e w11 ⟨rfl, rfl⟩
        cases hd : Wd.devB ni
        · have hdx : Wd.devB xs.length = false := by rw [HNL.out]; exact hd
          have hr := Wi.rec_dev (first := first) hdx
          have ho := opn_nodev hdx
          have e1 : E1 = 2 := by rw [← HE1.out]; exact hr.1
          have e2 : E = 2 := by rw [← HE.out]; exact ho.1
          have e3 : S = Ws.s0 := by rw [← HS.out]; exact ho.2.1
          have e4 : T = 0 := by rw [← HTT.out]; exact ho.2.2.1
          have e5 : L3 = [] := by rw [← HL3.out]; exact ho.2.2.2
          have e6 : n1 = 0 := by rw [← Wi.rs_len R1.out, hr.2.2]; rfl
          have e7 : n2 = 0 := by rw [← Wv.rv_len P1.out, hr.2.1]; rfl
          subst e1 e2 e3 e4 e5 e6 e7
          clear hr ho hdx hd
          have ⟨y0, y1, y2, y3, y4, y5, y6⟩ := Y.out.zc
          go_wp2_with fail
          refine (kstate_any Ws.s0 Ws.s0 0 0 a3 none n3 c3 0 0 [] [] _ R3.out (Wi.Rs.nil _)).mono ?_
          rintro e w12 ⟨rfl, hb12⟩
          rw [show stEq Ws.s0 Ws.s0 0 0 [] [] = true from stEq_iff.2 ⟨rfl, rfl, rfl⟩]
          clear y0 y1 y2 y3 y4 y5 y6
          replace B := Wc.hid (Wc.step B.out (Nat.le_refl _) hb12)
          clear hb12
          go_wp2_with fail
          refine (wakes_any _).mono ?_
          rintro e w13 ⟨rfl, hb13⟩
          replace B := Wc.hid (Wc.step B.out (Nat.le_refl _) hb13)
          clear hb13
          go_wp2_with fail
          go_ret
          exact ⟨rfl, B.out⟩
        · have hdx : Wd.devB xs.length = true := by rw [HNL.out]; exact hd
          have HDX := Wc.hid hdx
          clear hdx hd
          go_wp2_with fail
          refine (refRecs_any _ xs first _ HV.out HDX.out).mono ?_
          rintro e w12 ⟨a5, n5, c5, a6, n6, c6, bad, rfl, hR5, hP5, hb12, -, -⟩
          replace Y := Wc.hid (Y.out.keep hb12)
          replace HV := Wc.hid (HV.out.keep hb12)
          replace R1 := Wc.hid (R1.out.keep hb12)
          replace P1 := Wc.hid (P1.out.keep hb12)
          replace R3 := Wc.hid (R3.out.keep hb12)
          replace B := Wc.hid (Wc.step B.out (Nat.le_refl _) hb12)
          clear hb12
          have R5 := Wc.hid hR5
          have P5 := Wc.hid hP5
          clear hR5 hP5
          cases hrc : Wi.recs xs first
          · have hr := Wi.rec_none HDX.out hrc
            have e1 : E1 = 7 := by rw [← HE1.out]; exact hr.1
            have e6 : n1 = 0 := by rw [← Wi.rs_len R1.out, hr.2.2]; rfl
            have e7 : n2 = 0 := by rw [← Wv.rv_len P1.out, hr.2.1]; rfl
            subst e1 e6 e7
            rw [show (none : Option (List Int)).isSome = false from rfl]
            clear hr hrc R1 P1 R5 P5
            go_wp2_with fail
            refine (refOpen_any _ xs _ HV.out HDX.out).mono ?_
            rintro e w14 ⟨a7, n7, c7, a8, n8, c8, a9, n9, c9, a10, n10, c10, k14, rfl, hR7, hb14, -⟩
            rw [HS.out, HTT.out, HE.out]
            rw [HL3.out] at hR7
            have bA : Below w14.heap.size w14 (w14.alloc (.cells #[.int .i64 S.gen, .int .i64 S.blocks, .int .i64 S.root, .int .i64 S.size, .int .i64 S.first, .int .i64 T, .slice a7 n7 c7, .slice a8 n8 c8, .slice a9 n9 c9, .slice a10 n10 c10] 53)) := (Below.refl _ _).alloc (Nat.le_refl _) _
            have bF : Below (w14.alloc (.cells #[.int .i64 S.gen, .int .i64 S.blocks, .int .i64 S.root, .int .i64 S.size, .int .i64 S.first, .int .i64 T, .slice a7 n7 c7, .slice a8 n8 c8, .slice a9 n9 c9, .slice a10 n10 c10] 53)).heap.size (w14.alloc (.cells #[.int .i64 S.gen, .int .i64 S.blocks, .int .i64 S.root, .int .i64 S.size, .int .i64 S.first, .int .i64 T, .slice a7 n7 c7, .slice a8 n8 c8, .slice a9 n9 c9, .slice a10 n10 c10] 53)) ((w14.alloc (.cells #[.int .i64 S.gen, .int .i64 S.blocks, .int .i64 S.root, .int .i64 S.size, .int .i64 S.first, .int .i64 T, .slice a7 n7 c7, .slice a8 n8 c8, .slice a9 n9 c9, .slice a10 n10 c10] 53)).alloc (.cells #[.int .i64 k14, .int .i64 E] 55)) := (Below.refl _ _).alloc (Nat.le_refl _) _
            have bAF := Wc.step bA (Nat.le_refl _) bF
            have ⟨i0, i1, i2, i3, i4, i5, i6, i7, i8, i9⟩ := ((Ih.new w14 S T (.slice a7 n7 c7) (.slice a8 n8 c8) (.slice a9 n9 c9) (.slice a10 n10 c10)).keep bF).ic
            have hF := Fh.new (w14.alloc (.cells #[.int .i64 S.gen, .int .i64 S.blocks, .int .i64 S.root, .int .i64 S.size, .int .i64 S.first, .int .i64 T, .slice a7 n7 c7, .slice a8 n8 c8, .slice a9 n9 c9, .slice a10 n10 c10] 53)) k14 E
            rw [show (w14.alloc (.cells #[.int .i64 S.gen, .int .i64 S.blocks, .int .i64 S.root, .int .i64 S.size, .int .i64 S.first, .int .i64 T, .slice a7 n7 c7, .slice a8 n8 c8, .slice a9 n9 c9, .slice a10 n10 c10] 53)).heap.size = w14.heap.size + 1 by simp] at hF
            obtain ⟨f0, f1, -⟩ := hF.fc
            have R7 := Wc.hid (hR7.keep bAF)
            have hb15 := Wc.step hb14 (Nat.le_refl _) bAF
            clear bA bF bAF hF hR7 hb14
            replace Y := Wc.hid (Y.out.keep hb15)
            replace R3 := Wc.hid (R3.out.keep hb15)
            replace B := Wc.hid (Wc.step B.out (Nat.le_refl _) hb15)
            clear hb15
            have ⟨y0, y1, y2, y3, y4, y5, y6⟩ := Y.out.zc
            have hee : (E == E) = true := beq_self_eq_true E
            unfold imv
            go_wp2_with fail
            refine (kstate_any S S T T a3 a7 n3 c3 n7 c7 L3 L3 _ R3.out R7.out).mono ?_
            rintro e w16 ⟨rfl, hb16⟩
            rw [show stEq S S T T L3 L3 = true from stEq_iff.2 ⟨rfl, rfl, rfl⟩]
            clear y0 y1 y2 y3 y4 y5 y6 i0 i1 i2 i3 i4 i5 i6 i7 i8 i9 f0 f1 hee
            replace B := Wc.hid (Wc.step B.out (Nat.le_refl _) hb16)
            clear hb16
            go_wp2_with fail
            refine (wakes_any _).mono ?_
            rintro e w17 ⟨rfl, hb17⟩
            replace B := Wc.hid (Wc.step B.out (Nat.le_refl _) hb17)
            clear hb17
            go_wp2_with fail
            go_ret
            exact ⟨rfl, B.out⟩
          · have hr := Wi.rec_some HDX.out hrc
            have e1 : E1 = 0 := by rw [← HE1.out]; exact hr.1
            subst e1
            rw [Option.isSome_some]
            clear hr hrc
            go_wp2_with fail
            refine (krecs_any _ _ (Wi.recL xs first) (Wi.recL xs first) _ R1.out R5.out).mono ?_
            rintro e w13 ⟨rfl, hb13⟩
            rw [Wi.recsB_iff.2 rfl]
            replace Y := Wc.hid (Y.out.keep hb13)
            replace HV := Wc.hid (HV.out.keep hb13)
            replace R3 := Wc.hid (R3.out.keep hb13)
            replace P1 := Wc.hid (P1.out.keep hb13)
            replace P5 := Wc.hid (P5.out.keep hb13)
            replace B := Wc.hid (Wc.step B.out (Nat.le_refl _) hb13)
            clear hb13
            go_wp2_with fail
            refine (ints_any _ _ (Wi.recP xs first) (Wi.recP xs first) _ P1.out P5.out).mono ?_
            rintro e w18 ⟨rfl, hb18⟩
            rw [show (Wi.recP xs first == Wi.recP xs first) = true from beq_self_eq_true _]
            replace Y := Wc.hid (Y.out.keep hb18)
            replace HV := Wc.hid (HV.out.keep hb18)
            replace R3 := Wc.hid (R3.out.keep hb18)
            replace B := Wc.hid (Wc.step B.out (Nat.le_refl _) hb18)
            clear hb18
            go_wp2_with fail
            refine (refOpen_any _ xs _ HV.out HDX.out).mono ?_
            rintro e w14 ⟨a7, n7, c7, a8, n8, c8, a9, n9, c9, a10, n10, c10, k14, rfl, hR7, hb14, -⟩
            rw [HS.out, HTT.out, HE.out]
            rw [HL3.out] at hR7
            have bA : Below w14.heap.size w14 (w14.alloc (.cells #[.int .i64 S.gen, .int .i64 S.blocks, .int .i64 S.root, .int .i64 S.size, .int .i64 S.first, .int .i64 T, .slice a7 n7 c7, .slice a8 n8 c8, .slice a9 n9 c9, .slice a10 n10 c10] 53)) := (Below.refl _ _).alloc (Nat.le_refl _) _
            have bF : Below (w14.alloc (.cells #[.int .i64 S.gen, .int .i64 S.blocks, .int .i64 S.root, .int .i64 S.size, .int .i64 S.first, .int .i64 T, .slice a7 n7 c7, .slice a8 n8 c8, .slice a9 n9 c9, .slice a10 n10 c10] 53)).heap.size (w14.alloc (.cells #[.int .i64 S.gen, .int .i64 S.blocks, .int .i64 S.root, .int .i64 S.size, .int .i64 S.first, .int .i64 T, .slice a7 n7 c7, .slice a8 n8 c8, .slice a9 n9 c9, .slice a10 n10 c10] 53)) ((w14.alloc (.cells #[.int .i64 S.gen, .int .i64 S.blocks, .int .i64 S.root, .int .i64 S.size, .int .i64 S.first, .int .i64 T, .slice a7 n7 c7, .slice a8 n8 c8, .slice a9 n9 c9, .slice a10 n10 c10] 53)).alloc (.cells #[.int .i64 k14, .int .i64 E] 55)) := (Below.refl _ _).alloc (Nat.le_refl _) _
            have bAF := Wc.step bA (Nat.le_refl _) bF
            have ⟨i0, i1, i2, i3, i4, i5, i6, i7, i8, i9⟩ := ((Ih.new w14 S T (.slice a7 n7 c7) (.slice a8 n8 c8) (.slice a9 n9 c9) (.slice a10 n10 c10)).keep bF).ic
            have hF := Fh.new (w14.alloc (.cells #[.int .i64 S.gen, .int .i64 S.blocks, .int .i64 S.root, .int .i64 S.size, .int .i64 S.first, .int .i64 T, .slice a7 n7 c7, .slice a8 n8 c8, .slice a9 n9 c9, .slice a10 n10 c10] 53)) k14 E
            rw [show (w14.alloc (.cells #[.int .i64 S.gen, .int .i64 S.blocks, .int .i64 S.root, .int .i64 S.size, .int .i64 S.first, .int .i64 T, .slice a7 n7 c7, .slice a8 n8 c8, .slice a9 n9 c9, .slice a10 n10 c10] 53)).heap.size = w14.heap.size + 1 by simp] at hF
            obtain ⟨f0, f1, -⟩ := hF.fc
            have R7 := Wc.hid (hR7.keep bAF)
            have hb15 := Wc.step hb14 (Nat.le_refl _) bAF
            clear bA bF bAF hF hR7 hb14
            replace Y := Wc.hid (Y.out.keep hb15)
            replace R3 := Wc.hid (R3.out.keep hb15)
            replace B := Wc.hid (Wc.step B.out (Nat.le_refl _) hb15)
            clear hb15
            have ⟨y0, y1, y2, y3, y4, y5, y6⟩ := Y.out.zc
            have hee : (E == E) = true := beq_self_eq_true E
            unfold imv
            go_wp2_with fail
            refine (kstate_any S S T T a3 a7 n3 c3 n7 c7 L3 L3 _ R3.out R7.out).mono ?_
            rintro e w16 ⟨rfl, hb16⟩
            rw [show stEq S S T T L3 L3 = true from stEq_iff.2 ⟨rfl, rfl, rfl⟩]
            clear y0 y1 y2 y3 y4 y5 y6 i0 i1 i2 i3 i4 i5 i6 i7 i8 i9 f0 f1 hee
            replace B := Wc.hid (Wc.step B.out (Nat.le_refl _) hb16)
            clear hb16
            go_wp2_with fail
            refine (wakes_any _).mono ?_
            rintro e w17 ⟨rfl, hb17⟩
            replace B := Wc.hid (Wc.step B.out (Nat.le_refl _) hb17)
            clear hb17
            go_wp2_with fail
            go_ret
            exact ⟨rfl, B.out⟩
    · by_cases hw : wt < 0
      · have hj := RW.out.none (by rw [HLL.out]; omega) hw
        obtain rfl : wt = -1 := hj.1
        obtain rfl : fN = 0 := by rw [← HFN.out]; unfold Wi.fndN; rw [hj.2]
        obtain rfl : fB = false := by rw [← HFB.out, hj.2]; rfl
        have hmax : max (-1 : Int) 0 = 0 := by decide
        clear hj RW
        replace Z := Wc.hid (Z.out.keep RB.out)
        replace Y := Wc.hid (Y.out.keep RB.out)
        replace HV := Wc.hid (HV.out.keep RB.out)
        replace HL := Wc.hid (HL.out.keep RB.out)
        replace HT := Wc.hid (HT.out.keep RB.out)
        replace R1 := Wc.hid (R1.out.keep RB.out)
        replace P1 := Wc.hid (P1.out.keep RB.out)
        replace R3 := Wc.hid (R3.out.keep RB.out)
        replace BN := Wc.hid (BN.out.keep RB.out)
        replace B := Wc.hid (Wc.step B.out (Nat.le_refl _) RB.out)
        go_wp2_with fail
        refine (bytes_any _ _ xs xs _ HT.out HV.out).mono ?_
        rintro e w7 ⟨rfl, hb7⟩
        rw [show (xs == xs) = true from beq_self_eq_true xs]
        replace Z := Wc.hid (Z.out.keep hb7)
        replace Y := Wc.hid (Y.out.keep hb7)
        replace HV := Wc.hid (HV.out.keep hb7)
        replace HL := Wc.hid (HL.out.keep hb7)
        replace HT := Wc.hid (HT.out.keep hb7)
        replace R1 := Wc.hid (R1.out.keep hb7)
        replace P1 := Wc.hid (P1.out.keep hb7)
        replace R3 := Wc.hid (R3.out.keep hb7)
        replace BN := Wc.hid (BN.out.keep hb7)
        replace B := Wc.hid (Wc.step B.out (Nat.le_refl _) hb7)
        clear hb7
        go_wp2_with fail
        refine (refSuperBytes_any (Wi.newS m) _ (Wi.newS_ok h4 h5)).mono ?_
        rintro e w8 ⟨vb, rfl, hS, hb8⟩
        obtain ⟨sp, sn, sc, rfl, -⟩ := _root_.id hS
        have bA : Below w7.heap.size w7 (w7.alloc (.cells (madeCells #[.int .u8 0] N) 5)) := (Below.refl _ _).alloc (Nat.le_refl _) _
        have hO1 := (made_ob N (by omega) w7).keep hb8
        obtain ⟨w9, hrun, hO2, hb9, -⟩ := Wd.copy_run (P := Try.prog) (ty := 3) (k := 0) Try.underlying22 Try.sizeU8 hO1 hS (by rw [Ws.blk_length]; omega)
        rw [Nat.sub_zero] at hrun
        have hb := (Wc.step bA (Nat.le_refl _) hb8).trans hb9
        have BX := Wc.hid hO2.bs
        clear hS bA hO1 hO2 hb8 hb9
        replace Z := Wc.hid (Z.out.keep hb)
        replace Y := Wc.hid (Y.out.keep hb)
        replace HV := Wc.hid (HV.out.keep hb)
        replace HL := Wc.hid (HL.out.keep hb)
        replace HT := Wc.hid (HT.out.keep hb)
        replace R1 := Wc.hid (R1.out.keep hb)
        replace P1 := Wc.hid (P1.out.keep hb)
        replace R3 := Wc.hid (R3.out.keep hb)
        replace BN := Wc.hid (BN.out.keep hb)
        replace B := Wc.hid (Wc.step B.out (Nat.le_refl _) hb)
        clear hb
        go_wp2_with fail
        refine (bytes_any _ _ _ _ _ BN.out BX.out).mono ?_
        rintro e w10 ⟨rfl, hb10⟩
        rw [HNI.out]
        replace Z := Wc.hid (Z.out.keep hb10)
        replace Y := Wc.hid (Y.out.keep hb10)
        replace HV := Wc.hid (HV.out.keep hb10)
        replace HL := Wc.hid (HL.out.keep hb10)
        replace HT := Wc.hid (HT.out.keep hb10)
        replace R1 := Wc.hid (R1.out.keep hb10)
        replace P1 := Wc.hid (P1.out.keep hb10)
        replace R3 := Wc.hid (R3.out.keep hb10)
        replace B := Wc.hid (Wc.step B.out (Nat.le_refl _) hb10)
        clear hb10
        clear BX hrun
        go_wp2_with fail
        refine (blocks_any ai ni ci _ hnb).mono ?_
        rintro e w11 ⟨rfl, rfl⟩
        cases hd : Wd.devB ni
        · have hdx : Wd.devB xs.length = false := by rw [HNL.out]; exact hd
          have hr := Wi.rec_dev (first := first) hdx
          have ho := opn_nodev hdx
          have e1 : E1 = 2 := by rw [← HE1.out]; exact hr.1
          have e2 : E = 2 := by rw [← HE.out]; exact ho.1
          have e3 : S = Ws.s0 := by rw [← HS.out]; exact ho.2.1
          have e4 : T = 0 := by rw [← HTT.out]; exact ho.2.2.1
          have e5 : L3 = [] := by rw [← HL3.out]; exact ho.2.2.2
          have e6 : n1 = 0 := by rw [← Wi.rs_len R1.out, hr.2.2]; rfl
          have e7 : n2 = 0 := by rw [← Wv.rv_len P1.out, hr.2.1]; rfl
          subst e1 e2 e3 e4 e5 e6 e7
          clear hr ho hdx hd
          have ⟨y0, y1, y2, y3, y4, y5, y6⟩ := Y.out.zc
          go_wp2_with fail
          refine (kstate_any Ws.s0 Ws.s0 0 0 a3 none n3 c3 0 0 [] [] _ R3.out (Wi.Rs.nil _)).mono ?_
          rintro e w12 ⟨rfl, hb12⟩
          rw [show stEq Ws.s0 Ws.s0 0 0 [] [] = true from stEq_iff.2 ⟨rfl, rfl, rfl⟩]
          clear y0 y1 y2 y3 y4 y5 y6
          replace B := Wc.hid (Wc.step B.out (Nat.le_refl _) hb12)
          clear hb12
          go_wp2_with fail
          refine (wakes_any _).mono ?_
          rintro e w13 ⟨rfl, hb13⟩
          replace B := Wc.hid (Wc.step B.out (Nat.le_refl _) hb13)
          clear hb13
          go_wp2_with fail
          go_ret
          exact ⟨rfl, B.out⟩
        · have hdx : Wd.devB xs.length = true := by rw [HNL.out]; exact hd
          have HDX := Wc.hid hdx
          clear hdx hd
          go_wp2_with fail
          refine (refRecs_any _ xs first _ HV.out HDX.out).mono ?_
          rintro e w12 ⟨a5, n5, c5, a6, n6, c6, bad, rfl, hR5, hP5, hb12, -, -⟩
          replace Y := Wc.hid (Y.out.keep hb12)
          replace HV := Wc.hid (HV.out.keep hb12)
          replace R1 := Wc.hid (R1.out.keep hb12)
          replace P1 := Wc.hid (P1.out.keep hb12)
          replace R3 := Wc.hid (R3.out.keep hb12)
          replace B := Wc.hid (Wc.step B.out (Nat.le_refl _) hb12)
          clear hb12
          have R5 := Wc.hid hR5
          have P5 := Wc.hid hP5
          clear hR5 hP5
          cases hrc : Wi.recs xs first
          · have hr := Wi.rec_none HDX.out hrc
            have e1 : E1 = 7 := by rw [← HE1.out]; exact hr.1
            have e6 : n1 = 0 := by rw [← Wi.rs_len R1.out, hr.2.2]; rfl
            have e7 : n2 = 0 := by rw [← Wv.rv_len P1.out, hr.2.1]; rfl
            subst e1 e6 e7
            rw [show (none : Option (List Int)).isSome = false from rfl]
            clear hr hrc R1 P1 R5 P5
            go_wp2_with fail
            refine (refOpen_any _ xs _ HV.out HDX.out).mono ?_
            rintro e w14 ⟨a7, n7, c7, a8, n8, c8, a9, n9, c9, a10, n10, c10, k14, rfl, hR7, hb14, -⟩
            rw [HS.out, HTT.out, HE.out]
            rw [HL3.out] at hR7
            have bA : Below w14.heap.size w14 (w14.alloc (.cells #[.int .i64 S.gen, .int .i64 S.blocks, .int .i64 S.root, .int .i64 S.size, .int .i64 S.first, .int .i64 T, .slice a7 n7 c7, .slice a8 n8 c8, .slice a9 n9 c9, .slice a10 n10 c10] 53)) := (Below.refl _ _).alloc (Nat.le_refl _) _
            have bF : Below (w14.alloc (.cells #[.int .i64 S.gen, .int .i64 S.blocks, .int .i64 S.root, .int .i64 S.size, .int .i64 S.first, .int .i64 T, .slice a7 n7 c7, .slice a8 n8 c8, .slice a9 n9 c9, .slice a10 n10 c10] 53)).heap.size (w14.alloc (.cells #[.int .i64 S.gen, .int .i64 S.blocks, .int .i64 S.root, .int .i64 S.size, .int .i64 S.first, .int .i64 T, .slice a7 n7 c7, .slice a8 n8 c8, .slice a9 n9 c9, .slice a10 n10 c10] 53)) ((w14.alloc (.cells #[.int .i64 S.gen, .int .i64 S.blocks, .int .i64 S.root, .int .i64 S.size, .int .i64 S.first, .int .i64 T, .slice a7 n7 c7, .slice a8 n8 c8, .slice a9 n9 c9, .slice a10 n10 c10] 53)).alloc (.cells #[.int .i64 k14, .int .i64 E] 55)) := (Below.refl _ _).alloc (Nat.le_refl _) _
            have bAF := Wc.step bA (Nat.le_refl _) bF
            have ⟨i0, i1, i2, i3, i4, i5, i6, i7, i8, i9⟩ := ((Ih.new w14 S T (.slice a7 n7 c7) (.slice a8 n8 c8) (.slice a9 n9 c9) (.slice a10 n10 c10)).keep bF).ic
            have hF := Fh.new (w14.alloc (.cells #[.int .i64 S.gen, .int .i64 S.blocks, .int .i64 S.root, .int .i64 S.size, .int .i64 S.first, .int .i64 T, .slice a7 n7 c7, .slice a8 n8 c8, .slice a9 n9 c9, .slice a10 n10 c10] 53)) k14 E
            rw [show (w14.alloc (.cells #[.int .i64 S.gen, .int .i64 S.blocks, .int .i64 S.root, .int .i64 S.size, .int .i64 S.first, .int .i64 T, .slice a7 n7 c7, .slice a8 n8 c8, .slice a9 n9 c9, .slice a10 n10 c10] 53)).heap.size = w14.heap.size + 1 by simp] at hF
            obtain ⟨f0, f1, -⟩ := hF.fc
            have R7 := Wc.hid (hR7.keep bAF)
            have hb15 := Wc.step hb14 (Nat.le_refl _) bAF
            clear bA bF bAF hF hR7 hb14
            replace Y := Wc.hid (Y.out.keep hb15)
            replace R3 := Wc.hid (R3.out.keep hb15)
            replace B := Wc.hid (Wc.step B.out (Nat.le_refl _) hb15)
            clear hb15
            have ⟨y0, y1, y2, y3, y4, y5, y6⟩ := Y.out.zc
            have hee : (E == E) = true := beq_self_eq_true E
            unfold imv
            go_wp2_with fail
            refine (kstate_any S S T T a3 a7 n3 c3 n7 c7 L3 L3 _ R3.out R7.out).mono ?_
            rintro e w16 ⟨rfl, hb16⟩
            rw [show stEq S S T T L3 L3 = true from stEq_iff.2 ⟨rfl, rfl, rfl⟩]
            clear y0 y1 y2 y3 y4 y5 y6 i0 i1 i2 i3 i4 i5 i6 i7 i8 i9 f0 f1 hee
            replace B := Wc.hid (Wc.step B.out (Nat.le_refl _) hb16)
            clear hb16
            go_wp2_with fail
            refine (wakes_any _).mono ?_
            rintro e w17 ⟨rfl, hb17⟩
            replace B := Wc.hid (Wc.step B.out (Nat.le_refl _) hb17)
            clear hb17
            go_wp2_with fail
            go_ret
            exact ⟨rfl, B.out⟩
          · have hr := Wi.rec_some HDX.out hrc
            have e1 : E1 = 0 := by rw [← HE1.out]; exact hr.1
            subst e1
            rw [Option.isSome_some]
            clear hr hrc
            go_wp2_with fail
            refine (krecs_any _ _ (Wi.recL xs first) (Wi.recL xs first) _ R1.out R5.out).mono ?_
            rintro e w13 ⟨rfl, hb13⟩
            rw [Wi.recsB_iff.2 rfl]
            replace Y := Wc.hid (Y.out.keep hb13)
            replace HV := Wc.hid (HV.out.keep hb13)
            replace R3 := Wc.hid (R3.out.keep hb13)
            replace P1 := Wc.hid (P1.out.keep hb13)
            replace P5 := Wc.hid (P5.out.keep hb13)
            replace B := Wc.hid (Wc.step B.out (Nat.le_refl _) hb13)
            clear hb13
            go_wp2_with fail
            refine (ints_any _ _ (Wi.recP xs first) (Wi.recP xs first) _ P1.out P5.out).mono ?_
            rintro e w18 ⟨rfl, hb18⟩
            rw [show (Wi.recP xs first == Wi.recP xs first) = true from beq_self_eq_true _]
            replace Y := Wc.hid (Y.out.keep hb18)
            replace HV := Wc.hid (HV.out.keep hb18)
            replace R3 := Wc.hid (R3.out.keep hb18)
            replace B := Wc.hid (Wc.step B.out (Nat.le_refl _) hb18)
            clear hb18
            go_wp2_with fail
            refine (refOpen_any _ xs _ HV.out HDX.out).mono ?_
            rintro e w14 ⟨a7, n7, c7, a8, n8, c8, a9, n9, c9, a10, n10, c10, k14, rfl, hR7, hb14, -⟩
            rw [HS.out, HTT.out, HE.out]
            rw [HL3.out] at hR7
            have bA : Below w14.heap.size w14 (w14.alloc (.cells #[.int .i64 S.gen, .int .i64 S.blocks, .int .i64 S.root, .int .i64 S.size, .int .i64 S.first, .int .i64 T, .slice a7 n7 c7, .slice a8 n8 c8, .slice a9 n9 c9, .slice a10 n10 c10] 53)) := (Below.refl _ _).alloc (Nat.le_refl _) _
            have bF : Below (w14.alloc (.cells #[.int .i64 S.gen, .int .i64 S.blocks, .int .i64 S.root, .int .i64 S.size, .int .i64 S.first, .int .i64 T, .slice a7 n7 c7, .slice a8 n8 c8, .slice a9 n9 c9, .slice a10 n10 c10] 53)).heap.size (w14.alloc (.cells #[.int .i64 S.gen, .int .i64 S.blocks, .int .i64 S.root, .int .i64 S.size, .int .i64 S.first, .int .i64 T, .slice a7 n7 c7, .slice a8 n8 c8, .slice a9 n9 c9, .slice a10 n10 c10] 53)) ((w14.alloc (.cells #[.int .i64 S.gen, .int .i64 S.blocks, .int .i64 S.root, .int .i64 S.size, .int .i64 S.first, .int .i64 T, .slice a7 n7 c7, .slice a8 n8 c8, .slice a9 n9 c9, .slice a10 n10 c10] 53)).alloc (.cells #[.int .i64 k14, .int .i64 E] 55)) := (Below.refl _ _).alloc (Nat.le_refl _) _
            have bAF := Wc.step bA (Nat.le_refl _) bF
            have ⟨i0, i1, i2, i3, i4, i5, i6, i7, i8, i9⟩ := ((Ih.new w14 S T (.slice a7 n7 c7) (.slice a8 n8 c8) (.slice a9 n9 c9) (.slice a10 n10 c10)).keep bF).ic
            have hF := Fh.new (w14.alloc (.cells #[.int .i64 S.gen, .int .i64 S.blocks, .int .i64 S.root, .int .i64 S.size, .int .i64 S.first, .int .i64 T, .slice a7 n7 c7, .slice a8 n8 c8, .slice a9 n9 c9, .slice a10 n10 c10] 53)) k14 E
            rw [show (w14.alloc (.cells #[.int .i64 S.gen, .int .i64 S.blocks, .int .i64 S.root, .int .i64 S.size, .int .i64 S.first, .int .i64 T, .slice a7 n7 c7, .slice a8 n8 c8, .slice a9 n9 c9, .slice a10 n10 c10] 53)).heap.size = w14.heap.size + 1 by simp] at hF
            obtain ⟨f0, f1, -⟩ := hF.fc
            have R7 := Wc.hid (hR7.keep bAF)
            have hb15 := Wc.step hb14 (Nat.le_refl _) bAF
            clear bA bF bAF hF hR7 hb14
            replace Y := Wc.hid (Y.out.keep hb15)
            replace R3 := Wc.hid (R3.out.keep hb15)
            replace B := Wc.hid (Wc.step B.out (Nat.le_refl _) hb15)
            clear hb15
            have ⟨y0, y1, y2, y3, y4, y5, y6⟩ := Y.out.zc
            have hee : (E == E) = true := beq_self_eq_true E
            unfold imv
            go_wp2_with fail
            refine (kstate_any S S T T a3 a7 n3 c3 n7 c7 L3 L3 _ R3.out R7.out).mono ?_
            rintro e w16 ⟨rfl, hb16⟩
            rw [show stEq S S T T L3 L3 = true from stEq_iff.2 ⟨rfl, rfl, rfl⟩]
            clear y0 y1 y2 y3 y4 y5 y6 i0 i1 i2 i3 i4 i5 i6 i7 i8 i9 f0 f1 hee
            replace B := Wc.hid (Wc.step B.out (Nat.le_refl _) hb16)
            clear hb16
            go_wp2_with fail
            refine (wakes_any _).mono ?_
            rintro e w17 ⟨rfl, hb17⟩
            replace B := Wc.hid (Wc.step B.out (Nat.le_refl _) hb17)
            clear hb17
            go_wp2_with fail
            go_ret
            exact ⟨rfl, B.out⟩
      · obtain ⟨j, rfl, hj⟩ := RW.out.some (by omega)
        obtain rfl : fN = (j : Int) := by rw [← HFN.out]; unfold Wi.fndN; rw [hj]
        obtain rfl : fB = true := by rw [← HFB.out, hj]; rfl
        have hmax : max (j : Int) 0 = (j : Int) := by omega
        clear hj RW
        replace Z := Wc.hid (Z.out.keep RB.out)
        replace Y := Wc.hid (Y.out.keep RB.out)
        replace HV := Wc.hid (HV.out.keep RB.out)
        replace HL := Wc.hid (HL.out.keep RB.out)
        replace HT := Wc.hid (HT.out.keep RB.out)
        replace R1 := Wc.hid (R1.out.keep RB.out)
        replace P1 := Wc.hid (P1.out.keep RB.out)
        replace R3 := Wc.hid (R3.out.keep RB.out)
        replace BN := Wc.hid (BN.out.keep RB.out)
        replace B := Wc.hid (Wc.step B.out (Nat.le_refl _) RB.out)
        go_wp2_with fail
        refine (bytes_any _ _ xs xs _ HT.out HV.out).mono ?_
        rintro e w7 ⟨rfl, hb7⟩
        rw [show (xs == xs) = true from beq_self_eq_true xs]
        replace Z := Wc.hid (Z.out.keep hb7)
        replace Y := Wc.hid (Y.out.keep hb7)
        replace HV := Wc.hid (HV.out.keep hb7)
        replace HL := Wc.hid (HL.out.keep hb7)
        replace HT := Wc.hid (HT.out.keep hb7)
        replace R1 := Wc.hid (R1.out.keep hb7)
        replace P1 := Wc.hid (P1.out.keep hb7)
        replace R3 := Wc.hid (R3.out.keep hb7)
        replace BN := Wc.hid (BN.out.keep hb7)
        replace B := Wc.hid (Wc.step B.out (Nat.le_refl _) hb7)
        clear hb7
        go_wp2_with fail
        refine (refSuperBytes_any (Wi.newS m) _ (Wi.newS_ok h4 h5)).mono ?_
        rintro e w8 ⟨vb, rfl, hS, hb8⟩
        obtain ⟨sp, sn, sc, rfl, -⟩ := _root_.id hS
        have bA : Below w7.heap.size w7 (w7.alloc (.cells (madeCells #[.int .u8 0] N) 5)) := (Below.refl _ _).alloc (Nat.le_refl _) _
        have hO1 := (made_ob N (by omega) w7).keep hb8
        obtain ⟨w9, hrun, hO2, hb9, -⟩ := Wd.copy_run (P := Try.prog) (ty := 3) (k := 0) Try.underlying22 Try.sizeU8 hO1 hS (by rw [Ws.blk_length]; omega)
        rw [Nat.sub_zero] at hrun
        have hb := (Wc.step bA (Nat.le_refl _) hb8).trans hb9
        have BX := Wc.hid hO2.bs
        clear hS bA hO1 hO2 hb8 hb9
        replace Z := Wc.hid (Z.out.keep hb)
        replace Y := Wc.hid (Y.out.keep hb)
        replace HV := Wc.hid (HV.out.keep hb)
        replace HL := Wc.hid (HL.out.keep hb)
        replace HT := Wc.hid (HT.out.keep hb)
        replace R1 := Wc.hid (R1.out.keep hb)
        replace P1 := Wc.hid (P1.out.keep hb)
        replace R3 := Wc.hid (R3.out.keep hb)
        replace BN := Wc.hid (BN.out.keep hb)
        replace B := Wc.hid (Wc.step B.out (Nat.le_refl _) hb)
        clear hb
        go_wp2_with fail
        refine (bytes_any _ _ _ _ _ BN.out BX.out).mono ?_
        rintro e w10 ⟨rfl, hb10⟩
        rw [HNI.out]
        replace Z := Wc.hid (Z.out.keep hb10)
        replace Y := Wc.hid (Y.out.keep hb10)
        replace HV := Wc.hid (HV.out.keep hb10)
        replace HL := Wc.hid (HL.out.keep hb10)
        replace HT := Wc.hid (HT.out.keep hb10)
        replace R1 := Wc.hid (R1.out.keep hb10)
        replace P1 := Wc.hid (P1.out.keep hb10)
        replace R3 := Wc.hid (R3.out.keep hb10)
        replace B := Wc.hid (Wc.step B.out (Nat.le_refl _) hb10)
        clear hb10
        clear BX hrun
        go_wp2_with fail
        refine (blocks_any ai ni ci _ hnb).mono ?_
        rintro e w11 ⟨rfl, rfl⟩
        cases hd : Wd.devB ni
        · have hdx : Wd.devB xs.length = false := by rw [HNL.out]; exact hd
          have hr := Wi.rec_dev (first := first) hdx
          have ho := opn_nodev hdx
          have e1 : E1 = 2 := by rw [← HE1.out]; exact hr.1
          have e2 : E = 2 := by rw [← HE.out]; exact ho.1
          have e3 : S = Ws.s0 := by rw [← HS.out]; exact ho.2.1
          have e4 : T = 0 := by rw [← HTT.out]; exact ho.2.2.1
          have e5 : L3 = [] := by rw [← HL3.out]; exact ho.2.2.2
          have e6 : n1 = 0 := by rw [← Wi.rs_len R1.out, hr.2.2]; rfl
          have e7 : n2 = 0 := by rw [← Wv.rv_len P1.out, hr.2.1]; rfl
          subst e1 e2 e3 e4 e5 e6 e7
          clear hr ho hdx hd
          have ⟨y0, y1, y2, y3, y4, y5, y6⟩ := Y.out.zc
          go_wp2_with fail
          refine (kstate_any Ws.s0 Ws.s0 0 0 a3 none n3 c3 0 0 [] [] _ R3.out (Wi.Rs.nil _)).mono ?_
          rintro e w12 ⟨rfl, hb12⟩
          rw [show stEq Ws.s0 Ws.s0 0 0 [] [] = true from stEq_iff.2 ⟨rfl, rfl, rfl⟩]
          clear y0 y1 y2 y3 y4 y5 y6
          replace B := Wc.hid (Wc.step B.out (Nat.le_refl _) hb12)
          clear hb12
          go_wp2_with fail
          refine (wakes_any _).mono ?_
          rintro e w13 ⟨rfl, hb13⟩
          replace B := Wc.hid (Wc.step B.out (Nat.le_refl _) hb13)
          clear hb13
          go_wp2_with fail
          go_ret
          exact ⟨rfl, B.out⟩
        · have hdx : Wd.devB xs.length = true := by rw [HNL.out]; exact hd
          have HDX := Wc.hid hdx
          clear hdx hd
          go_wp2_with fail
          refine (refRecs_any _ xs first _ HV.out HDX.out).mono ?_
          rintro e w12 ⟨a5, n5, c5, a6, n6, c6, bad, rfl, hR5, hP5, hb12, -, -⟩
          replace Y := Wc.hid (Y.out.keep hb12)
          replace HV := Wc.hid (HV.out.keep hb12)
          replace R1 := Wc.hid (R1.out.keep hb12)
          replace P1 := Wc.hid (P1.out.keep hb12)
          replace R3 := Wc.hid (R3.out.keep hb12)
          replace B := Wc.hid (Wc.step B.out (Nat.le_refl _) hb12)
          clear hb12
          have R5 := Wc.hid hR5
          have P5 := Wc.hid hP5
          clear hR5 hP5
          cases hrc : Wi.recs xs first
          · have hr := Wi.rec_none HDX.out hrc
            have e1 : E1 = 7 := by rw [← HE1.out]; exact hr.1
            have e6 : n1 = 0 := by rw [← Wi.rs_len R1.out, hr.2.2]; rfl
            have e7 : n2 = 0 := by rw [← Wv.rv_len P1.out, hr.2.1]; rfl
            subst e1 e6 e7
            rw [show (none : Option (List Int)).isSome = false from rfl]
            clear hr hrc R1 P1 R5 P5
            go_wp2_with fail
            refine (refOpen_any _ xs _ HV.out HDX.out).mono ?_
            rintro e w14 ⟨a7, n7, c7, a8, n8, c8, a9, n9, c9, a10, n10, c10, k14, rfl, hR7, hb14, -⟩
            rw [HS.out, HTT.out, HE.out]
            rw [HL3.out] at hR7
            have bA : Below w14.heap.size w14 (w14.alloc (.cells #[.int .i64 S.gen, .int .i64 S.blocks, .int .i64 S.root, .int .i64 S.size, .int .i64 S.first, .int .i64 T, .slice a7 n7 c7, .slice a8 n8 c8, .slice a9 n9 c9, .slice a10 n10 c10] 53)) := (Below.refl _ _).alloc (Nat.le_refl _) _
            have bF : Below (w14.alloc (.cells #[.int .i64 S.gen, .int .i64 S.blocks, .int .i64 S.root, .int .i64 S.size, .int .i64 S.first, .int .i64 T, .slice a7 n7 c7, .slice a8 n8 c8, .slice a9 n9 c9, .slice a10 n10 c10] 53)).heap.size (w14.alloc (.cells #[.int .i64 S.gen, .int .i64 S.blocks, .int .i64 S.root, .int .i64 S.size, .int .i64 S.first, .int .i64 T, .slice a7 n7 c7, .slice a8 n8 c8, .slice a9 n9 c9, .slice a10 n10 c10] 53)) ((w14.alloc (.cells #[.int .i64 S.gen, .int .i64 S.blocks, .int .i64 S.root, .int .i64 S.size, .int .i64 S.first, .int .i64 T, .slice a7 n7 c7, .slice a8 n8 c8, .slice a9 n9 c9, .slice a10 n10 c10] 53)).alloc (.cells #[.int .i64 k14, .int .i64 E] 55)) := (Below.refl _ _).alloc (Nat.le_refl _) _
            have bAF := Wc.step bA (Nat.le_refl _) bF
            have ⟨i0, i1, i2, i3, i4, i5, i6, i7, i8, i9⟩ := ((Ih.new w14 S T (.slice a7 n7 c7) (.slice a8 n8 c8) (.slice a9 n9 c9) (.slice a10 n10 c10)).keep bF).ic
            have hF := Fh.new (w14.alloc (.cells #[.int .i64 S.gen, .int .i64 S.blocks, .int .i64 S.root, .int .i64 S.size, .int .i64 S.first, .int .i64 T, .slice a7 n7 c7, .slice a8 n8 c8, .slice a9 n9 c9, .slice a10 n10 c10] 53)) k14 E
            rw [show (w14.alloc (.cells #[.int .i64 S.gen, .int .i64 S.blocks, .int .i64 S.root, .int .i64 S.size, .int .i64 S.first, .int .i64 T, .slice a7 n7 c7, .slice a8 n8 c8, .slice a9 n9 c9, .slice a10 n10 c10] 53)).heap.size = w14.heap.size + 1 by simp] at hF
            obtain ⟨f0, f1, -⟩ := hF.fc
            have R7 := Wc.hid (hR7.keep bAF)
            have hb15 := Wc.step hb14 (Nat.le_refl _) bAF
            clear bA bF bAF hF hR7 hb14
            replace Y := Wc.hid (Y.out.keep hb15)
            replace R3 := Wc.hid (R3.out.keep hb15)
            replace B := Wc.hid (Wc.step B.out (Nat.le_refl _) hb15)
            clear hb15
            have ⟨y0, y1, y2, y3, y4, y5, y6⟩ := Y.out.zc
            have hee : (E == E) = true := beq_self_eq_true E
            unfold imv
            go_wp2_with fail
            refine (kstate_any S S T T a3 a7 n3 c3 n7 c7 L3 L3 _ R3.out R7.out).mono ?_
            rintro e w16 ⟨rfl, hb16⟩
            rw [show stEq S S T T L3 L3 = true from stEq_iff.2 ⟨rfl, rfl, rfl⟩]
            clear y0 y1 y2 y3 y4 y5 y6 i0 i1 i2 i3 i4 i5 i6 i7 i8 i9 f0 f1 hee
            replace B := Wc.hid (Wc.step B.out (Nat.le_refl _) hb16)
            clear hb16
            go_wp2_with fail
            refine (wakes_any _).mono ?_
            rintro e w17 ⟨rfl, hb17⟩
            replace B := Wc.hid (Wc.step B.out (Nat.le_refl _) hb17)
            clear hb17
            go_wp2_with fail
            go_ret
            exact ⟨rfl, B.out⟩
          · have hr := Wi.rec_some HDX.out hrc
            have e1 : E1 = 0 := by rw [← HE1.out]; exact hr.1
            subst e1
            rw [Option.isSome_some]
            clear hr hrc
            go_wp2_with fail
            refine (krecs_any _ _ (Wi.recL xs first) (Wi.recL xs first) _ R1.out R5.out).mono ?_
            rintro e w13 ⟨rfl, hb13⟩
            rw [Wi.recsB_iff.2 rfl]
            replace Y := Wc.hid (Y.out.keep hb13)
            replace HV := Wc.hid (HV.out.keep hb13)
            replace R3 := Wc.hid (R3.out.keep hb13)
            replace P1 := Wc.hid (P1.out.keep hb13)
            replace P5 := Wc.hid (P5.out.keep hb13)
            replace B := Wc.hid (Wc.step B.out (Nat.le_refl _) hb13)
            clear hb13
            go_wp2_with fail
            refine (ints_any _ _ (Wi.recP xs first) (Wi.recP xs first) _ P1.out P5.out).mono ?_
            rintro e w18 ⟨rfl, hb18⟩
            rw [show (Wi.recP xs first == Wi.recP xs first) = true from beq_self_eq_true _]
            replace Y := Wc.hid (Y.out.keep hb18)
            replace HV := Wc.hid (HV.out.keep hb18)
            replace R3 := Wc.hid (R3.out.keep hb18)
            replace B := Wc.hid (Wc.step B.out (Nat.le_refl _) hb18)
            clear hb18
            go_wp2_with fail
            refine (refOpen_any _ xs _ HV.out HDX.out).mono ?_
            rintro e w14 ⟨a7, n7, c7, a8, n8, c8, a9, n9, c9, a10, n10, c10, k14, rfl, hR7, hb14, -⟩
            rw [HS.out, HTT.out, HE.out]
            rw [HL3.out] at hR7
            have bA : Below w14.heap.size w14 (w14.alloc (.cells #[.int .i64 S.gen, .int .i64 S.blocks, .int .i64 S.root, .int .i64 S.size, .int .i64 S.first, .int .i64 T, .slice a7 n7 c7, .slice a8 n8 c8, .slice a9 n9 c9, .slice a10 n10 c10] 53)) := (Below.refl _ _).alloc (Nat.le_refl _) _
            have bF : Below (w14.alloc (.cells #[.int .i64 S.gen, .int .i64 S.blocks, .int .i64 S.root, .int .i64 S.size, .int .i64 S.first, .int .i64 T, .slice a7 n7 c7, .slice a8 n8 c8, .slice a9 n9 c9, .slice a10 n10 c10] 53)).heap.size (w14.alloc (.cells #[.int .i64 S.gen, .int .i64 S.blocks, .int .i64 S.root, .int .i64 S.size, .int .i64 S.first, .int .i64 T, .slice a7 n7 c7, .slice a8 n8 c8, .slice a9 n9 c9, .slice a10 n10 c10] 53)) ((w14.alloc (.cells #[.int .i64 S.gen, .int .i64 S.blocks, .int .i64 S.root, .int .i64 S.size, .int .i64 S.first, .int .i64 T, .slice a7 n7 c7, .slice a8 n8 c8, .slice a9 n9 c9, .slice a10 n10 c10] 53)).alloc (.cells #[.int .i64 k14, .int .i64 E] 55)) := (Below.refl _ _).alloc (Nat.le_refl _) _
            have bAF := Wc.step bA (Nat.le_refl _) bF
            have ⟨i0, i1, i2, i3, i4, i5, i6, i7, i8, i9⟩ := ((Ih.new w14 S T (.slice a7 n7 c7) (.slice a8 n8 c8) (.slice a9 n9 c9) (.slice a10 n10 c10)).keep bF).ic
            have hF := Fh.new (w14.alloc (.cells #[.int .i64 S.gen, .int .i64 S.blocks, .int .i64 S.root, .int .i64 S.size, .int .i64 S.first, .int .i64 T, .slice a7 n7 c7, .slice a8 n8 c8, .slice a9 n9 c9, .slice a10 n10 c10] 53)) k14 E
            rw [show (w14.alloc (.cells #[.int .i64 S.gen, .int .i64 S.blocks, .int .i64 S.root, .int .i64 S.size, .int .i64 S.first, .int .i64 T, .slice a7 n7 c7, .slice a8 n8 c8, .slice a9 n9 c9, .slice a10 n10 c10] 53)).heap.size = w14.heap.size + 1 by simp] at hF
            obtain ⟨f0, f1, -⟩ := hF.fc
            have R7 := Wc.hid (hR7.keep bAF)
            have hb15 := Wc.step hb14 (Nat.le_refl _) bAF
            clear bA bF bAF hF hR7 hb14
            replace Y := Wc.hid (Y.out.keep hb15)
            replace R3 := Wc.hid (R3.out.keep hb15)
            replace B := Wc.hid (Wc.step B.out (Nat.le_refl _) hb15)
            clear hb15
            have ⟨y0, y1, y2, y3, y4, y5, y6⟩ := Y.out.zc
            have hee : (E == E) = true := beq_self_eq_true E
            unfold imv
            go_wp2_with fail
            refine (kstate_any S S T T a3 a7 n3 c3 n7 c7 L3 L3 _ R3.out R7.out).mono ?_
            rintro e w16 ⟨rfl, hb16⟩
            rw [show stEq S S T T L3 L3 = true from stEq_iff.2 ⟨rfl, rfl, rfl⟩]
            clear y0 y1 y2 y3 y4 y5 y6 i0 i1 i2 i3 i4 i5 i6 i7 i8 i9 f0 f1 hee
            replace B := Wc.hid (Wc.step B.out (Nat.le_refl _) hb16)
            clear hb16
            go_wp2_with fail
            refine (wakes_any _).mono ?_
            rintro e w17 ⟨rfl, hb17⟩
            replace B := Wc.hid (Wc.step B.out (Nat.le_refl _) hb17)
            clear hb17
            go_wp2_with fail
            go_ret
            exact ⟨rfl, B.out⟩

end Go.Proofs.Ytifoghbacifhnaa
