/-
  TreeWalks returns true where there is a tree.
-/
import Derived.Test.YtifjbmknghjohaaVn
import Derived.Test.YtifjbmknghjohaaNplc
namespace Go.Proofs.Ytifjbmknghjohaa
open Go.RowKit

set_option maxRecDepth 100000 in
set_option maxHeartbeats 6400000 in
theorem treeWalks_some (ai : Option Addr) (ni ci : Nat) (xs : List Int) (root : Int) (w : World) (hv : Wc.Bs w (.slice ai ni ci) xs) (hn : ni ≤ 19200) (hr : ¬ root = 0) (hE : Wt.treE xs root = 0) :
    Calls Try.prog 6 #[.slice ai ni ci, .int .i64 root] w fun e w' => e = .returned (.bool true) ∧ Below w.heap.size w w' := by
  have hh : Wd.heavyB ni [] = false := by rw [heavy_nil]; simp; omega
  obtain ⟨hd, hSl, ⟨l', hl'⟩, hnd, hNl, hOn⟩ := Wt.tree_told hr hE
  obtain ⟨ms, hms⟩ : ∃ ms, Wt.treS xs root = ms := ⟨_, rfl⟩
  obtain ⟨ns, hns⟩ : ∃ ns, Wt.treN xs root = ns := ⟨_, rfl⟩
  rw [hms] at hSl hOn
  rw [hns] at hl' hnd hNl
  have h0 : (root == 0) = false := by simpa using hr
  have hni : ni ≤ 140737488355328 := by omega
  have hl := Wc.bs_len hv
  have HV := Wc.hid hv
  have HMS := Wc.hid hms
  have HNS := Wc.hid hns
  have HE := Wc.hid hE
  have HD := Wc.hid hd
  have HSL := Wc.hid hSl
  have HL' := Wc.hid hl'
  have HND := Wc.hid hnd
  have HNL := Wc.hid hNl
  have HON := Wc.hid hOn
  have HL := Wc.hid hl
  clear hv hms hns hE hd hSl hl' hnd hNl hOn hl hr
  go_enter Try.func6, Try.ntmps6
  go_wp2_with fail
  refine (heavy_raw _ _ _ _ _ _ [] _ (raw_nil _)).mono ?_
  rintro e w1 ⟨rfl, rfl⟩
  rw [hh]
  go_wp2_with fail
  refine (map_any _ xs root _ HV.out).mono ?_
  rintro e w2 ⟨a2, n2, c2, rfl, hI2, hb2⟩
  rw [HE.out]
  rw [HMS.out] at hI2
  have hn2 : n2 = 512 := by rw [← Wv.rv_len hI2]; exact HSL.out
  subst hn2
  have M2 := Wc.hid hI2
  have V2 := Wc.hid (HV.out.keep hb2)
  have B2 := Wc.hid hb2
  clear hI2 hb2 HV
  go_wp2_with fail
  refine (nodes_any _ xs root _ V2.out).mono ?_
  rintro e w3 ⟨a3, n3, c3, rfl, hI3, hb3⟩
  rw [HE.out]
  rw [HNS.out] at hI3
  have hn3 : ns.length = n3 := Wv.rv_len hI3
  have L3 := Wc.hid hI3
  have M3 := Wc.hid (M2.out.keep hb3)
  have V3 := Wc.hid (V2.out.keep hb3)
  have B3 := Wc.hid (Wc.step B2.out (Nat.le_refl _) hb3)
  have hn30 : 0 < n3 := by rw [← hn3, HL'.out]; simp
  have hn3z : ((n3 : Int) == 0) = false := by simp; omega
  have hn3b : n3 ≤ 1000 := by rw [← hn3]; exact HNL.out
  have HN3 := Wc.hid hn3
  clear hI3 hb3 B2 V2 M2 hh hn3
  go_wp2_with fail
  refine (blocks_any _ _ _ _ hni).mono ?_
  rintro e w4 ⟨rfl, rfl⟩
  rcases L3.out.open with ⟨hnil, -⟩ | ⟨b3, o3, n', cap, hsl, -, -, -, -, -, hb3l, hc3⟩
  · have := HL'.out; rw [hnil] at this; cases this
  cases hsl
  rcases M3.out.open with ⟨hnil, -⟩ | ⟨b2, o2, n', cap, hsl, -, -, -, -, -, hb2l, hc2⟩
  · have := HSL.out; rw [hnil] at this; cases this
  cases hsl
  have k0 := hc3 0 hn30
  rw [show ns.getD 0 0 = root by rw [HL'.out]; rfl] at k0
  rw [Nat.add_zero] at k0
  obtain ⟨N, hN⟩ : ∃ N, ni / 64 = N := ⟨_, rfl⟩
  rw [hN]
  generalize Wd.devB ni = db
  have HN := Wc.hid hN
  have hN4 : N ≤ 300 := by omega
  have HC2 := Wc.hid hc2
  have HC3 := Wc.hid hc3
  have HB2 := Wc.hid hb2l
  have HB3 := Wc.hid hb3l
  clear hN hc2 hc3 hb2l hb3l
  go_wp2_with fail
  clear k0
  go_loopw [11] (fun i wr => ∃ k : Nat, i = .int .i64 k ∧ k ≤ 512 ∧ Hid (Below w3.heap.size w3 wr)) (fun i _ => 512 - (intOf i).toNat)
  case atStart => exact ⟨0, rfl, by omega, Wc.hid (Below.refl _ _)⟩
  case round =>
    obtain ⟨k, rfl, hk, RB⟩ := hrel
    by_cases hlt : k < 512
    · obtain ⟨v, hv⟩ : ∃ v, ms.getD k 0 = v := ⟨_, rfl⟩
      have HCK := Wc.hid (HC2.out k hlt)
      have HO := Wc.hid (HON.out k hlt)
      rw [hv] at HCK HO
      clear hv
      go_wp2_with fail
      rw [show decide ((k : Int) < 512) = true from decide_eq_true (by omega)]
      go_loopw [12, 13, 14] (fun p r lv wr => ∃ (L : Nat) (q : Int) (R : Nat), lv = .int .i64 ((L : Int) - 1) ∧ L ≤ 3 ∧ p = .int .i64 q ∧ r = .int .i64 R ∧ Hid (Wt.On xs v L q R) ∧ Hid (Below w3.heap.size w3 wr)) (fun _ _ lv _ => (intOf lv + 1).toNat)
      case atStart => exact ⟨3, root, k, rfl, by omega, rfl, rfl, HO, RB⟩
      case round =>
        obtain ⟨L, q, R, rfl, hL, rfl, rfl, RO, RB2⟩ := hrel
        have hL3 : L = 0 ∨ L = 1 ∨ L = 2 ∨ L = 3 := by omega
        rcases hL3 with rfl | rfl | rfl | rfl
        · obtain rfl := RO.out.last
          have hck := (RB2.out.cell (p := ⟨b2, o2 + k, none⟩) HB2.out).trans HCK.out
          go_wp2_with fail
          go_roundw
          case rel => exact ⟨k + 1, by go_num, by omega, RB2⟩
          case measure => simp only [intOf]; omega
        · by_cases hq : q = 0
          · subst hq
            obtain rfl := RO.out.zero
            have hck := (RB2.out.cell (p := ⟨b2, o2 + k, none⟩) HB2.out).trans HCK.out
            go_wp2_with fail
            go_roundw
            case rel => exact ⟨k + 1, by go_num, by omega, RB2⟩
            case measure => simp only [intOf]; omega
          · obtain ⟨ho, hq2, hR, hI, hnx⟩ := RO.out.next hq
            obtain ⟨hn0, hqN, -, hpE, hlv⟩ := Wt.okN_nod ho
            obtain ⟨Q, rfl⟩ : ∃ Q : Nat, q = Q := ⟨q.toNat, by omega⟩
            have hrd := Wt.rd_at HD.out Q (by omega)
            have hpr : Wn.par ((xs.drop (Q * 64)).take 64) = Wt.nd xs (Q : Int) := by rw [← hrd]; rfl
            rw [hrd] at hpE
            rw [HL.out, HN.out] at hqN
            obtain ⟨n, hnn⟩ : ∃ n, Wt.nd xs (Q : Int) = n := ⟨_, rfl⟩
            rw [hnn] at hpr hlv hnx
            simp only [Nat.reducePow] at hR hI hnx
            have hqN' : (Q : Int) < N := hqN.2
            have hq2' : (2 : Int) ≤ Q := hq2
            have HPR := Wc.hid hpr
            have HPE := Wc.hid hpE
            have HLV := Wc.hid hlv
            have HNX := Wc.hid hnx
            clear ho hn0 hqN hpE hrd hpr hnn hlv hnx RO hq hq2
            have hqq : Q * 64 + 64 ≤ ni := by have := HN.out; omega
            go_wp2_with fail
            refine (block_any ai ni ci Q xs _ (V3.out.keep RB2.out) hqq).mono ?_
            rintro e w5 ⟨ax, cx, rfl, hX, rfl⟩
            have HX := Wc.hid hX
            clear hX
            go_wp2_with fail
            refine (parse7_any _ _ _ HX.out).mono ?_
            rintro e w5 ⟨rfl, hb5⟩
            rw [HPR.out, HPE.out]
            unfold nv
            have B5 := Wc.hid (Wc.step RB2.out (Nat.le_refl _) hb5)
            clear hb5 HX RB2 HPR HPE
            go_wp2_with fail
            have al5 := (Below.refl w5.heap.size w5).alloc (Nat.le_refl _) (.cells #[.int .i64 n.level, .int .i64 n.p0, .int .i64 n.p1, .int .i64 n.p2, .int .i64 n.p3, .int .i64 n.p4, .int .i64 n.p5, .int .i64 n.p6, .int .i64 n.p7] 47)
            refine (place_below _ _ _).mono ?_
            rintro e w6 ⟨rfl, hb6⟩
            have A6 := (Nh.new w5 n).keep hb6
            rw [Wn.place_yes (s := (R : Int)) (l := 0) ⟨by omega, by omega, by omega, by simp; omega⟩]
            have B6 := Wc.hid (Wc.step (Wc.step B5.out (Nat.le_refl _) al5) (Nat.le_refl _) hb6)
            clear hb6 B5 al5
            simp only [show (8 : Int) ^ ((0 : Int).toNat) = 1 from rfl]
            obtain ⟨I, hII⟩ : ∃ I, R / 1 = I := ⟨_, rfl⟩
            obtain ⟨J, hJJ⟩ : ∃ J, R % 1 = J := ⟨_, rfl⟩
            rw [show (R : Int) / 1 = (I : Int) by omega, show (R : Int) % 1 = (J : Int) by omega]
            rw [hII] at hI HNX
            rw [hJJ] at HNX
            clear hII hJJ
            have c0 := A6.nc.1
            rw [HLV.out] at c0
            have ix := A6.pat hI
            obtain ⟨Y, hY⟩ : ∃ Y, Wn.pat n I = Y := ⟨_, rfl⟩
            rw [hY] at HNX ix
            clear hY A6 HLV
            go_wp2_with fail
            go_roundw
            case rel => exact ⟨0, Y, J, by go_num, by omega, rfl, rfl, HNX, B6⟩
            case measure => simp [intOf]
        · by_cases hq : q = 0
          · subst hq
            obtain rfl := RO.out.zero
            have hck := (RB2.out.cell (p := ⟨b2, o2 + k, none⟩) HB2.out).trans HCK.out
            go_wp2_with fail
            go_roundw
            case rel => exact ⟨k + 1, by go_num, by omega, RB2⟩
            case measure => simp only [intOf]; omega
          · obtain ⟨ho, hq2, hR, hI, hnx⟩ := RO.out.next hq
            obtain ⟨hn0, hqN, -, hpE, hlv⟩ := Wt.okN_nod ho
            obtain ⟨Q, rfl⟩ : ∃ Q : Nat, q = Q := ⟨q.toNat, by omega⟩
            have hrd := Wt.rd_at HD.out Q (by omega)
            have hpr : Wn.par ((xs.drop (Q * 64)).take 64) = Wt.nd xs (Q : Int) := by rw [← hrd]; rfl
            rw [hrd] at hpE
            rw [HL.out, HN.out] at hqN
            obtain ⟨n, hnn⟩ : ∃ n, Wt.nd xs (Q : Int) = n := ⟨_, rfl⟩
            rw [hnn] at hpr hlv hnx
            simp only [Nat.reducePow] at hR hI hnx
            have hqN' : (Q : Int) < N := hqN.2
            have hq2' : (2 : Int) ≤ Q := hq2
            have HPR := Wc.hid hpr
            have HPE := Wc.hid hpE
            have HLV := Wc.hid hlv
            have HNX := Wc.hid hnx
            clear ho hn0 hqN hpE hrd hpr hnn hlv hnx RO hq hq2
            have hqq : Q * 64 + 64 ≤ ni := by have := HN.out; omega
            go_wp2_with fail
            refine (block_any ai ni ci Q xs _ (V3.out.keep RB2.out) hqq).mono ?_
            rintro e w5 ⟨ax, cx, rfl, hX, rfl⟩
            have HX := Wc.hid hX
            clear hX
            go_wp2_with fail
            refine (parse7_any _ _ _ HX.out).mono ?_
            rintro e w5 ⟨rfl, hb5⟩
            rw [HPR.out, HPE.out]
            unfold nv
            have B5 := Wc.hid (Wc.step RB2.out (Nat.le_refl _) hb5)
            clear hb5 HX RB2 HPR HPE
            go_wp2_with fail
            have al5 := (Below.refl w5.heap.size w5).alloc (Nat.le_refl _) (.cells #[.int .i64 n.level, .int .i64 n.p0, .int .i64 n.p1, .int .i64 n.p2, .int .i64 n.p3, .int .i64 n.p4, .int .i64 n.p5, .int .i64 n.p6, .int .i64 n.p7] 47)
            refine (place_below _ _ _).mono ?_
            rintro e w6 ⟨rfl, hb6⟩
            have A6 := (Nh.new w5 n).keep hb6
            rw [Wn.place_yes (s := (R : Int)) (l := 1) ⟨by omega, by omega, by omega, by simp; omega⟩]
            have B6 := Wc.hid (Wc.step (Wc.step B5.out (Nat.le_refl _) al5) (Nat.le_refl _) hb6)
            clear hb6 B5 al5
            simp only [show (8 : Int) ^ ((1 : Int).toNat) = 8 from rfl]
            obtain ⟨I, hII⟩ : ∃ I, R / 8 = I := ⟨_, rfl⟩
            obtain ⟨J, hJJ⟩ : ∃ J, R % 8 = J := ⟨_, rfl⟩
            rw [show (R : Int) / 8 = (I : Int) by omega, show (R : Int) % 8 = (J : Int) by omega]
            rw [hII] at hI HNX
            rw [hJJ] at HNX
            clear hII hJJ
            have c0 := A6.nc.1
            rw [HLV.out] at c0
            have ix := A6.pat hI
            obtain ⟨Y, hY⟩ : ∃ Y, Wn.pat n I = Y := ⟨_, rfl⟩
            rw [hY] at HNX ix
            clear hY A6 HLV
            go_wp2_with fail
            go_roundw
            case rel => exact ⟨1, Y, J, by go_num, by omega, rfl, rfl, HNX, B6⟩
            case measure => simp [intOf]
        · by_cases hq : q = 0
          · subst hq
            obtain rfl := RO.out.zero
            have hck := (RB2.out.cell (p := ⟨b2, o2 + k, none⟩) HB2.out).trans HCK.out
            go_wp2_with fail
            go_roundw
            case rel => exact ⟨k + 1, by go_num, by omega, RB2⟩
            case measure => simp only [intOf]; omega
          · obtain ⟨ho, hq2, hR, hI, hnx⟩ := RO.out.next hq
            obtain ⟨hn0, hqN, -, hpE, hlv⟩ := Wt.okN_nod ho
            obtain ⟨Q, rfl⟩ : ∃ Q : Nat, q = Q := ⟨q.toNat, by omega⟩
            have hrd := Wt.rd_at HD.out Q (by omega)
            have hpr : Wn.par ((xs.drop (Q * 64)).take 64) = Wt.nd xs (Q : Int) := by rw [← hrd]; rfl
            rw [hrd] at hpE
            rw [HL.out, HN.out] at hqN
            obtain ⟨n, hnn⟩ : ∃ n, Wt.nd xs (Q : Int) = n := ⟨_, rfl⟩
            rw [hnn] at hpr hlv hnx
            simp only [Nat.reducePow] at hR hI hnx
            have hqN' : (Q : Int) < N := hqN.2
            have hq2' : (2 : Int) ≤ Q := hq2
            have HPR := Wc.hid hpr
            have HPE := Wc.hid hpE
            have HLV := Wc.hid hlv
            have HNX := Wc.hid hnx
            clear ho hn0 hqN hpE hrd hpr hnn hlv hnx RO hq hq2
            have hqq : Q * 64 + 64 ≤ ni := by have := HN.out; omega
            go_wp2_with fail
            refine (block_any ai ni ci Q xs _ (V3.out.keep RB2.out) hqq).mono ?_
            rintro e w5 ⟨ax, cx, rfl, hX, rfl⟩
            have HX := Wc.hid hX
            clear hX
            go_wp2_with fail
            refine (parse7_any _ _ _ HX.out).mono ?_
            rintro e w5 ⟨rfl, hb5⟩
            rw [HPR.out, HPE.out]
            unfold nv
            have B5 := Wc.hid (Wc.step RB2.out (Nat.le_refl _) hb5)
            clear hb5 HX RB2 HPR HPE
            go_wp2_with fail
            have al5 := (Below.refl w5.heap.size w5).alloc (Nat.le_refl _) (.cells #[.int .i64 n.level, .int .i64 n.p0, .int .i64 n.p1, .int .i64 n.p2, .int .i64 n.p3, .int .i64 n.p4, .int .i64 n.p5, .int .i64 n.p6, .int .i64 n.p7] 47)
            refine (place_below _ _ _).mono ?_
            rintro e w6 ⟨rfl, hb6⟩
            have A6 := (Nh.new w5 n).keep hb6
            rw [Wn.place_yes (s := (R : Int)) (l := 2) ⟨by omega, by omega, by omega, by simp; omega⟩]
            have B6 := Wc.hid (Wc.step (Wc.step B5.out (Nat.le_refl _) al5) (Nat.le_refl _) hb6)
            clear hb6 B5 al5
            simp only [show (8 : Int) ^ ((2 : Int).toNat) = 64 from rfl]
            obtain ⟨I, hII⟩ : ∃ I, R / 64 = I := ⟨_, rfl⟩
            obtain ⟨J, hJJ⟩ : ∃ J, R % 64 = J := ⟨_, rfl⟩
            rw [show (R : Int) / 64 = (I : Int) by omega, show (R : Int) % 64 = (J : Int) by omega]
            rw [hII] at hI HNX
            rw [hJJ] at HNX
            clear hII hJJ
            have c0 := A6.nc.1
            rw [HLV.out] at c0
            have ix := A6.pat hI
            obtain ⟨Y, hY⟩ : ∃ Y, Wn.pat n I = Y := ⟨_, rfl⟩
            rw [hY] at HNX ix
            clear hY A6 HLV
            go_wp2_with fail
            go_roundw
            case rel => exact ⟨2, Y, J, by go_num, by omega, rfl, rfl, HNX, B6⟩
            case measure => simp [intOf]
    · obtain rfl : k = 512 := by omega
      go_wp2_with fail
      go_loopw [20] (fun i wr => ∃ k : Nat, i = .int .i64 k ∧ k ≤ n3 ∧ Hid (Below w3.heap.size w3 wr)) (fun i _ => n3 - (intOf i).toNat)
      case atStart => exact ⟨0, rfl, by omega, RB⟩
      case round =>
        obtain ⟨i, rfl, hi, RB2⟩ := hrel
        by_cases hlt2 : i < n3
        · go_wp2_with fail
          go_loopw [21] (fun k wr => ∃ j : Nat, k = .int .i64 j ∧ j ≤ i ∧ Hid (Below w3.heap.size w3 wr)) (fun k _ => i - (intOf k).toNat)
          case atStart => exact ⟨0, rfl, by omega, RB2⟩
          case round =>
            obtain ⟨j, rfl, hj, RB3⟩ := hrel
            by_cases hlt3 : j < i
            · have ci := (RB3.out.cell (p := ⟨b3, o3 + i, none⟩) HB3.out).trans (HC3.out i hlt2)
              have cj := (RB3.out.cell (p := ⟨b3, o3 + j, none⟩) HB3.out).trans (HC3.out j (by omega))
              have hne := Wt.nodup_at HND.out (by rw [HN3.out]; exact hlt2) hlt3
              obtain ⟨x, hx⟩ : ∃ x, ns.getD i 0 = x := ⟨_, rfl⟩
              obtain ⟨y, hy⟩ : ∃ y, ns.getD j 0 = y := ⟨_, rfl⟩
              rw [hx] at ci hne
              rw [hy] at cj hne
              clear hx hy
              go_wp2_with fail
              go_quiet (fail)
              go_wp2_with fail
              go_roundw
              case rel => exact ⟨j + 1, by go_num, by omega, Wc.hid (below_drewN RB3.out _)⟩
              case measure => simp only [intOf]; omega
            · obtain rfl : j = i := by omega
              go_wp2_with fail
              go_roundw
              case rel => exact ⟨j + 1, by go_num, by omega, RB3⟩
              case measure => simp only [intOf]; omega
        · obtain rfl : i = n3 := by omega
          go_wp2_with fail
          refine (wakes_any _).mono ?_
          rintro e w9 ⟨rfl, hb9⟩
          have B9 := Wc.hid (Wc.step (Wc.step B3.out (Nat.le_refl _) RB2.out) (Nat.le_refl _) hb9)
          clear hb9
          go_wp2_with fail
          go_ret
          exact ⟨rfl, B9.out⟩

end Go.Proofs.Ytifjbmknghjohaa
