/-
  TreeExact returns true, for all bytes, every root, every sector, every map and every number of blocks.
-/
import Derived.Test.YtifjbmknghjohaaYa
import Derived.Test.YtifjbmknghjohaaVw
import Derived.Test.YtifjbmknghjohaaUz
import Derived.Test.YtifjbmknghjohaaDhv
namespace Go.Proofs.Ytifjbmknghjohaa
open Go.RowKit

theorem raw_nilE (w : World) : Wd.Raw w none 0 0 [] := ⟨rfl, Nat.le_refl _, by omega, by omega⟩

theorem heavy_nilE (n : Nat) : Wd.heavyB n [] = !decide (n ≤ 19200) := by simp [Wd.heavyB]

set_option maxRecDepth 100000 in
set_option maxHeartbeats 3200000 in
theorem treeExact_heavy (ai : Option Addr) (ni ci : Nat) (root sector : Int) (am : Option Addr) (nm cm : Nat) (blocks : Int) (w : World) (hh : 19200 < ni) :
    Calls Try.prog 3 #[.slice ai ni ci, .int .i64 root, .int .i64 sector, .slice am nm cm, .int .i64 blocks] w fun e w' => e = .returned (.bool true) ∧ Below w.heap.size w w' := by
  have hv : Wd.heavyB ni [] = true := by rw [heavy_nilE]; simp; omega
  go_enter Try.func3, Try.ntmps3
  go_wp2_with fail
  refine (heavy_raw _ _ _ _ _ _ [] _ (raw_nilE _)).mono ?_
  rintro e w1 ⟨rfl, rfl⟩
  rw [hv]
  go_wp2_with fail
  go_ret
  exact ⟨rfl, Below.refl _ _⟩

set_option maxRecDepth 100000 in
set_option maxHeartbeats 3200000 in
theorem treeExact_long (ai : Option Addr) (ni ci : Nat) (root sector : Int) (am : Option Addr) (nm cm : Nat) (blocks : Int) (w : World) (hn : ni ≤ 19200) (hm : 600 < nm) :
    Calls Try.prog 3 #[.slice ai ni ci, .int .i64 root, .int .i64 sector, .slice am nm cm, .int .i64 blocks] w fun e w' => e = .returned (.bool true) ∧ Below w.heap.size w w' := by
  have hv : Wd.heavyB ni [] = false := by rw [heavy_nilE]; simp; omega
  go_enter Try.func3, Try.ntmps3
  go_wp2_with fail
  refine (heavy_raw _ _ _ _ _ _ [] _ (raw_nilE _)).mono ?_
  rintro e w1 ⟨rfl, rfl⟩
  rw [hv]
  go_wp2_with fail
  go_ret
  exact ⟨rfl, Below.refl _ _⟩

set_option maxRecDepth 100000 in
set_option maxHeartbeats 6400000 in
theorem treeExact_dev (ai : Option Addr) (ni ci : Nat) (xs : List Int) (root sector : Int) (am : Option Addr) (nm cm : Nat) (ms : List Int) (blocks : Int) (w : World) (hv : Wc.Bs w (.slice ai ni ci) xs) (hsh : Wc.Shaped (.slice ai ni ci)) (hm : Wd.In w (.slice am nm cm) ms) (hms : Wv.Shaped (.slice am nm cm)) (hn : ni ≤ 19200) (hm6 : nm ≤ 600) (hd : Wd.devB xs.length = false) :
    Calls Try.prog 3 #[.slice ai ni ci, .int .i64 root, .int .i64 sector, .slice am nm cm, .int .i64 blocks] w fun e w' => e = .returned (.bool true) ∧ Below w.heap.size w w' := by
  have hh : Wd.heavyB ni [] = false := by rw [heavy_nilE]; simp; omega
  have hni : ni ≤ 140737488355328 := by omega
  have hl := Wc.bs_len hv
  obtain ⟨fE, fN, fS⟩ := Wt.tre_dev (root := root) hd
  have fSE : Wt.secE xs root sector = 2 := by unfold Wt.secE; rw [if_neg (by omega), fE]
  have fSR : Wt.secR xs root sector = 0 := by unfold Wt.secR; rw [if_neg (fun h => by omega)]
  have fD : Wd.devB ni = false := by rw [← hl]; exact hd
  have FE := Wc.hid fE
  have FS := Wc.hid fS
  have FN := Wc.hid fN
  have FSE := Wc.hid fSE
  have FSR := Wc.hid fSR
  have FD := Wc.hid fD
  clear fE fS fN fSE fSR fD
  clear hd
  have HV := Wc.hid hv
  have HSH := Wc.hid hsh
  have HM := Wc.hid hm
  have HMS := Wc.hid hms
  have HL := Wc.hid hl
  clear hv hsh hm hms hl
  obtain ⟨T, hT⟩ : ∃ T, Wt.mapE ms blocks = T := ⟨_, rfl⟩
  have HT := Wc.hid hT
  clear hT
  go_enter Try.func3, Try.ntmps3
  go_wp2_with fail
  refine (heavy_raw _ _ _ _ _ _ [] _ (raw_nilE _)).mono ?_
  rintro e w1 ⟨rfl, rfl⟩
  rw [hh]
  go_wp2_with fail
  refine (twin_ob _ xs _ HV.out HSH.out).mono ?_
  rintro e w1 ⟨x, rfl, hO1, hb1⟩
  have X1 := Wc.hid hO1.bs
  have V1 := Wc.hid (HV.out.keep hb1)
  have M1 := Wc.hid (HM.out.keep hb1)
  have B1 := Wc.hid hb1
  clear hO1 hb1 HV HM hh HSH
  go_wp2_with fail
  refine (twinInts_any _ ms _ M1.out HMS.out).mono ?_
  rintro e w2 ⟨ak, ck, rfl, hk2, hb2⟩
  have X2 := Wc.hid (X1.out.keep hb2)
  have V2 := Wc.hid (V1.out.keep hb2)
  have M2 := Wc.hid (M1.out.keep hb2)
  have K2 := Wc.hid hk2
  have B2 := Wc.hid (Wc.step B1.out (Nat.le_refl _) hb2)
  clear hk2 hb2 X1 V1 M1 B1 HMS
  go_wp2_with fail
  refine (map_any _ xs root _ X2.out).mono ?_
  rintro e w3 ⟨a3, n3, c3, rfl, hA3, hb3⟩
  rw [FE.out]
  rw [FS.out] at hA3
  have hn3 : n3 = 0 := (Wv.rv_len hA3).symm
  subst hn3
  have X3 := Wc.hid (X2.out.keep hb3)
  have V3 := Wc.hid (V2.out.keep hb3)
  have M3 := Wc.hid (M2.out.keep hb3)
  have K3 := Wc.hid (K2.out.keep hb3)
  have A3 := Wc.hid hA3
  have B3 := Wc.hid (Wc.step B2.out (Nat.le_refl _) hb3)
  clear hA3 hb3 X2 V2 M2 K2 B2
  go_wp2_with fail
  refine (nodes_any _ xs root _ X3.out).mono ?_
  rintro e w4 ⟨a4, n4, c4, rfl, hN4, hb4⟩
  rw [FE.out]
  rw [FN.out] at hN4
  have hn4 : n4 = 0 := (Wv.rv_len hN4).symm
  subst hn4
  have X4 := Wc.hid (X3.out.keep hb4)
  have V4 := Wc.hid (V3.out.keep hb4)
  have M4 := Wc.hid (M3.out.keep hb4)
  have K4 := Wc.hid (K3.out.keep hb4)
  have A4 := Wc.hid (A3.out.keep hb4)
  have N4 := Wc.hid hN4
  have B4 := Wc.hid (Wc.step B3.out (Nat.le_refl _) hb4)
  clear hN4 hb4 X3 V3 M3 K3 A3 B3
  go_wp2_with fail
  refine (sector_any _ xs root sector _ X4.out).mono ?_
  rintro e w5 ⟨rfl, hb5⟩
  rw [FSE.out, FSR.out]
  have X5 := Wc.hid (X4.out.keep hb5)
  have V5 := Wc.hid (V4.out.keep hb5)
  have M5 := Wc.hid (M4.out.keep hb5)
  have K5 := Wc.hid (K4.out.keep hb5)
  have A5 := Wc.hid (A4.out.keep hb5)
  have N5 := Wc.hid (N4.out.keep hb5)
  have B5 := Wc.hid (Wc.step B4.out (Nat.le_refl _) hb5)
  clear hb5 X4 V4 M4 K4 A4 N4 B4
  go_wp2_with fail
  refine (tcheck_any _ ms blocks _ K5.out).mono ?_
  rintro e w6 ⟨rfl, rfl⟩
  rw [HT.out]
  go_wp2_with fail
  refine (refMap_any _ ms blocks _ M5.out).mono ?_
  rintro e w6 ⟨rfl, rfl⟩
  rw [HT.out]
  go_wp2_with fail
  refine (bytes_any _ _ xs xs _ X5.out V5.out).mono ?_
  rintro e w6 ⟨rfl, hb6⟩
  rw [show (xs == xs) = true from beq_self_eq_true xs]
  have V6 := Wc.hid (V5.out.keep hb6)
  have M6 := Wc.hid (M5.out.keep hb6)
  have K6 := Wc.hid (K5.out.keep hb6)
  have A6 := Wc.hid (A5.out.keep hb6)
  have N6 := Wc.hid (N5.out.keep hb6)
  have B6 := Wc.hid (Wc.step B5.out (Nat.le_refl _) hb6)
  clear hb6 X5 V5 M5 K5 A5 N5 B5
  go_wp2_with fail
  refine (ints_any _ _ ms ms _ K6.out M6.out).mono ?_
  rintro e w7 ⟨rfl, hb7⟩
  rw [show (ms == ms) = true from beq_self_eq_true ms]
  have V7 := Wc.hid (V6.out.keep hb7)
  have A7 := Wc.hid (A6.out.keep hb7)
  have N7 := Wc.hid (N6.out.keep hb7)
  have B7 := Wc.hid (Wc.step B6.out (Nat.le_refl _) hb7)
  clear hb7 V6 M6 K6 A6 N6 B6
  go_wp2_with fail
  refine (blocks_any _ _ _ _ hni).mono ?_
  rintro e w8 ⟨rfl, rfl⟩
  rw [FD.out]
  generalize ((ni / 64 : Nat) : Int) = nb
  go_wp2_with fail
  refine (wakes_any _).mono ?_
  rintro e w20 ⟨rfl, hb20⟩
  have B20 := Wc.hid (Wc.step B7.out (Nat.le_refl _) hb20)
  clear hb20
  go_wp2_with fail
  go_ret
  exact ⟨rfl, B20.out⟩

set_option maxRecDepth 100000 in
set_option maxHeartbeats 6400000 in
theorem treeExact_none (ai : Option Addr) (ni ci : Nat) (xs : List Int) (root sector : Int) (am : Option Addr) (nm cm : Nat) (ms : List Int) (blocks : Int) (w : World) (hv : Wc.Bs w (.slice ai ni ci) xs) (hsh : Wc.Shaped (.slice ai ni ci)) (hm : Wd.In w (.slice am nm cm) ms) (hms : Wv.Shaped (.slice am nm cm)) (hn : ni ≤ 19200) (hm6 : nm ≤ 600) (hd : Wd.devB xs.length = true) (ht : Wt.tre xs root = none) :
    Calls Try.prog 3 #[.slice ai ni ci, .int .i64 root, .int .i64 sector, .slice am nm cm, .int .i64 blocks] w fun e w' => e = .returned (.bool true) ∧ Below w.heap.size w w' := by
  have hh : Wd.heavyB ni [] = false := by rw [heavy_nilE]; simp; omega
  have hni : ni ≤ 140737488355328 := by omega
  have hl := Wc.bs_len hv
  obtain ⟨fE, fN, fS⟩ := Wt.tre_none hd ht
  have fSE : Wt.secE xs root sector = 6 := by unfold Wt.secE; rw [if_neg (by omega), fE]
  have fSR : Wt.secR xs root sector = 0 := by unfold Wt.secR; rw [if_neg (fun h => by omega)]
  have fD : Wd.devB ni = true := by rw [← hl]; exact hd
  have FE := Wc.hid fE
  have FS := Wc.hid fS
  have FN := Wc.hid fN
  have FSE := Wc.hid fSE
  have FSR := Wc.hid fSR
  have FD := Wc.hid fD
  clear fE fS fN fSE fSR fD
  have HD := Wc.hid hd
  have HTR := Wc.hid ht
  clear hd ht
  have HV := Wc.hid hv
  have HSH := Wc.hid hsh
  have HM := Wc.hid hm
  have HMS := Wc.hid hms
  have HL := Wc.hid hl
  clear hv hsh hm hms hl
  obtain ⟨T, hT⟩ : ∃ T, Wt.mapE ms blocks = T := ⟨_, rfl⟩
  have HT := Wc.hid hT
  clear hT
  go_enter Try.func3, Try.ntmps3
  go_wp2_with fail
  refine (heavy_raw _ _ _ _ _ _ [] _ (raw_nilE _)).mono ?_
  rintro e w1 ⟨rfl, rfl⟩
  rw [hh]
  go_wp2_with fail
  refine (twin_ob _ xs _ HV.out HSH.out).mono ?_
  rintro e w1 ⟨x, rfl, hO1, hb1⟩
  have X1 := Wc.hid hO1.bs
  have V1 := Wc.hid (HV.out.keep hb1)
  have M1 := Wc.hid (HM.out.keep hb1)
  have B1 := Wc.hid hb1
  clear hO1 hb1 HV HM hh HSH
  go_wp2_with fail
  refine (twinInts_any _ ms _ M1.out HMS.out).mono ?_
  rintro e w2 ⟨ak, ck, rfl, hk2, hb2⟩
  have X2 := Wc.hid (X1.out.keep hb2)
  have V2 := Wc.hid (V1.out.keep hb2)
  have M2 := Wc.hid (M1.out.keep hb2)
  have K2 := Wc.hid hk2
  have B2 := Wc.hid (Wc.step B1.out (Nat.le_refl _) hb2)
  clear hk2 hb2 X1 V1 M1 B1 HMS
  go_wp2_with fail
  refine (map_any _ xs root _ X2.out).mono ?_
  rintro e w3 ⟨a3, n3, c3, rfl, hA3, hb3⟩
  rw [FE.out]
  rw [FS.out] at hA3
  have hn3 : n3 = 0 := (Wv.rv_len hA3).symm
  subst hn3
  have X3 := Wc.hid (X2.out.keep hb3)
  have V3 := Wc.hid (V2.out.keep hb3)
  have M3 := Wc.hid (M2.out.keep hb3)
  have K3 := Wc.hid (K2.out.keep hb3)
  have A3 := Wc.hid hA3
  have B3 := Wc.hid (Wc.step B2.out (Nat.le_refl _) hb3)
  clear hA3 hb3 X2 V2 M2 K2 B2
  go_wp2_with fail
  refine (nodes_any _ xs root _ X3.out).mono ?_
  rintro e w4 ⟨a4, n4, c4, rfl, hN4, hb4⟩
  rw [FE.out]
  rw [FN.out] at hN4
  have hn4 : n4 = 0 := (Wv.rv_len hN4).symm
  subst hn4
  have X4 := Wc.hid (X3.out.keep hb4)
  have V4 := Wc.hid (V3.out.keep hb4)
  have M4 := Wc.hid (M3.out.keep hb4)
  have K4 := Wc.hid (K3.out.keep hb4)
  have A4 := Wc.hid (A3.out.keep hb4)
  have N4 := Wc.hid hN4
  have B4 := Wc.hid (Wc.step B3.out (Nat.le_refl _) hb4)
  clear hN4 hb4 X3 V3 M3 K3 A3 B3
  go_wp2_with fail
  refine (sector_any _ xs root sector _ X4.out).mono ?_
  rintro e w5 ⟨rfl, hb5⟩
  rw [FSE.out, FSR.out]
  have X5 := Wc.hid (X4.out.keep hb5)
  have V5 := Wc.hid (V4.out.keep hb5)
  have M5 := Wc.hid (M4.out.keep hb5)
  have K5 := Wc.hid (K4.out.keep hb5)
  have A5 := Wc.hid (A4.out.keep hb5)
  have N5 := Wc.hid (N4.out.keep hb5)
  have B5 := Wc.hid (Wc.step B4.out (Nat.le_refl _) hb5)
  clear hb5 X4 V4 M4 K4 A4 N4 B4
  go_wp2_with fail
  refine (tcheck_any _ ms blocks _ K5.out).mono ?_
  rintro e w6 ⟨rfl, rfl⟩
  rw [HT.out]
  go_wp2_with fail
  refine (refMap_any _ ms blocks _ M5.out).mono ?_
  rintro e w6 ⟨rfl, rfl⟩
  rw [HT.out]
  go_wp2_with fail
  refine (bytes_any _ _ xs xs _ X5.out V5.out).mono ?_
  rintro e w6 ⟨rfl, hb6⟩
  rw [show (xs == xs) = true from beq_self_eq_true xs]
  have V6 := Wc.hid (V5.out.keep hb6)
  have M6 := Wc.hid (M5.out.keep hb6)
  have K6 := Wc.hid (K5.out.keep hb6)
  have A6 := Wc.hid (A5.out.keep hb6)
  have N6 := Wc.hid (N5.out.keep hb6)
  have B6 := Wc.hid (Wc.step B5.out (Nat.le_refl _) hb6)
  clear hb6 X5 V5 M5 K5 A5 N5 B5
  go_wp2_with fail
  refine (ints_any _ _ ms ms _ K6.out M6.out).mono ?_
  rintro e w7 ⟨rfl, hb7⟩
  rw [show (ms == ms) = true from beq_self_eq_true ms]
  have V7 := Wc.hid (V6.out.keep hb7)
  have A7 := Wc.hid (A6.out.keep hb7)
  have N7 := Wc.hid (N6.out.keep hb7)
  have B7 := Wc.hid (Wc.step B6.out (Nat.le_refl _) hb7)
  clear hb7 V6 M6 K6 A6 N6 B6
  go_wp2_with fail
  refine (blocks_any _ _ _ _ hni).mono ?_
  rintro e w8 ⟨rfl, rfl⟩
  rw [FD.out]
  generalize ((ni / 64 : Nat) : Int) = nb
  go_wp2_with fail
  refine (refTree_any _ xs root _ V7.out HD.out).mono ?_
  rintro e w9 ⟨a9, n9, c9, a9', n9', c9', rfl, -, -, hb9⟩
  rw [show (Wt.tre xs root).isSome = false by rw [HTR.out]; rfl]
  have B9 := Wc.hid (Wc.step B7.out (Nat.le_refl _) hb9)
  clear hb9 B7
  go_wp2_with fail
  refine (wakes_any _).mono ?_
  rintro e w20 ⟨rfl, hb20⟩
  have B20 := Wc.hid (Wc.step B9.out (Nat.le_refl _) hb20)
  clear hb20
  go_wp2_with fail
  go_ret
  exact ⟨rfl, B20.out⟩

set_option maxRecDepth 100000 in
set_option maxHeartbeats 6400000 in
theorem treeExact_out (ai : Option Addr) (ni ci : Nat) (xs : List Int) (root sector : Int) (am : Option Addr) (nm cm : Nat) (ms : List Int) (blocks : Int) (w : World) (hv : Wc.Bs w (.slice ai ni ci) xs) (hsh : Wc.Shaped (.slice ai ni ci)) (hm : Wd.In w (.slice am nm cm) ms) (hms : Wv.Shaped (.slice am nm cm)) (hn : ni ≤ 19200) (hm6 : nm ≤ 600) (hd : Wd.devB xs.length = true) (fE : Wt.treE xs root = 0) (hs : ¬ (0 ≤ sector ∧ sector < 512)) :
    Calls Try.prog 3 #[.slice ai ni ci, .int .i64 root, .int .i64 sector, .slice am nm cm, .int .i64 blocks] w fun e w' => e = .returned (.bool true) ∧ Below w.heap.size w w' := by
  have hh : Wd.heavyB ni [] = false := by rw [heavy_nilE]; simp; omega
  have hni : ni ≤ 140737488355328 := by omega
  have hl := Wc.bs_len hv
  obtain ⟨t, ht⟩ : ∃ t, Wt.tre xs root = some t := by
    cases ht : Wt.tre xs root with
    | none => rw [(Wt.tre_none hd ht).1] at fE; omega
    | some t => exact ⟨t, rfl⟩
  have fL := Wt.treS_len fE
  obtain ⟨z, fS⟩ : ∃ z, Wt.treS xs root = z := ⟨_, rfl⟩
  obtain ⟨ns, fN⟩ : ∃ ns, Wt.treN xs root = ns := ⟨_, rfl⟩
  rw [fS] at fL
  have FL := Wc.hid fL
  have fSE : Wt.secE xs root sector = 3 := by unfold Wt.secE; rw [if_pos fE, if_neg hs]
  have fSR : Wt.secR xs root sector = 0 := by unfold Wt.secR; rw [if_neg (fun h => hs h.2)]
  have fD : Wd.devB ni = true := by rw [← hl]; exact hd
  have FE := Wc.hid fE
  have FS := Wc.hid fS
  have FN := Wc.hid fN
  have FSE := Wc.hid fSE
  have FSR := Wc.hid fSR
  have FD := Wc.hid fD
  clear fE fS fN fSE fSR fD
  have HD := Wc.hid hd
  have HTR := Wc.hid ht
  clear hd ht fL
  have HV := Wc.hid hv
  have HSH := Wc.hid hsh
  have HM := Wc.hid hm
  have HMS := Wc.hid hms
  have HL := Wc.hid hl
  clear hv hsh hm hms hl
  obtain ⟨T, hT⟩ : ∃ T, Wt.mapE ms blocks = T := ⟨_, rfl⟩
  have HT := Wc.hid hT
  clear hT
  go_enter Try.func3, Try.ntmps3
  go_wp2_with fail
  refine (heavy_raw _ _ _ _ _ _ [] _ (raw_nilE _)).mono ?_
  rintro e w1 ⟨rfl, rfl⟩
  rw [hh]
  go_wp2_with fail
  refine (twin_ob _ xs _ HV.out HSH.out).mono ?_
  rintro e w1 ⟨x, rfl, hO1, hb1⟩
  have X1 := Wc.hid hO1.bs
  have V1 := Wc.hid (HV.out.keep hb1)
  have M1 := Wc.hid (HM.out.keep hb1)
  have B1 := Wc.hid hb1
  clear hO1 hb1 HV HM hh HSH
  go_wp2_with fail
  refine (twinInts_any _ ms _ M1.out HMS.out).mono ?_
  rintro e w2 ⟨ak, ck, rfl, hk2, hb2⟩
  have X2 := Wc.hid (X1.out.keep hb2)
  have V2 := Wc.hid (V1.out.keep hb2)
  have M2 := Wc.hid (M1.out.keep hb2)
  have K2 := Wc.hid hk2
  have B2 := Wc.hid (Wc.step B1.out (Nat.le_refl _) hb2)
  clear hk2 hb2 X1 V1 M1 B1 HMS
  go_wp2_with fail
  refine (map_any _ xs root _ X2.out).mono ?_
  rintro e w3 ⟨a3, n3, c3, rfl, hA3, hb3⟩
  rw [FE.out]
  rw [FS.out] at hA3
  have hn3 : n3 = 512 := by rw [← Wv.rv_len hA3]; exact FL.out
  subst hn3
  have X3 := Wc.hid (X2.out.keep hb3)
  have V3 := Wc.hid (V2.out.keep hb3)
  have M3 := Wc.hid (M2.out.keep hb3)
  have K3 := Wc.hid (K2.out.keep hb3)
  have A3 := Wc.hid hA3
  have B3 := Wc.hid (Wc.step B2.out (Nat.le_refl _) hb3)
  clear hA3 hb3 X2 V2 M2 K2 B2
  go_wp2_with fail
  refine (nodes_any _ xs root _ X3.out).mono ?_
  rintro e w4 ⟨a4, n4, c4, rfl, hN4, hb4⟩
  rw [FE.out]
  rw [FN.out] at hN4
  have hn4 := Wc.hid (Wv.rv_len hN4)
  have X4 := Wc.hid (X3.out.keep hb4)
  have V4 := Wc.hid (V3.out.keep hb4)
  have M4 := Wc.hid (M3.out.keep hb4)
  have K4 := Wc.hid (K3.out.keep hb4)
  have A4 := Wc.hid (A3.out.keep hb4)
  have N4 := Wc.hid hN4
  have B4 := Wc.hid (Wc.step B3.out (Nat.le_refl _) hb4)
  clear hN4 hb4 X3 V3 M3 K3 A3 B3
  go_wp2_with fail
  refine (sector_any _ xs root sector _ X4.out).mono ?_
  rintro e w5 ⟨rfl, hb5⟩
  rw [FSE.out, FSR.out]
  have X5 := Wc.hid (X4.out.keep hb5)
  have V5 := Wc.hid (V4.out.keep hb5)
  have M5 := Wc.hid (M4.out.keep hb5)
  have K5 := Wc.hid (K4.out.keep hb5)
  have A5 := Wc.hid (A4.out.keep hb5)
  have N5 := Wc.hid (N4.out.keep hb5)
  have B5 := Wc.hid (Wc.step B4.out (Nat.le_refl _) hb5)
  clear hb5 X4 V4 M4 K4 A4 N4 B4
  go_wp2_with fail
  refine (tcheck_any _ ms blocks _ K5.out).mono ?_
  rintro e w6 ⟨rfl, rfl⟩
  rw [HT.out]
  go_wp2_with fail
  refine (refMap_any _ ms blocks _ M5.out).mono ?_
  rintro e w6 ⟨rfl, rfl⟩
  rw [HT.out]
  go_wp2_with fail
  refine (bytes_any _ _ xs xs _ X5.out V5.out).mono ?_
  rintro e w6 ⟨rfl, hb6⟩
  rw [show (xs == xs) = true from beq_self_eq_true xs]
  have V6 := Wc.hid (V5.out.keep hb6)
  have M6 := Wc.hid (M5.out.keep hb6)
  have K6 := Wc.hid (K5.out.keep hb6)
  have A6 := Wc.hid (A5.out.keep hb6)
  have N6 := Wc.hid (N5.out.keep hb6)
  have B6 := Wc.hid (Wc.step B5.out (Nat.le_refl _) hb6)
  clear hb6 X5 V5 M5 K5 A5 N5 B5
  go_wp2_with fail
  refine (ints_any _ _ ms ms _ K6.out M6.out).mono ?_
  rintro e w7 ⟨rfl, hb7⟩
  rw [show (ms == ms) = true from beq_self_eq_true ms]
  have V7 := Wc.hid (V6.out.keep hb7)
  have A7 := Wc.hid (A6.out.keep hb7)
  have N7 := Wc.hid (N6.out.keep hb7)
  have B7 := Wc.hid (Wc.step B6.out (Nat.le_refl _) hb7)
  clear hb7 V6 M6 K6 A6 N6 B6
  go_wp2_with fail
  refine (blocks_any _ _ _ _ hni).mono ?_
  rintro e w8 ⟨rfl, rfl⟩
  rw [FD.out]
  generalize ((ni / 64 : Nat) : Int) = nb
  go_wp2_with fail
  refine (refTree_any _ xs root _ V7.out HD.out).mono ?_
  rintro e w9 ⟨a9, n9, c9, a9', n9', c9', rfl, hx9, hy9, hb9⟩
  rw [show (Wt.tre xs root).isSome = true by rw [HTR.out]; rfl]
  rw [FS.out] at hx9
  rw [FN.out] at hy9
  have A9 := Wc.hid (A7.out.keep hb9)
  have N9 := Wc.hid (N7.out.keep hb9)
  have X9 := Wc.hid hx9
  have Y9 := Wc.hid hy9
  have B9 := Wc.hid (Wc.step B7.out (Nat.le_refl _) hb9)
  clear hb9 B7 A7 N7 V7 hx9 hy9
  go_wp2_with fail
  refine (ints_any _ _ z z _ A9.out X9.out).mono ?_
  rintro e w10 ⟨rfl, hb10⟩
  rw [show (z == z) = true from beq_self_eq_true z]
  have N10 := Wc.hid (N9.out.keep hb10)
  have X10 := Wc.hid (X9.out.keep hb10)
  have Y10 := Wc.hid (Y9.out.keep hb10)
  have B10 := Wc.hid (Wc.step B9.out (Nat.le_refl _) hb10)
  clear hb10 B9 A9 N9 X9 Y9
  go_wp2_with fail
  refine (ints_any _ _ ns ns _ N10.out Y10.out).mono ?_
  rintro e w11 ⟨rfl, hb11⟩
  rw [show (ns == ns) = true from beq_self_eq_true ns]
  have X11 := Wc.hid (X10.out.keep hb11)
  have B11 := Wc.hid (Wc.step B10.out (Nat.le_refl _) hb11)
  clear hb11 B10 N10 X10 Y10
  have hs' : sector < 0 ∨ (0 ≤ sector ∧ 512 ≤ sector) := by omega
  clear hs
  rcases hs' with hs' | ⟨hs', hs''⟩
  · go_wp2_with fail
    refine (wakes_any _).mono ?_
    rintro e w20 ⟨rfl, hb20⟩
    have B20 := Wc.hid (Wc.step B11.out (Nat.le_refl _) hb20)
    clear hb20
    go_wp2_with fail
    go_ret
    exact ⟨rfl, B20.out⟩
  · go_wp2_with fail
    refine (wakes_any _).mono ?_
    rintro e w20 ⟨rfl, hb20⟩
    have B20 := Wc.hid (Wc.step B11.out (Nat.le_refl _) hb20)
    clear hb20
    go_wp2_with fail
    go_ret
    exact ⟨rfl, B20.out⟩

set_option maxRecDepth 100000 in
set_option maxHeartbeats 6400000 in
theorem treeExact_in (ai : Option Addr) (ni ci : Nat) (xs : List Int) (root sector : Int) (am : Option Addr) (nm cm : Nat) (ms : List Int) (blocks : Int) (w : World) (hv : Wc.Bs w (.slice ai ni ci) xs) (hsh : Wc.Shaped (.slice ai ni ci)) (hm : Wd.In w (.slice am nm cm) ms) (hms : Wv.Shaped (.slice am nm cm)) (hn : ni ≤ 19200) (hm6 : nm ≤ 600) (hd : Wd.devB xs.length = true) (fE : Wt.treE xs root = 0) (hs : 0 ≤ sector ∧ sector < 512) :
    Calls Try.prog 3 #[.slice ai ni ci, .int .i64 root, .int .i64 sector, .slice am nm cm, .int .i64 blocks] w fun e w' => e = .returned (.bool true) ∧ Below w.heap.size w w' := by
  have hh : Wd.heavyB ni [] = false := by rw [heavy_nilE]; simp; omega
  have hni : ni ≤ 140737488355328 := by omega
  have hl := Wc.bs_len hv
  obtain ⟨t, ht⟩ : ∃ t, Wt.tre xs root = some t := by
    cases ht : Wt.tre xs root with
    | none => rw [(Wt.tre_none hd ht).1] at fE; omega
    | some t => exact ⟨t, rfl⟩
  have fL := Wt.treS_len fE
  obtain ⟨z, fS⟩ : ∃ z, Wt.treS xs root = z := ⟨_, rfl⟩
  obtain ⟨ns, fN⟩ : ∃ ns, Wt.treN xs root = ns := ⟨_, rfl⟩
  rw [fS] at fL
  have FL := Wc.hid fL
  have fSE : Wt.secE xs root sector = 0 := by unfold Wt.secE; rw [if_pos fE, if_pos hs]
  obtain ⟨y, hy⟩ : ∃ y, z.getD sector.toNat 0 = y := ⟨_, rfl⟩
  have fSR : Wt.secR xs root sector = y := by unfold Wt.secR; rw [if_pos ⟨fE, hs⟩, fS]; exact hy
  have HY := Wc.hid hy
  clear hy
  have fD : Wd.devB ni = true := by rw [← hl]; exact hd
  have FE := Wc.hid fE
  have FS := Wc.hid fS
  have FN := Wc.hid fN
  have FSE := Wc.hid fSE
  have FSR := Wc.hid fSR
  have FD := Wc.hid fD
  clear fE fS fN fSE fSR fD
  have HD := Wc.hid hd
  have HTR := Wc.hid ht
  clear hd ht fL
  have HV := Wc.hid hv
  have HSH := Wc.hid hsh
  have HM := Wc.hid hm
  have HMS := Wc.hid hms
  have HL := Wc.hid hl
  clear hv hsh hm hms hl
  obtain ⟨T, hT⟩ : ∃ T, Wt.mapE ms blocks = T := ⟨_, rfl⟩
  have HT := Wc.hid hT
  clear hT
  go_enter Try.func3, Try.ntmps3
  go_wp2_with fail
  refine (heavy_raw _ _ _ _ _ _ [] _ (raw_nilE _)).mono ?_
  rintro e w1 ⟨rfl, rfl⟩
  rw [hh]
  go_wp2_with fail
  refine (twin_ob _ xs _ HV.out HSH.out).mono ?_
  rintro e w1 ⟨x, rfl, hO1, hb1⟩
  have X1 := Wc.hid hO1.bs
  have V1 := Wc.hid (HV.out.keep hb1)
  have M1 := Wc.hid (HM.out.keep hb1)
  have B1 := Wc.hid hb1
  clear hO1 hb1 HV HM hh HSH
  go_wp2_with fail
  refine (twinInts_any _ ms _ M1.out HMS.out).mono ?_
  rintro e w2 ⟨ak, ck, rfl, hk2, hb2⟩
  have X2 := Wc.hid (X1.out.keep hb2)
  have V2 := Wc.hid (V1.out.keep hb2)
  have M2 := Wc.hid (M1.out.keep hb2)
  have K2 := Wc.hid hk2
  have B2 := Wc.hid (Wc.step B1.out (Nat.le_refl _) hb2)
  clear hk2 hb2 X1 V1 M1 B1 HMS
  go_wp2_with fail
  refine (map_any _ xs root _ X2.out).mono ?_
  rintro e w3 ⟨a3, n3, c3, rfl, hA3, hb3⟩
  rw [FE.out]
  rw [FS.out] at hA3
  have hn3 : n3 = 512 := by rw [← Wv.rv_len hA3]; exact FL.out
  subst hn3
  have X3 := Wc.hid (X2.out.keep hb3)
  have V3 := Wc.hid (V2.out.keep hb3)
  have M3 := Wc.hid (M2.out.keep hb3)
  have K3 := Wc.hid (K2.out.keep hb3)
  have A3 := Wc.hid hA3
  have B3 := Wc.hid (Wc.step B2.out (Nat.le_refl _) hb3)
  clear hA3 hb3 X2 V2 M2 K2 B2
  go_wp2_with fail
  refine (nodes_any _ xs root _ X3.out).mono ?_
  rintro e w4 ⟨a4, n4, c4, rfl, hN4, hb4⟩
  rw [FE.out]
  rw [FN.out] at hN4
  have hn4 := Wc.hid (Wv.rv_len hN4)
  have X4 := Wc.hid (X3.out.keep hb4)
  have V4 := Wc.hid (V3.out.keep hb4)
  have M4 := Wc.hid (M3.out.keep hb4)
  have K4 := Wc.hid (K3.out.keep hb4)
  have A4 := Wc.hid (A3.out.keep hb4)
  have N4 := Wc.hid hN4
  have B4 := Wc.hid (Wc.step B3.out (Nat.le_refl _) hb4)
  clear hN4 hb4 X3 V3 M3 K3 A3 B3
  go_wp2_with fail
  refine (sector_any _ xs root sector _ X4.out).mono ?_
  rintro e w5 ⟨rfl, hb5⟩
  rw [FSE.out, FSR.out]
  have X5 := Wc.hid (X4.out.keep hb5)
  have V5 := Wc.hid (V4.out.keep hb5)
  have M5 := Wc.hid (M4.out.keep hb5)
  have K5 := Wc.hid (K4.out.keep hb5)
  have A5 := Wc.hid (A4.out.keep hb5)
  have N5 := Wc.hid (N4.out.keep hb5)
  have B5 := Wc.hid (Wc.step B4.out (Nat.le_refl _) hb5)
  clear hb5 X4 V4 M4 K4 A4 N4 B4
  go_wp2_with fail
  refine (tcheck_any _ ms blocks _ K5.out).mono ?_
  rintro e w6 ⟨rfl, rfl⟩
  rw [HT.out]
  go_wp2_with fail
  refine (refMap_any _ ms blocks _ M5.out).mono ?_
  rintro e w6 ⟨rfl, rfl⟩
  rw [HT.out]
  go_wp2_with fail
  refine (bytes_any _ _ xs xs _ X5.out V5.out).mono ?_
  rintro e w6 ⟨rfl, hb6⟩
  rw [show (xs == xs) = true from beq_self_eq_true xs]
  have V6 := Wc.hid (V5.out.keep hb6)
  have M6 := Wc.hid (M5.out.keep hb6)
  have K6 := Wc.hid (K5.out.keep hb6)
  have A6 := Wc.hid (A5.out.keep hb6)
  have N6 := Wc.hid (N5.out.keep hb6)
  have B6 := Wc.hid (Wc.step B5.out (Nat.le_refl _) hb6)
  clear hb6 X5 V5 M5 K5 A5 N5 B5
  go_wp2_with fail
  refine (ints_any _ _ ms ms _ K6.out M6.out).mono ?_
  rintro e w7 ⟨rfl, hb7⟩
  rw [show (ms == ms) = true from beq_self_eq_true ms]
  have V7 := Wc.hid (V6.out.keep hb7)
  have A7 := Wc.hid (A6.out.keep hb7)
  have N7 := Wc.hid (N6.out.keep hb7)
  have B7 := Wc.hid (Wc.step B6.out (Nat.le_refl _) hb7)
  clear hb7 V6 M6 K6 A6 N6 B6
  go_wp2_with fail
  refine (blocks_any _ _ _ _ hni).mono ?_
  rintro e w8 ⟨rfl, rfl⟩
  rw [FD.out]
  generalize ((ni / 64 : Nat) : Int) = nb
  go_wp2_with fail
  refine (refTree_any _ xs root _ V7.out HD.out).mono ?_
  rintro e w9 ⟨a9, n9, c9, a9', n9', c9', rfl, hx9, hy9, hb9⟩
  rw [show (Wt.tre xs root).isSome = true by rw [HTR.out]; rfl]
  rw [FS.out] at hx9
  rw [FN.out] at hy9
  have A9 := Wc.hid (A7.out.keep hb9)
  have N9 := Wc.hid (N7.out.keep hb9)
  have X9 := Wc.hid hx9
  have Y9 := Wc.hid hy9
  have B9 := Wc.hid (Wc.step B7.out (Nat.le_refl _) hb9)
  clear hb9 B7 A7 N7 V7 hx9 hy9
  go_wp2_with fail
  refine (ints_any _ _ z z _ A9.out X9.out).mono ?_
  rintro e w10 ⟨rfl, hb10⟩
  rw [show (z == z) = true from beq_self_eq_true z]
  have N10 := Wc.hid (N9.out.keep hb10)
  have X10 := Wc.hid (X9.out.keep hb10)
  have Y10 := Wc.hid (Y9.out.keep hb10)
  have B10 := Wc.hid (Wc.step B9.out (Nat.le_refl _) hb10)
  clear hb10 B9 A9 N9 X9 Y9
  go_wp2_with fail
  refine (ints_any _ _ ns ns _ N10.out Y10.out).mono ?_
  rintro e w11 ⟨rfl, hb11⟩
  rw [show (ns == ns) = true from beq_self_eq_true ns]
  have X11 := Wc.hid (X10.out.keep hb11)
  have B11 := Wc.hid (Wc.step B10.out (Nat.le_refl _) hb11)
  clear hb11 B10 N10 X10 Y10
  obtain ⟨q, rfl⟩ : ∃ q : Nat, sector = q := ⟨sector.toNat, by omega⟩
  have hq : q < 512 := by omega
  have hn9 : n9 = 512 := by rw [← Wv.rv_len X11.out]; exact FL.out
  subst hn9
  rcases X11.out.open with ⟨hnil, -⟩ | ⟨b, off, n', cap, hsl, -, -, -, -, -, -, hc⟩
  · have := FL.out; rw [hnil] at this; simp at this
  cases hsl
  have cq := hc q hq
  have e1 := HY.out
  rw [Int.toNat_natCast] at e1
  rw [e1] at cq
  clear hc e1 hs
  go_wp2_with fail
  refine (wakes_any _).mono ?_
  rintro e w20 ⟨rfl, hb20⟩
  have B20 := Wc.hid (Wc.step B11.out (Nat.le_refl _) hb20)
  clear hb20
  go_wp2_with fail
  go_ret
  exact ⟨rfl, B20.out⟩

theorem treeExact_any (ai : Option Addr) (ni ci : Nat) (xs : List Int) (root sector : Int) (am : Option Addr) (nm cm : Nat) (ms : List Int) (blocks : Int) (w : World) (hn : ni ≤ 19200) (hm6 : nm ≤ 600) (hv : Wc.Bs w (.slice ai ni ci) xs) (hsh : Wc.Shaped (.slice ai ni ci)) (hm : Wd.In w (.slice am nm cm) ms) (hms : Wv.Shaped (.slice am nm cm)) :
    Calls Try.prog 3 #[.slice ai ni ci, .int .i64 root, .int .i64 sector, .slice am nm cm, .int .i64 blocks] w fun e w' => e = .returned (.bool true) ∧ Below w.heap.size w w' := by
  cases hd : Wd.devB xs.length with
  | false => exact treeExact_dev ai ni ci xs root sector am nm cm ms blocks w hv hsh hm hms hn hm6 hd
  | true =>
    cases ht : Wt.tre xs root with
    | none => exact treeExact_none ai ni ci xs root sector am nm cm ms blocks w hv hsh hm hms hn hm6 hd ht
    | some t =>
      have fE := (Wt.tre_some hd ht).1
      by_cases hs : 0 ≤ sector ∧ sector < 512
      · exact treeExact_in ai ni ci xs root sector am nm cm ms blocks w hv hsh hm hms hn hm6 hd fE hs
      · exact treeExact_out ai ni ci xs root sector am nm cm ms blocks w hv hsh hm hms hn hm6 hd fE hs

end Go.Proofs.Ytifjbmknghjohaa
