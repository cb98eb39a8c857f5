/-
  BuildExact returns true, for all bytes, every root, every map and every list of blocks.
-/
import Derived.Test.YtafpjnofccfmlaaDb2
import Derived.Test.YtafpjnofccfmlaaDc1
import Derived.Test.YtafpjnofccfmlaaYa
import Derived.Test.YtafpjnofccfmlaaCp
namespace Wb
open Wt Wn
theorem begE_dev {xs : List Int} {r : Int} {m : List Int} (hd : Wd.devB xs.length = false) : begE xs r m = 2 := by
  unfold begE
  rw [(tre_dev (root := r) hd).1, if_neg (by decide)]
theorem begE_none {xs : List Int} {r : Int} {m : List Int} (hd : Wd.devB xs.length = true) (ht : tre xs r = none) : begE xs r m = 6 := by
  unfold begE
  rw [(tre_none hd ht).1, if_neg (by decide)]
theorem begE_map {xs : List Int} {r : Int} {m : List Int} {t : St} (hd : Wd.devB xs.length = true) (ht : tre xs r = some t) : begE xs r m = mapE m ((xs.length / 64 : Nat) : Int) := by
  unfold begE
  rw [(tre_some hd ht).1, if_pos rfl]
theorem treE'_bad {xs : List Int} {r : Int} {m F : List Int} (h : ¬ begE xs r m = 0) : treE' xs r m F = begE xs r m := by unfold treE'; rw [if_neg h]
theorem treE'_held {xs : List Int} {r : Int} {m F : List Int} (h : begE xs r m = 0) (hu : usB F (treN' xs r m) (xs.length / 64) = false) : treE' xs r m F = 1 := by
  unfold treE'
  rw [if_pos h, hu, if_neg (by decide)]
theorem treE'_few {xs : List Int} {r : Int} {m F : List Int} (h : begE xs r m = 0) (hu : usB F (treN' xs r m) (xs.length / 64) = true) (hn : F.length < needN xs r m) : treE' xs r m F = 9 := by
  unfold treE'
  rw [if_pos h, if_pos hu, if_neg (by omega)]
theorem treE'_yes {xs : List Int} {r : Int} {m F : List Int} (h : begE xs r m = 0) (hu : usB F (treN' xs r m) (xs.length / 64) = true) (hn : needN xs r m ≤ F.length) : treE' xs r m F = 0 := by
  unfold treE'
  rw [if_pos h, if_pos hu, if_pos hn]
end Wb
namespace Go.Proofs.Ytafpjnofccfmlaa
open Go.RowKit

theorem build_nil (ai : Option Addr) (ni ci : Nat) (r : Int) (am : Option Addr) (cm : Nat) (xs m : List Int) (w : World) (hv : Wc.Bs w (.slice ai ni ci) xs) (hm : Wd.In w (.slice am 512 cm) m) (h0 : Wb.begE xs r m = 0) :
    Calls Try.prog 18 #[.slice ai ni ci, .int .i64 r, .slice am 512 cm, .slice none 0 0] w fun e w' => Below w.heap.size w w' ∧ ∃ z1 a1 n1 c1 a2 n2 c2 z2, e = .returned (.tuple #[.int .i64 z1, .slice a1 n1 c1, .slice a2 n2 c2, .int .i64 ((Wb.needN xs r m : Nat) : Int), .bool z2]) := by
  refine (refBuild_any ai ni ci r am 512 cm none 0 0 xs m [] _ hv hm (Wv.Rv.nil _) h0 (fun j => by simp)).mono ?_
  unfold RBPost
  rintro e w' ⟨h1, h2, h3⟩
  have hnd : Wb.need xs r m (Wt.treS xs r) [] = Wb.needN xs r m := rfl
  rw [hnd] at h2 h3
  refine ⟨h1, ?_⟩
  by_cases h : Wb.needN xs r m ≤ 0
  · obtain ⟨a1, c1, a2, c2, e1, -⟩ := h2 h
    exact ⟨_, _, _, _, _, _, _, _, e1⟩
  · exact ⟨_, _, _, _, _, _, _, _, h3 (Nat.lt_of_not_le h)⟩

theorem raw_nilB (w : World) : Wd.Raw w none 0 0 [] := ⟨rfl, Nat.le_refl _, by omega, by omega⟩
theorem heavy_nilB (n : Nat) : Wd.heavyB n [] = !decide (n ≤ 19200) := by simp [Wd.heavyB]

set_option maxRecDepth 100000 in
set_option maxHeartbeats 6400000 in
theorem exact_heavy (ai : Option Addr) (ni ci : Nat) (r : Int) (am : Option Addr) (nm cm : Nat) (al : Option Addr) (nl cl : Nat) (w : World) (hh : 19200 < ni) :
    Calls Try.prog 3 #[.slice ai ni ci, .int .i64 r, .slice am nm cm, .slice al nl cl] w fun e w' => e = .returned (.bool true) ∧ Below w.heap.size w w' := by
  have hv : Wd.heavyB ni [] = true := by rw [heavy_nilB]; simp; omega
  go_enter Try.func3, Try.ntmps3
  go_wp2_with fail
  refine (heavy_raw _ _ _ _ _ _ [] _ (raw_nilB _)).mono ?_
  rintro e w1 ⟨rfl, rfl⟩
  rw [hv]
  go_wp2_with fail
  go_ret
  exact ⟨rfl, Below.refl _ _⟩

set_option maxRecDepth 100000 in
set_option maxHeartbeats 6400000 in
theorem exact_long (ai : Option Addr) (ni ci : Nat) (r : Int) (am : Option Addr) (nm cm : Nat) (al : Option Addr) (nl cl : Nat) (w : World) (hn : ni ≤ 19200) (hm : 600 < nm) :
    Calls Try.prog 3 #[.slice ai ni ci, .int .i64 r, .slice am nm cm, .slice al nl cl] w fun e w' => e = .returned (.bool true) ∧ Below w.heap.size w w' := by
  have hv : Wd.heavyB ni [] = false := by rw [heavy_nilB]; simp; omega
  go_enter Try.func3, Try.ntmps3
  go_wp2_with fail
  refine (heavy_raw _ _ _ _ _ _ [] _ (raw_nilB _)).mono ?_
  rintro e w1 ⟨rfl, rfl⟩
  rw [hv]
  go_wp2_with fail
  go_ret
  exact ⟨rfl, Below.refl _ _⟩

set_option maxRecDepth 100000 in
set_option maxHeartbeats 6400000 in
theorem exact_many (ai : Option Addr) (ni ci : Nat) (r : Int) (am : Option Addr) (nm cm : Nat) (al : Option Addr) (nl cl : Nat) (w : World) (hn : ni ≤ 19200) (hm : nm ≤ 600) (hl : 300 < nl) :
    Calls Try.prog 3 #[.slice ai ni ci, .int .i64 r, .slice am nm cm, .slice al nl cl] w fun e w' => e = .returned (.bool true) ∧ Below w.heap.size w w' := by
  have hv : Wd.heavyB ni [] = false := by rw [heavy_nilB]; simp; omega
  go_enter Try.func3, Try.ntmps3
  go_wp2_with fail
  refine (heavy_raw _ _ _ _ _ _ [] _ (raw_nilB _)).mono ?_
  rintro e w1 ⟨rfl, rfl⟩
  rw [hv]
  go_wp2_with fail
  go_ret
  exact ⟨rfl, Below.refl _ _⟩

set_option maxRecDepth 100000 in
set_option maxHeartbeats 6400000 in
theorem exact_dev (ai : Option Addr) (ni ci : Nat) (xs : List Int) (r : Int) (am : Option Addr) (nm cm : Nat) (m : List Int) (al : Option Addr) (nl cl : Nat) (l : List Int) (w : World) (hv : Wc.Bs w (.slice ai ni ci) xs) (hsh : Wc.Shaped (.slice ai ni ci)) (hm : Wd.In w (.slice am nm cm) m) (hms : Wv.Shaped (.slice am nm cm)) (hl : Wd.In w (.slice al nl cl) l) (hls : Wv.Shaped (.slice al nl cl)) (hn : ni ≤ 19200) (hm6 : nm ≤ 600) (hl3 : nl ≤ 300) (hd : Wd.devB xs.length = false) :
    Calls Try.prog 3 #[.slice ai ni ci, .int .i64 r, .slice am nm cm, .slice al nl cl] w fun e w' => e = .returned (.bool true) ∧ Below w.heap.size w w' := by
  have hh : Wd.heavyB ni [] = false := by rw [heavy_nilB]; simp; omega
  have HXL := Wc.hid (Wc.bs_len hv)
  have HV := Wc.hid hv
  have HSH := Wc.hid hsh
  have HM := Wc.hid hm
  have HMS := Wc.hid hms
  have HL := Wc.hid hl
  have HLS := Wc.hid hls
  have HML := Wc.hid (Wv.rv_len hm)
  have HLL := Wc.hid (Wv.rv_len hl)
  have hE : ¬ Wb.begE xs r m = 0 := by rw [Wb.begE_dev hd]; decide
  have FB := Wc.hid (Wb.begE_dev (r := r) (m := m) hd)
  have FD : Hid (Wd.devB ni = false) := Wc.hid (by rw [← Wc.bs_len hv]; exact hd)
  have FTE := Wc.hid (Wb.treE'_bad (F := l) hE)
  have HE := Wc.hid hE
  clear hd hE
  clear hv hsh hm hms hl hls
  go_enter Try.func3, Try.ntmps3
  go_wp2_with fail
  refine (heavy_raw _ _ _ _ _ _ [] _ (raw_nilB _)).mono ?_
  rintro e w1 ⟨rfl, rfl⟩
  rw [hh]
  go_wp2_with fail
  refine (twin_ob _ xs _ HV.out HSH.out).mono ?_
  rintro e w1 ⟨x, rfl, hO1, hb1⟩
  have X1 := Wc.hid hO1.bs
  have V1 := Wc.hid (HV.out.keep hb1)
  have M1 := Wc.hid (HM.out.keep hb1)
  have L1 := Wc.hid (HL.out.keep hb1)
  have B1 := Wc.hid hb1
  clear hO1 hb1 HV HM HL hh HSH
  go_wp2_with fail
  refine (twinInts_any _ m _ M1.out HMS.out).mono ?_
  rintro e w2 ⟨ak, ck, rfl, hk2, hb2⟩
  have K2 := Wc.hid hk2
  clear hk2
  have X2 := Wc.hid (X1.out.keep hb2)
  have V2 := Wc.hid (V1.out.keep hb2)
  have M2 := Wc.hid (M1.out.keep hb2)
  have L2 := Wc.hid (L1.out.keep hb2)
  have B2 := Wc.hid (Wc.step B1.out (Nat.le_refl _) hb2)
  clear hb2 X1 V1 M1 L1 B1
  go_wp2_with fail
  refine (twinInts_any _ l _ L2.out HLS.out).mono ?_
  rintro e w3 ⟨af, cf, rfl, hf3, hb3⟩
  have F3 := Wc.hid hf3
  clear hf3
  have X3 := Wc.hid (X2.out.keep hb3)
  have V3 := Wc.hid (V2.out.keep hb3)
  have M3 := Wc.hid (M2.out.keep hb3)
  have L3 := Wc.hid (L2.out.keep hb3)
  have K3 := Wc.hid (K2.out.keep hb3)
  have B3 := Wc.hid (Wc.step B2.out (Nat.le_refl _) hb3)
  clear hb3 X2 V2 M2 L2 K2 B2
  clear HMS HLS
  go_wp2_with fail
  refine (needs_any _ r _ _ _ xs m _ X3.out K3.out).mono ?_
  unfold NeedPost
  rintro e w4 ⟨hb4, hz4, hnz4⟩
  obtain rfl := hnz4 HE.out
  rw [FB.out]
  clear hz4 hnz4
  have X4 := Wc.hid (X3.out.keep hb4)
  have V4 := Wc.hid (V3.out.keep hb4)
  have M4 := Wc.hid (M3.out.keep hb4)
  have L4 := Wc.hid (L3.out.keep hb4)
  have K4 := Wc.hid (K3.out.keep hb4)
  have F4 := Wc.hid (F3.out.keep hb4)
  have B4 := Wc.hid (Wc.step B3.out (Nat.le_refl _) hb4)
  clear hb4 X3 V3 M3 L3 K3 F3 B3
  go_wp2_with fail
  refine (tree_any _ r _ _ _ _ _ _ xs m l _ X4.out K4.out F4.out).mono ?_
  unfold BtPost
  rintro e w5 ⟨hb5, hz5, hnz5⟩
  obtain rfl := hnz5 (by rw [FTE.out]; exact HE.out)
  rw [FTE.out, FB.out]
  clear hz5 hnz5
  have X5 := Wc.hid (X4.out.keep hb5)
  have V5 := Wc.hid (V4.out.keep hb5)
  have M5 := Wc.hid (M4.out.keep hb5)
  have L5 := Wc.hid (L4.out.keep hb5)
  have K5 := Wc.hid (K4.out.keep hb5)
  have F5 := Wc.hid (F4.out.keep hb5)
  have B5 := Wc.hid (Wc.step B4.out (Nat.le_refl _) hb5)
  clear hb5 X4 V4 M4 L4 K4 F4 B4
  go_wp2_with fail
  refine (bytes_any _ _ xs xs _ X5.out V5.out).mono ?_
  rintro e w6 ⟨rfl, hb6⟩
  rw [show (xs == xs) = true from beq_self_eq_true xs]
  have V6 := Wc.hid (V5.out.keep hb6)
  have M6 := Wc.hid (M5.out.keep hb6)
  have L6 := Wc.hid (L5.out.keep hb6)
  have K6 := Wc.hid (K5.out.keep hb6)
  have F6 := Wc.hid (F5.out.keep hb6)
  have B6 := Wc.hid (Wc.step B5.out (Nat.le_refl _) hb6)
  clear hb6 V5 M5 L5 K5 F5 X5 B5
  go_wp2_with fail
  refine (ints_any _ _ m m _ K6.out M6.out).mono ?_
  rintro e w7 ⟨rfl, hb7⟩
  rw [show (m == m) = true from beq_self_eq_true m]
  have V7 := Wc.hid (V6.out.keep hb7)
  have M7 := Wc.hid (M6.out.keep hb7)
  have L7 := Wc.hid (L6.out.keep hb7)
  have F7 := Wc.hid (F6.out.keep hb7)
  have B7 := Wc.hid (Wc.step B6.out (Nat.le_refl _) hb7)
  clear hb7 V6 M6 L6 F6 K6 B6
  go_wp2_with fail
  refine (ints_any _ _ l l _ F7.out L7.out).mono ?_
  rintro e w8 ⟨rfl, hb8⟩
  rw [show (l == l) = true from beq_self_eq_true l]
  have V8 := Wc.hid (V7.out.keep hb8)
  have M8 := Wc.hid (M7.out.keep hb8)
  have L8 := Wc.hid (L7.out.keep hb8)
  have B8 := Wc.hid (Wc.step B7.out (Nat.le_refl _) hb8)
  clear hb8 V7 M7 L7 F7 B7
  go_wp2_with fail
  refine (blocks_any ai ni ci _ (by omega)).mono ?_
  rintro e w9 ⟨rfl, rfl⟩
  rw [FD.out]
  obtain ⟨N, hN⟩ : ∃ N : Nat, ni / 64 = N := ⟨_, rfl⟩
  rw [hN]
  have HNN := Wc.hid hN
  clear hN
  go_wp2_with fail
  refine (wakes_any _).mono ?_
  rintro e w20 ⟨rfl, hb20⟩
  have B20 := Wc.hid (Wc.step B8.out (Nat.le_refl _) hb20)
  clear hb20
  go_wp2_with fail
  go_ret
  exact ⟨rfl, B20.out⟩

set_option maxRecDepth 100000 in
set_option maxHeartbeats 6400000 in
theorem exact_none (ai : Option Addr) (ni ci : Nat) (xs : List Int) (r : Int) (am : Option Addr) (nm cm : Nat) (m : List Int) (al : Option Addr) (nl cl : Nat) (l : List Int) (w : World) (hv : Wc.Bs w (.slice ai ni ci) xs) (hsh : Wc.Shaped (.slice ai ni ci)) (hm : Wd.In w (.slice am nm cm) m) (hms : Wv.Shaped (.slice am nm cm)) (hl : Wd.In w (.slice al nl cl) l) (hls : Wv.Shaped (.slice al nl cl)) (hn : ni ≤ 19200) (hm6 : nm ≤ 600) (hl3 : nl ≤ 300) (hd : Wd.devB xs.length = true) (ht : Wt.tre xs r = none) :
    Calls Try.prog 3 #[.slice ai ni ci, .int .i64 r, .slice am nm cm, .slice al nl cl] w fun e w' => e = .returned (.bool true) ∧ Below w.heap.size w w' := by
  have hh : Wd.heavyB ni [] = false := by rw [heavy_nilB]; simp; omega
  have HXL := Wc.hid (Wc.bs_len hv)
  have HV := Wc.hid hv
  have HSH := Wc.hid hsh
  have HM := Wc.hid hm
  have HMS := Wc.hid hms
  have HL := Wc.hid hl
  have HLS := Wc.hid hls
  have HML := Wc.hid (Wv.rv_len hm)
  have HLL := Wc.hid (Wv.rv_len hl)
  have hE : ¬ Wb.begE xs r m = 0 := by rw [Wb.begE_none hd ht]; decide
  have FB := Wc.hid (Wb.begE_none (m := m) hd ht)
  have FD : Hid (Wd.devB ni = true) := Wc.hid (by rw [← Wc.bs_len hv]; exact hd)
  have HD := Wc.hid hd
  have HT := Wc.hid ht
  have FTE := Wc.hid (Wb.treE'_bad (F := l) hE)
  have HE := Wc.hid hE
  clear hd ht hE
  clear hv hsh hm hms hl hls
  go_enter Try.func3, Try.ntmps3
  go_wp2_with fail
  refine (heavy_raw _ _ _ _ _ _ [] _ (raw_nilB _)).mono ?_
  rintro e w1 ⟨rfl, rfl⟩
  rw [hh]
  go_wp2_with fail
  refine (twin_ob _ xs _ HV.out HSH.out).mono ?_
  rintro e w1 ⟨x, rfl, hO1, hb1⟩
  have X1 := Wc.hid hO1.bs
  have V1 := Wc.hid (HV.out.keep hb1)
  have M1 := Wc.hid (HM.out.keep hb1)
  have L1 := Wc.hid (HL.out.keep hb1)
  have B1 := Wc.hid hb1
  clear hO1 hb1 HV HM HL hh HSH
  go_wp2_with fail
  refine (twinInts_any _ m _ M1.out HMS.out).mono ?_
  rintro e w2 ⟨ak, ck, rfl, hk2, hb2⟩
  have K2 := Wc.hid hk2
  clear hk2
  have X2 := Wc.hid (X1.out.keep hb2)
  have V2 := Wc.hid (V1.out.keep hb2)
  have M2 := Wc.hid (M1.out.keep hb2)
  have L2 := Wc.hid (L1.out.keep hb2)
  have B2 := Wc.hid (Wc.step B1.out (Nat.le_refl _) hb2)
  clear hb2 X1 V1 M1 L1 B1
  go_wp2_with fail
  refine (twinInts_any _ l _ L2.out HLS.out).mono ?_
  rintro e w3 ⟨af, cf, rfl, hf3, hb3⟩
  have F3 := Wc.hid hf3
  clear hf3
  have X3 := Wc.hid (X2.out.keep hb3)
  have V3 := Wc.hid (V2.out.keep hb3)
  have M3 := Wc.hid (M2.out.keep hb3)
  have L3 := Wc.hid (L2.out.keep hb3)
  have K3 := Wc.hid (K2.out.keep hb3)
  have B3 := Wc.hid (Wc.step B2.out (Nat.le_refl _) hb3)
  clear hb3 X2 V2 M2 L2 K2 B2
  clear HMS HLS
  go_wp2_with fail
  refine (needs_any _ r _ _ _ xs m _ X3.out K3.out).mono ?_
  unfold NeedPost
  rintro e w4 ⟨hb4, hz4, hnz4⟩
  obtain rfl := hnz4 HE.out
  rw [FB.out]
  clear hz4 hnz4
  have X4 := Wc.hid (X3.out.keep hb4)
  have V4 := Wc.hid (V3.out.keep hb4)
  have M4 := Wc.hid (M3.out.keep hb4)
  have L4 := Wc.hid (L3.out.keep hb4)
  have K4 := Wc.hid (K3.out.keep hb4)
  have F4 := Wc.hid (F3.out.keep hb4)
  have B4 := Wc.hid (Wc.step B3.out (Nat.le_refl _) hb4)
  clear hb4 X3 V3 M3 L3 K3 F3 B3
  go_wp2_with fail
  refine (tree_any _ r _ _ _ _ _ _ xs m l _ X4.out K4.out F4.out).mono ?_
  unfold BtPost
  rintro e w5 ⟨hb5, hz5, hnz5⟩
  obtain rfl := hnz5 (by rw [FTE.out]; exact HE.out)
  rw [FTE.out, FB.out]
  clear hz5 hnz5
  have X5 := Wc.hid (X4.out.keep hb5)
  have V5 := Wc.hid (V4.out.keep hb5)
  have M5 := Wc.hid (M4.out.keep hb5)
  have L5 := Wc.hid (L4.out.keep hb5)
  have K5 := Wc.hid (K4.out.keep hb5)
  have F5 := Wc.hid (F4.out.keep hb5)
  have B5 := Wc.hid (Wc.step B4.out (Nat.le_refl _) hb5)
  clear hb5 X4 V4 M4 L4 K4 F4 B4
  go_wp2_with fail
  refine (bytes_any _ _ xs xs _ X5.out V5.out).mono ?_
  rintro e w6 ⟨rfl, hb6⟩
  rw [show (xs == xs) = true from beq_self_eq_true xs]
  have V6 := Wc.hid (V5.out.keep hb6)
  have M6 := Wc.hid (M5.out.keep hb6)
  have L6 := Wc.hid (L5.out.keep hb6)
  have K6 := Wc.hid (K5.out.keep hb6)
  have F6 := Wc.hid (F5.out.keep hb6)
  have B6 := Wc.hid (Wc.step B5.out (Nat.le_refl _) hb6)
  clear hb6 V5 M5 L5 K5 F5 X5 B5
  go_wp2_with fail
  refine (ints_any _ _ m m _ K6.out M6.out).mono ?_
  rintro e w7 ⟨rfl, hb7⟩
  rw [show (m == m) = true from beq_self_eq_true m]
  have V7 := Wc.hid (V6.out.keep hb7)
  have M7 := Wc.hid (M6.out.keep hb7)
  have L7 := Wc.hid (L6.out.keep hb7)
  have F7 := Wc.hid (F6.out.keep hb7)
  have B7 := Wc.hid (Wc.step B6.out (Nat.le_refl _) hb7)
  clear hb7 V6 M6 L6 F6 K6 B6
  go_wp2_with fail
  refine (ints_any _ _ l l _ F7.out L7.out).mono ?_
  rintro e w8 ⟨rfl, hb8⟩
  rw [show (l == l) = true from beq_self_eq_true l]
  have V8 := Wc.hid (V7.out.keep hb8)
  have M8 := Wc.hid (M7.out.keep hb8)
  have L8 := Wc.hid (L7.out.keep hb8)
  have B8 := Wc.hid (Wc.step B7.out (Nat.le_refl _) hb8)
  clear hb8 V7 M7 L7 F7 B7
  go_wp2_with fail
  refine (blocks_any ai ni ci _ (by omega)).mono ?_
  rintro e w9 ⟨rfl, rfl⟩
  rw [FD.out]
  obtain ⟨N, hN⟩ : ∃ N : Nat, ni / 64 = N := ⟨_, rfl⟩
  rw [hN]
  have HNN := Wc.hid hN
  clear hN
  go_wp2_with fail
  refine (refTree_any _ xs r _ V8.out HD.out).mono ?_
  rintro e w9 ⟨aw, nw, cw, an, nn, cn, rfl, hS9, hN9, hb9⟩
  rw [show (Wt.tre xs r).isSome = false by rw [HT.out]; rfl]
  have B9 := Wc.hid (Wc.step B8.out (Nat.le_refl _) hb9)
  clear hS9 hN9 hb9
  go_wp2_with fail
  refine (wakes_any _).mono ?_
  rintro e w20 ⟨rfl, hb20⟩
  have B20 := Wc.hid (Wc.step B9.out (Nat.le_refl _) hb20)
  clear hb20
  go_wp2_with fail
  go_ret
  exact ⟨rfl, B20.out⟩

set_option maxRecDepth 100000 in
set_option maxHeartbeats 6400000 in
theorem exact_map (ai : Option Addr) (ni ci : Nat) (xs : List Int) (r : Int) (am : Option Addr) (nm cm : Nat) (m : List Int) (al : Option Addr) (nl cl : Nat) (l : List Int) (w : World) (hv : Wc.Bs w (.slice ai ni ci) xs) (hsh : Wc.Shaped (.slice ai ni ci)) (hm : Wd.In w (.slice am nm cm) m) (hms : Wv.Shaped (.slice am nm cm)) (hl : Wd.In w (.slice al nl cl) l) (hls : Wv.Shaped (.slice al nl cl)) (hn : ni ≤ 19200) (hm6 : nm ≤ 600) (hl3 : nl ≤ 300) (hd : Wd.devB xs.length = true) (t : Wt.St) (ht : Wt.tre xs r = some t) (hE : ¬ Wb.begE xs r m = 0) :
    Calls Try.prog 3 #[.slice ai ni ci, .int .i64 r, .slice am nm cm, .slice al nl cl] w fun e w' => e = .returned (.bool true) ∧ Below w.heap.size w w' := by
  have hh : Wd.heavyB ni [] = false := by rw [heavy_nilB]; simp; omega
  have HXL := Wc.hid (Wc.bs_len hv)
  have HV := Wc.hid hv
  have HSH := Wc.hid hsh
  have HM := Wc.hid hm
  have HMS := Wc.hid hms
  have HL := Wc.hid hl
  have HLS := Wc.hid hls
  have HML := Wc.hid (Wv.rv_len hm)
  have HLL := Wc.hid (Wv.rv_len hl)
  obtain ⟨E, hEE⟩ : ∃ E, Wb.begE xs r m = E := ⟨_, rfl⟩
  have FB := Wc.hid hEE
  have FM : Hid (Wt.mapE m ((ni / 64 : Nat) : Int) = E) := Wc.hid (by rw [← Wc.bs_len hv, ← Wb.begE_map hd ht]; exact hEE)
  have FD : Hid (Wd.devB ni = true) := Wc.hid (by rw [← Wc.bs_len hv]; exact hd)
  have HD := Wc.hid hd
  have HT := Wc.hid ht
  have HZ := Wc.hid (show ¬ E = 0 by rw [← hEE]; exact hE)
  have FTE := Wc.hid (Wb.treE'_bad (F := l) hE)
  have HE := Wc.hid hE
  clear hd ht hE hEE
  clear hv hsh hm hms hl hls
  go_enter Try.func3, Try.ntmps3
  go_wp2_with fail
  refine (heavy_raw _ _ _ _ _ _ [] _ (raw_nilB _)).mono ?_
  rintro e w1 ⟨rfl, rfl⟩
  rw [hh]
  go_wp2_with fail
  refine (twin_ob _ xs _ HV.out HSH.out).mono ?_
  rintro e w1 ⟨x, rfl, hO1, hb1⟩
  have X1 := Wc.hid hO1.bs
  have V1 := Wc.hid (HV.out.keep hb1)
  have M1 := Wc.hid (HM.out.keep hb1)
  have L1 := Wc.hid (HL.out.keep hb1)
  have B1 := Wc.hid hb1
  clear hO1 hb1 HV HM HL hh HSH
  go_wp2_with fail
  refine (twinInts_any _ m _ M1.out HMS.out).mono ?_
  rintro e w2 ⟨ak, ck, rfl, hk2, hb2⟩
  have K2 := Wc.hid hk2
  clear hk2
  have X2 := Wc.hid (X1.out.keep hb2)
  have V2 := Wc.hid (V1.out.keep hb2)
  have M2 := Wc.hid (M1.out.keep hb2)
  have L2 := Wc.hid (L1.out.keep hb2)
  have B2 := Wc.hid (Wc.step B1.out (Nat.le_refl _) hb2)
  clear hb2 X1 V1 M1 L1 B1
  go_wp2_with fail
  refine (twinInts_any _ l _ L2.out HLS.out).mono ?_
  rintro e w3 ⟨af, cf, rfl, hf3, hb3⟩
  have F3 := Wc.hid hf3
  clear hf3
  have X3 := Wc.hid (X2.out.keep hb3)
  have V3 := Wc.hid (V2.out.keep hb3)
  have M3 := Wc.hid (M2.out.keep hb3)
  have L3 := Wc.hid (L2.out.keep hb3)
  have K3 := Wc.hid (K2.out.keep hb3)
  have B3 := Wc.hid (Wc.step B2.out (Nat.le_refl _) hb3)
  clear hb3 X2 V2 M2 L2 K2 B2
  clear HMS HLS
  go_wp2_with fail
  refine (needs_any _ r _ _ _ xs m _ X3.out K3.out).mono ?_
  unfold NeedPost
  rintro e w4 ⟨hb4, hz4, hnz4⟩
  obtain rfl := hnz4 HE.out
  rw [FB.out]
  clear hz4 hnz4
  have X4 := Wc.hid (X3.out.keep hb4)
  have V4 := Wc.hid (V3.out.keep hb4)
  have M4 := Wc.hid (M3.out.keep hb4)
  have L4 := Wc.hid (L3.out.keep hb4)
  have K4 := Wc.hid (K3.out.keep hb4)
  have F4 := Wc.hid (F3.out.keep hb4)
  have B4 := Wc.hid (Wc.step B3.out (Nat.le_refl _) hb4)
  clear hb4 X3 V3 M3 L3 K3 F3 B3
  go_wp2_with fail
  refine (tree_any _ r _ _ _ _ _ _ xs m l _ X4.out K4.out F4.out).mono ?_
  unfold BtPost
  rintro e w5 ⟨hb5, hz5, hnz5⟩
  obtain rfl := hnz5 (by rw [FTE.out]; exact HE.out)
  rw [FTE.out, FB.out]
  clear hz5 hnz5
  have X5 := Wc.hid (X4.out.keep hb5)
  have V5 := Wc.hid (V4.out.keep hb5)
  have M5 := Wc.hid (M4.out.keep hb5)
  have L5 := Wc.hid (L4.out.keep hb5)
  have K5 := Wc.hid (K4.out.keep hb5)
  have F5 := Wc.hid (F4.out.keep hb5)
  have B5 := Wc.hid (Wc.step B4.out (Nat.le_refl _) hb5)
  clear hb5 X4 V4 M4 L4 K4 F4 B4
  go_wp2_with fail
  refine (bytes_any _ _ xs xs _ X5.out V5.out).mono ?_
  rintro e w6 ⟨rfl, hb6⟩
  rw [show (xs == xs) = true from beq_self_eq_true xs]
  have V6 := Wc.hid (V5.out.keep hb6)
  have M6 := Wc.hid (M5.out.keep hb6)
  have L6 := Wc.hid (L5.out.keep hb6)
  have K6 := Wc.hid (K5.out.keep hb6)
  have F6 := Wc.hid (F5.out.keep hb6)
  have B6 := Wc.hid (Wc.step B5.out (Nat.le_refl _) hb6)
  clear hb6 V5 M5 L5 K5 F5 X5 B5
  go_wp2_with fail
  refine (ints_any _ _ m m _ K6.out M6.out).mono ?_
  rintro e w7 ⟨rfl, hb7⟩
  rw [show (m == m) = true from beq_self_eq_true m]
  have V7 := Wc.hid (V6.out.keep hb7)
  have M7 := Wc.hid (M6.out.keep hb7)
  have L7 := Wc.hid (L6.out.keep hb7)
  have F7 := Wc.hid (F6.out.keep hb7)
  have B7 := Wc.hid (Wc.step B6.out (Nat.le_refl _) hb7)
  clear hb7 V6 M6 L6 F6 K6 B6
  go_wp2_with fail
  refine (ints_any _ _ l l _ F7.out L7.out).mono ?_
  rintro e w8 ⟨rfl, hb8⟩
  rw [show (l == l) = true from beq_self_eq_true l]
  have V8 := Wc.hid (V7.out.keep hb8)
  have M8 := Wc.hid (M7.out.keep hb8)
  have L8 := Wc.hid (L7.out.keep hb8)
  have B8 := Wc.hid (Wc.step B7.out (Nat.le_refl _) hb8)
  clear hb8 V7 M7 L7 F7 B7
  go_wp2_with fail
  refine (blocks_any ai ni ci _ (by omega)).mono ?_
  rintro e w9 ⟨rfl, rfl⟩
  rw [FD.out]
  obtain ⟨N, hN⟩ : ∃ N : Nat, ni / 64 = N := ⟨_, rfl⟩
  rw [hN]
  have HNN := Wc.hid hN
  clear hN
  go_wp2_with fail
  refine (refTree_any _ xs r _ V8.out HD.out).mono ?_
  rintro e w9 ⟨aw, nw, cw, an, nn, cn, rfl, hS9, hN9, hb9⟩
  rw [show (Wt.tre xs r).isSome = true by rw [HT.out]; rfl]
  have M9 := Wc.hid (M8.out.keep hb9)
  have B9 := Wc.hid (Wc.step B8.out (Nat.le_refl _) hb9)
  clear hS9 hN9 hb9
  go_wp2_with fail
  refine (refMap_any _ m _ _ M9.out).mono ?_
  rintro e w10 ⟨rfl, rfl⟩
  rw [show Wt.mapE m (N : Int) = E from by rw [← HNN.out]; exact FM.out]
  have hz0 : (E == 0) = false := by simpa using HZ.out
  go_wp2_with fail
  refine (wakes_any _).mono ?_
  rintro e w20 ⟨rfl, hb20⟩
  have B20 := Wc.hid (Wc.step B9.out (Nat.le_refl _) hb20)
  clear hb20
  go_wp2_with fail
  go_ret
  exact ⟨rfl, B20.out⟩

set_option maxRecDepth 100000 in
set_option maxHeartbeats 6400000 in
theorem exact_held (ai : Option Addr) (ni ci : Nat) (xs : List Int) (r : Int) (am : Option Addr) (nm cm : Nat) (m : List Int) (al : Option Addr) (nl cl : Nat) (l : List Int) (w : World) (hv : Wc.Bs w (.slice ai ni ci) xs) (hsh : Wc.Shaped (.slice ai ni ci)) (hm : Wd.In w (.slice am nm cm) m) (hms : Wv.Shaped (.slice am nm cm)) (hl : Wd.In w (.slice al nl cl) l) (hls : Wv.Shaped (.slice al nl cl)) (hn : ni ≤ 19200) (hm6 : nm ≤ 600) (hl3 : nl ≤ 300) (hE : Wb.begE xs r m = 0) (hu : Wb.usB l (Wb.treN' xs r m) (xs.length / 64) = false) :
    Calls Try.prog 3 #[.slice ai ni ci, .int .i64 r, .slice am nm cm, .slice al nl cl] w fun e w' => e = .returned (.bool true) ∧ Below w.heap.size w w' := by
  have hh : Wd.heavyB ni [] = false := by rw [heavy_nilB]; simp; omega
  have HXL := Wc.hid (Wc.bs_len hv)
  have HV := Wc.hid hv
  have HSH := Wc.hid hsh
  have HM := Wc.hid hm
  have HMS := Wc.hid hms
  have HL := Wc.hid hl
  have HLS := Wc.hid hls
  have HML := Wc.hid (Wv.rv_len hm)
  have HLL := Wc.hid (Wv.rv_len hl)
  obtain ⟨hte, hme⟩ := Wb.begE_zero hE
  obtain ⟨hd, t, ht, hts, htn⟩ := Wb.treE_zero hte
  have FM : Hid (Wt.mapE m ((ni / 64 : Nat) : Int) = 0) := Wc.hid (by rw [← Wc.bs_len hv]; exact hme)
  have FD : Hid (Wd.devB ni = true) := Wc.hid (by rw [← Wc.bs_len hv]; exact hd)
  have HD := Wc.hid hd
  have HT := Wc.hid ht
  have HE := Wc.hid hE
  have HU := Wc.hid hu
  have hm5 : m.length = 512 := (Wb.mapE_zero hme).1
  have hnm : nm = 512 := by rw [← HML.out]; exact hm5
  have HWL : Hid ((Wt.treS xs r).length = 512) := Wc.hid (by rw [hts, ← Wb.rw_sec ht, Wb.rw_length])
  subst hnm
  have FTE := Wc.hid (Wb.treE'_held hE hu)
  clear hd ht hE hte hme hts htn hu hm5
  clear hv hsh hm hms hl hls
  go_enter Try.func3, Try.ntmps3
  go_wp2_with fail
  refine (heavy_raw _ _ _ _ _ _ [] _ (raw_nilB _)).mono ?_
  rintro e w1 ⟨rfl, rfl⟩
  rw [hh]
  go_wp2_with fail
  refine (twin_ob _ xs _ HV.out HSH.out).mono ?_
  rintro e w1 ⟨x, rfl, hO1, hb1⟩
  have X1 := Wc.hid hO1.bs
  have V1 := Wc.hid (HV.out.keep hb1)
  have M1 := Wc.hid (HM.out.keep hb1)
  have L1 := Wc.hid (HL.out.keep hb1)
  have B1 := Wc.hid hb1
  clear hO1 hb1 HV HM HL hh HSH
  go_wp2_with fail
  refine (twinInts_any _ m _ M1.out HMS.out).mono ?_
  rintro e w2 ⟨ak, ck, rfl, hk2, hb2⟩
  have K2 := Wc.hid hk2
  clear hk2
  have X2 := Wc.hid (X1.out.keep hb2)
  have V2 := Wc.hid (V1.out.keep hb2)
  have M2 := Wc.hid (M1.out.keep hb2)
  have L2 := Wc.hid (L1.out.keep hb2)
  have B2 := Wc.hid (Wc.step B1.out (Nat.le_refl _) hb2)
  clear hb2 X1 V1 M1 L1 B1
  go_wp2_with fail
  refine (twinInts_any _ l _ L2.out HLS.out).mono ?_
  rintro e w3 ⟨af, cf, rfl, hf3, hb3⟩
  have F3 := Wc.hid hf3
  clear hf3
  have X3 := Wc.hid (X2.out.keep hb3)
  have V3 := Wc.hid (V2.out.keep hb3)
  have M3 := Wc.hid (M2.out.keep hb3)
  have L3 := Wc.hid (L2.out.keep hb3)
  have K3 := Wc.hid (K2.out.keep hb3)
  have B3 := Wc.hid (Wc.step B2.out (Nat.le_refl _) hb3)
  clear hb3 X2 V2 M2 L2 K2 B2
  clear HMS HLS
  go_wp2_with fail
  refine (needs_any _ r _ _ _ xs m _ X3.out K3.out).mono ?_
  unfold NeedPost
  rintro e w4 ⟨hb4, hz4, hnz4⟩
  obtain rfl := hz4 HE.out
  clear hz4 hnz4
  have X4 := Wc.hid (X3.out.keep hb4)
  have V4 := Wc.hid (V3.out.keep hb4)
  have M4 := Wc.hid (M3.out.keep hb4)
  have L4 := Wc.hid (L3.out.keep hb4)
  have K4 := Wc.hid (K3.out.keep hb4)
  have F4 := Wc.hid (F3.out.keep hb4)
  have B4 := Wc.hid (Wc.step B3.out (Nat.le_refl _) hb4)
  clear hb4 X3 V3 M3 L3 K3 F3 B3
  go_wp2_with fail
  refine (tree_any _ r _ _ _ _ _ _ xs m l _ X4.out K4.out F4.out).mono ?_
  unfold BtPost
  rintro e w5 ⟨hb5, hz5, hnz5⟩
  obtain rfl := hnz5 (by rw [FTE.out]; decide)
  rw [FTE.out]
  clear hz5 hnz5
  have X5 := Wc.hid (X4.out.keep hb5)
  have V5 := Wc.hid (V4.out.keep hb5)
  have M5 := Wc.hid (M4.out.keep hb5)
  have L5 := Wc.hid (L4.out.keep hb5)
  have K5 := Wc.hid (K4.out.keep hb5)
  have F5 := Wc.hid (F4.out.keep hb5)
  have B5 := Wc.hid (Wc.step B4.out (Nat.le_refl _) hb5)
  clear hb5 X4 V4 M4 L4 K4 F4 B4
  go_wp2_with fail
  refine (bytes_any _ _ xs xs _ X5.out V5.out).mono ?_
  rintro e w6 ⟨rfl, hb6⟩
  rw [show (xs == xs) = true from beq_self_eq_true xs]
  have V6 := Wc.hid (V5.out.keep hb6)
  have M6 := Wc.hid (M5.out.keep hb6)
  have L6 := Wc.hid (L5.out.keep hb6)
  have K6 := Wc.hid (K5.out.keep hb6)
  have F6 := Wc.hid (F5.out.keep hb6)
  have B6 := Wc.hid (Wc.step B5.out (Nat.le_refl _) hb6)
  clear hb6 V5 M5 L5 K5 F5 X5 B5
  go_wp2_with fail
  refine (ints_any _ _ m m _ K6.out M6.out).mono ?_
  rintro e w7 ⟨rfl, hb7⟩
  rw [show (m == m) = true from beq_self_eq_true m]
  have V7 := Wc.hid (V6.out.keep hb7)
  have M7 := Wc.hid (M6.out.keep hb7)
  have L7 := Wc.hid (L6.out.keep hb7)
  have F7 := Wc.hid (F6.out.keep hb7)
  have B7 := Wc.hid (Wc.step B6.out (Nat.le_refl _) hb7)
  clear hb7 V6 M6 L6 F6 K6 B6
  go_wp2_with fail
  refine (ints_any _ _ l l _ F7.out L7.out).mono ?_
  rintro e w8 ⟨rfl, hb8⟩
  rw [show (l == l) = true from beq_self_eq_true l]
  have V8 := Wc.hid (V7.out.keep hb8)
  have M8 := Wc.hid (M7.out.keep hb8)
  have L8 := Wc.hid (L7.out.keep hb8)
  have B8 := Wc.hid (Wc.step B7.out (Nat.le_refl _) hb8)
  clear hb8 V7 M7 L7 F7 B7
  go_wp2_with fail
  refine (blocks_any ai ni ci _ (by omega)).mono ?_
  rintro e w9 ⟨rfl, rfl⟩
  rw [FD.out]
  obtain ⟨N, hN⟩ : ∃ N : Nat, ni / 64 = N := ⟨_, rfl⟩
  rw [hN]
  have HNN := Wc.hid hN
  clear hN
  go_wp2_with fail
  refine (refTree_any _ xs r _ V8.out HD.out).mono ?_
  rintro e w9 ⟨aw, nw, cw, an, nn, cn, rfl, hS9, hN9, hb9⟩
  rw [show (Wt.tre xs r).isSome = true by rw [HT.out]; rfl]
  have hnw : nw = 512 := by rw [← Wv.rv_len hS9]; exact HWL.out
  subst hnw
  have S9 := Wc.hid hS9
  have N9 := Wc.hid hN9
  have V9 := Wc.hid (V8.out.keep hb9)
  have M9 := Wc.hid (M8.out.keep hb9)
  have L9 := Wc.hid (L8.out.keep hb9)
  have B9 := Wc.hid (Wc.step B8.out (Nat.le_refl _) hb9)
  clear hS9 hN9
  clear hb9 V8 M8 L8 B8
  go_wp2_with fail
  refine (refMap_any _ m _ _ M9.out).mono ?_
  rintro e w10 ⟨rfl, rfl⟩
  rw [show Wt.mapE m (N : Int) = 0 from by rw [← HNN.out]; exact FM.out]
  go_wp2_with fail
  refine (build_nil ai ni ci r am cm xs m _ V9.out M9.out HE.out).mono ?_
  rintro e w10 ⟨hb10, z1, a1, n1, c1, a2, n2, c2, z2, rfl⟩
  have V10 := Wc.hid (V9.out.keep hb10)
  have M10 := Wc.hid (M9.out.keep hb10)
  have L10 := Wc.hid (L9.out.keep hb10)
  have S10 := Wc.hid (S9.out.keep hb10)
  have N10 := Wc.hid (N9.out.keep hb10)
  have B10 := Wc.hid (Wc.step B9.out (Nat.le_refl _) hb10)
  clear hb10 V9 M9 L9 S9 N9 B9
  go_wp2_with fail
  refine (free_any al nl cl am cm an nn cn aw cw l m (Wt.treN xs r) (Wt.treS xs r) N _ L10.out M10.out N10.out S10.out).mono ?_
  rintro e w11 ⟨rfl, hb11⟩
  rw [show Wb.usB l (Wt.treN xs r ++ Wt.treS xs r ++ m) N = false by rw [← HNN.out, ← HXL.out]; exact HU.out]
  have B11 := Wc.hid (Wc.step B10.out (Nat.le_refl _) hb11)
  clear hb11
  go_wp2_with fail
  refine (wakes_any _).mono ?_
  rintro e w20 ⟨rfl, hb20⟩
  have B20 := Wc.hid (Wc.step B11.out (Nat.le_refl _) hb20)
  clear hb20
  go_wp2_with fail
  go_ret
  exact ⟨rfl, B20.out⟩

set_option maxRecDepth 100000 in
set_option maxHeartbeats 6400000 in
theorem exact_few (ai : Option Addr) (ni ci : Nat) (xs : List Int) (r : Int) (am : Option Addr) (nm cm : Nat) (m : List Int) (al : Option Addr) (nl cl : Nat) (l : List Int) (w : World) (hv : Wc.Bs w (.slice ai ni ci) xs) (hsh : Wc.Shaped (.slice ai ni ci)) (hm : Wd.In w (.slice am nm cm) m) (hms : Wv.Shaped (.slice am nm cm)) (hl : Wd.In w (.slice al nl cl) l) (hls : Wv.Shaped (.slice al nl cl)) (hn : ni ≤ 19200) (hm6 : nm ≤ 600) (hl3 : nl ≤ 300) (hE : Wb.begE xs r m = 0) (hu : Wb.usB l (Wb.treN' xs r m) (xs.length / 64) = true) (hf : l.length < Wb.needN xs r m) :
    Calls Try.prog 3 #[.slice ai ni ci, .int .i64 r, .slice am nm cm, .slice al nl cl] w fun e w' => e = .returned (.bool true) ∧ Below w.heap.size w w' := by
  have hh : Wd.heavyB ni [] = false := by rw [heavy_nilB]; simp; omega
  have HXL := Wc.hid (Wc.bs_len hv)
  have HV := Wc.hid hv
  have HSH := Wc.hid hsh
  have HM := Wc.hid hm
  have HMS := Wc.hid hms
  have HL := Wc.hid hl
  have HLS := Wc.hid hls
  have HML := Wc.hid (Wv.rv_len hm)
  have HLL := Wc.hid (Wv.rv_len hl)
  obtain ⟨hte, hme⟩ := Wb.begE_zero hE
  obtain ⟨hd, t, ht, hts, htn⟩ := Wb.treE_zero hte
  have FM : Hid (Wt.mapE m ((ni / 64 : Nat) : Int) = 0) := Wc.hid (by rw [← Wc.bs_len hv]; exact hme)
  have FD : Hid (Wd.devB ni = true) := Wc.hid (by rw [← Wc.bs_len hv]; exact hd)
  have HD := Wc.hid hd
  have HT := Wc.hid ht
  have HE := Wc.hid hE
  have HU := Wc.hid hu
  have hm5 : m.length = 512 := (Wb.mapE_zero hme).1
  have hnm : nm = 512 := by rw [← HML.out]; exact hm5
  have HWL : Hid ((Wt.treS xs r).length = 512) := Wc.hid (by rw [hts, ← Wb.rw_sec ht, Wb.rw_length])
  subst hnm
  have HLR : Hid (∀ j, 2 ≤ l.getD j 2 ∧ l.getD j 2 < 4096) := Wc.hid fun j => by
    by_cases hj : j < l.length
    · have h1 := (Wb.usB_rises hu).2 _ (List.getElem_mem hj)
      rw [List.getD_eq_getElem?_getD, List.getElem?_eq_getElem hj]
      have := Wc.bs_len hv
      show 2 ≤ l[j] ∧ l[j] < 4096
      omega
    · rw [List.getD_eq_getElem?_getD, List.getElem?_eq_none (by omega)]; exact ⟨Int.le_refl _, by decide⟩
  have HND : Hid (Wb.need xs r m (Wt.treS xs r) l = Wb.needN xs r m) := Wc.hid (Wb.need_two fun f hf => ((Wb.usB_rises hu).2 f hf).1)
  have FTE := Wc.hid (Wb.treE'_few hE hu hf)
  have HF := Wc.hid hf
  clear hf
  clear hd ht hE hte hme hts htn hu hm5
  clear hv hsh hm hms hl hls
  go_enter Try.func3, Try.ntmps3
  go_wp2_with fail
  refine (heavy_raw _ _ _ _ _ _ [] _ (raw_nilB _)).mono ?_
  rintro e w1 ⟨rfl, rfl⟩
  rw [hh]
  go_wp2_with fail
  refine (twin_ob _ xs _ HV.out HSH.out).mono ?_
  rintro e w1 ⟨x, rfl, hO1, hb1⟩
  have X1 := Wc.hid hO1.bs
  have V1 := Wc.hid (HV.out.keep hb1)
  have M1 := Wc.hid (HM.out.keep hb1)
  have L1 := Wc.hid (HL.out.keep hb1)
  have B1 := Wc.hid hb1
  clear hO1 hb1 HV HM HL hh HSH
  go_wp2_with fail
  refine (twinInts_any _ m _ M1.out HMS.out).mono ?_
  rintro e w2 ⟨ak, ck, rfl, hk2, hb2⟩
  have K2 := Wc.hid hk2
  clear hk2
  have X2 := Wc.hid (X1.out.keep hb2)
  have V2 := Wc.hid (V1.out.keep hb2)
  have M2 := Wc.hid (M1.out.keep hb2)
  have L2 := Wc.hid (L1.out.keep hb2)
  have B2 := Wc.hid (Wc.step B1.out (Nat.le_refl _) hb2)
  clear hb2 X1 V1 M1 L1 B1
  go_wp2_with fail
  refine (twinInts_any _ l _ L2.out HLS.out).mono ?_
  rintro e w3 ⟨af, cf, rfl, hf3, hb3⟩
  have F3 := Wc.hid hf3
  clear hf3
  have X3 := Wc.hid (X2.out.keep hb3)
  have V3 := Wc.hid (V2.out.keep hb3)
  have M3 := Wc.hid (M2.out.keep hb3)
  have L3 := Wc.hid (L2.out.keep hb3)
  have K3 := Wc.hid (K2.out.keep hb3)
  have B3 := Wc.hid (Wc.step B2.out (Nat.le_refl _) hb3)
  clear hb3 X2 V2 M2 L2 K2 B2
  clear HMS HLS
  go_wp2_with fail
  refine (needs_any _ r _ _ _ xs m _ X3.out K3.out).mono ?_
  unfold NeedPost
  rintro e w4 ⟨hb4, hz4, hnz4⟩
  obtain rfl := hz4 HE.out
  clear hz4 hnz4
  have X4 := Wc.hid (X3.out.keep hb4)
  have V4 := Wc.hid (V3.out.keep hb4)
  have M4 := Wc.hid (M3.out.keep hb4)
  have L4 := Wc.hid (L3.out.keep hb4)
  have K4 := Wc.hid (K3.out.keep hb4)
  have F4 := Wc.hid (F3.out.keep hb4)
  have B4 := Wc.hid (Wc.step B3.out (Nat.le_refl _) hb4)
  clear hb4 X3 V3 M3 L3 K3 F3 B3
  go_wp2_with fail
  refine (tree_any _ r _ _ _ _ _ _ xs m l _ X4.out K4.out F4.out).mono ?_
  unfold BtPost
  rintro e w5 ⟨hb5, hz5, hnz5⟩
  obtain rfl := hnz5 (by rw [FTE.out]; decide)
  rw [FTE.out]
  clear hz5 hnz5
  have X5 := Wc.hid (X4.out.keep hb5)
  have V5 := Wc.hid (V4.out.keep hb5)
  have M5 := Wc.hid (M4.out.keep hb5)
  have L5 := Wc.hid (L4.out.keep hb5)
  have K5 := Wc.hid (K4.out.keep hb5)
  have F5 := Wc.hid (F4.out.keep hb5)
  have B5 := Wc.hid (Wc.step B4.out (Nat.le_refl _) hb5)
  clear hb5 X4 V4 M4 L4 K4 F4 B4
  go_wp2_with fail
  refine (bytes_any _ _ xs xs _ X5.out V5.out).mono ?_
  rintro e w6 ⟨rfl, hb6⟩
  rw [show (xs == xs) = true from beq_self_eq_true xs]
  have V6 := Wc.hid (V5.out.keep hb6)
  have M6 := Wc.hid (M5.out.keep hb6)
  have L6 := Wc.hid (L5.out.keep hb6)
  have K6 := Wc.hid (K5.out.keep hb6)
  have F6 := Wc.hid (F5.out.keep hb6)
  have B6 := Wc.hid (Wc.step B5.out (Nat.le_refl _) hb6)
  clear hb6 V5 M5 L5 K5 F5 X5 B5
  go_wp2_with fail
  refine (ints_any _ _ m m _ K6.out M6.out).mono ?_
  rintro e w7 ⟨rfl, hb7⟩
  rw [show (m == m) = true from beq_self_eq_true m]
  have V7 := Wc.hid (V6.out.keep hb7)
  have M7 := Wc.hid (M6.out.keep hb7)
  have L7 := Wc.hid (L6.out.keep hb7)
  have F7 := Wc.hid (F6.out.keep hb7)
  have B7 := Wc.hid (Wc.step B6.out (Nat.le_refl _) hb7)
  clear hb7 V6 M6 L6 F6 K6 B6
  go_wp2_with fail
  refine (ints_any _ _ l l _ F7.out L7.out).mono ?_
  rintro e w8 ⟨rfl, hb8⟩
  rw [show (l == l) = true from beq_self_eq_true l]
  have V8 := Wc.hid (V7.out.keep hb8)
  have M8 := Wc.hid (M7.out.keep hb8)
  have L8 := Wc.hid (L7.out.keep hb8)
  have B8 := Wc.hid (Wc.step B7.out (Nat.le_refl _) hb8)
  clear hb8 V7 M7 L7 F7 B7
  go_wp2_with fail
  refine (blocks_any ai ni ci _ (by omega)).mono ?_
  rintro e w9 ⟨rfl, rfl⟩
  rw [FD.out]
  obtain ⟨N, hN⟩ : ∃ N : Nat, ni / 64 = N := ⟨_, rfl⟩
  rw [hN]
  have HNN := Wc.hid hN
  clear hN
  go_wp2_with fail
  refine (refTree_any _ xs r _ V8.out HD.out).mono ?_
  rintro e w9 ⟨aw, nw, cw, an, nn, cn, rfl, hS9, hN9, hb9⟩
  rw [show (Wt.tre xs r).isSome = true by rw [HT.out]; rfl]
  have hnw : nw = 512 := by rw [← Wv.rv_len hS9]; exact HWL.out
  subst hnw
  have S9 := Wc.hid hS9
  have N9 := Wc.hid hN9
  have V9 := Wc.hid (V8.out.keep hb9)
  have M9 := Wc.hid (M8.out.keep hb9)
  have L9 := Wc.hid (L8.out.keep hb9)
  have B9 := Wc.hid (Wc.step B8.out (Nat.le_refl _) hb9)
  clear hS9 hN9
  clear hb9 V8 M8 L8 B8
  go_wp2_with fail
  refine (refMap_any _ m _ _ M9.out).mono ?_
  rintro e w10 ⟨rfl, rfl⟩
  rw [show Wt.mapE m (N : Int) = 0 from by rw [← HNN.out]; exact FM.out]
  go_wp2_with fail
  refine (build_nil ai ni ci r am cm xs m _ V9.out M9.out HE.out).mono ?_
  rintro e w10 ⟨hb10, z1, a1, n1, c1, a2, n2, c2, z2, rfl⟩
  have V10 := Wc.hid (V9.out.keep hb10)
  have M10 := Wc.hid (M9.out.keep hb10)
  have L10 := Wc.hid (L9.out.keep hb10)
  have S10 := Wc.hid (S9.out.keep hb10)
  have N10 := Wc.hid (N9.out.keep hb10)
  have B10 := Wc.hid (Wc.step B9.out (Nat.le_refl _) hb10)
  clear hb10 V9 M9 L9 S9 N9 B9
  go_wp2_with fail
  refine (free_any al nl cl am cm an nn cn aw cw l m (Wt.treN xs r) (Wt.treS xs r) N _ L10.out M10.out N10.out S10.out).mono ?_
  rintro e w11 ⟨rfl, hb11⟩
  rw [show Wb.usB l (Wt.treN xs r ++ Wt.treS xs r ++ m) N = true by rw [← HNN.out, ← HXL.out]; exact HU.out]
  have V11 := Wc.hid (V10.out.keep hb11)
  have M11 := Wc.hid (M10.out.keep hb11)
  have L11 := Wc.hid (L10.out.keep hb11)
  have B11 := Wc.hid (Wc.step B10.out (Nat.le_refl _) hb11)
  clear hb11
  go_wp2_with fail
  refine (refBuild_any ai ni ci r am 512 cm al nl cl xs m l _ V11.out M11.out L11.out HE.out HLR.out).mono ?_
  unfold RBPost
  rintro e w12 ⟨hb12, -, hz12⟩
  obtain rfl := hz12 (by rw [HND.out]; exact HF.out)
  have B12 := Wc.hid (Wc.step B11.out (Nat.le_refl _) hb12)
  clear hb12 hz12
  go_wp2_with fail
  refine (wakes_any _).mono ?_
  rintro e w20 ⟨rfl, hb20⟩
  have B20 := Wc.hid (Wc.step B12.out (Nat.le_refl _) hb20)
  clear hb20
  go_wp2_with fail
  go_ret
  exact ⟨rfl, B20.out⟩

set_option maxRecDepth 100000 in
set_option maxHeartbeats 6400000 in
theorem exact_yes (ai : Option Addr) (ni ci : Nat) (xs : List Int) (r : Int) (am : Option Addr) (nm cm : Nat) (m : List Int) (al : Option Addr) (nl cl : Nat) (l : List Int) (w : World) (hv : Wc.Bs w (.slice ai ni ci) xs) (hsh : Wc.Shaped (.slice ai ni ci)) (hm : Wd.In w (.slice am nm cm) m) (hms : Wv.Shaped (.slice am nm cm)) (hl : Wd.In w (.slice al nl cl) l) (hls : Wv.Shaped (.slice al nl cl)) (hn : ni ≤ 19200) (hm6 : nm ≤ 600) (hl3 : nl ≤ 300) (hE : Wb.begE xs r m = 0) (hu : Wb.usB l (Wb.treN' xs r m) (xs.length / 64) = true) (hf : Wb.needN xs r m ≤ l.length) :
    Calls Try.prog 3 #[.slice ai ni ci, .int .i64 r, .slice am nm cm, .slice al nl cl] w fun e w' => e = .returned (.bool true) ∧ Below w.heap.size w w' := by
  have hh : Wd.heavyB ni [] = false := by rw [heavy_nilB]; simp; omega
  have HXL := Wc.hid (Wc.bs_len hv)
  have HV := Wc.hid hv
  have HSH := Wc.hid hsh
  have HM := Wc.hid hm
  have HMS := Wc.hid hms
  have HL := Wc.hid hl
  have HLS := Wc.hid hls
  have HML := Wc.hid (Wv.rv_len hm)
  have HLL := Wc.hid (Wv.rv_len hl)
  obtain ⟨hte, hme⟩ := Wb.begE_zero hE
  obtain ⟨hd, t, ht, hts, htn⟩ := Wb.treE_zero hte
  have FM : Hid (Wt.mapE m ((ni / 64 : Nat) : Int) = 0) := Wc.hid (by rw [← Wc.bs_len hv]; exact hme)
  have FD : Hid (Wd.devB ni = true) := Wc.hid (by rw [← Wc.bs_len hv]; exact hd)
  have HD := Wc.hid hd
  have HT := Wc.hid ht
  have HE := Wc.hid hE
  have HU := Wc.hid hu
  have hm5 : m.length = 512 := (Wb.mapE_zero hme).1
  have hnm : nm = 512 := by rw [← HML.out]; exact hm5
  have HWL : Hid ((Wt.treS xs r).length = 512) := Wc.hid (by rw [hts, ← Wb.rw_sec ht, Wb.rw_length])
  subst hnm
  have HLR : Hid (∀ j, 2 ≤ l.getD j 2 ∧ l.getD j 2 < 4096) := Wc.hid fun j => by
    by_cases hj : j < l.length
    · have h1 := (Wb.usB_rises hu).2 _ (List.getElem_mem hj)
      rw [List.getD_eq_getElem?_getD, List.getElem?_eq_getElem hj]
      have := Wc.bs_len hv
      show 2 ≤ l[j] ∧ l[j] < 4096
      omega
    · rw [List.getD_eq_getElem?_getD, List.getElem?_eq_none (by omega)]; exact ⟨Int.le_refl _, by decide⟩
  have HND : Hid (Wb.need xs r m (Wt.treS xs r) l = Wb.needN xs r m) := Wc.hid (Wb.need_two fun f hf => ((Wb.usB_rises hu).2 f hf).1)
  have FTE := Wc.hid (Wb.treE'_yes hE hu hf)
  have HF := Wc.hid hf
  clear hf
  clear hd ht hE hte hme hts htn hu hm5
  clear hv hsh hm hms hl hls
  go_enter Try.func3, Try.ntmps3
  go_wp2_with fail
  refine (heavy_raw _ _ _ _ _ _ [] _ (raw_nilB _)).mono ?_
  rintro e w1 ⟨rfl, rfl⟩
  rw [hh]
  go_wp2_with fail
  refine (twin_ob _ xs _ HV.out HSH.out).mono ?_
  rintro e w1 ⟨x, rfl, hO1, hb1⟩
  have X1 := Wc.hid hO1.bs
  have V1 := Wc.hid (HV.out.keep hb1)
  have M1 := Wc.hid (HM.out.keep hb1)
  have L1 := Wc.hid (HL.out.keep hb1)
  have B1 := Wc.hid hb1
  clear hO1 hb1 HV HM HL hh HSH
  go_wp2_with fail
  refine (twinInts_any _ m _ M1.out HMS.out).mono ?_
  rintro e w2 ⟨ak, ck, rfl, hk2, hb2⟩
  have K2 := Wc.hid hk2
  clear hk2
  have X2 := Wc.hid (X1.out.keep hb2)
  have V2 := Wc.hid (V1.out.keep hb2)
  have M2 := Wc.hid (M1.out.keep hb2)
  have L2 := Wc.hid (L1.out.keep hb2)
  have B2 := Wc.hid (Wc.step B1.out (Nat.le_refl _) hb2)
  clear hb2 X1 V1 M1 L1 B1
  go_wp2_with fail
  refine (twinInts_any _ l _ L2.out HLS.out).mono ?_
  rintro e w3 ⟨af, cf, rfl, hf3, hb3⟩
  have F3 := Wc.hid hf3
  clear hf3
  have X3 := Wc.hid (X2.out.keep hb3)
  have V3 := Wc.hid (V2.out.keep hb3)
  have M3 := Wc.hid (M2.out.keep hb3)
  have L3 := Wc.hid (L2.out.keep hb3)
  have K3 := Wc.hid (K2.out.keep hb3)
  have B3 := Wc.hid (Wc.step B2.out (Nat.le_refl _) hb3)
  clear hb3 X2 V2 M2 L2 K2 B2
  clear HMS HLS
  go_wp2_with fail
  refine (needs_any _ r _ _ _ xs m _ X3.out K3.out).mono ?_
  unfold NeedPost
  rintro e w4 ⟨hb4, hz4, hnz4⟩
  obtain rfl := hz4 HE.out
  clear hz4 hnz4
  have X4 := Wc.hid (X3.out.keep hb4)
  have V4 := Wc.hid (V3.out.keep hb4)
  have M4 := Wc.hid (M3.out.keep hb4)
  have L4 := Wc.hid (L3.out.keep hb4)
  have K4 := Wc.hid (K3.out.keep hb4)
  have F4 := Wc.hid (F3.out.keep hb4)
  have B4 := Wc.hid (Wc.step B3.out (Nat.le_refl _) hb4)
  clear hb4 X3 V3 M3 L3 K3 F3 B3
  go_wp2_with fail
  refine (tree_any _ r _ _ _ _ _ _ xs m l _ X4.out K4.out F4.out).mono ?_
  unfold BtPost
  rintro e w5 ⟨hb5, hz5, hnz5⟩
  obtain ⟨ax, cx, ay, cy, rfl, hI5, hR5⟩ := hz5 FTE.out
  have I5 := Wc.hid hI5.is
  have R5 : Hid (Wd.In _ _ _) := Wc.hid hR5.rv
  clear hI5 hR5
  clear hz5 hnz5
  have X5 := Wc.hid (X4.out.keep hb5)
  have V5 := Wc.hid (V4.out.keep hb5)
  have M5 := Wc.hid (M4.out.keep hb5)
  have L5 := Wc.hid (L4.out.keep hb5)
  have K5 := Wc.hid (K4.out.keep hb5)
  have F5 := Wc.hid (F4.out.keep hb5)
  have B5 := Wc.hid (Wc.step B4.out (Nat.le_refl _) hb5)
  clear hb5 X4 V4 M4 L4 K4 F4 B4
  go_wp2_with fail
  refine (bytes_any _ _ xs xs _ X5.out V5.out).mono ?_
  rintro e w6 ⟨rfl, hb6⟩
  rw [show (xs == xs) = true from beq_self_eq_true xs]
  have V6 := Wc.hid (V5.out.keep hb6)
  have M6 := Wc.hid (M5.out.keep hb6)
  have L6 := Wc.hid (L5.out.keep hb6)
  have K6 := Wc.hid (K5.out.keep hb6)
  have F6 := Wc.hid (F5.out.keep hb6)
  have I6 := Wc.hid (I5.out.keep hb6)
  have R6 := Wc.hid (R5.out.keep hb6)
  have B6 := Wc.hid (Wc.step B5.out (Nat.le_refl _) hb6)
  clear hb6 V5 M5 L5 K5 F5 I5 R5 X5 B5
  go_wp2_with fail
  refine (ints_any _ _ m m _ K6.out M6.out).mono ?_
  rintro e w7 ⟨rfl, hb7⟩
  rw [show (m == m) = true from beq_self_eq_true m]
  have V7 := Wc.hid (V6.out.keep hb7)
  have M7 := Wc.hid (M6.out.keep hb7)
  have L7 := Wc.hid (L6.out.keep hb7)
  have F7 := Wc.hid (F6.out.keep hb7)
  have I7 := Wc.hid (I6.out.keep hb7)
  have R7 := Wc.hid (R6.out.keep hb7)
  have B7 := Wc.hid (Wc.step B6.out (Nat.le_refl _) hb7)
  clear hb7 V6 M6 L6 F6 I6 R6 K6 B6
  go_wp2_with fail
  refine (ints_any _ _ l l _ F7.out L7.out).mono ?_
  rintro e w8 ⟨rfl, hb8⟩
  rw [show (l == l) = true from beq_self_eq_true l]
  have V8 := Wc.hid (V7.out.keep hb8)
  have M8 := Wc.hid (M7.out.keep hb8)
  have L8 := Wc.hid (L7.out.keep hb8)
  have I8 := Wc.hid (I7.out.keep hb8)
  have R8 := Wc.hid (R7.out.keep hb8)
  have B8 := Wc.hid (Wc.step B7.out (Nat.le_refl _) hb8)
  clear hb8 V7 M7 L7 I7 R7 F7 B7
  go_wp2_with fail
  refine (blocks_any ai ni ci _ (by omega)).mono ?_
  rintro e w9 ⟨rfl, rfl⟩
  rw [FD.out]
  obtain ⟨N, hN⟩ : ∃ N : Nat, ni / 64 = N := ⟨_, rfl⟩
  rw [hN]
  have HNN := Wc.hid hN
  clear hN
  go_wp2_with fail
  refine (refTree_any _ xs r _ V8.out HD.out).mono ?_
  rintro e w9 ⟨aw, nw, cw, an, nn, cn, rfl, hS9, hN9, hb9⟩
  rw [show (Wt.tre xs r).isSome = true by rw [HT.out]; rfl]
  have hnw : nw = 512 := by rw [← Wv.rv_len hS9]; exact HWL.out
  subst hnw
  have S9 := Wc.hid hS9
  have N9 := Wc.hid hN9
  have V9 := Wc.hid (V8.out.keep hb9)
  have M9 := Wc.hid (M8.out.keep hb9)
  have L9 := Wc.hid (L8.out.keep hb9)
  have I9 := Wc.hid (I8.out.keep hb9)
  have R9 := Wc.hid (R8.out.keep hb9)
  have B9 := Wc.hid (Wc.step B8.out (Nat.le_refl _) hb9)
  clear hS9 hN9
  clear hb9 V8 M8 L8 I8 R8 B8
  go_wp2_with fail
  refine (refMap_any _ m _ _ M9.out).mono ?_
  rintro e w10 ⟨rfl, rfl⟩
  rw [show Wt.mapE m (N : Int) = 0 from by rw [← HNN.out]; exact FM.out]
  go_wp2_with fail
  refine (build_nil ai ni ci r am cm xs m _ V9.out M9.out HE.out).mono ?_
  rintro e w10 ⟨hb10, z1, a1, n1, c1, a2, n2, c2, z2, rfl⟩
  have V10 := Wc.hid (V9.out.keep hb10)
  have M10 := Wc.hid (M9.out.keep hb10)
  have L10 := Wc.hid (L9.out.keep hb10)
  have S10 := Wc.hid (S9.out.keep hb10)
  have N10 := Wc.hid (N9.out.keep hb10)
  have I10 := Wc.hid (I9.out.keep hb10)
  have R10 := Wc.hid (R9.out.keep hb10)
  have B10 := Wc.hid (Wc.step B9.out (Nat.le_refl _) hb10)
  clear hb10 V9 M9 L9 S9 N9 I9 R9 B9
  go_wp2_with fail
  refine (free_any al nl cl am cm an nn cn aw cw l m (Wt.treN xs r) (Wt.treS xs r) N _ L10.out M10.out N10.out S10.out).mono ?_
  rintro e w11 ⟨rfl, hb11⟩
  rw [show Wb.usB l (Wt.treN xs r ++ Wt.treS xs r ++ m) N = true by rw [← HNN.out, ← HXL.out]; exact HU.out]
  have V11 := Wc.hid (V10.out.keep hb11)
  have M11 := Wc.hid (M10.out.keep hb11)
  have L11 := Wc.hid (L10.out.keep hb11)
  have B11 := Wc.hid (Wc.step B10.out (Nat.le_refl _) hb11)
  have I11 := Wc.hid (I10.out.keep hb11)
  have R11 := Wc.hid (R10.out.keep hb11)
  clear hb11
  go_wp2_with fail
  refine (refBuild_any ai ni ci r am 512 cm al nl cl xs m l _ V11.out M11.out L11.out HE.out HLR.out).mono ?_
  unfold RBPost
  rw [HND.out]
  rintro e w12 ⟨hb12, hy12, -⟩
  obtain ⟨ap, cp, aq, cq, rfl, hI12, hR12⟩ := hy12 HF.out
  have I12 := Wc.hid (I11.out.keep hb12)
  have R12 := Wc.hid (R11.out.keep hb12)
  have J12 := Wc.hid hI12
  have Q12 := Wc.hid hR12
  have B12 := Wc.hid (Wc.step B11.out (Nat.le_refl _) hb12)
  clear hb12 hy12 hI12 hR12
  go_wp2_with fail
  refine (ios_same _ _ _ _ _ _ _ I12.out J12.out).mono ?_
  rintro e w13 ⟨rfl, hb13⟩
  have R13 := Wc.hid (R12.out.keep hb13)
  have Q13 := Wc.hid (Q12.out.keep hb13)
  have B13 := Wc.hid (Wc.step B12.out (Nat.le_refl _) hb13)
  clear hb13
  go_wp2_with fail
  refine (ints_any _ _ _ _ _ R13.out Q13.out).mono ?_
  rintro e w14 ⟨rfl, hb14⟩
  rw [beq_self_eq_true]
  have B14 := Wc.hid (Wc.step B13.out (Nat.le_refl _) hb14)
  clear hb14
  go_wp2_with fail
  refine (wakes_any _).mono ?_
  rintro e w20 ⟨rfl, hb20⟩
  have B20 := Wc.hid (Wc.step B14.out (Nat.le_refl _) hb20)
  clear hb20
  go_wp2_with fail
  go_ret
  exact ⟨rfl, B20.out⟩

theorem exact_any (ai : Option Addr) (ni ci : Nat) (xs : List Int) (r : Int) (am : Option Addr) (nm cm : Nat) (m : List Int) (al : Option Addr) (nl cl : Nat) (l : List Int) (w : World) (hv : Wc.Bs w (.slice ai ni ci) xs) (hsh : Wc.Shaped (.slice ai ni ci)) (hm : Wd.In w (.slice am nm cm) m) (hms : Wv.Shaped (.slice am nm cm)) (hl : Wd.In w (.slice al nl cl) l) (hls : Wv.Shaped (.slice al nl cl)) (hn : ni ≤ 19200) (hm6 : nm ≤ 600) (hl3 : nl ≤ 300) :
    Calls Try.prog 3 #[.slice ai ni ci, .int .i64 r, .slice am nm cm, .slice al nl cl] w fun e w' => e = .returned (.bool true) ∧ Below w.heap.size w w' := by
  have e := And.intro hv (And.intro hsh (And.intro hm (And.intro hms (And.intro hl hls))))
  by_cases hE : Wb.begE xs r m = 0
  · cases hu : Wb.usB l (Wb.treN' xs r m) (xs.length / 64) with
    | false => exact exact_held ai ni ci xs r am nm cm m al nl cl l w hv hsh hm hms hl hls hn hm6 hl3 hE hu
    | true =>
      by_cases hf : Wb.needN xs r m ≤ l.length
      · exact exact_yes ai ni ci xs r am nm cm m al nl cl l w hv hsh hm hms hl hls hn hm6 hl3 hE hu hf
      · exact exact_few ai ni ci xs r am nm cm m al nl cl l w hv hsh hm hms hl hls hn hm6 hl3 hE hu (by omega)
  · cases hd : Wd.devB xs.length with
    | false => exact exact_dev ai ni ci xs r am nm cm m al nl cl l w hv hsh hm hms hl hls hn hm6 hl3 hd
    | true =>
      cases ht : Wt.tre xs r with
      | none => exact exact_none ai ni ci xs r am nm cm m al nl cl l w hv hsh hm hms hl hls hn hm6 hl3 hd ht
      | some t => exact exact_map ai ni ci xs r am nm cm m al nl cl l w hv hsh hm hms hl hls hn hm6 hl3 hd t ht hE
end Go.Proofs.Ytafpjnofccfmlaa
