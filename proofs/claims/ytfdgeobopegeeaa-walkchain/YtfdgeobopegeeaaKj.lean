/-
  WalkChain returns true, for every three ints.
-/
import Derived.Test.YtfdgeobopegeeaaKh
import Derived.Test.YtfdgeobopegeeaaKw
namespace Go.Proofs.Ytfdgeobopegeeaa
open Go.RowKit

theorem lowN (i : Int) (m : Nat) (h0 : 0 < m) (h : (m : Int) ≤ 9223372036854775807) : ∃ A : Nat, A < m ∧ wrap64 ((IntKind.u64.wrap i).tmod (m : Int)) = (A : Int) := by
  rw [IntKind.wrap_u64, Int.tmod_eq_emod_of_nonneg (by omega)]
  have h1 := Int.emod_nonneg (i % 18446744073709551616) (b := (m : Int)) (by omega)
  have h2 := Int.emod_lt_of_pos (i % 18446744073709551616) (b := (m : Int)) (by omega)
  exact ⟨((i % 18446744073709551616) % (m : Int)).toNat, by omega, by unfold wrap64; omega⟩
theorem lowA (i : Int) (m : Int) (k : Nat) (h0 : 0 < m) (h : m ≤ 4096) (hk : k ≤ 4096) : ∃ A : Nat, (k ≤ A ∧ (A : Int) < m + k) ∧ wrap64 ((k : Int) + wrap64 ((IntKind.u64.wrap i).tmod m)) = (A : Int) := by
  obtain ⟨q, rfl⟩ : ∃ q : Nat, m = q := ⟨m.toNat, by omega⟩
  obtain ⟨A, hA, e⟩ := lowN i q (by omega) (by omega)
  exact ⟨k + A, by omega, by rw [e]; unfold wrap64; omega⟩

theorem chain_bs (b a s d N : Nat) (xs : List Int) (R B dI : Int) (w : World) (hB : B = b) (hdI : dI = d) (hx : Wt.ch b a s d 3 = xs) (hR : R = ((a + 2 : Nat) : Int)) (ha : 2 ≤ a) (hb : a + 3 ≤ b) (hb2 : b ≤ 4096) (hs : s < 512) (hd : 2 ≤ d) (hd2 : d < b) (hN : b * 64 = N) :
    Calls Try.prog 19 #[.int .i64 B, .int .i64 a, .int .i64 s, .int .i64 dI] w fun e w' => ∃ g, e = .returned (.tuple #[.slice (some ⟨g, 0, none⟩) N N, .int .i64 R]) ∧ Wc.Ob 5 w.heap.size w' (.slice (some ⟨g, 0, none⟩) N N) xs ∧ Below w.heap.size w w' := by
  subst hB hR hx hdI
  exact chain_any b a s d N w ha hb hb2 hs hd (by omega) hN
theorem recs_bs (n a N : Nat) (ys : List Int) (B I : Int) (w : World) (hB : B = (20 : Nat)) (hI : I = 1) (hx : Wi.rcX 20 a n (Wi.fr n a 1) = ys) (ha : 2 ≤ a) (h : a + n ≤ 20) (hN : 20 * 64 = N) :
    Calls Try.prog 22 #[.int .i64 B, .int .i64 (a : Int), .int .i64 (n : Int), .int .i64 I] w fun e w' => ∃ g, e = .returned (.slice (some ⟨g, 0, none⟩) N N) ∧ Wc.Ob 5 w.heap.size w' (.slice (some ⟨g, 0, none⟩) N N) ys ∧ Below w.heap.size w w' := by
  subst hB hI hx
  exact lrecs_any 20 a n N 1 w (by omega) (by omega) ha h (by omega) (by omega) (by omega) hN
theorem tzX_app (b a s d z : Nat) (xs : List Int) (hx : Wt.ch b a s d 3 = xs) : Wd.app xs [⟨1, 0, Ws.blk (Wi.tzS b a z)⟩] = Wi.tzX b a s d z := by
  subst hx
  rfl
theorem tzS_v (a : Nat) (R : Int) (hR : R = ((a + 2 : Nat) : Int)) : sv (Wi.tzS 20 a 512) = .agg #[.int .i64 1, .int .i64 20, .int .i64 R, .int .i64 512, .int .i64 0] := by
  subst hR; rfl
theorem nought_of {n : Nat} {X : List Int} (hd : Wd.devB n = true) (hp : 0 < n / 64) (hX : X.length = 64) : Wd.stepsE n [⟨1, 0, X⟩] = 0 := one_step (p := 0) hd hp hX

set_option maxRecDepth 100000 in
set_option maxHeartbeats 6400000 in
theorem walkChain_a (p s r : Int) (A S K : Nat) (w : World) (eA : wrap64 (2 + wrap64 ((IntKind.u64.wrap p).tmod 5)) = (A : Int)) (eS : wrap64 ((IntKind.u64.wrap s).tmod 512) = (S : Int)) (eK : wrap64 ((IntKind.u64.wrap r).tmod 5) = (K : Int))
   (hA : 2 ≤ A ∧ A < 7) (hS : S < 512) (hK : K < 5) :
    Calls Try.prog 5 #[.int .i64 p, .int .i64 s, .int .i64 r] w fun e w' => e = .returned (.bool true) ∧ Below w.heap.size w w' := by
  obtain ⟨xs, hx⟩ : ∃ xs, Wt.ch 20 A S 15 3 = xs := ⟨_, rfl⟩
  obtain ⟨R, hR⟩ : ∃ R, R = ((A + 2 : Nat) : Int) := ⟨_, rfl⟩
  have HX := Wc.hid hx
  have HR := Wc.hid hR
  have EA := Wc.hid eA
  have ES := Wc.hid eS
  have EK := Wc.hid eK
  clear hx hR eA eS eK
  go_enter Try.func5, Try.ntmps5
  go_wp2_with fail
  rw [EA.out, ES.out, EK.out]
  clear EA ES EK
  refine (chain_bs 20 A S 15 1280 xs R 20 15 _ rfl rfl HX.out HR.out (by omega) (by omega) (by omega) hS (by omega) (by omega) (by omega)).mono ?_
  rintro e w1 ⟨g, rfl, hO1, hb1⟩
  have O1 := Wc.hid hO1
  have B1 := Wc.hid hb1
  have HSB := Wc.hid (Wi.tzS_ok (b := 20) (a := A) (z := 512) (by omega) (by omega) (by omega) (by omega))
  have HSV := Wc.hid (tzS_v A R HR.out)
  clear hO1 hb1
  go_wp2_with fail
  rw [← HSV.out]
  refine (bytes6_ok (Wi.tzS 20 A 512) _ HSB.out).mono ?_
  rintro e w2 ⟨g2, rfl, hg2, hr2, hb2'⟩
  obtain ⟨X, hXe⟩ : ∃ X, Ws.blk (Wi.tzS 20 A 512) = X := ⟨_, rfl⟩
  have hXl : X.length = 64 := by rw [← hXe]; exact Ws.blk_length _
  have hX := hr2.bs (Ws.blk_length _) (Ws.blk_bd _)
  rw [hXe] at hX
  have HXV := Wc.hid hX
  have HXL := Wc.hid hXl
  have HXE := Wc.hid hXe
  have O2 := Wc.hid (O1.out.keep hb2')
  have B2 := Wc.hid (Wc.step B1.out (Nat.le_refl _) hb2')
  clear hr2 hb2' O1 B1 hg2 hXl hX hXe
  go_wp2_with fail
  refine (apply_ob _ _ _ _ _ _ xs [⟨1, 0, X⟩] _ (O2.out.bs.alloc _) (one_is w2 _ 64 59 _ _ HXV.out (.inr ⟨_, _, _, rfl⟩) _ rfl) (nought_of (by decide) (by decide) HXL.out)).mono ?_
  rintro e w3 ⟨g3, rfl, hg3, hO3, hb3⟩
  rw [← HXE.out, tzX_app 20 A S 15 512 xs HX.out] at hO3
  obtain ⟨ys, hy⟩ : ∃ ys, Wi.tzX 20 A S 15 512 = ys := ⟨_, rfl⟩
  rw [hy] at hO3
  have hc := tzX_cnt (b := 20) (a := A) (s := S) (d := 15) (z := 512) (by omega) (by omega) (by omega) (by omega) (by omega) (by omega) (by omega) (by omega)
  rw [hy] at hc
  have C1 := Wc.hid hc.1
  have C2 := Wc.hid hc.2.1
  have C3 := Wc.hid hc.2.2
  have O3 := Wc.hid hO3
  have B3 := Wc.hid (Wc.step (Wc.step B2.out (Nat.le_refl _) ((Below.refl w2.heap.size w2).alloc (Nat.le_refl _) _)) (Nat.le_refl _) hb3)
  clear hO3 hb3 hg3 O2 B2 HXV HXL HXE hy hc
  go_wp2_with fail
  refine (counts_any _ ys _ O3.out.bs).mono ?_
  rintro e w4 ⟨hb4, hcy, -⟩
  obtain ⟨gc, rfl, hgc, hC⟩ := hcy C1.out
  rw [C2.out] at hC ⊢
  rw [C3.out] at hC
  have B4 := Wc.hid (Wc.step B3.out (Nat.le_refl _) hb4)
  have O4 := Wc.hid (O3.out.keep hb4)
  have HC4 := Wc.hid hC
  clear hb4 hcy hgc hC
  go_wp2_with fail
  refine (used_any _ ys _ O4.out.bs).mono ?_
  rintro e w5 ⟨hb5, huy, -⟩
  obtain rfl := huy C1.out
  have hu : Wj.usedN (cnt ys) (ys.length / 64) = 6 := by rw [C2.out, C3.out]; exact used_one A hA.2 hA.1
  rw [hu]
  have B5 := Wc.hid (Wc.step B4.out (Nat.le_refl _) hb5)
  have HC5 := Wc.hid (row_keep HC4.out hb5)
  clear huy hb5 hu
  go_wp2_with fail
  obtain ⟨zs, hz⟩ : ∃ zs, Wi.rcX 20 A K (Wi.fr K A 1) = zs := ⟨_, rfl⟩
  have hcr := rcX_cnt (a := A) (n := K) (by omega) (by omega) (by omega)
  rw [hz] at hcr
  have R1 := Wc.hid hcr.1
  have R2 := Wc.hid hcr.2.1
  have R3 := Wc.hid hcr.2.2
  refine (recs_bs K A 1280 zs 20 1 _ rfl rfl hz (by omega) (by omega) (by omega)).mono ?_
  rintro e w6 ⟨g6, rfl, hO6, hb6⟩
  have O6 := Wc.hid hO6
  have B6 := Wc.hid (Wc.step B5.out (Nat.le_refl _) hb6)
  have HC6 := Wc.hid (row_keep HC5.out hb6)
  clear hz hcr hO6 hb6
  go_wp2_with fail
  refine (used_any _ zs _ O6.out.bs).mono ?_
  rintro e w7 ⟨hb7, huy, -⟩
  obtain rfl := huy R1.out
  have hu : Wj.usedN (cnt zs) (zs.length / 64) = 2 + K := by rw [R2.out, R3.out]; exact used_recs A hA.2 K hK hA.1
  rw [hu]
  have B7 := Wc.hid (Wc.step B6.out (Nat.le_refl _) hb7)
  have HC7 := Wc.hid (row_keep HC6.out hb7)
  have hsum : wrap64 (2 + (K : Int)) = ((2 + K : Nat) : Int) := by unfold wrap64; omega
  clear huy hb7 hu
  go_wp2_with fail
  go_loopw [19] (fun i wr => ∃ k : Nat, i = .int .i64 k ∧ k ≤ 20 ∧ w7 = wr) (fun i _ => 20 - (intOf i).toNat)
  case atStart => exact ⟨0, rfl, by omega, rfl⟩
  case round =>
    obtain ⟨k, rfl, hk, rfl⟩ := hrel
    have e3 : wrap64 ((A : Int) + 3) = ((A + 3 : Nat) : Int) := by unfold wrap64; omega
    by_cases hlt : k < 20
    · have hc := World.rowIs.cell HC7.out hlt
      rw [count_one A hA.2 hA.1 k hlt] at hc
      by_cases k2 : k < 2
      · rw [if_pos (.inl k2)] at hc
        go_wp2_with fail
        go_roundw
        case rel => exact ⟨k + 1, by go_num, by omega, trivial⟩
        case measure => simp [intOf]; omega
      · by_cases kA : A ≤ k
        · by_cases kB : k < A + 3
          · rw [if_pos (.inr (.inl ⟨kA, kB⟩))] at hc
            go_wp2_with fail
            go_roundw
            case rel => exact ⟨k + 1, by go_num, by omega, trivial⟩
            case measure => simp [intOf]; omega
          · by_cases k15 : k = 15
            · rw [if_pos (.inr (.inr k15))] at hc
              subst k15
              go_wp2_with fail
              go_roundw
              case rel => exact ⟨15 + 1, by go_num, by omega, trivial⟩
              case measure => first | (simp [intOf]; done) | (simp [intOf]; omega)
            · rw [if_neg (by omega)] at hc
              have k15b : ((k : Int) == 15) = false := by rw [beq_eq_false_iff_ne]; omega
              go_wp2_with fail
              go_roundw
              case rel => exact ⟨k + 1, by go_num, by omega, trivial⟩
              case measure => simp [intOf]; omega
        · rw [if_neg (by omega)] at hc
          have k15b : ((k : Int) == 15) = false := by rw [beq_eq_false_iff_ne]; omega
          go_wp2_with fail
          go_roundw
          case rel => exact ⟨k + 1, by go_num, by omega, trivial⟩
          case measure => simp [intOf]; omega
    · obtain rfl : k = 20 := by omega
      go_wp2_with fail
      refine (wakes_any _).mono ?_
      rintro e w8 ⟨rfl, hb8⟩
      have B8 := Wc.hid (Wc.step B7.out (Nat.le_refl _) hb8)
      clear hb8
      go_wp2_with fail
      go_ret
      exact ⟨rfl, B8.out⟩

theorem walkChain_any (p s r : Int) (w : World) : Calls Try.prog 5 #[.int .i64 p, .int .i64 s, .int .i64 r] w fun e w' => e = .returned (.bool true) ∧ Below w.heap.size w w' := by
  obtain ⟨A, hA, eA⟩ := lowA p 5 2 (by omega) (by omega) (by omega)
  obtain ⟨S, hS, eS⟩ := lowN s 512 (by omega) (by omega)
  obtain ⟨K, hK, eK⟩ := lowN r 5 (by omega) (by omega)
  exact walkChain_a p s r A S K w eA eS eK ⟨hA.1, by omega⟩ hS hK
end Go.Proofs.Ytfdgeobopegeeaa
