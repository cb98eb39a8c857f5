/-
  TreeBent returns true where a root leads to one node twice.
-/
import Derived.Test.YtifjbmknghjohaaVe
import Derived.Test.YtifjbmknghjohaaVb
namespace Go.Proofs.Ytifjbmknghjohaa
open Go.RowKit

theorem one_stepI {n q : Nat} {p : Int} {X : List Int} (hp : p = (q : Int)) (hd : Wd.devB n = true) (hq : q < n / 64) (hX : X.length = 64) : Wd.stepsE n [⟨1, p, X⟩] = 0 := by
  subst hp; exact one_step hd hq hX

theorem app_putI (xs : List Int) {q : Nat} {p : Int} (hp : p = (q : Int)) (n : Wn.Nod) : Wd.app xs [⟨1, p, Wn.blk n⟩] = Wt.put xs q n := by
  subst hp; exact app_put xs q n

set_option maxRecDepth 100000 in
set_option maxHeartbeats 6400000 in
theorem bent_twice (p s how c : Int) (w : World) (eH : (IntKind.u64.wrap how).tmod 5 = 4) :
    Calls Try.prog 5 #[.int .i64 p, .int .i64 s, .int .i64 how, .int .u8 c] w fun e w' => e = .returned (.bool true) ∧ Below w.heap.size w w' := by
  obtain ⟨A, hA, eA⟩ := lowA p 7 2 (by omega) (by omega) (by omega)
  obtain ⟨S, hS, eS⟩ := lowN s 512 (by omega) (by omega)
  have eA' : wrap64 (2 + wrap64 ((IntKind.u64.wrap p).tmod 7)) = (A : Int) := eA
  have eS' : wrap64 ((IntKind.u64.wrap s).tmod 512) = (S : Int) := eS
  clear eA eS
  obtain ⟨mc, hmk⟩ := made512
  have HMK := Wc.hid hmk
  clear hmk
  obtain ⟨xs, hx⟩ : ∃ xs, Wt.ch 14 A S 13 3 = xs := ⟨_, rfl⟩
  obtain ⟨R, hR⟩ : ∃ R, R = ((A + 2 : Nat) : Int) := ⟨_, rfl⟩
  have HX := Wc.hid hx
  have HR := Wc.hid hR
  have EA := Wc.hid eA'
  have ES := Wc.hid eS'
  have EH := Wc.hid eH
  clear hx hR eA' eS' eH
  go_enter Try.func5, Try.ntmps5
  go_wp2_with fail
  rw [EA.out, ES.out]
  clear EA ES
  refine (chain_bs 14 A S 13 896 xs R 14 _ rfl HX.out HR.out (by omega) (by omega) (by omega) hS (by omega) (by omega) (by omega)).mono ?_
  rintro e w1 ⟨g, rfl, hO1, hb1⟩
  have hR0 : (R == 0) = false := by have := HR.out; simp; omega
  have eH := EH.out
  have O1 := Wc.hid hO1
  have B1 := Wc.hid hb1
  clear hO1 hb1
  go_wp2_with fail
  have al := (Below.refl w1.heap.size w1).alloc (Nat.le_refl _) (.cells #[.int .i64 2, .int .i64 ((A : Int) + 1), .int .i64 ((A : Int) + 1), .int .i64 0, .int .i64 0, .int .i64 0, .int .i64 0, .int .i64 0, .int .i64 0] 47)
  have HN : Hid (Wn.nodB (Wt.two ((A : Int) + 1)) = true) := Wc.hid (Wt.two_ok (by omega))
  refine (bytes7_ok (Wt.two ((A : Int) + 1)) _ HN.out).mono ?_
  rintro e w2 ⟨g2, rfl, hg2, hr2, hb2⟩
  have HT : Hid (Wt.put xs (A + 2) (Wt.two ((A : Int) + 1)) = Wt.put xs (A + 2) (Wt.two ((A + 1 : Nat) : Int))) := Wc.hid (by rw [show ((A + 1 : Nat) : Int) = (A : Int) + 1 by omega])
  obtain ⟨n, hn⟩ : ∃ n, Wt.two ((A : Int) + 1) = n := ⟨_, rfl⟩
  rw [hn] at hr2 HT
  have X2 := Wc.hid (hr2.bs (Wn.blk_length n) (Wn.blk_bd n))
  have O2 := Wc.hid ((O1.out.keep al).keep hb2)
  have B2 := Wc.hid (Wc.step (Wc.step B1.out (Nat.le_refl _) al) (Nat.le_refl _) hb2)
  clear al hn hr2 hb2 hg2 O1 B1 HN
  go_wp2_with fail
  refine (apply_ob _ _ _ _ _ _ xs [⟨1, R, Wn.blk n⟩] _ (O2.out.bs.alloc _) (one_is w2 _ 64 52 _ _ X2.out (.inr ⟨_, _, _, rfl⟩) _ rfl) (one_stepI HR.out (by decide) (by omega) (Wn.blk_length n))).mono ?_
  rintro e w3 ⟨g3, rfl, hg3, hO3, hb3⟩
  rw [app_putI xs HR.out, HT.out] at hO3
  obtain ⟨ys, hy⟩ : ∃ ys, Wt.put xs (A + 2) (Wt.two ((A + 1 : Nat) : Int)) = ys := ⟨_, rfl⟩
  rw [hy] at hO3
  have V1 := Wc.hid hO3.bs
  have B1 := Wc.hid (Wc.step (Wc.step B2.out (Nat.le_refl _) ((Below.refl w2.heap.size w2).alloc (Nat.le_refl _) _)) (Nat.le_refl _) hb3)
  have hno : Wt.tre ys R = none := by
    rw [HR.out, ← hy, ← HX.out]
    exact Wt.tre_twice (by omega) (by omega) (by omega) hS (by omega) (by omega)
  have hdev : Wd.devB ys.length = true := by rw [Wc.bs_len hO3.bs]; decide
  obtain ⟨f1, f2, f3, z, f4, f5⟩ := bent_facts ys R hdev hno
  have F1 := Wc.hid f1
  have F2 := Wc.hid f2
  have F3 := Wc.hid f3
  have F4 := Wc.hid f4
  have F5 := Wc.hid f5
  clear f1 f2 f3 f4 f5 hno hdev hO3 hb3 hg3 O2 B2 X2 HT hy HX EH
  go_wp2_with fail
  clear eH hR0
  refine (map_any _ ys R _ V1.out).mono ?_
  rintro e t2 ⟨a2, n2, c2, rfl, hI2, hb2⟩
  rw [F1.out]
  rw [F2.out] at hI2
  have hn2 : n2 = 0 := (Wv.rv_len hI2).symm
  subst hn2
  have V2 := Wc.hid (V1.out.keep hb2)
  have B2 := Wc.hid (Wc.step B1.out (Nat.le_refl _) hb2)
  clear hI2 hb2 V1 B1
  go_wp2_with fail
  refine (nodes_any _ ys R _ V2.out).mono ?_
  rintro e t3 ⟨a3, n3, c3, rfl, -, hb3⟩
  rw [F1.out]
  have V3 := Wc.hid (V2.out.keep hb3)
  have B3 := Wc.hid (Wc.step B2.out (Nat.le_refl _) hb3)
  clear hb3 V2 B2
  go_wp2_with fail
  refine (map_any _ ys 0 _ V3.out).mono ?_
  rintro e t4 ⟨a4, n4, c4, rfl, hI4, hb4⟩
  rw [F3.out]
  rw [F4.out] at hI4
  have M4 := Wc.hid hI4
  have B4 := Wc.hid (Wc.step B3.out (Nat.le_refl _) hb4)
  clear hI4 hb4 V3 B3
  have hmk' := HMK.out.1
  go_wp2_with fail
  clear hmk'
  have al := (Below.refl t4.heap.size t4).alloc (Nat.le_refl _) (.cells mc 3)
  have IL := ints_any _ _ z z _ (M4.out.keep al) (made_in mc HMK.out.2 z F5.out t4)
  rw [show (z == z) = true from beq_self_eq_true z] at IL
  have B5 := Wc.hid (Wc.step B4.out (Nat.le_refl _) al)
  clear M4 B4 al
  refine IL.mono ?_
  clear IL
  rintro e t5 ⟨rfl, hb5⟩
  have B6 := Wc.hid (Wc.step B5.out (Nat.le_refl _) hb5)
  clear hb5 B5
  go_wp2_with fail
  refine (wakes_any _).mono ?_
  rintro e t6 ⟨rfl, hb6⟩
  have B7 := Wc.hid (Wc.step B6.out (Nat.le_refl _) hb6)
  clear hb6 B6
  go_wp2_with fail
  go_ret
  exact ⟨rfl, B7.out⟩

end Go.Proofs.Ytifjbmknghjohaa
