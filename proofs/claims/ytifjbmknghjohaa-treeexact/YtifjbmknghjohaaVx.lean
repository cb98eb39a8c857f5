/-
  What dev.Apply leaves is memory of the call's own; what Chain returns.
-/
import Derived.Test.YtifjbmknghjohaaVc
import Derived.Test.YtifjbmknghjohaaNbyt
import Derived.Deep.Cut
namespace Go.Proofs.Ytifjbmknghjohaa
open Go.RowKit

set_option maxHeartbeats 1600000 in
theorem apply_ob (ai : Option Addr) (ni ci : Nat) (a : Option Addr) (n cap : Nat) (xs : List Int) (l : List Wd.Io) (w : World) (hv : Wc.Bs w (.slice ai ni ci) xs) (hI : Wd.Is w (.slice a n cap) l) (hz : Wd.stepsE ni l = 0) :
    Calls Try.prog 22 #[.slice ai ni ci, .slice a n cap] w fun e w' => ∃ g, e = .returned (.tuple #[.slice (some ⟨g, 0, none⟩) ni ni, .int .i64 0]) ∧ w.heap.size ≤ g ∧ Wc.Ob 5 w.heap.size w' (.slice (some ⟨g, 0, none⟩) ni ni) (Wd.app xs l) ∧ Below w.heap.size w w' := by
  have hni : ni ≤ 140737488355328 := by obtain ⟨_, _, _, h1, _, _, _, h5, _⟩ := hv; cases h1; exact h5
  have hl := Wc.bs_len hv
  have HV := Wc.hid hv
  have HI := Wc.hid hI
  have HZ := Wc.hid hz
  clear hv hI
  have HL := Wc.hid hl
  clear hl
  go_enter Try.func22, Try.ntmps22
  go_wp2_with fail
  refine (steps_any _ _ _ _ _ _ l _ hni HI.out).mono ?_
  rintro e w1 ⟨rfl, hb1⟩
  rw [hz]
  go_wp2_with fail
  refine (copied_any _ _ _ xs _ (HV.out.keep hb1)).mono ?_
  rintro e w2 ⟨g, rfl, hg, hO, hb2⟩
  have HO := Wc.hid hO
  have hst := Wd.stepsE_zero HZ.out
  have hd := Wd.devB_iff.1 hst.1
  have HI1 := Wc.hid (HI.out.keep hb1)
  have HST := Wc.hid hst.2.2
  have HD := Wc.hid hd
  have HB1 := Wc.hid hb1
  have HBB := Wc.hid hb2
  have HG := Wc.hid hg
  clear hO hst hd hb2 hb1 hg
  go_wp2_with fail
  refine (writeAll_any w1 w2 g ni ni (ni / 64) a n cap xs l (by have := HD.out; omega) (by have := HD.out; omega) HBB.out HO.out HI1.out HST.out).mono ?_
  rintro e w3 ⟨rfl, hO3, hb3⟩
  go_wp2_with fail
  go_ret2
  have hsz := HB1.out.size
  exact ⟨g, rfl, by have := HG.out; omega, hO3.base hsz, Wc.step HB1.out (Nat.le_refl _) hb3⟩

/-- One step that writes, in memory. -/
theorem one_is (w : World) (a1 : Option Addr) (c1 T : Nat) (p : Int) (X : List Int) (hX : Wc.Bs w (.slice a1 64 c1) X) (s1 : Wc.Shaped (.slice a1 64 c1)) (g : Nat) (hg : g = w.heap.size) :
    Wd.Is (w.alloc (.cells #[.int .i64 1, .int .i64 p, .slice a1 64 c1] T)) (.slice (some ⟨g, 0, none⟩) 1 1) [⟨1, p, X⟩] := by
  subst hg
  have l1 := Wc.bs_len hX
  have hb := (Below.refl w.heap.size w).alloc (Nat.le_refl _) (.cells #[.int .i64 1, .int .i64 p, .slice a1 64 c1] T)
  refine ⟨_, 1, 1, rfl, rfl, Nat.le_refl _, by omega, by omega, fun _ => ⟨w.heap.size, 0, rfl, by simp, fun i hi => ?_⟩⟩
  match i, hi with
  | 0, _ => exact ⟨a1, c1, by simp, by simp, by simp [l1], by simpa [l1] using hX.keep hb, by simpa [l1] using s1⟩

theorem one_step {n : Nat} {p : Nat} {X : List Int} (hd : Wd.devB n = true) (hp : p < n / 64) (hX : X.length = 64) : Wd.stepsE n [⟨1, (p : Int), X⟩] = 0 := by
  have h1 : Wd.okIo ((n : Int) / 64) ⟨1, (p : Int), X⟩ = true := Wd.rightB_iff.2 (.inl ⟨rfl, show (0 : Int) ≤ p by omega, show (p : Int) < (n : Int) / 64 by omega, hX⟩)
  refine Wd.stepsE_ok hd (show 1 ≤ 1048576 by omega) ?_
  rw [List.all_cons, h1]; rfl

theorem app_put (xs : List Int) (p : Nat) (n : Wn.Nod) : Wd.app xs [⟨1, (p : Int), Wn.blk n⟩] = Wt.put xs p n := by
  show Wd.lay _ ((p : Int).toNat * 64) _ = _
  rw [Int.toNat_natCast]; rfl

end Go.Proofs.Ytifjbmknghjohaa
