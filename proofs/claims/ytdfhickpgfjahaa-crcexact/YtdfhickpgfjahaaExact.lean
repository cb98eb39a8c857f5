/-
  The walk of the law CrcExact: for every slice of bytes and every int it returns true and turns nothing that was there.
-/
import Derived.Test.YtdfhickpgfjahaaRefGood
namespace Go.Proofs.Ytdfhickpgfjahaa
open Go.RowKit

set_option maxHeartbeats 400000 in
theorem crcExact_long (a : Option Addr) (n cap : Nat) (s : Int) (w : World) (hn : 600 < n) :
    Calls Try.prog 3 #[.slice a n cap, .int .i64 s] w fun e w' => e = .returned (.bool true) ∧ Below w.heap.size w w' := by
  go_enter Try.func3, Try.ntmps3
  go_wp2
  go_ret
  exact ⟨rfl, Below.refl _ _⟩

set_option maxHeartbeats 400000 in
theorem crcExact_any (a : Option Addr) (n cap : Nat) (xs : List Int) (s : Int) (w : World) (hn : n ≤ 600) (hv : Wc.Bs w (.slice a n cap) xs) (hs : Wc.Shaped (.slice a n cap)) :
    Calls Try.prog 3 #[.slice a n cap, .int .i64 s] w fun e w' => e = .returned (.bool true) ∧ Below w.heap.size w w' := by
  have HV := Wc.hid hv
  clear hv
  go_enter Try.func3, Try.ntmps3
  go_wp2_with fail
  refine (twin_any _ xs _ HV.out hs).mono ?_
  rintro e w1 ⟨x, rfl, hx, hb1⟩
  have HX := Wc.hid hx
  have HV1 := Wc.hid (HV.out.keep hb1)
  clear hx
  go_wp2_with fail
  refine (sum_any _ xs _ HX.out).mono ?_
  rintro e w2 ⟨rfl, rfl⟩
  go_wp2_with fail
  refine (refSum_any _ xs _ HV1.out).mono ?_
  rintro e w2 ⟨rfl, rfl⟩
  go_wp2_with fail
  refine (more_any _ _ xs _ HX.out).mono ?_
  rintro e w2 ⟨rfl, rfl⟩
  go_wp2_with fail
  refine (refMore_any _ _ xs _ HV1.out).mono ?_
  rintro e w2 ⟨rfl, rfl⟩
  go_wp2_with fail
  refine (good_any _ xs _ HX.out).mono ?_
  rintro e w2 ⟨rfl, rfl⟩
  go_wp2_with fail
  refine (refGood_any _ xs _ HV1.out).mono ?_
  rintro e w2 ⟨rfl, hb2⟩
  have HX2 := Wc.hid (HX.out.keep hb2)
  have HV2 := Wc.hid (HV1.out.keep hb2)
  have hb2' := Wc.step hb1 (Nat.le_refl _) hb2
  clear hb2
  go_wp2_with fail
  refine (bytes_any _ _ xs xs _ HX2.out HV2.out).mono ?_
  rintro e w3 ⟨rfl, hb3⟩
  rw [beq_self_eq_true]
  go_wp2_with fail
  refine (wakes_any _).mono ?_
  rintro e w4 ⟨rfl, hb4⟩
  go_wp2_with fail
  go_ret
  exact ⟨rfl, Wc.step (Wc.step hb2' (Nat.le_refl _) hb3) (Nat.le_refl _) hb4⟩
#print axioms crcExact_any
end Go.Proofs.Ytdfhickpgfjahaa
