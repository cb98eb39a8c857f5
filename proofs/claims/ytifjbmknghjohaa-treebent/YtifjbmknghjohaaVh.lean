/-
  TreeBent returns true, for every three ints and every byte.
-/
import Derived.Test.YtifjbmknghjohaaVg
namespace Go.Proofs.Ytifjbmknghjohaa
open Go.RowKit

theorem treeBent_any (p s how c : Int) (w : World) (hc : 0 ≤ c ∧ c < 256) :
    Calls Try.prog 5 #[.int .i64 p, .int .i64 s, .int .i64 how, .int .u8 c] w fun e w' => e = .returned (.bool true) ∧ Below w.heap.size w w' := by
  have h : (IntKind.u64.wrap how).tmod 5 = 0 ∨ (IntKind.u64.wrap how).tmod 5 = 1 ∨ (IntKind.u64.wrap how).tmod 5 = 2 ∨ (IntKind.u64.wrap how).tmod 5 = 3 ∨ (IntKind.u64.wrap how).tmod 5 = 4 := by
    rw [IntKind.wrap_u64, Int.tmod_eq_emod_of_nonneg (by omega)]
    omega
  rcases h with h | h | h | h | h
  · exact bent_level p s how c w h
  · exact bent_far p s how c w h
  · exact bent_slot p s how c w h
  · by_cases h0 : c = 0
    · exact bent_none p s how c w h h0
    · exact bent_byte p s how c w h c.toNat (by omega) (by omega) (by omega)
  · exact bent_twice p s how c w h

end Go.Proofs.Ytifjbmknghjohaa
