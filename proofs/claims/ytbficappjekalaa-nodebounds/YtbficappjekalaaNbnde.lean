/-
  NodeBounds returns true, for every three ints.
-/
import Derived.Test.YtbficappjekalaaNbnd
import Derived.Test.YtbficappjekalaaNbndb
import Derived.Test.YtbficappjekalaaNbndc
import Derived.Test.YtbficappjekalaaNbndd
namespace Go.Proofs.Ytbficappjekalaa
open Go.RowKit

theorem nodeBounds_any (i p l : Int) (w : World) :
    Calls Try.prog 6 #[.int .i64 i, .int .i64 p, .int .i64 l] w fun e w' => e = .returned (.bool true) ∧ Below w.heap.size w w' := by
  obtain ⟨A, ⟨hA0, hA1⟩, eA⟩ := Wc.low 8 i (by omega) (by omega)
  obtain ⟨P, ⟨hP0, hP1⟩, eP⟩ := Wc.low 4099 p (by omega) (by omega)
  obtain ⟨L, ⟨hL0, hL1⟩, eL⟩ := Wc.low 4 l (by omega) (by omega)
  obtain ⟨I, rfl⟩ := Int.eq_ofNat_of_zero_le hA0
  have hI : I < 8 := by omega
  have hB := bn_nod L P I hI hL0 hP0
  by_cases h1 : P = 1
  · have b1 : (P != 1) = false := by simpa using h1
    have e : mayB L P = false := by simp [mayB, h1]
    rw [e] at hB
    rcases Wn.below8 hI with rfl | rfl | rfl | rfl | rfl | rfl | rfl | rfl
    · exact nodeBounds_0a i p l P L _ w eA eP eL hP0 hP1 hL0 hL1 rfl b1 hB
    · exact nodeBounds_1a i p l P L _ w eA eP eL hP0 hP1 hL0 hL1 rfl b1 hB
    · exact nodeBounds_2a i p l P L _ w eA eP eL hP0 hP1 hL0 hL1 rfl b1 hB
    · exact nodeBounds_3a i p l P L _ w eA eP eL hP0 hP1 hL0 hL1 rfl b1 hB
    · exact nodeBounds_4a i p l P L _ w eA eP eL hP0 hP1 hL0 hL1 rfl b1 hB
    · exact nodeBounds_5a i p l P L _ w eA eP eL hP0 hP1 hL0 hL1 rfl b1 hB
    · exact nodeBounds_6a i p l P L _ w eA eP eL hP0 hP1 hL0 hL1 rfl b1 hB
    · exact nodeBounds_7a i p l P L _ w eA eP eL hP0 hP1 hL0 hL1 rfl b1 hB
  · have b1 : (P != 1) = true := by simpa using h1
    by_cases h2 : P < 4096
    · have b2 : decide (P < 4096) = true := by simpa using h2
      by_cases h3 : L < 3
      · have b3 : decide (L < 3) = true := by simpa using h3
        have e : mayB L P = true := by simp [mayB, h1, h2, h3]
        rw [e] at hB
        rcases Wn.below8 hI with rfl | rfl | rfl | rfl | rfl | rfl | rfl | rfl
        · exact nodeBounds_0y i p l P L _ w eA eP eL hP0 hP1 hL0 hL1 rfl b1 b2 b3 hB
        · exact nodeBounds_1y i p l P L _ w eA eP eL hP0 hP1 hL0 hL1 rfl b1 b2 b3 hB
        · exact nodeBounds_2y i p l P L _ w eA eP eL hP0 hP1 hL0 hL1 rfl b1 b2 b3 hB
        · exact nodeBounds_3y i p l P L _ w eA eP eL hP0 hP1 hL0 hL1 rfl b1 b2 b3 hB
        · exact nodeBounds_4y i p l P L _ w eA eP eL hP0 hP1 hL0 hL1 rfl b1 b2 b3 hB
        · exact nodeBounds_5y i p l P L _ w eA eP eL hP0 hP1 hL0 hL1 rfl b1 b2 b3 hB
        · exact nodeBounds_6y i p l P L _ w eA eP eL hP0 hP1 hL0 hL1 rfl b1 b2 b3 hB
        · exact nodeBounds_7y i p l P L _ w eA eP eL hP0 hP1 hL0 hL1 rfl b1 b2 b3 hB
      · have b3 : decide (L < 3) = false := by simpa using h3
        have e : mayB L P = false := by simp [mayB, h3]
        rw [e] at hB
        rcases Wn.below8 hI with rfl | rfl | rfl | rfl | rfl | rfl | rfl | rfl
        · exact nodeBounds_0c i p l P L _ w eA eP eL hP0 hP1 hL0 hL1 rfl b1 b2 b3 hB
        · exact nodeBounds_1c i p l P L _ w eA eP eL hP0 hP1 hL0 hL1 rfl b1 b2 b3 hB
        · exact nodeBounds_2c i p l P L _ w eA eP eL hP0 hP1 hL0 hL1 rfl b1 b2 b3 hB
        · exact nodeBounds_3c i p l P L _ w eA eP eL hP0 hP1 hL0 hL1 rfl b1 b2 b3 hB
        · exact nodeBounds_4c i p l P L _ w eA eP eL hP0 hP1 hL0 hL1 rfl b1 b2 b3 hB
        · exact nodeBounds_5c i p l P L _ w eA eP eL hP0 hP1 hL0 hL1 rfl b1 b2 b3 hB
        · exact nodeBounds_6c i p l P L _ w eA eP eL hP0 hP1 hL0 hL1 rfl b1 b2 b3 hB
        · exact nodeBounds_7c i p l P L _ w eA eP eL hP0 hP1 hL0 hL1 rfl b1 b2 b3 hB
    · have b2 : decide (P < 4096) = false := by simpa using h2
      have e : mayB L P = false := by simp [mayB, h2]
      rw [e] at hB
      rcases Wn.below8 hI with rfl | rfl | rfl | rfl | rfl | rfl | rfl | rfl
      · exact nodeBounds_0b i p l P L _ w eA eP eL hP0 hP1 hL0 hL1 rfl b1 b2 hB
      · exact nodeBounds_1b i p l P L _ w eA eP eL hP0 hP1 hL0 hL1 rfl b1 b2 hB
      · exact nodeBounds_2b i p l P L _ w eA eP eL hP0 hP1 hL0 hL1 rfl b1 b2 hB
      · exact nodeBounds_3b i p l P L _ w eA eP eL hP0 hP1 hL0 hL1 rfl b1 b2 hB
      · exact nodeBounds_4b i p l P L _ w eA eP eL hP0 hP1 hL0 hL1 rfl b1 b2 hB
      · exact nodeBounds_5b i p l P L _ w eA eP eL hP0 hP1 hL0 hL1 rfl b1 b2 hB
      · exact nodeBounds_6b i p l P L _ w eA eP eL hP0 hP1 hL0 hL1 rfl b1 b2 hB
      · exact nodeBounds_7b i p l P L _ w eA eP eL hP0 hP1 hL0 hL1 rfl b1 b2 hB

end Go.Proofs.Ytbficappjekalaa
