/-
  OpenPending: what the statement's function returns.
-/
import Derived.Test.YtifoghbacifhnaaQzc
import Derived.Test.YtifoghbacifhnaaQzd
namespace Go.Proofs.Ytifoghbacifhnaa
open Go.RowKit

theorem openPending_any (p z v : Int) (w : World) : Calls Try.prog 8 #[.int .i64 p, .int .i64 z, .int .i64 v] w fun e w' => e = .returned (.bool true) ∧ Below w.heap.size w w' := by
  obtain ⟨A, hA, eA⟩ := lowA p 5 2 (by omega) (by omega) (by omega)
  obtain ⟨n, hn, eN⟩ := lowA z 8 1 (by omega) (by omega) (by omega)
  obtain ⟨k, hk, eV⟩ := lowN v n (by omega) (by omega)
  by_cases h0 : k = 0
  · subst h0
    by_cases hl : 0 + 1 < n
    · exact openPending_c p z v A n w eA eN eV (by omega) (by omega) hl
    · exact openPending_d p z v A n w eA eN eV (by omega) (by omega) hl
  · by_cases hl : k + 1 < n
    · exact openPending_a p z v A n k w eA eN eV (by omega) (by omega) hk (by omega) hl
    · exact openPending_b p z v A n k w eA eN eV (by omega) (by omega) hk (by omega) hl

end Go.Proofs.Ytifoghbacifhnaa
