/-
  CommitChain: what the statement's function returns, its parts.
-/
import Derived.Test.YtfflhiajbioheaaEt
import Derived.Test.YtfflhiajbioheaaEk
namespace Wq
theorem frs10_take {j : Nat} (h : j < 10) : frs10.take (j + 1) = frs10.take j ++ [2 + (j : Int)] := by
  rw [List.take_add_one, List.getElem?_eq_getElem (show j < frs10.length from h)]
  have := frs10_at h
  rw [List.getD_eq_getElem?_getD, List.getElem?_eq_getElem (show j < frs10.length from h)] at this
  rw [show frs10[j]'(show j < frs10.length from h) = 2 + (j : Int) from this]; rfl
end Wq
namespace Go.Proofs.Ytfflhiajbioheaa
open Go.RowKit

theorem crecs_ok (a : Option Addr) (len cap : Nat) (old : List Wr.Rec) (a' : Option Addr) (len' cap' : Nat) (bl : List Int) (n : Nat) (z : Int) (hz : z = (n : Int)) (r : Wr.Rec) (b : Bool) (a2 : Option Addr) (len2 cap2 : Nat) (F : List Int) (w : World)
    (ho : Wi.Rs w (.slice a len cap) old) (hb : Wd.In w (.slice a' len' cap') bl) (hF : Wd.In w (.slice a2 len2 cap2) F) (hlen : len ≤ 900) {N : List Wr.Rec} (hN : Wq.news old n r b = N) {P : Int} (hP : Wq.stay bl n = P) {K : Nat} (hK : N.length = K) (hE : Wq.cE old bl (n : Int) r b F = 0) :
    Calls Try.prog 16 #[.slice a len cap, .slice a' len' cap', .int .i64 z, rv r, .bool b, .slice a2 len2 cap2] w fun e w' =>
      ∃ al cl ar cr, e = .returned (.tuple #[.slice al K cl, .int .i64 (Wq.nx P F K), .slice ar (F.length - K) cr, .int .i64 0]) ∧ Wd.Oi 38 5 w.heap.size w' (.slice al K cl) (Wq.ws N P F K) ∧ Below w.heap.size w w' := by
  subst hz
  refine (records15_any a len cap old a' len' cap' bl (n : Int) r b a2 len2 cap2 F w ho hb hF hlen).mono ?_
  rintro e w1 ⟨hb1, hy, -⟩
  obtain ⟨al, cl, ar, cr, rfl, hO, -⟩ := hy hE
  rw [Int.toNat_natCast, hN, hP, hK] at hO ⊢
  exact ⟨al, cl, ar, cr, rfl, hO, hb1⟩


end Go.Proofs.Ytfflhiajbioheaa
