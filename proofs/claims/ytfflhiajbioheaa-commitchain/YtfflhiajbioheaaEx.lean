/-
  CommitChain: what the statement's function returns, for every input.
-/
import Derived.Test.YtfflhiajbioheaaEua
import Derived.Test.YtfflhiajbioheaaEub
import Derived.Test.YtfflhiajbioheaaEuc
import Derived.Test.YtfflhiajbioheaaEud
namespace Go.Proofs.Ytfflhiajbioheaa
open Go.RowKit
theorem chainc_any (n at_ out id : Int) (b lv : Bool) (w : World) :
    Calls Try.prog 5 #[.int .i64 n, .int .i64 at_, .int .i64 out, .int .i64 id, .bool b, .bool lv] w fun e w' => e = .returned (.bool true) ∧ Below w.heap.size w w' := by
  cases b
  · cases lv
    · exact chainc_ff n at_ out id w
    · exact chainc_ft n at_ out id w
  · cases lv
    · exact chainc_tf n at_ out id w
    · exact chainc_tt n at_ out id w
end Go.Proofs.Ytfflhiajbioheaa
