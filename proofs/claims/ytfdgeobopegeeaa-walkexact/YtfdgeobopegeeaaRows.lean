/-
  No cell of these rows narrows 'for every input' (looked for: loops, veiled, ifaces, maps, wideKeys, modest, calm, conditions, laid).
  DERIVED. THE GIVEN ROWS OF THIS SEAT. 4 by the template 'for every input the law returns true; each argument reads behind the call as it read before'; 0 by the template 'total and deterministic' (their statements: YtfdgeobopegeeaaTotals.lean).
  GIVEN WITH THE SEED: the statements are not yours to turn. If you find one false, say at which input.
  Laid BY PROGRAM, IN A SANDBOX (cutbox-rows.mjs): the forced cells as the released guide's own fill.sh prints them over the translation e71c28fa92c62f6e… (all of the seat's roots in one cut). By AI agents, Wed Nov 11 2026. No macro, syntax, notation, axiom, sorry.
-/
import Derived.Test.YtfdgeobopegeeaaChecked
import GoSem.Claim
import GoSem.ClaimJoined
import GoSem.ClaimMapViews
import Derived.JoinedTies
import Derived.KernelRfl
namespace Go.Proofs.Ytfdgeobopegeeaa
/- THE CELL 'sum', in the pinned program and in every row, IS THE sha256 OF THE DUMP (.gsa) THAT YtfdgeobopegeeaaProg.lean LOADS. Nothing in Lean hashes anything: it is a label: what it is worth is what the hold of that sum in a sandbox is worth. -/
noncomputable def Try.pinned : Pinned := { name := "ytfdgeobopegeeaa", sum := "e71c28fa92c62f6e7e03b97212b18e6687cc529fe53aa36fd35cee68864c78b3", checked := Try.checked }
namespace Rows
def none {H : Type} : Left H := { results := [], args := [] }

/-- 'woodcutlaw12.WalkExact': WHATEVER THE INPUT: true; the input reads as it did. -/
def walkExactSpec : ChangeSpec := { name := "walkExact", fn := fun _ => fun
  | [d] => { results := [.lit (.bool true)], args := [d] }
  | _ => none }
def walkExactRow : OpenClaim := { program := "ytfdgeobopegeeaa", sum := "e71c28fa92c62f6e7e03b97212b18e6687cc529fe53aa36fd35cee68864c78b3", func := "woodcut/woodcutlaw12.WalkExact", spec := "walkExact", unfollowed := true, recurses := true, apart := false }
def WalkExactSaid : Prop := walkExactRow.holds Try.pinned (OpenSpec.ofChange walkExactSpec)

/-- ITS FALSE NEIGHBOUR: 'it returns false'. Refute it at one input. -/
def walkExactWrong : ChangeSpec := { name := "walkExact", fn := fun _ => fun
  | [d] => { results := [.lit (.bool false)], args := [d] }
  | _ => none }
def WalkExactWrongFalsely : Prop := walkExactRow.holds Try.pinned (OpenSpec.ofChange walkExactWrong)

/-- 'woodcutlaw12.WalkParts': WHATEVER THE INPUT: true; the input reads as it did. -/
def walkPartsSpec : ChangeSpec := { name := "walkParts", fn := fun _ => fun
  | [d1, d2] => { results := [.lit (.bool true)], args := [d1, d2] }
  | _ => none }
def walkPartsRow : OpenClaim := { program := "ytfdgeobopegeeaa", sum := "e71c28fa92c62f6e7e03b97212b18e6687cc529fe53aa36fd35cee68864c78b3", func := "woodcut/woodcutlaw12.WalkParts", spec := "walkParts", unfollowed := true, recurses := true, apart := false }
def WalkPartsSaid : Prop := walkPartsRow.holds Try.pinned (OpenSpec.ofChange walkPartsSpec)

/-- ITS FALSE NEIGHBOUR: 'it returns false'. Refute it at one input. -/
def walkPartsWrong : ChangeSpec := { name := "walkParts", fn := fun _ => fun
  | [d1, d2] => { results := [.lit (.bool false)], args := [d1, d2] }
  | _ => none }
def WalkPartsWrongFalsely : Prop := walkPartsRow.holds Try.pinned (OpenSpec.ofChange walkPartsWrong)

/-- 'woodcutlaw12.WalkChain': WHATEVER THE INPUT: true; the input reads as it did. -/
def walkChainSpec : ChangeSpec := { name := "walkChain", fn := fun _ => fun
  | [d1, d2, d3] => { results := [.lit (.bool true)], args := [d1, d2, d3] }
  | _ => none }
def walkChainRow : OpenClaim := { program := "ytfdgeobopegeeaa", sum := "e71c28fa92c62f6e7e03b97212b18e6687cc529fe53aa36fd35cee68864c78b3", func := "woodcut/woodcutlaw12.WalkChain", spec := "walkChain", unfollowed := true, recurses := true, apart := false }
def WalkChainSaid : Prop := walkChainRow.holds Try.pinned (OpenSpec.ofChange walkChainSpec)

/-- ITS FALSE NEIGHBOUR: 'it returns false'. Refute it at one input. -/
def walkChainWrong : ChangeSpec := { name := "walkChain", fn := fun _ => fun
  | [d1, d2, d3] => { results := [.lit (.bool false)], args := [d1, d2, d3] }
  | _ => none }
def WalkChainWrongFalsely : Prop := walkChainRow.holds Try.pinned (OpenSpec.ofChange walkChainWrong)

/-- 'woodcutlaw12.WalkReaches': WHATEVER THE INPUT: true; the input reads as it did. -/
def walkReachesSpec : ChangeSpec := { name := "walkReaches", fn := fun _ => fun
  | [d] => { results := [.lit (.bool true)], args := [d] }
  | _ => none }
def walkReachesRow : OpenClaim := { program := "ytfdgeobopegeeaa", sum := "e71c28fa92c62f6e7e03b97212b18e6687cc529fe53aa36fd35cee68864c78b3", func := "woodcut/woodcutlaw12.WalkReaches", spec := "walkReaches", unfollowed := true, recurses := true, apart := false }
def WalkReachesSaid : Prop := walkReachesRow.holds Try.pinned (OpenSpec.ofChange walkReachesSpec)

/-- ITS FALSE NEIGHBOUR: 'it returns false'. Refute it at one input. -/
def walkReachesWrong : ChangeSpec := { name := "walkReaches", fn := fun _ => fun
  | [d] => { results := [.lit (.bool false)], args := [d] }
  | _ => none }
def WalkReachesWrongFalsely : Prop := walkReachesRow.holds Try.pinned (OpenSpec.ofChange walkReachesWrong)

/- THE SECOND FORM. 'bulk': how many values and letters a reading holds, each counted each time it is reached (what is shared counts as often as it is met; a slice's spare places count too). A statement '..UptoSaid' is the law's where the arguments, and the package variables that the reading takes, are together of bulk at most 1048576: NARROWER than '..Said'. Prove '..Said' where nothing that the law and all that it calls make is longer than what came in: it says more and counts as full. Else prove '..UptoSaid'. A law counts once. -/
mutual
def uptoBulk {H : Type} : DataW H → Nat
  | .lit (.string bytes) => bytes.length + 1
  | .lit _ => 1
  | .nil => 1
  | .ptr d => uptoBulk d + 1
  | .slice elems spare => uptoBulkAll elems + uptoBulkAll spare + 1
  | .agg parts => uptoBulkAll parts + 1
  | .iface _ d => uptoBulk d + 1
  | .map entries => uptoBulkEntries entries + 1
  | .held _ => 1
def uptoBulkAll {H : Type} : List (DataW H) → Nat
  | [] => 0
  | d :: r => uptoBulk d + uptoBulkAll r
def uptoBulkEntries {H : Type} : List (Lit × DataW H) → Nat
  | [] => 0
  | x :: r => uptoBulkEntry x + uptoBulkEntries r
def uptoBulkEntry {H : Type} : Lit × DataW H → Nat
  | (.string bytes, d) => bytes.length + uptoBulk d + 1
  | (_, d) => uptoBulk d + 1
 end
def uptoSmall : (H : Type) → List (DataW H) → Bool := fun _ ds => decide (uptoBulkAll ds ≤ 1048576)
def OpenSpec.upto (s : _root_.Go.ChangeSpec) : _root_.Go.OpenSpec := { _root_.Go.OpenSpec.ofChange s with cond := some uptoSmall }

/-- 'woodcutlaw12.WalkExact', WHERE WHAT IT READS IS OF BULK AT MOST 1048576: true; the input reads as it did. -/
def walkExactUptoRow : OpenClaim := { program := "ytfdgeobopegeeaa", sum := "e71c28fa92c62f6e7e03b97212b18e6687cc529fe53aa36fd35cee68864c78b3", func := "woodcut/woodcutlaw12.WalkExact", spec := "walkExact", unfollowed := true, recurses := true, apart := false, narrowed := true }
def WalkExactUptoSaid : Prop := walkExactUptoRow.holds Try.pinned (OpenSpec.upto walkExactSpec)

/-- 'woodcutlaw12.WalkParts', WHERE WHAT IT READS IS OF BULK AT MOST 1048576: true; the input reads as it did. -/
def walkPartsUptoRow : OpenClaim := { program := "ytfdgeobopegeeaa", sum := "e71c28fa92c62f6e7e03b97212b18e6687cc529fe53aa36fd35cee68864c78b3", func := "woodcut/woodcutlaw12.WalkParts", spec := "walkParts", unfollowed := true, recurses := true, apart := false, narrowed := true }
def WalkPartsUptoSaid : Prop := walkPartsUptoRow.holds Try.pinned (OpenSpec.upto walkPartsSpec)

/-- 'woodcutlaw12.WalkChain', WHERE WHAT IT READS IS OF BULK AT MOST 1048576: true; the input reads as it did. -/
def walkChainUptoRow : OpenClaim := { program := "ytfdgeobopegeeaa", sum := "e71c28fa92c62f6e7e03b97212b18e6687cc529fe53aa36fd35cee68864c78b3", func := "woodcut/woodcutlaw12.WalkChain", spec := "walkChain", unfollowed := true, recurses := true, apart := false, narrowed := true }
def WalkChainUptoSaid : Prop := walkChainUptoRow.holds Try.pinned (OpenSpec.upto walkChainSpec)

/-- 'woodcutlaw12.WalkReaches', WHERE WHAT IT READS IS OF BULK AT MOST 1048576: true; the input reads as it did. -/
def walkReachesUptoRow : OpenClaim := { program := "ytfdgeobopegeeaa", sum := "e71c28fa92c62f6e7e03b97212b18e6687cc529fe53aa36fd35cee68864c78b3", func := "woodcut/woodcutlaw12.WalkReaches", spec := "walkReaches", unfollowed := true, recurses := true, apart := false, narrowed := true }
def WalkReachesUptoSaid : Prop := walkReachesUptoRow.holds Try.pinned (OpenSpec.upto walkReachesSpec)

end Rows
end Go.Proofs.Ytfdgeobopegeeaa
