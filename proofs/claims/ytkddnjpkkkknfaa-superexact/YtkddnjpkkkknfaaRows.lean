/-
  No cell of these rows narrows 'for every input' (looked for: loops, veiled, ifaces, maps, wideKeys, modest, calm, conditions, laid).
  DERIVED. THE GIVEN ROWS OF THIS SEAT. 4 by the template 'for every input the law returns true; each argument reads behind the call as it read before'; 0 by the template 'total and deterministic' (their statements: YtkddnjpkkkknfaaTotals.lean).
  GIVEN WITH THE SEED: the statements are not yours to turn. If you find one false, say at which input.
  Laid BY PROGRAM, IN A SANDBOX (cutbox-rows.mjs): the forced cells as the released guide's own fill.sh prints them over the translation b109f6b75d748d0a… (all of the seat's roots in one cut). By AI agents, Wed Nov 11 2026. No macro, syntax, notation, axiom, sorry.
-/
import Derived.Test.YtkddnjpkkkknfaaChecked
import GoSem.Claim
import GoSem.ClaimJoined
import GoSem.ClaimMapViews
import Derived.JoinedTies
import Derived.KernelRfl
namespace Go.Proofs.Ytkddnjpkkkknfaa
/- THE CELL 'sum', in the pinned program and in every row, IS THE sha256 OF THE DUMP (.gsa) THAT YtkddnjpkkkknfaaProg.lean LOADS. Nothing in Lean hashes anything: it is a label: what it is worth is what the hold of that sum in a sandbox is worth. -/
noncomputable def Try.pinned : Pinned := { name := "ytkddnjpkkkknfaa", sum := "b109f6b75d748d0ab10e390d28b7cf9cdd6853bc3c60a1b6bf068f62e5cc8bc9", checked := Try.checked }
namespace Rows
def none {H : Type} : Left H := { results := [], args := [] }

/-- 'woodcutlaw06.SuperExact': WHATEVER THE INPUT: true; the input reads as it did. -/
def superExactSpec : ChangeSpec := { name := "superExact", fn := fun _ => fun
  | [d1, d2, d3] => { results := [.lit (.bool true)], args := [d1, d2, d3] }
  | _ => none }
def superExactRow : OpenClaim := { program := "ytkddnjpkkkknfaa", sum := "b109f6b75d748d0ab10e390d28b7cf9cdd6853bc3c60a1b6bf068f62e5cc8bc9", func := "woodcut/woodcutlaw06.SuperExact", spec := "superExact", apart := false }
def SuperExactSaid : Prop := superExactRow.holds Try.pinned (OpenSpec.ofChange superExactSpec)

/-- ITS FALSE NEIGHBOUR: 'it returns false'. Refute it at one input. -/
def superExactWrong : ChangeSpec := { name := "superExact", fn := fun _ => fun
  | [d1, d2, d3] => { results := [.lit (.bool false)], args := [d1, d2, d3] }
  | _ => none }
def SuperExactWrongFalsely : Prop := superExactRow.holds Try.pinned (OpenSpec.ofChange superExactWrong)

/-- 'woodcutlaw06.SuperBack': WHATEVER THE INPUT: true; the input reads as it did. -/
def superBackSpec : ChangeSpec := { name := "superBack", fn := fun _ => fun
  | [d1, d2, d3, d4] => { results := [.lit (.bool true)], args := [d1, d2, d3, d4] }
  | _ => none }
def superBackRow : OpenClaim := { program := "ytkddnjpkkkknfaa", sum := "b109f6b75d748d0ab10e390d28b7cf9cdd6853bc3c60a1b6bf068f62e5cc8bc9", func := "woodcut/woodcutlaw06.SuperBack", spec := "superBack", apart := false }
def SuperBackSaid : Prop := superBackRow.holds Try.pinned (OpenSpec.ofChange superBackSpec)

/-- ITS FALSE NEIGHBOUR: 'it returns false'. Refute it at one input. -/
def superBackWrong : ChangeSpec := { name := "superBack", fn := fun _ => fun
  | [d1, d2, d3, d4] => { results := [.lit (.bool false)], args := [d1, d2, d3, d4] }
  | _ => none }
def SuperBackWrongFalsely : Prop := superBackRow.holds Try.pinned (OpenSpec.ofChange superBackWrong)

/-- 'woodcutlaw06.SuperPick': WHATEVER THE INPUT: true; the input reads as it did. -/
def superPickSpec : ChangeSpec := { name := "superPick", fn := fun _ => fun
  | [d1, d2, d3] => { results := [.lit (.bool true)], args := [d1, d2, d3] }
  | _ => none }
def superPickRow : OpenClaim := { program := "ytkddnjpkkkknfaa", sum := "b109f6b75d748d0ab10e390d28b7cf9cdd6853bc3c60a1b6bf068f62e5cc8bc9", func := "woodcut/woodcutlaw06.SuperPick", spec := "superPick", apart := false }
def SuperPickSaid : Prop := superPickRow.holds Try.pinned (OpenSpec.ofChange superPickSpec)

/-- ITS FALSE NEIGHBOUR: 'it returns false'. Refute it at one input. -/
def superPickWrong : ChangeSpec := { name := "superPick", fn := fun _ => fun
  | [d1, d2, d3] => { results := [.lit (.bool false)], args := [d1, d2, d3] }
  | _ => none }
def SuperPickWrongFalsely : Prop := superPickRow.holds Try.pinned (OpenSpec.ofChange superPickWrong)

/-- 'woodcutlaw06.SuperBounds': WHATEVER THE INPUT: true; the input reads as it did. -/
def superBoundsSpec : ChangeSpec := { name := "superBounds", fn := fun _ => fun
  | [d1, d2, d3, d4] => { results := [.lit (.bool true)], args := [d1, d2, d3, d4] }
  | _ => none }
def superBoundsRow : OpenClaim := { program := "ytkddnjpkkkknfaa", sum := "b109f6b75d748d0ab10e390d28b7cf9cdd6853bc3c60a1b6bf068f62e5cc8bc9", func := "woodcut/woodcutlaw06.SuperBounds", spec := "superBounds", apart := false }
def SuperBoundsSaid : Prop := superBoundsRow.holds Try.pinned (OpenSpec.ofChange superBoundsSpec)

/-- ITS FALSE NEIGHBOUR: 'it returns false'. Refute it at one input. -/
def superBoundsWrong : ChangeSpec := { name := "superBounds", fn := fun _ => fun
  | [d1, d2, d3, d4] => { results := [.lit (.bool false)], args := [d1, d2, d3, d4] }
  | _ => none }
def SuperBoundsWrongFalsely : Prop := superBoundsRow.holds Try.pinned (OpenSpec.ofChange superBoundsWrong)

/- THE SECOND FORM. 'bulk': how many values and letters a reading holds, each counted each time it is reached (what is shared counts as often as it is met; a slice's spare places count too). A statement '..UptoSaid' is the law's where the arguments, and the package variables that the reading takes, are together of bulk at most 1048576: NARROWER than '..Said'. Prove '..Said' where nothing that the law and all that it calls make is longer than what came in: it says more and counts as full. Else prove '..UptoSaid'. A law counts once. -/
mutual
def uptoBulk {H : Type} : DataW H → Nat
  | .lit (.string bytes) => bytes.length + 1
  | .lit _ => 1
  | .nil => 1
  | .ptr d => uptoBulk d + 1
  | .slice elems spare => uptoBulkAll elems + uptoBulkAll spare + 1
  | .agg parts => uptoBulkAll parts + 1
  | .iface _ d => uptoBulk d + 1
  | .map entries => uptoBulkEntries entries + 1
  | .held _ => 1
def uptoBulkAll {H : Type} : List (DataW H) → Nat
  | [] => 0
  | d :: r => uptoBulk d + uptoBulkAll r
def uptoBulkEntries {H : Type} : List (Lit × DataW H) → Nat
  | [] => 0
  | x :: r => uptoBulkEntry x + uptoBulkEntries r
def uptoBulkEntry {H : Type} : Lit × DataW H → Nat
  | (.string bytes, d) => bytes.length + uptoBulk d + 1
  | (_, d) => uptoBulk d + 1
 end
def uptoSmall : (H : Type) → List (DataW H) → Bool := fun _ ds => decide (uptoBulkAll ds ≤ 1048576)
def OpenSpec.upto (s : _root_.Go.ChangeSpec) : _root_.Go.OpenSpec := { _root_.Go.OpenSpec.ofChange s with cond := some uptoSmall }

/-- 'woodcutlaw06.SuperExact', WHERE WHAT IT READS IS OF BULK AT MOST 1048576: true; the input reads as it did. -/
def superExactUptoRow : OpenClaim := { program := "ytkddnjpkkkknfaa", sum := "b109f6b75d748d0ab10e390d28b7cf9cdd6853bc3c60a1b6bf068f62e5cc8bc9", func := "woodcut/woodcutlaw06.SuperExact", spec := "superExact", apart := false, narrowed := true }
def SuperExactUptoSaid : Prop := superExactUptoRow.holds Try.pinned (OpenSpec.upto superExactSpec)

/-- 'woodcutlaw06.SuperBack', WHERE WHAT IT READS IS OF BULK AT MOST 1048576: true; the input reads as it did. -/
def superBackUptoRow : OpenClaim := { program := "ytkddnjpkkkknfaa", sum := "b109f6b75d748d0ab10e390d28b7cf9cdd6853bc3c60a1b6bf068f62e5cc8bc9", func := "woodcut/woodcutlaw06.SuperBack", spec := "superBack", apart := false, narrowed := true }
def SuperBackUptoSaid : Prop := superBackUptoRow.holds Try.pinned (OpenSpec.upto superBackSpec)

/-- 'woodcutlaw06.SuperPick', WHERE WHAT IT READS IS OF BULK AT MOST 1048576: true; the input reads as it did. -/
def superPickUptoRow : OpenClaim := { program := "ytkddnjpkkkknfaa", sum := "b109f6b75d748d0ab10e390d28b7cf9cdd6853bc3c60a1b6bf068f62e5cc8bc9", func := "woodcut/woodcutlaw06.SuperPick", spec := "superPick", apart := false, narrowed := true }
def SuperPickUptoSaid : Prop := superPickUptoRow.holds Try.pinned (OpenSpec.upto superPickSpec)

/-- 'woodcutlaw06.SuperBounds', WHERE WHAT IT READS IS OF BULK AT MOST 1048576: true; the input reads as it did. -/
def superBoundsUptoRow : OpenClaim := { program := "ytkddnjpkkkknfaa", sum := "b109f6b75d748d0ab10e390d28b7cf9cdd6853bc3c60a1b6bf068f62e5cc8bc9", func := "woodcut/woodcutlaw06.SuperBounds", spec := "superBounds", apart := false, narrowed := true }
def SuperBoundsUptoSaid : Prop := superBoundsUptoRow.holds Try.pinned (OpenSpec.upto superBoundsSpec)

end Rows
end Go.Proofs.Ytkddnjpkkkknfaa
