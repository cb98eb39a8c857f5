/-
  No cell of these rows narrows 'for every input' (looked for: loops, veiled, ifaces, maps, wideKeys, modest, calm, conditions, laid).
  DERIVED. THE GIVEN ROWS OF THIS SEAT. 6 by the template 'for every input the law returns true; each argument reads behind the call as it read before'; 0 by the template 'total and deterministic' (their statements: YtifoghbacifhnaaTotals.lean).
  GIVEN WITH THE SEED: the statements are not yours to turn. If you find one false, say at which input.
  Laid BY PROGRAM, IN A SANDBOX (cutbox-rows.mjs): the forced cells as the released guide's own fill.sh prints them over the translation 6b41a13105d6f256… (all of the seat's roots in one cut). By AI agents, Wed Nov 11 2026. No macro, syntax, notation, axiom, sorry.
-/
import Derived.Test.YtifoghbacifhnaaChecked
import GoSem.Claim
import GoSem.ClaimJoined
import GoSem.ClaimMapViews
import Derived.JoinedTies
import Derived.KernelRfl
namespace Go.Proofs.Ytifoghbacifhnaa
/- THE CELL 'sum', in the pinned program and in every row, IS THE sha256 OF THE DUMP (.gsa) THAT YtifoghbacifhnaaProg.lean LOADS. Nothing in Lean hashes anything: it is a label: what it is worth is what the hold of that sum in a sandbox is worth. -/
noncomputable def Try.pinned : Pinned := { name := "ytifoghbacifhnaa", sum := "6b41a13105d6f25667b861085ce9df807d3e7f574a9d8cc070fe8de0b14a8b03", checked := Try.checked }
namespace Rows
def none {H : Type} : Left H := { results := [], args := [] }

/-- 'woodcutlaw11.OpenExact': WHATEVER THE INPUT: true; the input reads as it did. -/
def openExactSpec : ChangeSpec := { name := "openExact", fn := fun _ => fun
  | [d1, d2, d3, d4, d5] => { results := [.lit (.bool true)], args := [d1, d2, d3, d4, d5] }
  | _ => none }
def openExactRow : OpenClaim := { program := "ytifoghbacifhnaa", sum := "6b41a13105d6f25667b861085ce9df807d3e7f574a9d8cc070fe8de0b14a8b03", func := "woodcut/woodcutlaw11.OpenExact", spec := "openExact", unfollowed := true, recurses := true, apart := false }
def OpenExactSaid : Prop := openExactRow.holds Try.pinned (OpenSpec.ofChange openExactSpec)

/-- ITS FALSE NEIGHBOUR: 'it returns false'. Refute it at one input. -/
def openExactWrong : ChangeSpec := { name := "openExact", fn := fun _ => fun
  | [d1, d2, d3, d4, d5] => { results := [.lit (.bool false)], args := [d1, d2, d3, d4, d5] }
  | _ => none }
def OpenExactWrongFalsely : Prop := openExactRow.holds Try.pinned (OpenSpec.ofChange openExactWrong)

/-- 'woodcutlaw11.OpenRecords': WHATEVER THE INPUT: true; the input reads as it did. -/
def openRecordsSpec : ChangeSpec := { name := "openRecords", fn := fun _ => fun
  | [d1, d2, d3, d4] => { results := [.lit (.bool true)], args := [d1, d2, d3, d4] }
  | _ => none }
def openRecordsRow : OpenClaim := { program := "ytifoghbacifhnaa", sum := "6b41a13105d6f25667b861085ce9df807d3e7f574a9d8cc070fe8de0b14a8b03", func := "woodcut/woodcutlaw11.OpenRecords", spec := "openRecords", unfollowed := true, recurses := true, apart := false }
def OpenRecordsSaid : Prop := openRecordsRow.holds Try.pinned (OpenSpec.ofChange openRecordsSpec)

/-- ITS FALSE NEIGHBOUR: 'it returns false'. Refute it at one input. -/
def openRecordsWrong : ChangeSpec := { name := "openRecords", fn := fun _ => fun
  | [d1, d2, d3, d4] => { results := [.lit (.bool false)], args := [d1, d2, d3, d4] }
  | _ => none }
def OpenRecordsWrongFalsely : Prop := openRecordsRow.holds Try.pinned (OpenSpec.ofChange openRecordsWrong)

/-- 'woodcutlaw11.OpenTrees': WHATEVER THE INPUT: true; the input reads as it did. -/
def openTreesSpec : ChangeSpec := { name := "openTrees", fn := fun _ => fun
  | [d1, d2, d3, d4] => { results := [.lit (.bool true)], args := [d1, d2, d3, d4] }
  | _ => none }
def openTreesRow : OpenClaim := { program := "ytifoghbacifhnaa", sum := "6b41a13105d6f25667b861085ce9df807d3e7f574a9d8cc070fe8de0b14a8b03", func := "woodcut/woodcutlaw11.OpenTrees", spec := "openTrees", unfollowed := true, recurses := true, apart := false }
def OpenTreesSaid : Prop := openTreesRow.holds Try.pinned (OpenSpec.ofChange openTreesSpec)

/-- ITS FALSE NEIGHBOUR: 'it returns false'. Refute it at one input. -/
def openTreesWrong : ChangeSpec := { name := "openTrees", fn := fun _ => fun
  | [d1, d2, d3, d4] => { results := [.lit (.bool false)], args := [d1, d2, d3, d4] }
  | _ => none }
def OpenTreesWrongFalsely : Prop := openTreesRow.holds Try.pinned (OpenSpec.ofChange openTreesWrong)

/-- 'woodcutlaw11.OpenNew': WHATEVER THE INPUT: true; the input reads as it did. -/
def openNewSpec : ChangeSpec := { name := "openNew", fn := fun _ => fun
  | [d1, d2, d3] => { results := [.lit (.bool true)], args := [d1, d2, d3] }
  | _ => none }
def openNewRow : OpenClaim := { program := "ytifoghbacifhnaa", sum := "6b41a13105d6f25667b861085ce9df807d3e7f574a9d8cc070fe8de0b14a8b03", func := "woodcut/woodcutlaw11.OpenNew", spec := "openNew", unfollowed := true, recurses := true, apart := false }
def OpenNewSaid : Prop := openNewRow.holds Try.pinned (OpenSpec.ofChange openNewSpec)

/-- ITS FALSE NEIGHBOUR: 'it returns false'. Refute it at one input. -/
def openNewWrong : ChangeSpec := { name := "openNew", fn := fun _ => fun
  | [d1, d2, d3] => { results := [.lit (.bool false)], args := [d1, d2, d3] }
  | _ => none }
def OpenNewWrongFalsely : Prop := openNewRow.holds Try.pinned (OpenSpec.ofChange openNewWrong)

/-- 'woodcutlaw11.OpenFinds': WHATEVER THE INPUT: true; the input reads as it did. -/
def openFindsSpec : ChangeSpec := { name := "openFinds", fn := fun _ => fun
  | [d1, d2] => { results := [.lit (.bool true)], args := [d1, d2] }
  | _ => none }
def openFindsRow : OpenClaim := { program := "ytifoghbacifhnaa", sum := "6b41a13105d6f25667b861085ce9df807d3e7f574a9d8cc070fe8de0b14a8b03", func := "woodcut/woodcutlaw11.OpenFinds", spec := "openFinds", unfollowed := true, recurses := true, apart := false }
def OpenFindsSaid : Prop := openFindsRow.holds Try.pinned (OpenSpec.ofChange openFindsSpec)

/-- ITS FALSE NEIGHBOUR: 'it returns false'. Refute it at one input. -/
def openFindsWrong : ChangeSpec := { name := "openFinds", fn := fun _ => fun
  | [d1, d2] => { results := [.lit (.bool false)], args := [d1, d2] }
  | _ => none }
def OpenFindsWrongFalsely : Prop := openFindsRow.holds Try.pinned (OpenSpec.ofChange openFindsWrong)

/-- 'woodcutlaw11.OpenPending': WHATEVER THE INPUT: true; the input reads as it did. -/
def openPendingSpec : ChangeSpec := { name := "openPending", fn := fun _ => fun
  | [d1, d2, d3] => { results := [.lit (.bool true)], args := [d1, d2, d3] }
  | _ => none }
def openPendingRow : OpenClaim := { program := "ytifoghbacifhnaa", sum := "6b41a13105d6f25667b861085ce9df807d3e7f574a9d8cc070fe8de0b14a8b03", func := "woodcut/woodcutlaw11.OpenPending", spec := "openPending", unfollowed := true, recurses := true, apart := false }
def OpenPendingSaid : Prop := openPendingRow.holds Try.pinned (OpenSpec.ofChange openPendingSpec)

/-- ITS FALSE NEIGHBOUR: 'it returns false'. Refute it at one input. -/
def openPendingWrong : ChangeSpec := { name := "openPending", fn := fun _ => fun
  | [d1, d2, d3] => { results := [.lit (.bool false)], args := [d1, d2, d3] }
  | _ => none }
def OpenPendingWrongFalsely : Prop := openPendingRow.holds Try.pinned (OpenSpec.ofChange openPendingWrong)

/- THE SECOND FORM. 'bulk': how many values and letters a reading holds, each counted each time it is reached (what is shared counts as often as it is met; a slice's spare places count too). A statement '..UptoSaid' is the law's where the arguments, and the package variables that the reading takes, are together of bulk at most 1048576: NARROWER than '..Said'. Prove '..Said' where nothing that the law and all that it calls make is longer than what came in: it says more and counts as full. Else prove '..UptoSaid'. A law counts once. -/
mutual
def uptoBulk {H : Type} : DataW H → Nat
  | .lit (.string bytes) => bytes.length + 1
  | .lit _ => 1
  | .nil => 1
  | .ptr d => uptoBulk d + 1
  | .slice elems spare => uptoBulkAll elems + uptoBulkAll spare + 1
  | .agg parts => uptoBulkAll parts + 1
  | .iface _ d => uptoBulk d + 1
  | .map entries => uptoBulkEntries entries + 1
  | .held _ => 1
def uptoBulkAll {H : Type} : List (DataW H) → Nat
  | [] => 0
  | d :: r => uptoBulk d + uptoBulkAll r
def uptoBulkEntries {H : Type} : List (Lit × DataW H) → Nat
  | [] => 0
  | x :: r => uptoBulkEntry x + uptoBulkEntries r
def uptoBulkEntry {H : Type} : Lit × DataW H → Nat
  | (.string bytes, d) => bytes.length + uptoBulk d + 1
  | (_, d) => uptoBulk d + 1
 end
def uptoSmall : (H : Type) → List (DataW H) → Bool := fun _ ds => decide (uptoBulkAll ds ≤ 1048576)
def OpenSpec.upto (s : _root_.Go.ChangeSpec) : _root_.Go.OpenSpec := { _root_.Go.OpenSpec.ofChange s with cond := some uptoSmall }

/-- 'woodcutlaw11.OpenExact', WHERE WHAT IT READS IS OF BULK AT MOST 1048576: true; the input reads as it did. -/
def openExactUptoRow : OpenClaim := { program := "ytifoghbacifhnaa", sum := "6b41a13105d6f25667b861085ce9df807d3e7f574a9d8cc070fe8de0b14a8b03", func := "woodcut/woodcutlaw11.OpenExact", spec := "openExact", unfollowed := true, recurses := true, apart := false, narrowed := true }
def OpenExactUptoSaid : Prop := openExactUptoRow.holds Try.pinned (OpenSpec.upto openExactSpec)

/-- 'woodcutlaw11.OpenRecords', WHERE WHAT IT READS IS OF BULK AT MOST 1048576: true; the input reads as it did. -/
def openRecordsUptoRow : OpenClaim := { program := "ytifoghbacifhnaa", sum := "6b41a13105d6f25667b861085ce9df807d3e7f574a9d8cc070fe8de0b14a8b03", func := "woodcut/woodcutlaw11.OpenRecords", spec := "openRecords", unfollowed := true, recurses := true, apart := false, narrowed := true }
def OpenRecordsUptoSaid : Prop := openRecordsUptoRow.holds Try.pinned (OpenSpec.upto openRecordsSpec)

/-- 'woodcutlaw11.OpenTrees', WHERE WHAT IT READS IS OF BULK AT MOST 1048576: true; the input reads as it did. -/
def openTreesUptoRow : OpenClaim := { program := "ytifoghbacifhnaa", sum := "6b41a13105d6f25667b861085ce9df807d3e7f574a9d8cc070fe8de0b14a8b03", func := "woodcut/woodcutlaw11.OpenTrees", spec := "openTrees", unfollowed := true, recurses := true, apart := false, narrowed := true }
def OpenTreesUptoSaid : Prop := openTreesUptoRow.holds Try.pinned (OpenSpec.upto openTreesSpec)

/-- 'woodcutlaw11.OpenNew', WHERE WHAT IT READS IS OF BULK AT MOST 1048576: true; the input reads as it did. -/
def openNewUptoRow : OpenClaim := { program := "ytifoghbacifhnaa", sum := "6b41a13105d6f25667b861085ce9df807d3e7f574a9d8cc070fe8de0b14a8b03", func := "woodcut/woodcutlaw11.OpenNew", spec := "openNew", unfollowed := true, recurses := true, apart := false, narrowed := true }
def OpenNewUptoSaid : Prop := openNewUptoRow.holds Try.pinned (OpenSpec.upto openNewSpec)

/-- 'woodcutlaw11.OpenFinds', WHERE WHAT IT READS IS OF BULK AT MOST 1048576: true; the input reads as it did. -/
def openFindsUptoRow : OpenClaim := { program := "ytifoghbacifhnaa", sum := "6b41a13105d6f25667b861085ce9df807d3e7f574a9d8cc070fe8de0b14a8b03", func := "woodcut/woodcutlaw11.OpenFinds", spec := "openFinds", unfollowed := true, recurses := true, apart := false, narrowed := true }
def OpenFindsUptoSaid : Prop := openFindsUptoRow.holds Try.pinned (OpenSpec.upto openFindsSpec)

/-- 'woodcutlaw11.OpenPending', WHERE WHAT IT READS IS OF BULK AT MOST 1048576: true; the input reads as it did. -/
def openPendingUptoRow : OpenClaim := { program := "ytifoghbacifhnaa", sum := "6b41a13105d6f25667b861085ce9df807d3e7f574a9d8cc070fe8de0b14a8b03", func := "woodcut/woodcutlaw11.OpenPending", spec := "openPending", unfollowed := true, recurses := true, apart := false, narrowed := true }
def OpenPendingUptoSaid : Prop := openPendingUptoRow.holds Try.pinned (OpenSpec.upto openPendingSpec)

end Rows
end Go.Proofs.Ytifoghbacifhnaa
