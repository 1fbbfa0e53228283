/-
  NARROWER THAN 'FOR EVERY INPUT', by the rows' own cells (each row's printed sentence says how): TreeChecks: loops, laid · TreeTells: loops, laid · TreeSames: loops, laid · TreeParts: loops, laid · TreeSizes: loops, laid · TreeJoins: loops, laid · TreeNodes: laid · TreeKnown: laid.
  DERIVED. THE GIVEN ROWS OF THIS SEAT. 8 by the template 'for every input the law returns true; each argument reads behind the call as it read before'; 0 by the template 'total and deterministic' (their statements: YtmhaffcgiaffpaaDoorTotals.lean).
  GIVEN WITH THE SEED: the statements are not yours to turn. If you find one false, say at which input.
  Laid BY PROGRAM, IN A SANDBOX (cutbox-rows.mjs): the forced cells as the released guide's own fill.sh prints them over the translation 8c6314c832a3ac0e… (all of the seat's roots in one cut). By AI agents, Wed Nov 11 2026. No macro, syntax, notation, axiom, sorry.
-/
import Derived.Test.YtmhaffcgiaffpaaDoorChecked
import GoSem.Claim
import GoSem.ClaimJoined
import GoSem.ClaimMapViews
import Derived.JoinedTies
import Derived.KernelRfl
namespace Go.Proofs.YtmhaffcgiaffpaaDoor
/- THE CELL 'sum', in the pinned program and in every row, IS THE sha256 OF THE DUMP (.gsa) THAT YtmhaffcgiaffpaaDoorProg.lean LOADS. Nothing in Lean hashes anything: it is a label: what it is worth is what the hold of that sum in a sandbox is worth. -/
noncomputable def Tryd.pinned : Pinned := { name := "ytmhaffcgiaffpaadoor", sum := "8c6314c832a3ac0eb7b511a00f991d9a16a087056e6be520f47e21f9d5dd7a04", checked := Tryd.checked }
namespace Rows
def none {H : Type} : Left H := { results := [], args := [] }

/- WHAT THE LISTED PACKAGE-LEVEL VARIABLES READ AS WHEN THE CALL BEGINS. Each datum BY PROGRAM (the guide's laid-datum.mjs) off the statement by which the dump's own 'gosem.cut.vars' lays the variable. In a bare row this is a premise. The card (YtmhaffcgiaffpaaDoorCards.lean) ties it to the program's text. -/
def laid_accordion_tree_properties {H : Type} : DataW H := .agg [.agg [.lit (.int .i64 0), .lit (.int .i64 0), .lit (.bool false)], .agg [.lit (.int .i64 0), .lit (.int .i64 0), .lit (.bool false)], .agg [.lit (.int .i64 1), .lit (.int .i64 0), .lit (.bool false)], .agg [.lit (.int .i64 1), .lit (.int .i64 0), .lit (.bool false)], .agg [.lit (.int .i64 2), .lit (.int .i64 0), .lit (.bool false)], .agg [.lit (.int .i64 4), .lit (.int .i64 0), .lit (.bool false)], .agg [.lit (.int .i64 4), .lit (.int .i64 0), .lit (.bool false)], .agg [.lit (.int .i64 4), .lit (.int .i64 0), .lit (.bool false)], .agg [.lit (.int .i64 1), .lit (.int .i64 0), .lit (.bool false)], .agg [.lit (.int .i64 2), .lit (.int .i64 0), .lit (.bool false)], .agg [.lit (.int .i64 16), .lit (.int .i64 0), .lit (.bool false)], .agg [.lit (.int .i64 16), .lit (.int .i64 3), .lit (.bool false)], .agg [.lit (.int .i64 16), .lit (.int .i64 4), .lit (.bool false)], .agg [.lit (.int .i64 16), .lit (.int .i64 5), .lit (.bool false)], .agg [.lit (.int .i64 16), .lit (.int .i64 2), .lit (.bool false)], .agg [.lit (.int .i64 16), .lit (.int .i64 3), .lit (.bool true)], .agg [.lit (.int .i64 16), .lit (.int .i64 4), .lit (.bool true)], .agg [.lit (.int .i64 24), .lit (.int .i64 0), .lit (.bool false)]]

/-- 'accordionlaw06.TreeChecks': WHATEVER THE INPUT: true; the input reads as it did. -/
def treeChecksSpec : ChangeSpec := { name := "treeChecks", fn := fun _ => fun
  | [d] => { results := [.lit (.bool true)], args := [d] }
  | _ => none }
def treeChecksRow : OpenClaim := { program := "ytmhaffcgiaffpaadoor", sum := "8c6314c832a3ac0eb7b511a00f991d9a16a087056e6be520f47e21f9d5dd7a04", func := "accordion/accordionlaw06.TreeChecks", spec := "treeChecks", inPlace := ["internal/bytealg.IndexByteString"], unfollowed := true, recurses := true, named := ["accordion/tree.properties"], loops := true, apart := false, laid := [("accordion/tree.properties", laid_accordion_tree_properties)] }
def TreeChecksSaid : Prop := treeChecksRow.holds Tryd.pinned (OpenSpec.ofChange treeChecksSpec)

/-- ITS FALSE NEIGHBOUR: 'it returns false'. Refute it at one input. -/
def treeChecksWrong : ChangeSpec := { name := "treeChecks", fn := fun _ => fun
  | [d] => { results := [.lit (.bool false)], args := [d] }
  | _ => none }
def TreeChecksWrongFalsely : Prop := treeChecksRow.holds Tryd.pinned (OpenSpec.ofChange treeChecksWrong)

/-- 'accordionlaw06.TreeTells': WHATEVER THE INPUT: true; the input reads as it did. -/
def treeTellsSpec : ChangeSpec := { name := "treeTells", fn := fun _ => fun
  | [d1, d2, d3] => { results := [.lit (.bool true)], args := [d1, d2, d3] }
  | _ => none }
def treeTellsRow : OpenClaim := { program := "ytmhaffcgiaffpaadoor", sum := "8c6314c832a3ac0eb7b511a00f991d9a16a087056e6be520f47e21f9d5dd7a04", func := "accordion/accordionlaw06.TreeTells", spec := "treeTells", inPlace := ["internal/bytealg.IndexByteString"], unfollowed := true, recurses := true, named := ["accordion/tree.properties"], loops := true, apart := false, laid := [("accordion/tree.properties", laid_accordion_tree_properties)] }
def TreeTellsSaid : Prop := treeTellsRow.holds Tryd.pinned (OpenSpec.ofChange treeTellsSpec)

/-- ITS FALSE NEIGHBOUR: 'it returns false'. Refute it at one input. -/
def treeTellsWrong : ChangeSpec := { name := "treeTells", fn := fun _ => fun
  | [d1, d2, d3] => { results := [.lit (.bool false)], args := [d1, d2, d3] }
  | _ => none }
def TreeTellsWrongFalsely : Prop := treeTellsRow.holds Tryd.pinned (OpenSpec.ofChange treeTellsWrong)

/-- 'accordionlaw06.TreeSames': WHATEVER THE INPUT: true; the input reads as it did. -/
def treeSamesSpec : ChangeSpec := { name := "treeSames", fn := fun _ => fun
  | [d1, d2] => { results := [.lit (.bool true)], args := [d1, d2] }
  | _ => none }
def treeSamesRow : OpenClaim := { program := "ytmhaffcgiaffpaadoor", sum := "8c6314c832a3ac0eb7b511a00f991d9a16a087056e6be520f47e21f9d5dd7a04", func := "accordion/accordionlaw06.TreeSames", spec := "treeSames", inPlace := ["internal/bytealg.IndexByteString"], unfollowed := true, recurses := true, named := ["accordion/tree.properties"], loops := true, apart := false, laid := [("accordion/tree.properties", laid_accordion_tree_properties)] }
def TreeSamesSaid : Prop := treeSamesRow.holds Tryd.pinned (OpenSpec.ofChange treeSamesSpec)

/-- ITS FALSE NEIGHBOUR: 'it returns false'. Refute it at one input. -/
def treeSamesWrong : ChangeSpec := { name := "treeSames", fn := fun _ => fun
  | [d1, d2] => { results := [.lit (.bool false)], args := [d1, d2] }
  | _ => none }
def TreeSamesWrongFalsely : Prop := treeSamesRow.holds Tryd.pinned (OpenSpec.ofChange treeSamesWrong)

/-- 'accordionlaw06.TreeParts': WHATEVER THE INPUT: true; the input reads as it did. -/
def treePartsSpec : ChangeSpec := { name := "treeParts", fn := fun _ => fun
  | [d] => { results := [.lit (.bool true)], args := [d] }
  | _ => none }
def treePartsRow : OpenClaim := { program := "ytmhaffcgiaffpaadoor", sum := "8c6314c832a3ac0eb7b511a00f991d9a16a087056e6be520f47e21f9d5dd7a04", func := "accordion/accordionlaw06.TreeParts", spec := "treeParts", inPlace := ["internal/bytealg.IndexByteString"], unfollowed := true, recurses := true, named := ["accordion/tree.properties"], loops := true, apart := false, laid := [("accordion/tree.properties", laid_accordion_tree_properties)] }
def TreePartsSaid : Prop := treePartsRow.holds Tryd.pinned (OpenSpec.ofChange treePartsSpec)

/-- ITS FALSE NEIGHBOUR: 'it returns false'. Refute it at one input. -/
def treePartsWrong : ChangeSpec := { name := "treeParts", fn := fun _ => fun
  | [d] => { results := [.lit (.bool false)], args := [d] }
  | _ => none }
def TreePartsWrongFalsely : Prop := treePartsRow.holds Tryd.pinned (OpenSpec.ofChange treePartsWrong)

/-- 'accordionlaw06.TreeSizes': WHATEVER THE INPUT: true; the input reads as it did. -/
def treeSizesSpec : ChangeSpec := { name := "treeSizes", fn := fun _ => fun
  | [d1, d2] => { results := [.lit (.bool true)], args := [d1, d2] }
  | _ => none }
def treeSizesRow : OpenClaim := { program := "ytmhaffcgiaffpaadoor", sum := "8c6314c832a3ac0eb7b511a00f991d9a16a087056e6be520f47e21f9d5dd7a04", func := "accordion/accordionlaw06.TreeSizes", spec := "treeSizes", inPlace := ["internal/bytealg.IndexByteString"], unfollowed := true, recurses := true, named := ["accordion/tree.properties"], loops := true, apart := false, laid := [("accordion/tree.properties", laid_accordion_tree_properties)] }
def TreeSizesSaid : Prop := treeSizesRow.holds Tryd.pinned (OpenSpec.ofChange treeSizesSpec)

/-- ITS FALSE NEIGHBOUR: 'it returns false'. Refute it at one input. -/
def treeSizesWrong : ChangeSpec := { name := "treeSizes", fn := fun _ => fun
  | [d1, d2] => { results := [.lit (.bool false)], args := [d1, d2] }
  | _ => none }
def TreeSizesWrongFalsely : Prop := treeSizesRow.holds Tryd.pinned (OpenSpec.ofChange treeSizesWrong)

/-- 'accordionlaw06.TreeJoins': WHATEVER THE INPUT: true; the input reads as it did. -/
def treeJoinsSpec : ChangeSpec := { name := "treeJoins", fn := fun _ => fun
  | [d1, d2] => { results := [.lit (.bool true)], args := [d1, d2] }
  | _ => none }
def treeJoinsRow : OpenClaim := { program := "ytmhaffcgiaffpaadoor", sum := "8c6314c832a3ac0eb7b511a00f991d9a16a087056e6be520f47e21f9d5dd7a04", func := "accordion/accordionlaw06.TreeJoins", spec := "treeJoins", inPlace := ["internal/bytealg.IndexByteString"], unfollowed := true, recurses := true, named := ["accordion/tree.properties"], loops := true, apart := false, laid := [("accordion/tree.properties", laid_accordion_tree_properties)] }
def TreeJoinsSaid : Prop := treeJoinsRow.holds Tryd.pinned (OpenSpec.ofChange treeJoinsSpec)

/-- ITS FALSE NEIGHBOUR: 'it returns false'. Refute it at one input. -/
def treeJoinsWrong : ChangeSpec := { name := "treeJoins", fn := fun _ => fun
  | [d1, d2] => { results := [.lit (.bool false)], args := [d1, d2] }
  | _ => none }
def TreeJoinsWrongFalsely : Prop := treeJoinsRow.holds Tryd.pinned (OpenSpec.ofChange treeJoinsWrong)

/-- 'accordionlaw06.TreeNodes': WHATEVER THE INPUT: true; the input reads as it did. -/
def treeNodesSpec : ChangeSpec := { name := "treeNodes", fn := fun _ => fun
  | [d] => { results := [.lit (.bool true)], args := [d] }
  | _ => none }
def treeNodesRow : OpenClaim := { program := "ytmhaffcgiaffpaadoor", sum := "8c6314c832a3ac0eb7b511a00f991d9a16a087056e6be520f47e21f9d5dd7a04", func := "accordion/accordionlaw06.TreeNodes", spec := "treeNodes", inPlace := ["internal/bytealg.IndexByteString"], unfollowed := true, recurses := true, named := ["accordion/tree.properties"], apart := false, laid := [("accordion/tree.properties", laid_accordion_tree_properties)] }
def TreeNodesSaid : Prop := treeNodesRow.holds Tryd.pinned (OpenSpec.ofChange treeNodesSpec)

/-- ITS FALSE NEIGHBOUR: 'it returns false'. Refute it at one input. -/
def treeNodesWrong : ChangeSpec := { name := "treeNodes", fn := fun _ => fun
  | [d] => { results := [.lit (.bool false)], args := [d] }
  | _ => none }
def TreeNodesWrongFalsely : Prop := treeNodesRow.holds Tryd.pinned (OpenSpec.ofChange treeNodesWrong)

/-- 'accordionlaw06.TreeKnown': WHATEVER THE INPUT: true; the input reads as it did. -/
def treeKnownSpec : ChangeSpec := { name := "treeKnown", fn := fun _ => fun
  | [] => { results := [.lit (.bool true)], args := [] }
  | _ => none }
def treeKnownRow : OpenClaim := { program := "ytmhaffcgiaffpaadoor", sum := "8c6314c832a3ac0eb7b511a00f991d9a16a087056e6be520f47e21f9d5dd7a04", func := "accordion/accordionlaw06.TreeKnown", spec := "treeKnown", inPlace := ["internal/bytealg.IndexByteString"], unfollowed := true, recurses := true, named := ["accordion/tree.properties"], apart := false, laid := [("accordion/tree.properties", laid_accordion_tree_properties)] }
def TreeKnownSaid : Prop := treeKnownRow.holds Tryd.pinned (OpenSpec.ofChange treeKnownSpec)

/-- ITS FALSE NEIGHBOUR: 'it returns false'. Refute it at one input. -/
def treeKnownWrong : ChangeSpec := { name := "treeKnown", fn := fun _ => fun
  | [] => { results := [.lit (.bool false)], args := [] }
  | _ => none }
def TreeKnownWrongFalsely : Prop := treeKnownRow.holds Tryd.pinned (OpenSpec.ofChange treeKnownWrong)

/- THE SECOND FORM. 'bulk': how many values and letters a reading holds, each counted each time it is reached (what is shared counts as often as it is met; a slice's spare places count too). A statement '..UptoSaid' is the law's where the arguments, and the package variables that the reading takes, are together of bulk at most 1048576: NARROWER than '..Said'. Prove '..Said' where nothing that the law and all that it calls make is longer than what came in: it says more and counts as full. Else prove '..UptoSaid'. A law counts once. -/
mutual
def uptoBulk {H : Type} : DataW H → Nat
  | .lit (.string bytes) => bytes.length + 1
  | .lit _ => 1
  | .nil => 1
  | .ptr d => uptoBulk d + 1
  | .slice elems spare => uptoBulkAll elems + uptoBulkAll spare + 1
  | .agg parts => uptoBulkAll parts + 1
  | .iface _ d => uptoBulk d + 1
  | .map entries => uptoBulkEntries entries + 1
  | .held _ => 1
def uptoBulkAll {H : Type} : List (DataW H) → Nat
  | [] => 0
  | d :: r => uptoBulk d + uptoBulkAll r
def uptoBulkEntries {H : Type} : List (Lit × DataW H) → Nat
  | [] => 0
  | x :: r => uptoBulkEntry x + uptoBulkEntries r
def uptoBulkEntry {H : Type} : Lit × DataW H → Nat
  | (.string bytes, d) => bytes.length + uptoBulk d + 1
  | (_, d) => uptoBulk d + 1
 end
def uptoSmall : (H : Type) → List (DataW H) → Bool := fun _ ds => decide (uptoBulkAll ds ≤ 1048576)
def OpenSpec.upto (s : _root_.Go.ChangeSpec) : _root_.Go.OpenSpec := { _root_.Go.OpenSpec.ofChange s with cond := some uptoSmall }

/-- 'accordionlaw06.TreeChecks', WHERE WHAT IT READS IS OF BULK AT MOST 1048576: true; the input reads as it did. -/
def treeChecksUptoRow : OpenClaim := { program := "ytmhaffcgiaffpaadoor", sum := "8c6314c832a3ac0eb7b511a00f991d9a16a087056e6be520f47e21f9d5dd7a04", func := "accordion/accordionlaw06.TreeChecks", spec := "treeChecks", inPlace := ["internal/bytealg.IndexByteString"], unfollowed := true, recurses := true, named := ["accordion/tree.properties"], loops := true, apart := false, laid := [("accordion/tree.properties", laid_accordion_tree_properties)], narrowed := true }
def TreeChecksUptoSaid : Prop := treeChecksUptoRow.holds Tryd.pinned (OpenSpec.upto treeChecksSpec)

/-- 'accordionlaw06.TreeTells', WHERE WHAT IT READS IS OF BULK AT MOST 1048576: true; the input reads as it did. -/
def treeTellsUptoRow : OpenClaim := { program := "ytmhaffcgiaffpaadoor", sum := "8c6314c832a3ac0eb7b511a00f991d9a16a087056e6be520f47e21f9d5dd7a04", func := "accordion/accordionlaw06.TreeTells", spec := "treeTells", inPlace := ["internal/bytealg.IndexByteString"], unfollowed := true, recurses := true, named := ["accordion/tree.properties"], loops := true, apart := false, laid := [("accordion/tree.properties", laid_accordion_tree_properties)], narrowed := true }
def TreeTellsUptoSaid : Prop := treeTellsUptoRow.holds Tryd.pinned (OpenSpec.upto treeTellsSpec)

/-- 'accordionlaw06.TreeSames', WHERE WHAT IT READS IS OF BULK AT MOST 1048576: true; the input reads as it did. -/
def treeSamesUptoRow : OpenClaim := { program := "ytmhaffcgiaffpaadoor", sum := "8c6314c832a3ac0eb7b511a00f991d9a16a087056e6be520f47e21f9d5dd7a04", func := "accordion/accordionlaw06.TreeSames", spec := "treeSames", inPlace := ["internal/bytealg.IndexByteString"], unfollowed := true, recurses := true, named := ["accordion/tree.properties"], loops := true, apart := false, laid := [("accordion/tree.properties", laid_accordion_tree_properties)], narrowed := true }
def TreeSamesUptoSaid : Prop := treeSamesUptoRow.holds Tryd.pinned (OpenSpec.upto treeSamesSpec)

/-- 'accordionlaw06.TreeParts', WHERE WHAT IT READS IS OF BULK AT MOST 1048576: true; the input reads as it did. -/
def treePartsUptoRow : OpenClaim := { program := "ytmhaffcgiaffpaadoor", sum := "8c6314c832a3ac0eb7b511a00f991d9a16a087056e6be520f47e21f9d5dd7a04", func := "accordion/accordionlaw06.TreeParts", spec := "treeParts", inPlace := ["internal/bytealg.IndexByteString"], unfollowed := true, recurses := true, named := ["accordion/tree.properties"], loops := true, apart := false, laid := [("accordion/tree.properties", laid_accordion_tree_properties)], narrowed := true }
def TreePartsUptoSaid : Prop := treePartsUptoRow.holds Tryd.pinned (OpenSpec.upto treePartsSpec)

/-- 'accordionlaw06.TreeSizes', WHERE WHAT IT READS IS OF BULK AT MOST 1048576: true; the input reads as it did. -/
def treeSizesUptoRow : OpenClaim := { program := "ytmhaffcgiaffpaadoor", sum := "8c6314c832a3ac0eb7b511a00f991d9a16a087056e6be520f47e21f9d5dd7a04", func := "accordion/accordionlaw06.TreeSizes", spec := "treeSizes", inPlace := ["internal/bytealg.IndexByteString"], unfollowed := true, recurses := true, named := ["accordion/tree.properties"], loops := true, apart := false, laid := [("accordion/tree.properties", laid_accordion_tree_properties)], narrowed := true }
def TreeSizesUptoSaid : Prop := treeSizesUptoRow.holds Tryd.pinned (OpenSpec.upto treeSizesSpec)

/-- 'accordionlaw06.TreeJoins', WHERE WHAT IT READS IS OF BULK AT MOST 1048576: true; the input reads as it did. -/
def treeJoinsUptoRow : OpenClaim := { program := "ytmhaffcgiaffpaadoor", sum := "8c6314c832a3ac0eb7b511a00f991d9a16a087056e6be520f47e21f9d5dd7a04", func := "accordion/accordionlaw06.TreeJoins", spec := "treeJoins", inPlace := ["internal/bytealg.IndexByteString"], unfollowed := true, recurses := true, named := ["accordion/tree.properties"], loops := true, apart := false, laid := [("accordion/tree.properties", laid_accordion_tree_properties)], narrowed := true }
def TreeJoinsUptoSaid : Prop := treeJoinsUptoRow.holds Tryd.pinned (OpenSpec.upto treeJoinsSpec)

/-- 'accordionlaw06.TreeNodes', WHERE WHAT IT READS IS OF BULK AT MOST 1048576: true; the input reads as it did. -/
def treeNodesUptoRow : OpenClaim := { program := "ytmhaffcgiaffpaadoor", sum := "8c6314c832a3ac0eb7b511a00f991d9a16a087056e6be520f47e21f9d5dd7a04", func := "accordion/accordionlaw06.TreeNodes", spec := "treeNodes", inPlace := ["internal/bytealg.IndexByteString"], unfollowed := true, recurses := true, named := ["accordion/tree.properties"], apart := false, laid := [("accordion/tree.properties", laid_accordion_tree_properties)], narrowed := true }
def TreeNodesUptoSaid : Prop := treeNodesUptoRow.holds Tryd.pinned (OpenSpec.upto treeNodesSpec)

/-- 'accordionlaw06.TreeKnown', WHERE WHAT IT READS IS OF BULK AT MOST 1048576: true; the input reads as it did. -/
def treeKnownUptoRow : OpenClaim := { program := "ytmhaffcgiaffpaadoor", sum := "8c6314c832a3ac0eb7b511a00f991d9a16a087056e6be520f47e21f9d5dd7a04", func := "accordion/accordionlaw06.TreeKnown", spec := "treeKnown", inPlace := ["internal/bytealg.IndexByteString"], unfollowed := true, recurses := true, named := ["accordion/tree.properties"], apart := false, laid := [("accordion/tree.properties", laid_accordion_tree_properties)], narrowed := true }
def TreeKnownUptoSaid : Prop := treeKnownUptoRow.holds Tryd.pinned (OpenSpec.upto treeKnownSpec)

end Rows
end Go.Proofs.YtmhaffcgiaffpaaDoor
