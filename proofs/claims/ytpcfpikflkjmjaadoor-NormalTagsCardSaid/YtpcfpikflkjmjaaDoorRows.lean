/-
  NARROWER THAN 'FOR EVERY INPUT', by the rows' own cells (each row's printed sentence says how): KeySorts: loops, laid · KeySame: loops, laid · KeyKnown: laid · NormalForms: loops, laid · NormalAlike: loops, laid · NormalOnce: loops, laid · NormalKinds: loops, laid · NormalParts: loops, laid · NormalTags: loops, laid · NormalKnown: laid.
  DERIVED. THE GIVEN ROWS OF THIS SEAT. 10 by the template 'for every input the law returns true; each argument reads behind the call as it read before'; 0 by the template 'total and deterministic' (their statements: YtpcfpikflkjmjaaDoorTotals.lean).
  GIVEN WITH THE SEED: the statements are not yours to turn. If you find one false, say at which input.
  Laid BY PROGRAM, IN A SANDBOX (cutbox-rows.mjs): the forced cells as the released guide's own fill.sh prints them over the translation 35e5c7e2097a5104… (all of the seat's roots in one cut). By AI agents, Wed Nov 11 2026. No macro, syntax, notation, axiom, sorry.
-/
import Derived.Test.YtpcfpikflkjmjaaDoorChecked
import GoSem.Claim
import GoSem.ClaimJoined
import GoSem.ClaimMapViews
import Derived.JoinedTies
import Derived.KernelRfl
namespace Go.Proofs.YtpcfpikflkjmjaaDoor
/- THE CELL 'sum', in the pinned program and in every row, IS THE sha256 OF THE DUMP (.gsa) THAT YtpcfpikflkjmjaaDoorProg.lean LOADS. Nothing in Lean hashes anything: it is a label: what it is worth is what the hold of that sum in a sandbox is worth. -/
noncomputable def Tryd.pinned : Pinned := { name := "ytpcfpikflkjmjaadoor", sum := "35e5c7e2097a51044135c86d9236ddd63b5a2856707b0c4853012fc4f425e2d2", checked := Tryd.checked }
namespace Rows
def none {H : Type} : Left H := { results := [], args := [] }

/- WHAT THE LISTED PACKAGE-LEVEL VARIABLES READ AS WHEN THE CALL BEGINS. Each datum BY PROGRAM (the guide's laid-datum.mjs) off the statement by which the dump's own 'gosem.cut.vars' lays the variable. In a bare row this is a premise. The card (YtpcfpikflkjmjaaDoorCards.lean) ties it to the program's text. -/
def laid_accordion_tree_properties {H : Type} : DataW H := .agg [.agg [.lit (.int .i64 0), .lit (.int .i64 0), .lit (.bool false)], .agg [.lit (.int .i64 0), .lit (.int .i64 0), .lit (.bool false)], .agg [.lit (.int .i64 1), .lit (.int .i64 0), .lit (.bool false)], .agg [.lit (.int .i64 1), .lit (.int .i64 0), .lit (.bool false)], .agg [.lit (.int .i64 2), .lit (.int .i64 0), .lit (.bool false)], .agg [.lit (.int .i64 4), .lit (.int .i64 0), .lit (.bool false)], .agg [.lit (.int .i64 4), .lit (.int .i64 0), .lit (.bool false)], .agg [.lit (.int .i64 4), .lit (.int .i64 0), .lit (.bool false)], .agg [.lit (.int .i64 1), .lit (.int .i64 0), .lit (.bool false)], .agg [.lit (.int .i64 2), .lit (.int .i64 0), .lit (.bool false)], .agg [.lit (.int .i64 16), .lit (.int .i64 0), .lit (.bool false)], .agg [.lit (.int .i64 16), .lit (.int .i64 3), .lit (.bool false)], .agg [.lit (.int .i64 16), .lit (.int .i64 4), .lit (.bool false)], .agg [.lit (.int .i64 16), .lit (.int .i64 5), .lit (.bool false)], .agg [.lit (.int .i64 16), .lit (.int .i64 2), .lit (.bool false)], .agg [.lit (.int .i64 16), .lit (.int .i64 3), .lit (.bool true)], .agg [.lit (.int .i64 16), .lit (.int .i64 4), .lit (.bool true)], .agg [.lit (.int .i64 24), .lit (.int .i64 0), .lit (.bool false)]]

/-- 'accordionlaw07.KeySorts': WHATEVER THE INPUT: true; the input reads as it did. -/
def keySortsSpec : ChangeSpec := { name := "keySorts", fn := fun _ => fun
  | [d] => { results := [.lit (.bool true)], args := [d] }
  | _ => none }
def keySortsRow : OpenClaim := { program := "ytpcfpikflkjmjaadoor", sum := "35e5c7e2097a51044135c86d9236ddd63b5a2856707b0c4853012fc4f425e2d2", func := "accordion/accordionlaw07.KeySorts", spec := "keySorts", inPlace := ["internal/bytealg.IndexByteString", "internal/bytealg.abigen_runtime_cmpstring"], unfollowed := true, recurses := true, named := ["accordion/tree.properties"], loops := true, apart := false, laid := [("accordion/tree.properties", laid_accordion_tree_properties)] }
def KeySortsSaid : Prop := keySortsRow.holds Tryd.pinned (OpenSpec.ofChange keySortsSpec)

/-- ITS FALSE NEIGHBOUR: 'it returns false'. Refute it at one input. -/
def keySortsWrong : ChangeSpec := { name := "keySorts", fn := fun _ => fun
  | [d] => { results := [.lit (.bool false)], args := [d] }
  | _ => none }
def KeySortsWrongFalsely : Prop := keySortsRow.holds Tryd.pinned (OpenSpec.ofChange keySortsWrong)

/-- 'accordionlaw07.KeySame': WHATEVER THE INPUT: true; the input reads as it did. -/
def keySameSpec : ChangeSpec := { name := "keySame", fn := fun _ => fun
  | [d1, d2] => { results := [.lit (.bool true)], args := [d1, d2] }
  | _ => none }
def keySameRow : OpenClaim := { program := "ytpcfpikflkjmjaadoor", sum := "35e5c7e2097a51044135c86d9236ddd63b5a2856707b0c4853012fc4f425e2d2", func := "accordion/accordionlaw07.KeySame", spec := "keySame", inPlace := ["internal/bytealg.IndexByteString", "internal/bytealg.abigen_runtime_cmpstring"], unfollowed := true, recurses := true, named := ["accordion/tree.properties"], loops := true, apart := false, laid := [("accordion/tree.properties", laid_accordion_tree_properties)] }
def KeySameSaid : Prop := keySameRow.holds Tryd.pinned (OpenSpec.ofChange keySameSpec)

/-- ITS FALSE NEIGHBOUR: 'it returns false'. Refute it at one input. -/
def keySameWrong : ChangeSpec := { name := "keySame", fn := fun _ => fun
  | [d1, d2] => { results := [.lit (.bool false)], args := [d1, d2] }
  | _ => none }
def KeySameWrongFalsely : Prop := keySameRow.holds Tryd.pinned (OpenSpec.ofChange keySameWrong)

/-- 'accordionlaw07.KeyKnown': WHATEVER THE INPUT: true; the input reads as it did. -/
def keyKnownSpec : ChangeSpec := { name := "keyKnown", fn := fun _ => fun
  | [] => { results := [.lit (.bool true)], args := [] }
  | _ => none }
def keyKnownRow : OpenClaim := { program := "ytpcfpikflkjmjaadoor", sum := "35e5c7e2097a51044135c86d9236ddd63b5a2856707b0c4853012fc4f425e2d2", func := "accordion/accordionlaw07.KeyKnown", spec := "keyKnown", inPlace := ["internal/bytealg.abigen_runtime_cmpstring", "internal/bytealg.IndexByteString"], unfollowed := true, recurses := true, named := ["accordion/tree.properties"], apart := false, laid := [("accordion/tree.properties", laid_accordion_tree_properties)] }
def KeyKnownSaid : Prop := keyKnownRow.holds Tryd.pinned (OpenSpec.ofChange keyKnownSpec)

/-- ITS FALSE NEIGHBOUR: 'it returns false'. Refute it at one input. -/
def keyKnownWrong : ChangeSpec := { name := "keyKnown", fn := fun _ => fun
  | [] => { results := [.lit (.bool false)], args := [] }
  | _ => none }
def KeyKnownWrongFalsely : Prop := keyKnownRow.holds Tryd.pinned (OpenSpec.ofChange keyKnownWrong)

/-- 'accordionlaw09.NormalForms': WHATEVER THE INPUT: true; the input reads as it did. -/
def normalFormsSpec : ChangeSpec := { name := "normalForms", fn := fun _ => fun
  | [d] => { results := [.lit (.bool true)], args := [d] }
  | _ => none }
def normalFormsRow : OpenClaim := { program := "ytpcfpikflkjmjaadoor", sum := "35e5c7e2097a51044135c86d9236ddd63b5a2856707b0c4853012fc4f425e2d2", func := "accordion/accordionlaw09.NormalForms", spec := "normalForms", inPlace := ["internal/bytealg.IndexByteString", "internal/bytealg.abigen_runtime_cmpstring"], unfollowed := true, recurses := true, named := ["accordion/tree.properties"], loops := true, apart := false, laid := [("accordion/tree.properties", laid_accordion_tree_properties)] }
def NormalFormsSaid : Prop := normalFormsRow.holds Tryd.pinned (OpenSpec.ofChange normalFormsSpec)

/-- ITS FALSE NEIGHBOUR: 'it returns false'. Refute it at one input. -/
def normalFormsWrong : ChangeSpec := { name := "normalForms", fn := fun _ => fun
  | [d] => { results := [.lit (.bool false)], args := [d] }
  | _ => none }
def NormalFormsWrongFalsely : Prop := normalFormsRow.holds Tryd.pinned (OpenSpec.ofChange normalFormsWrong)

/-- 'accordionlaw09.NormalAlike': WHATEVER THE INPUT: true; the input reads as it did. -/
def normalAlikeSpec : ChangeSpec := { name := "normalAlike", fn := fun _ => fun
  | [d1, d2] => { results := [.lit (.bool true)], args := [d1, d2] }
  | _ => none }
def normalAlikeRow : OpenClaim := { program := "ytpcfpikflkjmjaadoor", sum := "35e5c7e2097a51044135c86d9236ddd63b5a2856707b0c4853012fc4f425e2d2", func := "accordion/accordionlaw09.NormalAlike", spec := "normalAlike", inPlace := ["internal/bytealg.IndexByteString", "internal/bytealg.abigen_runtime_cmpstring"], unfollowed := true, recurses := true, named := ["accordion/tree.properties"], loops := true, apart := false, laid := [("accordion/tree.properties", laid_accordion_tree_properties)] }
def NormalAlikeSaid : Prop := normalAlikeRow.holds Tryd.pinned (OpenSpec.ofChange normalAlikeSpec)

/-- ITS FALSE NEIGHBOUR: 'it returns false'. Refute it at one input. -/
def normalAlikeWrong : ChangeSpec := { name := "normalAlike", fn := fun _ => fun
  | [d1, d2] => { results := [.lit (.bool false)], args := [d1, d2] }
  | _ => none }
def NormalAlikeWrongFalsely : Prop := normalAlikeRow.holds Tryd.pinned (OpenSpec.ofChange normalAlikeWrong)

/-- 'accordionlaw09.NormalOnce': WHATEVER THE INPUT: true; the input reads as it did. -/
def normalOnceSpec : ChangeSpec := { name := "normalOnce", fn := fun _ => fun
  | [d] => { results := [.lit (.bool true)], args := [d] }
  | _ => none }
def normalOnceRow : OpenClaim := { program := "ytpcfpikflkjmjaadoor", sum := "35e5c7e2097a51044135c86d9236ddd63b5a2856707b0c4853012fc4f425e2d2", func := "accordion/accordionlaw09.NormalOnce", spec := "normalOnce", inPlace := ["internal/bytealg.IndexByteString", "internal/bytealg.abigen_runtime_cmpstring"], unfollowed := true, recurses := true, named := ["accordion/tree.properties"], loops := true, apart := false, laid := [("accordion/tree.properties", laid_accordion_tree_properties)] }
def NormalOnceSaid : Prop := normalOnceRow.holds Tryd.pinned (OpenSpec.ofChange normalOnceSpec)

/-- ITS FALSE NEIGHBOUR: 'it returns false'. Refute it at one input. -/
def normalOnceWrong : ChangeSpec := { name := "normalOnce", fn := fun _ => fun
  | [d] => { results := [.lit (.bool false)], args := [d] }
  | _ => none }
def NormalOnceWrongFalsely : Prop := normalOnceRow.holds Tryd.pinned (OpenSpec.ofChange normalOnceWrong)

/-- 'accordionlaw09.NormalKinds': WHATEVER THE INPUT: true; the input reads as it did. -/
def normalKindsSpec : ChangeSpec := { name := "normalKinds", fn := fun _ => fun
  | [d] => { results := [.lit (.bool true)], args := [d] }
  | _ => none }
def normalKindsRow : OpenClaim := { program := "ytpcfpikflkjmjaadoor", sum := "35e5c7e2097a51044135c86d9236ddd63b5a2856707b0c4853012fc4f425e2d2", func := "accordion/accordionlaw09.NormalKinds", spec := "normalKinds", inPlace := ["internal/bytealg.IndexByteString", "internal/bytealg.abigen_runtime_cmpstring"], unfollowed := true, recurses := true, named := ["accordion/tree.properties"], loops := true, apart := false, laid := [("accordion/tree.properties", laid_accordion_tree_properties)] }
def NormalKindsSaid : Prop := normalKindsRow.holds Tryd.pinned (OpenSpec.ofChange normalKindsSpec)

/-- ITS FALSE NEIGHBOUR: 'it returns false'. Refute it at one input. -/
def normalKindsWrong : ChangeSpec := { name := "normalKinds", fn := fun _ => fun
  | [d] => { results := [.lit (.bool false)], args := [d] }
  | _ => none }
def NormalKindsWrongFalsely : Prop := normalKindsRow.holds Tryd.pinned (OpenSpec.ofChange normalKindsWrong)

/-- 'accordionlaw09.NormalParts': WHATEVER THE INPUT: true; the input reads as it did. -/
def normalPartsSpec : ChangeSpec := { name := "normalParts", fn := fun _ => fun
  | [d1, d2] => { results := [.lit (.bool true)], args := [d1, d2] }
  | _ => none }
def normalPartsRow : OpenClaim := { program := "ytpcfpikflkjmjaadoor", sum := "35e5c7e2097a51044135c86d9236ddd63b5a2856707b0c4853012fc4f425e2d2", func := "accordion/accordionlaw09.NormalParts", spec := "normalParts", inPlace := ["internal/bytealg.IndexByteString", "internal/bytealg.abigen_runtime_cmpstring"], unfollowed := true, recurses := true, named := ["accordion/tree.properties"], loops := true, apart := false, laid := [("accordion/tree.properties", laid_accordion_tree_properties)] }
def NormalPartsSaid : Prop := normalPartsRow.holds Tryd.pinned (OpenSpec.ofChange normalPartsSpec)

/-- ITS FALSE NEIGHBOUR: 'it returns false'. Refute it at one input. -/
def normalPartsWrong : ChangeSpec := { name := "normalParts", fn := fun _ => fun
  | [d1, d2] => { results := [.lit (.bool false)], args := [d1, d2] }
  | _ => none }
def NormalPartsWrongFalsely : Prop := normalPartsRow.holds Tryd.pinned (OpenSpec.ofChange normalPartsWrong)

/-- 'accordionlaw09.NormalTags': WHATEVER THE INPUT: true; the input reads as it did. -/
def normalTagsSpec : ChangeSpec := { name := "normalTags", fn := fun _ => fun
  | [d1, d2] => { results := [.lit (.bool true)], args := [d1, d2] }
  | _ => none }
def normalTagsRow : OpenClaim := { program := "ytpcfpikflkjmjaadoor", sum := "35e5c7e2097a51044135c86d9236ddd63b5a2856707b0c4853012fc4f425e2d2", func := "accordion/accordionlaw09.NormalTags", spec := "normalTags", inPlace := ["internal/bytealg.IndexByteString", "internal/bytealg.abigen_runtime_cmpstring"], unfollowed := true, recurses := true, named := ["accordion/tree.properties"], loops := true, apart := false, laid := [("accordion/tree.properties", laid_accordion_tree_properties)] }
def NormalTagsSaid : Prop := normalTagsRow.holds Tryd.pinned (OpenSpec.ofChange normalTagsSpec)

/-- ITS FALSE NEIGHBOUR: 'it returns false'. Refute it at one input. -/
def normalTagsWrong : ChangeSpec := { name := "normalTags", fn := fun _ => fun
  | [d1, d2] => { results := [.lit (.bool false)], args := [d1, d2] }
  | _ => none }
def NormalTagsWrongFalsely : Prop := normalTagsRow.holds Tryd.pinned (OpenSpec.ofChange normalTagsWrong)

/-- 'accordionlaw09.NormalKnown': WHATEVER THE INPUT: true; the input reads as it did. -/
def normalKnownSpec : ChangeSpec := { name := "normalKnown", fn := fun _ => fun
  | [] => { results := [.lit (.bool true)], args := [] }
  | _ => none }
def normalKnownRow : OpenClaim := { program := "ytpcfpikflkjmjaadoor", sum := "35e5c7e2097a51044135c86d9236ddd63b5a2856707b0c4853012fc4f425e2d2", func := "accordion/accordionlaw09.NormalKnown", spec := "normalKnown", inPlace := ["internal/bytealg.IndexByteString", "internal/bytealg.abigen_runtime_cmpstring"], unfollowed := true, recurses := true, named := ["accordion/tree.properties"], apart := false, laid := [("accordion/tree.properties", laid_accordion_tree_properties)] }
def NormalKnownSaid : Prop := normalKnownRow.holds Tryd.pinned (OpenSpec.ofChange normalKnownSpec)

/-- ITS FALSE NEIGHBOUR: 'it returns false'. Refute it at one input. -/
def normalKnownWrong : ChangeSpec := { name := "normalKnown", fn := fun _ => fun
  | [] => { results := [.lit (.bool false)], args := [] }
  | _ => none }
def NormalKnownWrongFalsely : Prop := normalKnownRow.holds Tryd.pinned (OpenSpec.ofChange normalKnownWrong)

/- THE SECOND FORM. 'bulk': how many values and letters a reading holds, each counted each time it is reached (what is shared counts as often as it is met; a slice's spare places count too). A statement '..UptoSaid' is the law's where the arguments, and the package variables that the reading takes, are together of bulk at most 1048576: NARROWER than '..Said'. Prove '..Said' where nothing that the law and all that it calls make is longer than what came in: it says more and counts as full. Else prove '..UptoSaid'. A law counts once. -/
mutual
def uptoBulk {H : Type} : DataW H → Nat
  | .lit (.string bytes) => bytes.length + 1
  | .lit _ => 1
  | .nil => 1
  | .ptr d => uptoBulk d + 1
  | .slice elems spare => uptoBulkAll elems + uptoBulkAll spare + 1
  | .agg parts => uptoBulkAll parts + 1
  | .iface _ d => uptoBulk d + 1
  | .map entries => uptoBulkEntries entries + 1
  | .held _ => 1
def uptoBulkAll {H : Type} : List (DataW H) → Nat
  | [] => 0
  | d :: r => uptoBulk d + uptoBulkAll r
def uptoBulkEntries {H : Type} : List (Lit × DataW H) → Nat
  | [] => 0
  | x :: r => uptoBulkEntry x + uptoBulkEntries r
def uptoBulkEntry {H : Type} : Lit × DataW H → Nat
  | (.string bytes, d) => bytes.length + uptoBulk d + 1
  | (_, d) => uptoBulk d + 1
 end
def uptoSmall : (H : Type) → List (DataW H) → Bool := fun _ ds => decide (uptoBulkAll ds ≤ 1048576)
def OpenSpec.upto (s : _root_.Go.ChangeSpec) : _root_.Go.OpenSpec := { _root_.Go.OpenSpec.ofChange s with cond := some uptoSmall }

/-- 'accordionlaw07.KeySorts', WHERE WHAT IT READS IS OF BULK AT MOST 1048576: true; the input reads as it did. -/
def keySortsUptoRow : OpenClaim := { program := "ytpcfpikflkjmjaadoor", sum := "35e5c7e2097a51044135c86d9236ddd63b5a2856707b0c4853012fc4f425e2d2", func := "accordion/accordionlaw07.KeySorts", spec := "keySorts", inPlace := ["internal/bytealg.IndexByteString", "internal/bytealg.abigen_runtime_cmpstring"], unfollowed := true, recurses := true, named := ["accordion/tree.properties"], loops := true, apart := false, laid := [("accordion/tree.properties", laid_accordion_tree_properties)], narrowed := true }
def KeySortsUptoSaid : Prop := keySortsUptoRow.holds Tryd.pinned (OpenSpec.upto keySortsSpec)

/-- 'accordionlaw07.KeySame', WHERE WHAT IT READS IS OF BULK AT MOST 1048576: true; the input reads as it did. -/
def keySameUptoRow : OpenClaim := { program := "ytpcfpikflkjmjaadoor", sum := "35e5c7e2097a51044135c86d9236ddd63b5a2856707b0c4853012fc4f425e2d2", func := "accordion/accordionlaw07.KeySame", spec := "keySame", inPlace := ["internal/bytealg.IndexByteString", "internal/bytealg.abigen_runtime_cmpstring"], unfollowed := true, recurses := true, named := ["accordion/tree.properties"], loops := true, apart := false, laid := [("accordion/tree.properties", laid_accordion_tree_properties)], narrowed := true }
def KeySameUptoSaid : Prop := keySameUptoRow.holds Tryd.pinned (OpenSpec.upto keySameSpec)

/-- 'accordionlaw07.KeyKnown', WHERE WHAT IT READS IS OF BULK AT MOST 1048576: true; the input reads as it did. -/
def keyKnownUptoRow : OpenClaim := { program := "ytpcfpikflkjmjaadoor", sum := "35e5c7e2097a51044135c86d9236ddd63b5a2856707b0c4853012fc4f425e2d2", func := "accordion/accordionlaw07.KeyKnown", spec := "keyKnown", inPlace := ["internal/bytealg.abigen_runtime_cmpstring", "internal/bytealg.IndexByteString"], unfollowed := true, recurses := true, named := ["accordion/tree.properties"], apart := false, laid := [("accordion/tree.properties", laid_accordion_tree_properties)], narrowed := true }
def KeyKnownUptoSaid : Prop := keyKnownUptoRow.holds Tryd.pinned (OpenSpec.upto keyKnownSpec)

/-- 'accordionlaw09.NormalForms', WHERE WHAT IT READS IS OF BULK AT MOST 1048576: true; the input reads as it did. -/
def normalFormsUptoRow : OpenClaim := { program := "ytpcfpikflkjmjaadoor", sum := "35e5c7e2097a51044135c86d9236ddd63b5a2856707b0c4853012fc4f425e2d2", func := "accordion/accordionlaw09.NormalForms", spec := "normalForms", inPlace := ["internal/bytealg.IndexByteString", "internal/bytealg.abigen_runtime_cmpstring"], unfollowed := true, recurses := true, named := ["accordion/tree.properties"], loops := true, apart := false, laid := [("accordion/tree.properties", laid_accordion_tree_properties)], narrowed := true }
def NormalFormsUptoSaid : Prop := normalFormsUptoRow.holds Tryd.pinned (OpenSpec.upto normalFormsSpec)

/-- 'accordionlaw09.NormalAlike', WHERE WHAT IT READS IS OF BULK AT MOST 1048576: true; the input reads as it did. -/
def normalAlikeUptoRow : OpenClaim := { program := "ytpcfpikflkjmjaadoor", sum := "35e5c7e2097a51044135c86d9236ddd63b5a2856707b0c4853012fc4f425e2d2", func := "accordion/accordionlaw09.NormalAlike", spec := "normalAlike", inPlace := ["internal/bytealg.IndexByteString", "internal/bytealg.abigen_runtime_cmpstring"], unfollowed := true, recurses := true, named := ["accordion/tree.properties"], loops := true, apart := false, laid := [("accordion/tree.properties", laid_accordion_tree_properties)], narrowed := true }
def NormalAlikeUptoSaid : Prop := normalAlikeUptoRow.holds Tryd.pinned (OpenSpec.upto normalAlikeSpec)

/-- 'accordionlaw09.NormalOnce', WHERE WHAT IT READS IS OF BULK AT MOST 1048576: true; the input reads as it did. -/
def normalOnceUptoRow : OpenClaim := { program := "ytpcfpikflkjmjaadoor", sum := "35e5c7e2097a51044135c86d9236ddd63b5a2856707b0c4853012fc4f425e2d2", func := "accordion/accordionlaw09.NormalOnce", spec := "normalOnce", inPlace := ["internal/bytealg.IndexByteString", "internal/bytealg.abigen_runtime_cmpstring"], unfollowed := true, recurses := true, named := ["accordion/tree.properties"], loops := true, apart := false, laid := [("accordion/tree.properties", laid_accordion_tree_properties)], narrowed := true }
def NormalOnceUptoSaid : Prop := normalOnceUptoRow.holds Tryd.pinned (OpenSpec.upto normalOnceSpec)

/-- 'accordionlaw09.NormalKinds', WHERE WHAT IT READS IS OF BULK AT MOST 1048576: true; the input reads as it did. -/
def normalKindsUptoRow : OpenClaim := { program := "ytpcfpikflkjmjaadoor", sum := "35e5c7e2097a51044135c86d9236ddd63b5a2856707b0c4853012fc4f425e2d2", func := "accordion/accordionlaw09.NormalKinds", spec := "normalKinds", inPlace := ["internal/bytealg.IndexByteString", "internal/bytealg.abigen_runtime_cmpstring"], unfollowed := true, recurses := true, named := ["accordion/tree.properties"], loops := true, apart := false, laid := [("accordion/tree.properties", laid_accordion_tree_properties)], narrowed := true }
def NormalKindsUptoSaid : Prop := normalKindsUptoRow.holds Tryd.pinned (OpenSpec.upto normalKindsSpec)

/-- 'accordionlaw09.NormalParts', WHERE WHAT IT READS IS OF BULK AT MOST 1048576: true; the input reads as it did. -/
def normalPartsUptoRow : OpenClaim := { program := "ytpcfpikflkjmjaadoor", sum := "35e5c7e2097a51044135c86d9236ddd63b5a2856707b0c4853012fc4f425e2d2", func := "accordion/accordionlaw09.NormalParts", spec := "normalParts", inPlace := ["internal/bytealg.IndexByteString", "internal/bytealg.abigen_runtime_cmpstring"], unfollowed := true, recurses := true, named := ["accordion/tree.properties"], loops := true, apart := false, laid := [("accordion/tree.properties", laid_accordion_tree_properties)], narrowed := true }
def NormalPartsUptoSaid : Prop := normalPartsUptoRow.holds Tryd.pinned (OpenSpec.upto normalPartsSpec)

/-- 'accordionlaw09.NormalTags', WHERE WHAT IT READS IS OF BULK AT MOST 1048576: true; the input reads as it did. -/
def normalTagsUptoRow : OpenClaim := { program := "ytpcfpikflkjmjaadoor", sum := "35e5c7e2097a51044135c86d9236ddd63b5a2856707b0c4853012fc4f425e2d2", func := "accordion/accordionlaw09.NormalTags", spec := "normalTags", inPlace := ["internal/bytealg.IndexByteString", "internal/bytealg.abigen_runtime_cmpstring"], unfollowed := true, recurses := true, named := ["accordion/tree.properties"], loops := true, apart := false, laid := [("accordion/tree.properties", laid_accordion_tree_properties)], narrowed := true }
def NormalTagsUptoSaid : Prop := normalTagsUptoRow.holds Tryd.pinned (OpenSpec.upto normalTagsSpec)

/-- 'accordionlaw09.NormalKnown', WHERE WHAT IT READS IS OF BULK AT MOST 1048576: true; the input reads as it did. -/
def normalKnownUptoRow : OpenClaim := { program := "ytpcfpikflkjmjaadoor", sum := "35e5c7e2097a51044135c86d9236ddd63b5a2856707b0c4853012fc4f425e2d2", func := "accordion/accordionlaw09.NormalKnown", spec := "normalKnown", inPlace := ["internal/bytealg.IndexByteString", "internal/bytealg.abigen_runtime_cmpstring"], unfollowed := true, recurses := true, named := ["accordion/tree.properties"], apart := false, laid := [("accordion/tree.properties", laid_accordion_tree_properties)], narrowed := true }
def NormalKnownUptoSaid : Prop := normalKnownUptoRow.holds Tryd.pinned (OpenSpec.upto normalKnownSpec)

end Rows
end Go.Proofs.YtpcfpikflkjmjaaDoor
