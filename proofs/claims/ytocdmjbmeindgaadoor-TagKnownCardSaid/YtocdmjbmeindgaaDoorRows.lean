/-
  NARROWER THAN 'FOR EVERY INPUT', by the rows' own cells (each row's printed sentence says how): TagPacks: laid · TagTells: laid · TagBack: laid · TagOnly: laid · TagVectors: laid · TagApart: laid · TagKnown: laid.
  DERIVED. THE GIVEN ROWS OF THIS SEAT. 7 by the template 'for every input the law returns true; each argument reads behind the call as it read before'; 0 by the template 'total and deterministic' (their statements: YtocdmjbmeindgaaDoorTotals.lean).
  GIVEN WITH THE SEED: the statements are not yours to turn. If you find one false, say at which input.
  Laid BY PROGRAM, IN A SANDBOX (cutbox-rows.mjs): the forced cells as the released guide's own fill.sh prints them over the translation d4733c877147605d… (all of the seat's roots in one cut). By AI agents, Wed Nov 11 2026. No macro, syntax, notation, axiom, sorry.
-/
import Derived.Test.YtocdmjbmeindgaaDoorChecked
import GoSem.Claim
import GoSem.ClaimJoined
import GoSem.ClaimMapViews
import Derived.JoinedTies
import Derived.KernelRfl
namespace Go.Proofs.YtocdmjbmeindgaaDoor
/- THE CELL 'sum', in the pinned program and in every row, IS THE sha256 OF THE DUMP (.gsa) THAT YtocdmjbmeindgaaDoorProg.lean LOADS. Nothing in Lean hashes anything: it is a label: what it is worth is what the hold of that sum in a sandbox is worth. -/
noncomputable def Tryd.pinned : Pinned := { name := "ytocdmjbmeindgaadoor", sum := "d4733c877147605d6e25186cd84cc2b2605fa73b169cdd7f09733ab109e19405", checked := Tryd.checked }
namespace Rows
def none {H : Type} : Left H := { results := [], args := [] }

/- WHAT THE LISTED PACKAGE-LEVEL VARIABLES READ AS WHEN THE CALL BEGINS. Each datum BY PROGRAM (the guide's laid-datum.mjs) off the statement by which the dump's own 'gosem.cut.vars' lays the variable. In a bare row this is a premise. The card (YtocdmjbmeindgaaDoorCards.lean) ties it to the program's text. -/
def laid_accordion_tag_properties {H : Type} : DataW H := .agg [.agg [.lit (.int .i64 1), .agg [.lit (.int .i64 0), .lit (.int .i64 0)]], .agg [.lit (.int .i64 1), .agg [.lit (.int .i64 0), .lit (.int .i64 0)]], .agg [.lit (.int .i64 1), .agg [.lit (.int .i64 0), .lit (.int .i64 0)]], .agg [.lit (.int .i64 0), .agg [.lit (.int .i64 0), .lit (.int .i64 0)]], .agg [.lit (.int .i64 2), .agg [.lit (.int .i64 0), .lit (.int .i64 0)]], .agg [.lit (.int .i64 2), .agg [.lit (.int .i64 0), .lit (.int .i64 0)]], .agg [.lit (.int .i64 2), .agg [.lit (.int .i64 0), .lit (.int .i64 0)]], .agg [.lit (.int .i64 2), .agg [.lit (.int .i64 0), .lit (.int .i64 0)]], .agg [.lit (.int .i64 0), .agg [.lit (.int .i64 0), .lit (.int .i64 0)]], .agg [.lit (.int .i64 2), .agg [.lit (.int .i64 0), .lit (.int .i64 0)]], .agg [.lit (.int .i64 2), .agg [.lit (.int .i64 0), .lit (.int .i64 0)]], .agg [.lit (.int .i64 3), .agg [.lit (.int .i64 1), .lit (.int .i64 0)]], .agg [.lit (.int .i64 3), .agg [.lit (.int .i64 2), .lit (.int .i64 0)]], .agg [.lit (.int .i64 0), .agg [.lit (.int .i64 0), .lit (.int .i64 0)]], .agg [.lit (.int .i64 3), .agg [.lit (.int .i64 4), .lit (.int .i64 0)]], .agg [.lit (.int .i64 0), .agg [.lit (.int .i64 0), .lit (.int .i64 0)]], .agg [.lit (.int .i64 4), .agg [.lit (.int .i64 1), .lit (.int .i64 2)]], .agg [.lit (.int .i64 4), .agg [.lit (.int .i64 2), .lit (.int .i64 2)]], .agg [.lit (.int .i64 0), .agg [.lit (.int .i64 0), .lit (.int .i64 0)]], .agg [.lit (.int .i64 4), .agg [.lit (.int .i64 1), .lit (.int .i64 3)]], .agg [.lit (.int .i64 4), .agg [.lit (.int .i64 2), .lit (.int .i64 3)]], .agg [.lit (.int .i64 0), .agg [.lit (.int .i64 0), .lit (.int .i64 0)]], .agg [.lit (.int .i64 4), .agg [.lit (.int .i64 1), .lit (.int .i64 4)]], .agg [.lit (.int .i64 4), .agg [.lit (.int .i64 2), .lit (.int .i64 4)]], .agg [.lit (.int .i64 0), .agg [.lit (.int .i64 0), .lit (.int .i64 0)]], .agg [.lit (.int .i64 2), .agg [.lit (.int .i64 0), .lit (.int .i64 0)]], .agg [.lit (.int .i64 1), .agg [.lit (.int .i64 0), .lit (.int .i64 0)]], .agg [.lit (.int .i64 0), .agg [.lit (.int .i64 0), .lit (.int .i64 0)]], .agg [.lit (.int .i64 0), .agg [.lit (.int .i64 0), .lit (.int .i64 0)]], .agg [.lit (.int .i64 0), .agg [.lit (.int .i64 0), .lit (.int .i64 0)]], .agg [.lit (.int .i64 0), .agg [.lit (.int .i64 0), .lit (.int .i64 0)]], .agg [.lit (.int .i64 0), .agg [.lit (.int .i64 0), .lit (.int .i64 0)]], .agg [.lit (.int .i64 0), .agg [.lit (.int .i64 0), .lit (.int .i64 0)]], .agg [.lit (.int .i64 0), .agg [.lit (.int .i64 0), .lit (.int .i64 0)]], .agg [.lit (.int .i64 0), .agg [.lit (.int .i64 0), .lit (.int .i64 0)]], .agg [.lit (.int .i64 0), .agg [.lit (.int .i64 0), .lit (.int .i64 0)]], .agg [.lit (.int .i64 3), .agg [.lit (.int .i64 26), .lit (.int .i64 0)]]]
def laid_accordion_tag_widths {H : Type} : DataW H := .agg [.lit (.int .i64 1), .lit (.int .i64 2), .lit (.int .i64 4), .lit (.int .i64 8)]

/-- 'accordionlaw02.TagPacks': WHATEVER THE INPUT: true; the input reads as it did. -/
def tagPacksSpec : ChangeSpec := { name := "tagPacks", fn := fun _ => fun
  | [d1, d2, d3] => { results := [.lit (.bool true)], args := [d1, d2, d3] }
  | _ => none }
def tagPacksRow : OpenClaim := { program := "ytocdmjbmeindgaadoor", sum := "d4733c877147605d6e25186cd84cc2b2605fa73b169cdd7f09733ab109e19405", func := "accordion/accordionlaw02.TagPacks", spec := "tagPacks", named := ["accordion/tag.widths", "accordion/tag.properties"], plainKeys := false, apart := false, laid := [("accordion/tag.properties", laid_accordion_tag_properties), ("accordion/tag.widths", laid_accordion_tag_widths)] }
def TagPacksSaid : Prop := tagPacksRow.holds Tryd.pinned (OpenSpec.ofChange tagPacksSpec)

/-- ITS FALSE NEIGHBOUR: 'it returns false'. Refute it at one input. -/
def tagPacksWrong : ChangeSpec := { name := "tagPacks", fn := fun _ => fun
  | [d1, d2, d3] => { results := [.lit (.bool false)], args := [d1, d2, d3] }
  | _ => none }
def TagPacksWrongFalsely : Prop := tagPacksRow.holds Tryd.pinned (OpenSpec.ofChange tagPacksWrong)

/-- 'accordionlaw02.TagTells': WHATEVER THE INPUT: true; the input reads as it did. -/
def tagTellsSpec : ChangeSpec := { name := "tagTells", fn := fun _ => fun
  | [d1, d2] => { results := [.lit (.bool true)], args := [d1, d2] }
  | _ => none }
def tagTellsRow : OpenClaim := { program := "ytocdmjbmeindgaadoor", sum := "d4733c877147605d6e25186cd84cc2b2605fa73b169cdd7f09733ab109e19405", func := "accordion/accordionlaw02.TagTells", spec := "tagTells", named := ["accordion/tag.properties", "accordion/tag.widths"], plainKeys := false, apart := false, laid := [("accordion/tag.properties", laid_accordion_tag_properties), ("accordion/tag.widths", laid_accordion_tag_widths)] }
def TagTellsSaid : Prop := tagTellsRow.holds Tryd.pinned (OpenSpec.ofChange tagTellsSpec)

/-- ITS FALSE NEIGHBOUR: 'it returns false'. Refute it at one input. -/
def tagTellsWrong : ChangeSpec := { name := "tagTells", fn := fun _ => fun
  | [d1, d2] => { results := [.lit (.bool false)], args := [d1, d2] }
  | _ => none }
def TagTellsWrongFalsely : Prop := tagTellsRow.holds Tryd.pinned (OpenSpec.ofChange tagTellsWrong)

/-- 'accordionlaw02.TagBack': WHATEVER THE INPUT: true; the input reads as it did. -/
def tagBackSpec : ChangeSpec := { name := "tagBack", fn := fun _ => fun
  | [d1, d2] => { results := [.lit (.bool true)], args := [d1, d2] }
  | _ => none }
def tagBackRow : OpenClaim := { program := "ytocdmjbmeindgaadoor", sum := "d4733c877147605d6e25186cd84cc2b2605fa73b169cdd7f09733ab109e19405", func := "accordion/accordionlaw02.TagBack", spec := "tagBack", named := ["accordion/tag.widths", "accordion/tag.properties"], plainKeys := false, apart := false, laid := [("accordion/tag.properties", laid_accordion_tag_properties), ("accordion/tag.widths", laid_accordion_tag_widths)] }
def TagBackSaid : Prop := tagBackRow.holds Tryd.pinned (OpenSpec.ofChange tagBackSpec)

/-- ITS FALSE NEIGHBOUR: 'it returns false'. Refute it at one input. -/
def tagBackWrong : ChangeSpec := { name := "tagBack", fn := fun _ => fun
  | [d1, d2] => { results := [.lit (.bool false)], args := [d1, d2] }
  | _ => none }
def TagBackWrongFalsely : Prop := tagBackRow.holds Tryd.pinned (OpenSpec.ofChange tagBackWrong)

/-- 'accordionlaw02.TagOnly': WHATEVER THE INPUT: true; the input reads as it did. -/
def tagOnlySpec : ChangeSpec := { name := "tagOnly", fn := fun _ => fun
  | [d] => { results := [.lit (.bool true)], args := [d] }
  | _ => none }
def tagOnlyRow : OpenClaim := { program := "ytocdmjbmeindgaadoor", sum := "d4733c877147605d6e25186cd84cc2b2605fa73b169cdd7f09733ab109e19405", func := "accordion/accordionlaw02.TagOnly", spec := "tagOnly", named := ["accordion/tag.widths", "accordion/tag.properties"], plainKeys := false, apart := false, laid := [("accordion/tag.properties", laid_accordion_tag_properties), ("accordion/tag.widths", laid_accordion_tag_widths)] }
def TagOnlySaid : Prop := tagOnlyRow.holds Tryd.pinned (OpenSpec.ofChange tagOnlySpec)

/-- ITS FALSE NEIGHBOUR: 'it returns false'. Refute it at one input. -/
def tagOnlyWrong : ChangeSpec := { name := "tagOnly", fn := fun _ => fun
  | [d] => { results := [.lit (.bool false)], args := [d] }
  | _ => none }
def TagOnlyWrongFalsely : Prop := tagOnlyRow.holds Tryd.pinned (OpenSpec.ofChange tagOnlyWrong)

/-- 'accordionlaw02.TagVectors': WHATEVER THE INPUT: true; the input reads as it did. -/
def tagVectorsSpec : ChangeSpec := { name := "tagVectors", fn := fun _ => fun
  | [d1, d2] => { results := [.lit (.bool true)], args := [d1, d2] }
  | _ => none }
def tagVectorsRow : OpenClaim := { program := "ytocdmjbmeindgaadoor", sum := "d4733c877147605d6e25186cd84cc2b2605fa73b169cdd7f09733ab109e19405", func := "accordion/accordionlaw02.TagVectors", spec := "tagVectors", named := ["accordion/tag.properties", "accordion/tag.widths"], plainKeys := false, apart := false, laid := [("accordion/tag.properties", laid_accordion_tag_properties), ("accordion/tag.widths", laid_accordion_tag_widths)] }
def TagVectorsSaid : Prop := tagVectorsRow.holds Tryd.pinned (OpenSpec.ofChange tagVectorsSpec)

/-- ITS FALSE NEIGHBOUR: 'it returns false'. Refute it at one input. -/
def tagVectorsWrong : ChangeSpec := { name := "tagVectors", fn := fun _ => fun
  | [d1, d2] => { results := [.lit (.bool false)], args := [d1, d2] }
  | _ => none }
def TagVectorsWrongFalsely : Prop := tagVectorsRow.holds Tryd.pinned (OpenSpec.ofChange tagVectorsWrong)

/-- 'accordionlaw02.TagApart': WHATEVER THE INPUT: true; the input reads as it did. -/
def tagApartSpec : ChangeSpec := { name := "tagApart", fn := fun _ => fun
  | [d1, d2] => { results := [.lit (.bool true)], args := [d1, d2] }
  | _ => none }
def tagApartRow : OpenClaim := { program := "ytocdmjbmeindgaadoor", sum := "d4733c877147605d6e25186cd84cc2b2605fa73b169cdd7f09733ab109e19405", func := "accordion/accordionlaw02.TagApart", spec := "tagApart", named := ["accordion/tag.widths", "accordion/tag.properties"], plainKeys := false, apart := false, laid := [("accordion/tag.properties", laid_accordion_tag_properties), ("accordion/tag.widths", laid_accordion_tag_widths)] }
def TagApartSaid : Prop := tagApartRow.holds Tryd.pinned (OpenSpec.ofChange tagApartSpec)

/-- ITS FALSE NEIGHBOUR: 'it returns false'. Refute it at one input. -/
def tagApartWrong : ChangeSpec := { name := "tagApart", fn := fun _ => fun
  | [d1, d2] => { results := [.lit (.bool false)], args := [d1, d2] }
  | _ => none }
def TagApartWrongFalsely : Prop := tagApartRow.holds Tryd.pinned (OpenSpec.ofChange tagApartWrong)

/-- 'accordionlaw02.TagKnown': WHATEVER THE INPUT: true; the input reads as it did. -/
def tagKnownSpec : ChangeSpec := { name := "tagKnown", fn := fun _ => fun
  | [] => { results := [.lit (.bool true)], args := [] }
  | _ => none }
def tagKnownRow : OpenClaim := { program := "ytocdmjbmeindgaadoor", sum := "d4733c877147605d6e25186cd84cc2b2605fa73b169cdd7f09733ab109e19405", func := "accordion/accordionlaw02.TagKnown", spec := "tagKnown", named := ["accordion/tag.widths", "accordion/tag.properties"], plainKeys := false, apart := false, laid := [("accordion/tag.properties", laid_accordion_tag_properties), ("accordion/tag.widths", laid_accordion_tag_widths)] }
def TagKnownSaid : Prop := tagKnownRow.holds Tryd.pinned (OpenSpec.ofChange tagKnownSpec)

/-- ITS FALSE NEIGHBOUR: 'it returns false'. Refute it at one input. -/
def tagKnownWrong : ChangeSpec := { name := "tagKnown", fn := fun _ => fun
  | [] => { results := [.lit (.bool false)], args := [] }
  | _ => none }
def TagKnownWrongFalsely : Prop := tagKnownRow.holds Tryd.pinned (OpenSpec.ofChange tagKnownWrong)

/- THE SECOND FORM. 'bulk': how many values and letters a reading holds, each counted each time it is reached (what is shared counts as often as it is met; a slice's spare places count too). A statement '..UptoSaid' is the law's where the arguments, and the package variables that the reading takes, are together of bulk at most 1048576: NARROWER than '..Said'. Prove '..Said' where nothing that the law and all that it calls make is longer than what came in: it says more and counts as full. Else prove '..UptoSaid'. A law counts once. -/
mutual
def uptoBulk {H : Type} : DataW H → Nat
  | .lit (.string bytes) => bytes.length + 1
  | .lit _ => 1
  | .nil => 1
  | .ptr d => uptoBulk d + 1
  | .slice elems spare => uptoBulkAll elems + uptoBulkAll spare + 1
  | .agg parts => uptoBulkAll parts + 1
  | .iface _ d => uptoBulk d + 1
  | .map entries => uptoBulkEntries entries + 1
  | .held _ => 1
def uptoBulkAll {H : Type} : List (DataW H) → Nat
  | [] => 0
  | d :: r => uptoBulk d + uptoBulkAll r
def uptoBulkEntries {H : Type} : List (Lit × DataW H) → Nat
  | [] => 0
  | x :: r => uptoBulkEntry x + uptoBulkEntries r
def uptoBulkEntry {H : Type} : Lit × DataW H → Nat
  | (.string bytes, d) => bytes.length + uptoBulk d + 1
  | (_, d) => uptoBulk d + 1
 end
def uptoSmall : (H : Type) → List (DataW H) → Bool := fun _ ds => decide (uptoBulkAll ds ≤ 1048576)
def OpenSpec.upto (s : _root_.Go.ChangeSpec) : _root_.Go.OpenSpec := { _root_.Go.OpenSpec.ofChange s with cond := some uptoSmall }

/-- 'accordionlaw02.TagPacks', WHERE WHAT IT READS IS OF BULK AT MOST 1048576: true; the input reads as it did. -/
def tagPacksUptoRow : OpenClaim := { program := "ytocdmjbmeindgaadoor", sum := "d4733c877147605d6e25186cd84cc2b2605fa73b169cdd7f09733ab109e19405", func := "accordion/accordionlaw02.TagPacks", spec := "tagPacks", named := ["accordion/tag.widths", "accordion/tag.properties"], plainKeys := false, apart := false, laid := [("accordion/tag.properties", laid_accordion_tag_properties), ("accordion/tag.widths", laid_accordion_tag_widths)], narrowed := true }
def TagPacksUptoSaid : Prop := tagPacksUptoRow.holds Tryd.pinned (OpenSpec.upto tagPacksSpec)

/-- 'accordionlaw02.TagTells', WHERE WHAT IT READS IS OF BULK AT MOST 1048576: true; the input reads as it did. -/
def tagTellsUptoRow : OpenClaim := { program := "ytocdmjbmeindgaadoor", sum := "d4733c877147605d6e25186cd84cc2b2605fa73b169cdd7f09733ab109e19405", func := "accordion/accordionlaw02.TagTells", spec := "tagTells", named := ["accordion/tag.properties", "accordion/tag.widths"], plainKeys := false, apart := false, laid := [("accordion/tag.properties", laid_accordion_tag_properties), ("accordion/tag.widths", laid_accordion_tag_widths)], narrowed := true }
def TagTellsUptoSaid : Prop := tagTellsUptoRow.holds Tryd.pinned (OpenSpec.upto tagTellsSpec)

/-- 'accordionlaw02.TagBack', WHERE WHAT IT READS IS OF BULK AT MOST 1048576: true; the input reads as it did. -/
def tagBackUptoRow : OpenClaim := { program := "ytocdmjbmeindgaadoor", sum := "d4733c877147605d6e25186cd84cc2b2605fa73b169cdd7f09733ab109e19405", func := "accordion/accordionlaw02.TagBack", spec := "tagBack", named := ["accordion/tag.widths", "accordion/tag.properties"], plainKeys := false, apart := false, laid := [("accordion/tag.properties", laid_accordion_tag_properties), ("accordion/tag.widths", laid_accordion_tag_widths)], narrowed := true }
def TagBackUptoSaid : Prop := tagBackUptoRow.holds Tryd.pinned (OpenSpec.upto tagBackSpec)

/-- 'accordionlaw02.TagOnly', WHERE WHAT IT READS IS OF BULK AT MOST 1048576: true; the input reads as it did. -/
def tagOnlyUptoRow : OpenClaim := { program := "ytocdmjbmeindgaadoor", sum := "d4733c877147605d6e25186cd84cc2b2605fa73b169cdd7f09733ab109e19405", func := "accordion/accordionlaw02.TagOnly", spec := "tagOnly", named := ["accordion/tag.widths", "accordion/tag.properties"], plainKeys := false, apart := false, laid := [("accordion/tag.properties", laid_accordion_tag_properties), ("accordion/tag.widths", laid_accordion_tag_widths)], narrowed := true }
def TagOnlyUptoSaid : Prop := tagOnlyUptoRow.holds Tryd.pinned (OpenSpec.upto tagOnlySpec)

/-- 'accordionlaw02.TagVectors', WHERE WHAT IT READS IS OF BULK AT MOST 1048576: true; the input reads as it did. -/
def tagVectorsUptoRow : OpenClaim := { program := "ytocdmjbmeindgaadoor", sum := "d4733c877147605d6e25186cd84cc2b2605fa73b169cdd7f09733ab109e19405", func := "accordion/accordionlaw02.TagVectors", spec := "tagVectors", named := ["accordion/tag.properties", "accordion/tag.widths"], plainKeys := false, apart := false, laid := [("accordion/tag.properties", laid_accordion_tag_properties), ("accordion/tag.widths", laid_accordion_tag_widths)], narrowed := true }
def TagVectorsUptoSaid : Prop := tagVectorsUptoRow.holds Tryd.pinned (OpenSpec.upto tagVectorsSpec)

/-- 'accordionlaw02.TagApart', WHERE WHAT IT READS IS OF BULK AT MOST 1048576: true; the input reads as it did. -/
def tagApartUptoRow : OpenClaim := { program := "ytocdmjbmeindgaadoor", sum := "d4733c877147605d6e25186cd84cc2b2605fa73b169cdd7f09733ab109e19405", func := "accordion/accordionlaw02.TagApart", spec := "tagApart", named := ["accordion/tag.widths", "accordion/tag.properties"], plainKeys := false, apart := false, laid := [("accordion/tag.properties", laid_accordion_tag_properties), ("accordion/tag.widths", laid_accordion_tag_widths)], narrowed := true }
def TagApartUptoSaid : Prop := tagApartUptoRow.holds Tryd.pinned (OpenSpec.upto tagApartSpec)

/-- 'accordionlaw02.TagKnown', WHERE WHAT IT READS IS OF BULK AT MOST 1048576: true; the input reads as it did. -/
def tagKnownUptoRow : OpenClaim := { program := "ytocdmjbmeindgaadoor", sum := "d4733c877147605d6e25186cd84cc2b2605fa73b169cdd7f09733ab109e19405", func := "accordion/accordionlaw02.TagKnown", spec := "tagKnown", named := ["accordion/tag.widths", "accordion/tag.properties"], plainKeys := false, apart := false, laid := [("accordion/tag.properties", laid_accordion_tag_properties), ("accordion/tag.widths", laid_accordion_tag_widths)], narrowed := true }
def TagKnownUptoSaid : Prop := tagKnownUptoRow.holds Tryd.pinned (OpenSpec.upto tagKnownSpec)

end Rows
end Go.Proofs.YtocdmjbmeindgaaDoor
