/-
  DERIVED. GIVEN WITH THE SEED: THE CARDS: each row of YtocdmjbmeindgaaDoorRows.lean that lists a variable, with what it lists TIED to the program's text (the seventh form; the later family's looks); each row that meets fmt, with fmt's text TOLD by the authors' own Lean function (tested against real Go, not proved from fmt's source: count such statements apart). THE CARD IS WHAT COUNTS. Prove the row's statement (the work); the ties are given (YtocdmjbmeindgaaDoorTie.lean); close each card by the builder's one call (the guide's Derived/Test/ToyasCard.lean, 'card_holds'). Laid BY PROGRAM, IN A SANDBOX (cutbox-door.mjs). By AI agents, Wed Nov 11 2026. No macro, syntax, notation, axiom, sorry.
-/
import Derived.Test.YtocdmjbmeindgaaDoorRows
import GoSem.ClaimSeven
namespace Go.Proofs.YtocdmjbmeindgaaDoor
namespace Rows

/-- THE TIED CARD OF 'accordionlaw02.TagPacks'. -/
def tagPacksCard : Claim7 := { stood := { row := tagPacksRow, standIns := [], harness := (true, "cf669eacfc91de973fe124127712e90c1f60c4df503ddc056ec04a27a08070fe"), looks := false }, kinds := [], alts := [], laidByText := true, laidKinds := [.data, .data], laidTests := true, laidLooks := .later }
def TagPacksCardSaid : Prop := Claim7.holds Tryd.pinned (.plain (OpenSpec.ofChange tagPacksSpec)) tagPacksCard

/-- THE TIED CARD OF 'accordionlaw02.TagTells'. -/
def tagTellsCard : Claim7 := { stood := { row := tagTellsRow, standIns := [], harness := (true, "cf669eacfc91de973fe124127712e90c1f60c4df503ddc056ec04a27a08070fe"), looks := false }, kinds := [], alts := [], laidByText := true, laidKinds := [.data, .data], laidTests := true, laidLooks := .later }
def TagTellsCardSaid : Prop := Claim7.holds Tryd.pinned (.plain (OpenSpec.ofChange tagTellsSpec)) tagTellsCard

/-- THE TIED CARD OF 'accordionlaw02.TagBack'. -/
def tagBackCard : Claim7 := { stood := { row := tagBackRow, standIns := [], harness := (true, "cf669eacfc91de973fe124127712e90c1f60c4df503ddc056ec04a27a08070fe"), looks := false }, kinds := [], alts := [], laidByText := true, laidKinds := [.data, .data], laidTests := true, laidLooks := .later }
def TagBackCardSaid : Prop := Claim7.holds Tryd.pinned (.plain (OpenSpec.ofChange tagBackSpec)) tagBackCard

/-- THE TIED CARD OF 'accordionlaw02.TagOnly'. -/
def tagOnlyCard : Claim7 := { stood := { row := tagOnlyRow, standIns := [], harness := (true, "cf669eacfc91de973fe124127712e90c1f60c4df503ddc056ec04a27a08070fe"), looks := false }, kinds := [], alts := [], laidByText := true, laidKinds := [.data, .data], laidTests := true, laidLooks := .later }
def TagOnlyCardSaid : Prop := Claim7.holds Tryd.pinned (.plain (OpenSpec.ofChange tagOnlySpec)) tagOnlyCard

/-- THE TIED CARD OF 'accordionlaw02.TagVectors'. -/
def tagVectorsCard : Claim7 := { stood := { row := tagVectorsRow, standIns := [], harness := (true, "cf669eacfc91de973fe124127712e90c1f60c4df503ddc056ec04a27a08070fe"), looks := false }, kinds := [], alts := [], laidByText := true, laidKinds := [.data, .data], laidTests := true, laidLooks := .later }
def TagVectorsCardSaid : Prop := Claim7.holds Tryd.pinned (.plain (OpenSpec.ofChange tagVectorsSpec)) tagVectorsCard

/-- THE TIED CARD OF 'accordionlaw02.TagApart'. -/
def tagApartCard : Claim7 := { stood := { row := tagApartRow, standIns := [], harness := (true, "cf669eacfc91de973fe124127712e90c1f60c4df503ddc056ec04a27a08070fe"), looks := false }, kinds := [], alts := [], laidByText := true, laidKinds := [.data, .data], laidTests := true, laidLooks := .later }
def TagApartCardSaid : Prop := Claim7.holds Tryd.pinned (.plain (OpenSpec.ofChange tagApartSpec)) tagApartCard

/-- THE TIED CARD OF 'accordionlaw02.TagKnown'. -/
def tagKnownCard : Claim7 := { stood := { row := tagKnownRow, standIns := [], harness := (true, "cf669eacfc91de973fe124127712e90c1f60c4df503ddc056ec04a27a08070fe"), looks := false }, kinds := [], alts := [], laidByText := true, laidKinds := [.data, .data], laidTests := true, laidLooks := .later }
def TagKnownCardSaid : Prop := Claim7.holds Tryd.pinned (.plain (OpenSpec.ofChange tagKnownSpec)) tagKnownCard

/-- THE SECOND FORM's CARD OF 'accordionlaw02.TagPacks'. -/
def tagPacksUptoCard : Claim7 := { stood := { row := tagPacksUptoRow, standIns := [], harness := (true, "cf669eacfc91de973fe124127712e90c1f60c4df503ddc056ec04a27a08070fe"), looks := false }, kinds := [], alts := [], laidByText := true, laidKinds := [.data, .data], laidTests := true, laidLooks := .later }
def TagPacksUptoCardSaid : Prop := Claim7.holds Tryd.pinned (.plain (OpenSpec.upto tagPacksSpec)) tagPacksUptoCard

/-- THE SECOND FORM's CARD OF 'accordionlaw02.TagTells'. -/
def tagTellsUptoCard : Claim7 := { stood := { row := tagTellsUptoRow, standIns := [], harness := (true, "cf669eacfc91de973fe124127712e90c1f60c4df503ddc056ec04a27a08070fe"), looks := false }, kinds := [], alts := [], laidByText := true, laidKinds := [.data, .data], laidTests := true, laidLooks := .later }
def TagTellsUptoCardSaid : Prop := Claim7.holds Tryd.pinned (.plain (OpenSpec.upto tagTellsSpec)) tagTellsUptoCard

/-- THE SECOND FORM's CARD OF 'accordionlaw02.TagBack'. -/
def tagBackUptoCard : Claim7 := { stood := { row := tagBackUptoRow, standIns := [], harness := (true, "cf669eacfc91de973fe124127712e90c1f60c4df503ddc056ec04a27a08070fe"), looks := false }, kinds := [], alts := [], laidByText := true, laidKinds := [.data, .data], laidTests := true, laidLooks := .later }
def TagBackUptoCardSaid : Prop := Claim7.holds Tryd.pinned (.plain (OpenSpec.upto tagBackSpec)) tagBackUptoCard

/-- THE SECOND FORM's CARD OF 'accordionlaw02.TagOnly'. -/
def tagOnlyUptoCard : Claim7 := { stood := { row := tagOnlyUptoRow, standIns := [], harness := (true, "cf669eacfc91de973fe124127712e90c1f60c4df503ddc056ec04a27a08070fe"), looks := false }, kinds := [], alts := [], laidByText := true, laidKinds := [.data, .data], laidTests := true, laidLooks := .later }
def TagOnlyUptoCardSaid : Prop := Claim7.holds Tryd.pinned (.plain (OpenSpec.upto tagOnlySpec)) tagOnlyUptoCard

/-- THE SECOND FORM's CARD OF 'accordionlaw02.TagVectors'. -/
def tagVectorsUptoCard : Claim7 := { stood := { row := tagVectorsUptoRow, standIns := [], harness := (true, "cf669eacfc91de973fe124127712e90c1f60c4df503ddc056ec04a27a08070fe"), looks := false }, kinds := [], alts := [], laidByText := true, laidKinds := [.data, .data], laidTests := true, laidLooks := .later }
def TagVectorsUptoCardSaid : Prop := Claim7.holds Tryd.pinned (.plain (OpenSpec.upto tagVectorsSpec)) tagVectorsUptoCard

/-- THE SECOND FORM's CARD OF 'accordionlaw02.TagApart'. -/
def tagApartUptoCard : Claim7 := { stood := { row := tagApartUptoRow, standIns := [], harness := (true, "cf669eacfc91de973fe124127712e90c1f60c4df503ddc056ec04a27a08070fe"), looks := false }, kinds := [], alts := [], laidByText := true, laidKinds := [.data, .data], laidTests := true, laidLooks := .later }
def TagApartUptoCardSaid : Prop := Claim7.holds Tryd.pinned (.plain (OpenSpec.upto tagApartSpec)) tagApartUptoCard

/-- THE SECOND FORM's CARD OF 'accordionlaw02.TagKnown'. -/
def tagKnownUptoCard : Claim7 := { stood := { row := tagKnownUptoRow, standIns := [], harness := (true, "cf669eacfc91de973fe124127712e90c1f60c4df503ddc056ec04a27a08070fe"), looks := false }, kinds := [], alts := [], laidByText := true, laidKinds := [.data, .data], laidTests := true, laidLooks := .later }
def TagKnownUptoCardSaid : Prop := Claim7.holds Tryd.pinned (.plain (OpenSpec.upto tagKnownSpec)) tagKnownUptoCard
end Rows
end Go.Proofs.YtocdmjbmeindgaaDoor
