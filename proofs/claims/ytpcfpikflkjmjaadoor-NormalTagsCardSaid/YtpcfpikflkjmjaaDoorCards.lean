/-
  DERIVED. GIVEN WITH THE SEED: THE CARDS: each row of YtpcfpikflkjmjaaDoorRows.lean that lists a variable, with what it lists TIED to the program's text (the seventh form; the later family's looks); each row that meets fmt, with fmt's text TOLD by the authors' own Lean function (tested against real Go, not proved from fmt's source: count such statements apart). THE CARD IS WHAT COUNTS. Prove the row's statement (the work); the ties are given (YtpcfpikflkjmjaaDoorTie.lean); close each card by the builder's one call (the guide's Derived/Test/ToyasCard.lean, 'card_holds'). Laid BY PROGRAM, IN A SANDBOX (cutbox-door.mjs). By AI agents, Wed Nov 11 2026. No macro, syntax, notation, axiom, sorry.
-/
import Derived.Test.YtpcfpikflkjmjaaDoorRows
import GoSem.ClaimSeven
namespace Go.Proofs.YtpcfpikflkjmjaaDoor
namespace Rows

/-- THE TIED CARD OF 'accordionlaw07.KeySorts'. -/
def keySortsCard : Claim7 := { stood := { row := keySortsRow, standIns := [], harness := (true, "12532f83e6e2c7f31fd2b02d6bad867f3cc4d83138fd5c0171f14599ac354af2"), looks := true }, kinds := [], alts := [], laidByText := true, laidKinds := [.data], laidTests := true, laidLooks := .later }
def KeySortsCardSaid : Prop := Claim7.holds Tryd.pinned (.plain (OpenSpec.ofChange keySortsSpec)) keySortsCard

/-- THE TIED CARD OF 'accordionlaw07.KeySame'. -/
def keySameCard : Claim7 := { stood := { row := keySameRow, standIns := [], harness := (true, "12532f83e6e2c7f31fd2b02d6bad867f3cc4d83138fd5c0171f14599ac354af2"), looks := true }, kinds := [], alts := [], laidByText := true, laidKinds := [.data], laidTests := true, laidLooks := .later }
def KeySameCardSaid : Prop := Claim7.holds Tryd.pinned (.plain (OpenSpec.ofChange keySameSpec)) keySameCard

/-- THE TIED CARD OF 'accordionlaw07.KeyKnown'. -/
def keyKnownCard : Claim7 := { stood := { row := keyKnownRow, standIns := [], harness := (true, "12532f83e6e2c7f31fd2b02d6bad867f3cc4d83138fd5c0171f14599ac354af2"), looks := true }, kinds := [], alts := [], laidByText := true, laidKinds := [.data], laidTests := true, laidLooks := .later }
def KeyKnownCardSaid : Prop := Claim7.holds Tryd.pinned (.plain (OpenSpec.ofChange keyKnownSpec)) keyKnownCard

/-- THE TIED CARD OF 'accordionlaw09.NormalForms'. -/
def normalFormsCard : Claim7 := { stood := { row := normalFormsRow, standIns := [], harness := (true, "12532f83e6e2c7f31fd2b02d6bad867f3cc4d83138fd5c0171f14599ac354af2"), looks := true }, kinds := [], alts := [], laidByText := true, laidKinds := [.data], laidTests := true, laidLooks := .later }
def NormalFormsCardSaid : Prop := Claim7.holds Tryd.pinned (.plain (OpenSpec.ofChange normalFormsSpec)) normalFormsCard

/-- THE TIED CARD OF 'accordionlaw09.NormalAlike'. -/
def normalAlikeCard : Claim7 := { stood := { row := normalAlikeRow, standIns := [], harness := (true, "12532f83e6e2c7f31fd2b02d6bad867f3cc4d83138fd5c0171f14599ac354af2"), looks := true }, kinds := [], alts := [], laidByText := true, laidKinds := [.data], laidTests := true, laidLooks := .later }
def NormalAlikeCardSaid : Prop := Claim7.holds Tryd.pinned (.plain (OpenSpec.ofChange normalAlikeSpec)) normalAlikeCard

/-- THE TIED CARD OF 'accordionlaw09.NormalOnce'. -/
def normalOnceCard : Claim7 := { stood := { row := normalOnceRow, standIns := [], harness := (true, "12532f83e6e2c7f31fd2b02d6bad867f3cc4d83138fd5c0171f14599ac354af2"), looks := true }, kinds := [], alts := [], laidByText := true, laidKinds := [.data], laidTests := true, laidLooks := .later }
def NormalOnceCardSaid : Prop := Claim7.holds Tryd.pinned (.plain (OpenSpec.ofChange normalOnceSpec)) normalOnceCard

/-- THE TIED CARD OF 'accordionlaw09.NormalKinds'. -/
def normalKindsCard : Claim7 := { stood := { row := normalKindsRow, standIns := [], harness := (true, "12532f83e6e2c7f31fd2b02d6bad867f3cc4d83138fd5c0171f14599ac354af2"), looks := true }, kinds := [], alts := [], laidByText := true, laidKinds := [.data], laidTests := true, laidLooks := .later }
def NormalKindsCardSaid : Prop := Claim7.holds Tryd.pinned (.plain (OpenSpec.ofChange normalKindsSpec)) normalKindsCard

/-- THE TIED CARD OF 'accordionlaw09.NormalParts'. -/
def normalPartsCard : Claim7 := { stood := { row := normalPartsRow, standIns := [], harness := (true, "12532f83e6e2c7f31fd2b02d6bad867f3cc4d83138fd5c0171f14599ac354af2"), looks := true }, kinds := [], alts := [], laidByText := true, laidKinds := [.data], laidTests := true, laidLooks := .later }
def NormalPartsCardSaid : Prop := Claim7.holds Tryd.pinned (.plain (OpenSpec.ofChange normalPartsSpec)) normalPartsCard

/-- THE TIED CARD OF 'accordionlaw09.NormalTags'. -/
def normalTagsCard : Claim7 := { stood := { row := normalTagsRow, standIns := [], harness := (true, "12532f83e6e2c7f31fd2b02d6bad867f3cc4d83138fd5c0171f14599ac354af2"), looks := true }, kinds := [], alts := [], laidByText := true, laidKinds := [.data], laidTests := true, laidLooks := .later }
def NormalTagsCardSaid : Prop := Claim7.holds Tryd.pinned (.plain (OpenSpec.ofChange normalTagsSpec)) normalTagsCard

/-- THE TIED CARD OF 'accordionlaw09.NormalKnown'. -/
def normalKnownCard : Claim7 := { stood := { row := normalKnownRow, standIns := [], harness := (true, "12532f83e6e2c7f31fd2b02d6bad867f3cc4d83138fd5c0171f14599ac354af2"), looks := true }, kinds := [], alts := [], laidByText := true, laidKinds := [.data], laidTests := true, laidLooks := .later }
def NormalKnownCardSaid : Prop := Claim7.holds Tryd.pinned (.plain (OpenSpec.ofChange normalKnownSpec)) normalKnownCard

/-- THE SECOND FORM's CARD OF 'accordionlaw07.KeySorts'. -/
def keySortsUptoCard : Claim7 := { stood := { row := keySortsUptoRow, standIns := [], harness := (true, "12532f83e6e2c7f31fd2b02d6bad867f3cc4d83138fd5c0171f14599ac354af2"), looks := true }, kinds := [], alts := [], laidByText := true, laidKinds := [.data], laidTests := true, laidLooks := .later }
def KeySortsUptoCardSaid : Prop := Claim7.holds Tryd.pinned (.plain (OpenSpec.upto keySortsSpec)) keySortsUptoCard

/-- THE SECOND FORM's CARD OF 'accordionlaw07.KeySame'. -/
def keySameUptoCard : Claim7 := { stood := { row := keySameUptoRow, standIns := [], harness := (true, "12532f83e6e2c7f31fd2b02d6bad867f3cc4d83138fd5c0171f14599ac354af2"), looks := true }, kinds := [], alts := [], laidByText := true, laidKinds := [.data], laidTests := true, laidLooks := .later }
def KeySameUptoCardSaid : Prop := Claim7.holds Tryd.pinned (.plain (OpenSpec.upto keySameSpec)) keySameUptoCard

/-- THE SECOND FORM's CARD OF 'accordionlaw07.KeyKnown'. -/
def keyKnownUptoCard : Claim7 := { stood := { row := keyKnownUptoRow, standIns := [], harness := (true, "12532f83e6e2c7f31fd2b02d6bad867f3cc4d83138fd5c0171f14599ac354af2"), looks := true }, kinds := [], alts := [], laidByText := true, laidKinds := [.data], laidTests := true, laidLooks := .later }
def KeyKnownUptoCardSaid : Prop := Claim7.holds Tryd.pinned (.plain (OpenSpec.upto keyKnownSpec)) keyKnownUptoCard

/-- THE SECOND FORM's CARD OF 'accordionlaw09.NormalForms'. -/
def normalFormsUptoCard : Claim7 := { stood := { row := normalFormsUptoRow, standIns := [], harness := (true, "12532f83e6e2c7f31fd2b02d6bad867f3cc4d83138fd5c0171f14599ac354af2"), looks := true }, kinds := [], alts := [], laidByText := true, laidKinds := [.data], laidTests := true, laidLooks := .later }
def NormalFormsUptoCardSaid : Prop := Claim7.holds Tryd.pinned (.plain (OpenSpec.upto normalFormsSpec)) normalFormsUptoCard

/-- THE SECOND FORM's CARD OF 'accordionlaw09.NormalAlike'. -/
def normalAlikeUptoCard : Claim7 := { stood := { row := normalAlikeUptoRow, standIns := [], harness := (true, "12532f83e6e2c7f31fd2b02d6bad867f3cc4d83138fd5c0171f14599ac354af2"), looks := true }, kinds := [], alts := [], laidByText := true, laidKinds := [.data], laidTests := true, laidLooks := .later }
def NormalAlikeUptoCardSaid : Prop := Claim7.holds Tryd.pinned (.plain (OpenSpec.upto normalAlikeSpec)) normalAlikeUptoCard

/-- THE SECOND FORM's CARD OF 'accordionlaw09.NormalOnce'. -/
def normalOnceUptoCard : Claim7 := { stood := { row := normalOnceUptoRow, standIns := [], harness := (true, "12532f83e6e2c7f31fd2b02d6bad867f3cc4d83138fd5c0171f14599ac354af2"), looks := true }, kinds := [], alts := [], laidByText := true, laidKinds := [.data], laidTests := true, laidLooks := .later }
def NormalOnceUptoCardSaid : Prop := Claim7.holds Tryd.pinned (.plain (OpenSpec.upto normalOnceSpec)) normalOnceUptoCard

/-- THE SECOND FORM's CARD OF 'accordionlaw09.NormalKinds'. -/
def normalKindsUptoCard : Claim7 := { stood := { row := normalKindsUptoRow, standIns := [], harness := (true, "12532f83e6e2c7f31fd2b02d6bad867f3cc4d83138fd5c0171f14599ac354af2"), looks := true }, kinds := [], alts := [], laidByText := true, laidKinds := [.data], laidTests := true, laidLooks := .later }
def NormalKindsUptoCardSaid : Prop := Claim7.holds Tryd.pinned (.plain (OpenSpec.upto normalKindsSpec)) normalKindsUptoCard

/-- THE SECOND FORM's CARD OF 'accordionlaw09.NormalParts'. -/
def normalPartsUptoCard : Claim7 := { stood := { row := normalPartsUptoRow, standIns := [], harness := (true, "12532f83e6e2c7f31fd2b02d6bad867f3cc4d83138fd5c0171f14599ac354af2"), looks := true }, kinds := [], alts := [], laidByText := true, laidKinds := [.data], laidTests := true, laidLooks := .later }
def NormalPartsUptoCardSaid : Prop := Claim7.holds Tryd.pinned (.plain (OpenSpec.upto normalPartsSpec)) normalPartsUptoCard

/-- THE SECOND FORM's CARD OF 'accordionlaw09.NormalTags'. -/
def normalTagsUptoCard : Claim7 := { stood := { row := normalTagsUptoRow, standIns := [], harness := (true, "12532f83e6e2c7f31fd2b02d6bad867f3cc4d83138fd5c0171f14599ac354af2"), looks := true }, kinds := [], alts := [], laidByText := true, laidKinds := [.data], laidTests := true, laidLooks := .later }
def NormalTagsUptoCardSaid : Prop := Claim7.holds Tryd.pinned (.plain (OpenSpec.upto normalTagsSpec)) normalTagsUptoCard

/-- THE SECOND FORM's CARD OF 'accordionlaw09.NormalKnown'. -/
def normalKnownUptoCard : Claim7 := { stood := { row := normalKnownUptoRow, standIns := [], harness := (true, "12532f83e6e2c7f31fd2b02d6bad867f3cc4d83138fd5c0171f14599ac354af2"), looks := true }, kinds := [], alts := [], laidByText := true, laidKinds := [.data], laidTests := true, laidLooks := .later }
def NormalKnownUptoCardSaid : Prop := Claim7.holds Tryd.pinned (.plain (OpenSpec.upto normalKnownSpec)) normalKnownUptoCard
end Rows
end Go.Proofs.YtpcfpikflkjmjaaDoor
