/-
  DERIVED. GIVEN WITH THE SEED: THE CARDS: each row of YtjbmghfgbdnjjaaDoorRows.lean that lists a variable, with what it lists TIED to the program's text (the seventh form; the later family's looks); each row that meets fmt, with fmt's text TOLD by the authors' own Lean function (tested against real Go, not proved from fmt's source: count such statements apart). THE CARD IS WHAT COUNTS. Prove the row's statement (the work); the ties are given (YtjbmghfgbdnjjaaDoorTie.lean); close each card by the builder's one call (the guide's Derived/Test/ToyasCard.lean, 'card_holds'). Laid BY PROGRAM, IN A SANDBOX (cutbox-door.mjs). By AI agents, Wed Nov 11 2026. No macro, syntax, notation, axiom, sorry.
-/
import Derived.Test.YtjbmghfgbdnjjaaDoorRows
import GoSem.ClaimSeven
namespace Go.Proofs.YtjbmghfgbdnjjaaDoor
namespace Rows

/-- THE TIED CARD OF 'accordionlaw07.KeyOrders'. -/
def keyOrdersCard : Claim7 := { stood := { row := keyOrdersRow, standIns := [], harness := (true, "dd5c4ebb00b6d791c2013a77379954e0b665a15be15124813fddcd17621d2f8f"), looks := false }, kinds := [], alts := [], laidByText := true, laidKinds := [.data], laidTests := true, laidLooks := .later }
def KeyOrdersCardSaid : Prop := Claim7.holds Tryd.pinned (.plain (OpenSpec.ofChange keyOrdersSpec)) keyOrdersCard

/-- THE TIED CARD OF 'accordionlaw07.KeyFinds'. -/
def keyFindsCard : Claim7 := { stood := { row := keyFindsRow, standIns := [], harness := (true, "dd5c4ebb00b6d791c2013a77379954e0b665a15be15124813fddcd17621d2f8f"), looks := false }, kinds := [], alts := [], laidByText := true, laidKinds := [.data], laidTests := true, laidLooks := .later }
def KeyFindsCardSaid : Prop := Claim7.holds Tryd.pinned (.plain (OpenSpec.ofChange keyFindsSpec)) keyFindsCard

/-- THE TIED CARD OF 'accordionlaw07.KeySorts'. -/
def keySortsCard : Claim7 := { stood := { row := keySortsRow, standIns := [], harness := (true, "dd5c4ebb00b6d791c2013a77379954e0b665a15be15124813fddcd17621d2f8f"), looks := false }, kinds := [], alts := [], laidByText := true, laidKinds := [.data], laidTests := true, laidLooks := .later }
def KeySortsCardSaid : Prop := Claim7.holds Tryd.pinned (.plain (OpenSpec.ofChange keySortsSpec)) keySortsCard

/-- THE TIED CARD OF 'accordionlaw07.KeyLess'. -/
def keyLessCard : Claim7 := { stood := { row := keyLessRow, standIns := [], harness := (true, "dd5c4ebb00b6d791c2013a77379954e0b665a15be15124813fddcd17621d2f8f"), looks := false }, kinds := [], alts := [], laidByText := true, laidKinds := [.data], laidTests := true, laidLooks := .later }
def KeyLessCardSaid : Prop := Claim7.holds Tryd.pinned (.plain (OpenSpec.ofChange keyLessSpec)) keyLessCard

/-- THE TIED CARD OF 'accordionlaw07.KeyRises'. -/
def keyRisesCard : Claim7 := { stood := { row := keyRisesRow, standIns := [], harness := (true, "dd5c4ebb00b6d791c2013a77379954e0b665a15be15124813fddcd17621d2f8f"), looks := false }, kinds := [], alts := [], laidByText := true, laidKinds := [.data], laidTests := true, laidLooks := .later }
def KeyRisesCardSaid : Prop := Claim7.holds Tryd.pinned (.plain (OpenSpec.ofChange keyRisesSpec)) keyRisesCard

/-- THE TIED CARD OF 'accordionlaw07.KeyHalves'. -/
def keyHalvesCard : Claim7 := { stood := { row := keyHalvesRow, standIns := [], harness := (true, "dd5c4ebb00b6d791c2013a77379954e0b665a15be15124813fddcd17621d2f8f"), looks := false }, kinds := [], alts := [], laidByText := true, laidKinds := [.data], laidTests := true, laidLooks := .later }
def KeyHalvesCardSaid : Prop := Claim7.holds Tryd.pinned (.plain (OpenSpec.ofChange keyHalvesSpec)) keyHalvesCard

/-- THE TIED CARD OF 'accordionlaw07.KeySame'. -/
def keySameCard : Claim7 := { stood := { row := keySameRow, standIns := [], harness := (true, "dd5c4ebb00b6d791c2013a77379954e0b665a15be15124813fddcd17621d2f8f"), looks := false }, kinds := [], alts := [], laidByText := true, laidKinds := [.data], laidTests := true, laidLooks := .later }
def KeySameCardSaid : Prop := Claim7.holds Tryd.pinned (.plain (OpenSpec.ofChange keySameSpec)) keySameCard

/-- THE TIED CARD OF 'accordionlaw07.KeyMaps'. -/
def keyMapsCard : Claim7 := { stood := { row := keyMapsRow, standIns := [], harness := (true, "dd5c4ebb00b6d791c2013a77379954e0b665a15be15124813fddcd17621d2f8f"), looks := false }, kinds := [], alts := [], laidByText := true, laidKinds := [.data], laidTests := true, laidLooks := .later }
def KeyMapsCardSaid : Prop := Claim7.holds Tryd.pinned (.plain (OpenSpec.ofChange keyMapsSpec)) keyMapsCard

/-- THE TIED CARD OF 'accordionlaw07.KeyKnown'. -/
def keyKnownCard : Claim7 := { stood := { row := keyKnownRow, standIns := [], harness := (true, "dd5c4ebb00b6d791c2013a77379954e0b665a15be15124813fddcd17621d2f8f"), looks := false }, kinds := [], alts := [], laidByText := true, laidKinds := [.data], laidTests := true, laidLooks := .later }
def KeyKnownCardSaid : Prop := Claim7.holds Tryd.pinned (.plain (OpenSpec.ofChange keyKnownSpec)) keyKnownCard

/-- THE SECOND FORM's CARD OF 'accordionlaw07.KeyOrders'. -/
def keyOrdersUptoCard : Claim7 := { stood := { row := keyOrdersUptoRow, standIns := [], harness := (true, "dd5c4ebb00b6d791c2013a77379954e0b665a15be15124813fddcd17621d2f8f"), looks := false }, kinds := [], alts := [], laidByText := true, laidKinds := [.data], laidTests := true, laidLooks := .later }
def KeyOrdersUptoCardSaid : Prop := Claim7.holds Tryd.pinned (.plain (OpenSpec.upto keyOrdersSpec)) keyOrdersUptoCard

/-- THE SECOND FORM's CARD OF 'accordionlaw07.KeyFinds'. -/
def keyFindsUptoCard : Claim7 := { stood := { row := keyFindsUptoRow, standIns := [], harness := (true, "dd5c4ebb00b6d791c2013a77379954e0b665a15be15124813fddcd17621d2f8f"), looks := false }, kinds := [], alts := [], laidByText := true, laidKinds := [.data], laidTests := true, laidLooks := .later }
def KeyFindsUptoCardSaid : Prop := Claim7.holds Tryd.pinned (.plain (OpenSpec.upto keyFindsSpec)) keyFindsUptoCard

/-- THE SECOND FORM's CARD OF 'accordionlaw07.KeySorts'. -/
def keySortsUptoCard : Claim7 := { stood := { row := keySortsUptoRow, standIns := [], harness := (true, "dd5c4ebb00b6d791c2013a77379954e0b665a15be15124813fddcd17621d2f8f"), looks := false }, kinds := [], alts := [], laidByText := true, laidKinds := [.data], laidTests := true, laidLooks := .later }
def KeySortsUptoCardSaid : Prop := Claim7.holds Tryd.pinned (.plain (OpenSpec.upto keySortsSpec)) keySortsUptoCard

/-- THE SECOND FORM's CARD OF 'accordionlaw07.KeyLess'. -/
def keyLessUptoCard : Claim7 := { stood := { row := keyLessUptoRow, standIns := [], harness := (true, "dd5c4ebb00b6d791c2013a77379954e0b665a15be15124813fddcd17621d2f8f"), looks := false }, kinds := [], alts := [], laidByText := true, laidKinds := [.data], laidTests := true, laidLooks := .later }
def KeyLessUptoCardSaid : Prop := Claim7.holds Tryd.pinned (.plain (OpenSpec.upto keyLessSpec)) keyLessUptoCard

/-- THE SECOND FORM's CARD OF 'accordionlaw07.KeyRises'. -/
def keyRisesUptoCard : Claim7 := { stood := { row := keyRisesUptoRow, standIns := [], harness := (true, "dd5c4ebb00b6d791c2013a77379954e0b665a15be15124813fddcd17621d2f8f"), looks := false }, kinds := [], alts := [], laidByText := true, laidKinds := [.data], laidTests := true, laidLooks := .later }
def KeyRisesUptoCardSaid : Prop := Claim7.holds Tryd.pinned (.plain (OpenSpec.upto keyRisesSpec)) keyRisesUptoCard

/-- THE SECOND FORM's CARD OF 'accordionlaw07.KeyHalves'. -/
def keyHalvesUptoCard : Claim7 := { stood := { row := keyHalvesUptoRow, standIns := [], harness := (true, "dd5c4ebb00b6d791c2013a77379954e0b665a15be15124813fddcd17621d2f8f"), looks := false }, kinds := [], alts := [], laidByText := true, laidKinds := [.data], laidTests := true, laidLooks := .later }
def KeyHalvesUptoCardSaid : Prop := Claim7.holds Tryd.pinned (.plain (OpenSpec.upto keyHalvesSpec)) keyHalvesUptoCard

/-- THE SECOND FORM's CARD OF 'accordionlaw07.KeySame'. -/
def keySameUptoCard : Claim7 := { stood := { row := keySameUptoRow, standIns := [], harness := (true, "dd5c4ebb00b6d791c2013a77379954e0b665a15be15124813fddcd17621d2f8f"), looks := false }, kinds := [], alts := [], laidByText := true, laidKinds := [.data], laidTests := true, laidLooks := .later }
def KeySameUptoCardSaid : Prop := Claim7.holds Tryd.pinned (.plain (OpenSpec.upto keySameSpec)) keySameUptoCard

/-- THE SECOND FORM's CARD OF 'accordionlaw07.KeyMaps'. -/
def keyMapsUptoCard : Claim7 := { stood := { row := keyMapsUptoRow, standIns := [], harness := (true, "dd5c4ebb00b6d791c2013a77379954e0b665a15be15124813fddcd17621d2f8f"), looks := false }, kinds := [], alts := [], laidByText := true, laidKinds := [.data], laidTests := true, laidLooks := .later }
def KeyMapsUptoCardSaid : Prop := Claim7.holds Tryd.pinned (.plain (OpenSpec.upto keyMapsSpec)) keyMapsUptoCard

/-- THE SECOND FORM's CARD OF 'accordionlaw07.KeyKnown'. -/
def keyKnownUptoCard : Claim7 := { stood := { row := keyKnownUptoRow, standIns := [], harness := (true, "dd5c4ebb00b6d791c2013a77379954e0b665a15be15124813fddcd17621d2f8f"), looks := false }, kinds := [], alts := [], laidByText := true, laidKinds := [.data], laidTests := true, laidLooks := .later }
def KeyKnownUptoCardSaid : Prop := Claim7.holds Tryd.pinned (.plain (OpenSpec.upto keyKnownSpec)) keyKnownUptoCard
end Rows
end Go.Proofs.YtjbmghfgbdnjjaaDoor
