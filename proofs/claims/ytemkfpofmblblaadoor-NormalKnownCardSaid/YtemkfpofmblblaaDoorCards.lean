/-
  DERIVED. GIVEN WITH THE SEED: THE CARDS: each row of YtemkfpofmblblaaDoorRows.lean that lists a variable, with what it lists TIED to the program's text (the seventh form; the later family's looks); each row that meets fmt, with fmt's text TOLD by the authors' own Lean function (tested against real Go, not proved from fmt's source: count such statements apart). THE CARD IS WHAT COUNTS. Prove the row's statement (the work); the ties are given (YtemkfpofmblblaaDoorTie.lean); close each card by the builder's one call (the guide's Derived/Test/ToyasCard.lean, 'card_holds'). Laid BY PROGRAM, IN A SANDBOX (cutbox-door.mjs). By AI agents, Wed Nov 11 2026. No macro, syntax, notation, axiom, sorry.
-/
import Derived.Test.YtemkfpofmblblaaDoorRows
import GoSem.ClaimSeven
namespace Go.Proofs.YtemkfpofmblblaaDoor
namespace Rows

/-- THE TIED CARD OF 'accordionlaw09.NormalKnown'. -/
def normalKnownCard : Claim7 := { stood := { row := normalKnownRow, standIns := [], harness := (true, "d648ecaf146e59a3ffed50ab7b7fbfef7133be921f58d00c34a5f1805a81a9b8"), looks := true }, kinds := [], alts := [], laidByText := true, laidKinds := [.data], laidTests := true, laidLooks := .later }
def NormalKnownCardSaid : Prop := Claim7.holds Tryd.pinned (.plain (OpenSpec.ofChange normalKnownSpec)) normalKnownCard

/-- THE SECOND FORM's CARD OF 'accordionlaw09.NormalKnown'. -/
def normalKnownUptoCard : Claim7 := { stood := { row := normalKnownUptoRow, standIns := [], harness := (true, "d648ecaf146e59a3ffed50ab7b7fbfef7133be921f58d00c34a5f1805a81a9b8"), looks := true }, kinds := [], alts := [], laidByText := true, laidKinds := [.data], laidTests := true, laidLooks := .later }
def NormalKnownUptoCardSaid : Prop := Claim7.holds Tryd.pinned (.plain (OpenSpec.upto normalKnownSpec)) normalKnownUptoCard
end Rows
end Go.Proofs.YtemkfpofmblblaaDoor
