/-
  DERIVED. GIVEN WITH THE SEED: THE CARDS: each row of YtaeboneddndfkaaDoorRows.lean that lists a variable, with what it lists TIED to the program's text (the seventh form; the later family's looks); each row that meets fmt, with fmt's text TOLD by the authors' own Lean function (tested against real Go, not proved from fmt's source: count such statements apart). THE CARD IS WHAT COUNTS. Prove the row's statement (the work); the ties are given (YtaeboneddndfkaaDoorTie.lean); close each card by the builder's one call (the guide's Derived/Test/ToyasCard.lean, 'card_holds'). Laid BY PROGRAM, IN A SANDBOX (cutbox-door.mjs). By AI agents, Wed Nov 11 2026. No macro, syntax, notation, axiom, sorry.
-/
import Derived.Test.YtaeboneddndfkaaDoorRows
import GoSem.ClaimSeven
namespace Go.Proofs.YtaeboneddndfkaaDoor
namespace Rows

/-- THE TIED CARD OF 'accordionlaw16.FitOnes'. -/
def fitOnesCard : Claim7 := { stood := { row := fitOnesRow, standIns := [], harness := (true, "d8fc9af9b3aabcbe8e3f56ec24f14037e90dc7175e878bc0e2e9a382edda3d9b"), looks := false }, kinds := [], alts := [], laidByText := true, laidKinds := [.data], laidTests := true, laidLooks := .later }
def FitOnesCardSaid : Prop := Claim7.holds Tryd.pinned (.plain (OpenSpec.ofChange fitOnesSpec)) fitOnesCard

/-- THE TIED CARD OF 'accordionlaw16.FitAlls'. -/
def fitAllsCard : Claim7 := { stood := { row := fitAllsRow, standIns := [], harness := (true, "d8fc9af9b3aabcbe8e3f56ec24f14037e90dc7175e878bc0e2e9a382edda3d9b"), looks := false }, kinds := [], alts := [], laidByText := true, laidKinds := [.data], laidTests := true, laidLooks := .later }
def FitAllsCardSaid : Prop := Claim7.holds Tryd.pinned (.plain (OpenSpec.ofChange fitAllsSpec)) fitAllsCard

/-- THE TIED CARD OF 'accordionlaw16.FitLeast'. -/
def fitLeastCard : Claim7 := { stood := { row := fitLeastRow, standIns := [], harness := (true, "d8fc9af9b3aabcbe8e3f56ec24f14037e90dc7175e878bc0e2e9a382edda3d9b"), looks := false }, kinds := [], alts := [], laidByText := true, laidKinds := [.data], laidTests := true, laidLooks := .later }
def FitLeastCardSaid : Prop := Claim7.holds Tryd.pinned (.plain (OpenSpec.ofChange fitLeastSpec)) fitLeastCard

/-- THE TIED CARD OF 'accordionlaw16.FitGrows'. -/
def fitGrowsCard : Claim7 := { stood := { row := fitGrowsRow, standIns := [], harness := (true, "d8fc9af9b3aabcbe8e3f56ec24f14037e90dc7175e878bc0e2e9a382edda3d9b"), looks := false }, kinds := [], alts := [], laidByText := true, laidKinds := [.data], laidTests := true, laidLooks := .later }
def FitGrowsCardSaid : Prop := Claim7.holds Tryd.pinned (.plain (OpenSpec.ofChange fitGrowsSpec)) fitGrowsCard

/-- THE TIED CARD OF 'accordionlaw16.FitJoined'. -/
def fitJoinedCard : Claim7 := { stood := { row := fitJoinedRow, standIns := [], harness := (true, "d8fc9af9b3aabcbe8e3f56ec24f14037e90dc7175e878bc0e2e9a382edda3d9b"), looks := false }, kinds := [], alts := [], laidByText := true, laidKinds := [.data], laidTests := true, laidLooks := .later }
def FitJoinedCardSaid : Prop := Claim7.holds Tryd.pinned (.plain (OpenSpec.ofChange fitJoinedSpec)) fitJoinedCard

/-- THE TIED CARD OF 'accordionlaw16.FitMore'. -/
def fitMoreCard : Claim7 := { stood := { row := fitMoreRow, standIns := [], harness := (true, "d8fc9af9b3aabcbe8e3f56ec24f14037e90dc7175e878bc0e2e9a382edda3d9b"), looks := false }, kinds := [], alts := [], laidByText := true, laidKinds := [.data], laidTests := true, laidLooks := .later }
def FitMoreCardSaid : Prop := Claim7.holds Tryd.pinned (.plain (OpenSpec.ofChange fitMoreSpec)) fitMoreCard

/-- THE TIED CARD OF 'accordionlaw16.FitNearer'. -/
def fitNearerCard : Claim7 := { stood := { row := fitNearerRow, standIns := [], harness := (true, "d8fc9af9b3aabcbe8e3f56ec24f14037e90dc7175e878bc0e2e9a382edda3d9b"), looks := false }, kinds := [], alts := [], laidByText := true, laidKinds := [.data], laidTests := true, laidLooks := .later }
def FitNearerCardSaid : Prop := Claim7.holds Tryd.pinned (.plain (OpenSpec.ofChange fitNearerSpec)) fitNearerCard

/-- THE TIED CARD OF 'accordionlaw16.FitKnown'. -/
def fitKnownCard : Claim7 := { stood := { row := fitKnownRow, standIns := [], harness := (true, "d8fc9af9b3aabcbe8e3f56ec24f14037e90dc7175e878bc0e2e9a382edda3d9b"), looks := false }, kinds := [], alts := [], laidByText := true, laidKinds := [.data], laidTests := true, laidLooks := .later }
def FitKnownCardSaid : Prop := Claim7.holds Tryd.pinned (.plain (OpenSpec.ofChange fitKnownSpec)) fitKnownCard

/-- THE SECOND FORM's CARD OF 'accordionlaw16.FitOnes'. -/
def fitOnesUptoCard : Claim7 := { stood := { row := fitOnesUptoRow, standIns := [], harness := (true, "d8fc9af9b3aabcbe8e3f56ec24f14037e90dc7175e878bc0e2e9a382edda3d9b"), looks := false }, kinds := [], alts := [], laidByText := true, laidKinds := [.data], laidTests := true, laidLooks := .later }
def FitOnesUptoCardSaid : Prop := Claim7.holds Tryd.pinned (.plain (OpenSpec.upto fitOnesSpec)) fitOnesUptoCard

/-- THE SECOND FORM's CARD OF 'accordionlaw16.FitAlls'. -/
def fitAllsUptoCard : Claim7 := { stood := { row := fitAllsUptoRow, standIns := [], harness := (true, "d8fc9af9b3aabcbe8e3f56ec24f14037e90dc7175e878bc0e2e9a382edda3d9b"), looks := false }, kinds := [], alts := [], laidByText := true, laidKinds := [.data], laidTests := true, laidLooks := .later }
def FitAllsUptoCardSaid : Prop := Claim7.holds Tryd.pinned (.plain (OpenSpec.upto fitAllsSpec)) fitAllsUptoCard

/-- THE SECOND FORM's CARD OF 'accordionlaw16.FitLeast'. -/
def fitLeastUptoCard : Claim7 := { stood := { row := fitLeastUptoRow, standIns := [], harness := (true, "d8fc9af9b3aabcbe8e3f56ec24f14037e90dc7175e878bc0e2e9a382edda3d9b"), looks := false }, kinds := [], alts := [], laidByText := true, laidKinds := [.data], laidTests := true, laidLooks := .later }
def FitLeastUptoCardSaid : Prop := Claim7.holds Tryd.pinned (.plain (OpenSpec.upto fitLeastSpec)) fitLeastUptoCard

/-- THE SECOND FORM's CARD OF 'accordionlaw16.FitGrows'. -/
def fitGrowsUptoCard : Claim7 := { stood := { row := fitGrowsUptoRow, standIns := [], harness := (true, "d8fc9af9b3aabcbe8e3f56ec24f14037e90dc7175e878bc0e2e9a382edda3d9b"), looks := false }, kinds := [], alts := [], laidByText := true, laidKinds := [.data], laidTests := true, laidLooks := .later }
def FitGrowsUptoCardSaid : Prop := Claim7.holds Tryd.pinned (.plain (OpenSpec.upto fitGrowsSpec)) fitGrowsUptoCard

/-- THE SECOND FORM's CARD OF 'accordionlaw16.FitJoined'. -/
def fitJoinedUptoCard : Claim7 := { stood := { row := fitJoinedUptoRow, standIns := [], harness := (true, "d8fc9af9b3aabcbe8e3f56ec24f14037e90dc7175e878bc0e2e9a382edda3d9b"), looks := false }, kinds := [], alts := [], laidByText := true, laidKinds := [.data], laidTests := true, laidLooks := .later }
def FitJoinedUptoCardSaid : Prop := Claim7.holds Tryd.pinned (.plain (OpenSpec.upto fitJoinedSpec)) fitJoinedUptoCard

/-- THE SECOND FORM's CARD OF 'accordionlaw16.FitMore'. -/
def fitMoreUptoCard : Claim7 := { stood := { row := fitMoreUptoRow, standIns := [], harness := (true, "d8fc9af9b3aabcbe8e3f56ec24f14037e90dc7175e878bc0e2e9a382edda3d9b"), looks := false }, kinds := [], alts := [], laidByText := true, laidKinds := [.data], laidTests := true, laidLooks := .later }
def FitMoreUptoCardSaid : Prop := Claim7.holds Tryd.pinned (.plain (OpenSpec.upto fitMoreSpec)) fitMoreUptoCard

/-- THE SECOND FORM's CARD OF 'accordionlaw16.FitNearer'. -/
def fitNearerUptoCard : Claim7 := { stood := { row := fitNearerUptoRow, standIns := [], harness := (true, "d8fc9af9b3aabcbe8e3f56ec24f14037e90dc7175e878bc0e2e9a382edda3d9b"), looks := false }, kinds := [], alts := [], laidByText := true, laidKinds := [.data], laidTests := true, laidLooks := .later }
def FitNearerUptoCardSaid : Prop := Claim7.holds Tryd.pinned (.plain (OpenSpec.upto fitNearerSpec)) fitNearerUptoCard

/-- THE SECOND FORM's CARD OF 'accordionlaw16.FitKnown'. -/
def fitKnownUptoCard : Claim7 := { stood := { row := fitKnownUptoRow, standIns := [], harness := (true, "d8fc9af9b3aabcbe8e3f56ec24f14037e90dc7175e878bc0e2e9a382edda3d9b"), looks := false }, kinds := [], alts := [], laidByText := true, laidKinds := [.data], laidTests := true, laidLooks := .later }
def FitKnownUptoCardSaid : Prop := Claim7.holds Tryd.pinned (.plain (OpenSpec.upto fitKnownSpec)) fitKnownUptoCard
end Rows
end Go.Proofs.YtaeboneddndfkaaDoor
