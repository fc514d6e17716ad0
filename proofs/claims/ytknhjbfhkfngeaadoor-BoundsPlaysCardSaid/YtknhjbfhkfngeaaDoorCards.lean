/-
  DERIVED. GIVEN WITH THE SEED: THE CARDS: each row of YtknhjbfhkfngeaaDoorRows.lean that lists a variable, with what it lists TIED to the program's text (the seventh form; the later family's looks); each row that meets fmt, with fmt's text TOLD by the authors' own Lean function (tested against real Go, not proved from fmt's source: count such statements apart). THE CARD IS WHAT COUNTS. Prove the row's statement (the work); the ties are given (YtknhjbfhkfngeaaDoorTie.lean); close each card by the builder's one call (the guide's Derived/Test/ToyasCard.lean, 'card_holds'). Laid BY PROGRAM, IN A SANDBOX (cutbox-door.mjs). By AI agents, Wed Nov 11 2026. No macro, syntax, notation, axiom, sorry.
-/
import Derived.Test.YtknhjbfhkfngeaaDoorRows
import GoSem.ClaimSeven
namespace Go.Proofs.YtknhjbfhkfngeaaDoor
namespace Rows

/-- THE TIED CARD OF 'tithelaw11.BoundsPlays'. -/
def boundsPlaysCard : Claim7 := { stood := { row := boundsPlaysRow, standIns := [], harness := (true, "af1be5727db3898d550449e48391aa4813467dad3f5644d08180f9c4702e6579"), looks := true }, kinds := [], alts := [], laidByText := true, laidKinds := [.handle], laidTests := true, laidLooks := .later }
def BoundsPlaysCardSaid : Prop := Claim7.holds Tryd.pinned (.plain (OpenSpec.ofChange boundsPlaysSpec)) boundsPlaysCard

/-- THE TIED CARD OF 'tithelaw11.BoundsEnds'. -/
def boundsEndsCard : Claim7 := { stood := { row := boundsEndsRow, standIns := [], harness := (true, "af1be5727db3898d550449e48391aa4813467dad3f5644d08180f9c4702e6579"), looks := true }, kinds := [], alts := [], laidByText := true, laidKinds := [.handle], laidTests := true, laidLooks := .later }
def BoundsEndsCardSaid : Prop := Claim7.holds Tryd.pinned (.plain (OpenSpec.ofChange boundsEndsSpec)) boundsEndsCard

/-- THE SECOND FORM's CARD OF 'tithelaw11.BoundsPlays'. -/
def boundsPlaysUptoCard : Claim7 := { stood := { row := boundsPlaysUptoRow, standIns := [], harness := (true, "af1be5727db3898d550449e48391aa4813467dad3f5644d08180f9c4702e6579"), looks := true }, kinds := [], alts := [], laidByText := true, laidKinds := [.handle], laidTests := true, laidLooks := .later }
def BoundsPlaysUptoCardSaid : Prop := Claim7.holds Tryd.pinned (.plain (OpenSpec.upto boundsPlaysSpec)) boundsPlaysUptoCard

/-- THE SECOND FORM's CARD OF 'tithelaw11.BoundsEnds'. -/
def boundsEndsUptoCard : Claim7 := { stood := { row := boundsEndsUptoRow, standIns := [], harness := (true, "af1be5727db3898d550449e48391aa4813467dad3f5644d08180f9c4702e6579"), looks := true }, kinds := [], alts := [], laidByText := true, laidKinds := [.handle], laidTests := true, laidLooks := .later }
def BoundsEndsUptoCardSaid : Prop := Claim7.holds Tryd.pinned (.plain (OpenSpec.upto boundsEndsSpec)) boundsEndsUptoCard
end Rows
end Go.Proofs.YtknhjbfhkfngeaaDoor
