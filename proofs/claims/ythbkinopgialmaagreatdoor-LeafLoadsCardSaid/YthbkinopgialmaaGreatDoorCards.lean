/-
  DERIVED. GIVEN WITH THE SEED: THE CARDS: each row of YthbkinopgialmaaGreatDoorRows.lean that lists a variable, with what it lists TIED to the program's text (the seventh form; the later family's looks); each row that meets fmt, with fmt's text TOLD by the authors' own Lean function (tested against real Go, not proved from fmt's source: count such statements apart). THE CARD IS WHAT COUNTS. Prove the row's statement (the work); the ties are given (YthbkinopgialmaaGreatDoorTie.lean); close each card by the builder's one call (the guide's Derived/Test/ToyasCard.lean, 'card_holds'). Laid BY PROGRAM, IN A SANDBOX (cutbox-door.mjs). By AI agents, Wed Nov 11 2026. No macro, syntax, notation, axiom, sorry.
-/
import Derived.Test.YthbkinopgialmaaGreatDoorRows
import GoSem.ClaimSeven
namespace Go.Proofs.YthbkinopgialmaaGreatDoor
namespace Rows

/-- THE TIED CARD OF 'tithelaw13.LeafPlays'. -/
def leafPlaysCard : Claim7 := { stood := { row := leafPlaysRow, standIns := [], harness := (true, "4b5c7a94a8006f546df9e5be0431bb6bd13defb63647d5b745fe3f9f2032f2c7"), looks := true }, kinds := [], alts := [], laidByText := true, laidKinds := [.handle], laidTests := true, laidLooks := .later }
def LeafPlaysCardSaid : Prop := Claim7.holds Tryz.pinned (.plain (OpenSpec.ofChange leafPlaysSpec)) leafPlaysCard

/-- THE TIED CARD OF 'tithelaw13.LeafLoads'. -/
def leafLoadsCard : Claim7 := { stood := { row := leafLoadsRow, standIns := [], harness := (true, "4b5c7a94a8006f546df9e5be0431bb6bd13defb63647d5b745fe3f9f2032f2c7"), looks := true }, kinds := [], alts := [], laidByText := true, laidKinds := [.handle], laidTests := true, laidLooks := .later }
def LeafLoadsCardSaid : Prop := Claim7.holds Tryz.pinned (.plain (OpenSpec.ofChange leafLoadsSpec)) leafLoadsCard

/-- THE SECOND FORM's CARD OF 'tithelaw13.LeafPlays'. -/
def leafPlaysUptoCard : Claim7 := { stood := { row := leafPlaysUptoRow, standIns := [], harness := (true, "4b5c7a94a8006f546df9e5be0431bb6bd13defb63647d5b745fe3f9f2032f2c7"), looks := true }, kinds := [], alts := [], laidByText := true, laidKinds := [.handle], laidTests := true, laidLooks := .later }
def LeafPlaysUptoCardSaid : Prop := Claim7.holds Tryz.pinned (.plain (OpenSpec.upto leafPlaysSpec)) leafPlaysUptoCard

/-- THE SECOND FORM's CARD OF 'tithelaw13.LeafLoads'. -/
def leafLoadsUptoCard : Claim7 := { stood := { row := leafLoadsUptoRow, standIns := [], harness := (true, "4b5c7a94a8006f546df9e5be0431bb6bd13defb63647d5b745fe3f9f2032f2c7"), looks := true }, kinds := [], alts := [], laidByText := true, laidKinds := [.handle], laidTests := true, laidLooks := .later }
def LeafLoadsUptoCardSaid : Prop := Claim7.holds Tryz.pinned (.plain (OpenSpec.upto leafLoadsSpec)) leafLoadsUptoCard
end Rows
end Go.Proofs.YthbkinopgialmaaGreatDoor
