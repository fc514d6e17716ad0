/-
  DERIVED. GIVEN WITH THE SEED: THE CARDS: each row of YtbkbmpnhjmcenaaDoorRows.lean that lists a variable, with what it lists TIED to the program's text (the seventh form; the later family's looks); each row that meets fmt, with fmt's text TOLD by the authors' own Lean function (tested against real Go, not proved from fmt's source: count such statements apart). THE CARD IS WHAT COUNTS. Prove the row's statement (the work); the ties are given (YtbkbmpnhjmcenaaDoorTie.lean); close each card by the builder's one call (the guide's Derived/Test/ToyasCard.lean, 'card_holds'). Laid BY PROGRAM, IN A SANDBOX (cutbox-door.mjs). By AI agents, Wed Nov 11 2026. No macro, syntax, notation, axiom, sorry.
-/
import Derived.Test.YtbkbmpnhjmcenaaDoorRows
import GoSem.ClaimSeven
namespace Go.Proofs.YtbkbmpnhjmcenaaDoor
namespace Rows

/-- THE TIED CARD OF 'tithelaw07.BudgetNews'. -/
def budgetNewsCard : Claim7 := { stood := { row := budgetNewsRow, standIns := [], harness := (true, "572133162757476ae820e61690e60d7f93d1424ea9c89583cfcfe927c54b982b"), looks := true }, kinds := [], alts := [], laidByText := true, laidKinds := [.handle], laidTests := true, laidLooks := .later }
def BudgetNewsCardSaid : Prop := Claim7.holds Tryd.pinned (.plain (OpenSpec.ofChange budgetNewsSpec)) budgetNewsCard

/-- THE TIED CARD OF 'tithelaw07.BudgetTakes'. -/
def budgetTakesCard : Claim7 := { stood := { row := budgetTakesRow, standIns := [], harness := (true, "572133162757476ae820e61690e60d7f93d1424ea9c89583cfcfe927c54b982b"), looks := true }, kinds := [], alts := [], laidByText := true, laidKinds := [.handle], laidTests := true, laidLooks := .later }
def BudgetTakesCardSaid : Prop := Claim7.holds Tryd.pinned (.plain (OpenSpec.ofChange budgetTakesSpec)) budgetTakesCard

/-- THE TIED CARD OF 'tithelaw07.BudgetResizes'. -/
def budgetResizesCard : Claim7 := { stood := { row := budgetResizesRow, standIns := [], harness := (true, "572133162757476ae820e61690e60d7f93d1424ea9c89583cfcfe927c54b982b"), looks := true }, kinds := [], alts := [], laidByText := true, laidKinds := [.handle], laidTests := true, laidLooks := .later }
def BudgetResizesCardSaid : Prop := Claim7.holds Tryd.pinned (.plain (OpenSpec.ofChange budgetResizesSpec)) budgetResizesCard

/-- THE SECOND FORM's CARD OF 'tithelaw07.BudgetNews'. -/
def budgetNewsUptoCard : Claim7 := { stood := { row := budgetNewsUptoRow, standIns := [], harness := (true, "572133162757476ae820e61690e60d7f93d1424ea9c89583cfcfe927c54b982b"), looks := true }, kinds := [], alts := [], laidByText := true, laidKinds := [.handle], laidTests := true, laidLooks := .later }
def BudgetNewsUptoCardSaid : Prop := Claim7.holds Tryd.pinned (.plain (OpenSpec.upto budgetNewsSpec)) budgetNewsUptoCard

/-- THE SECOND FORM's CARD OF 'tithelaw07.BudgetTakes'. -/
def budgetTakesUptoCard : Claim7 := { stood := { row := budgetTakesUptoRow, standIns := [], harness := (true, "572133162757476ae820e61690e60d7f93d1424ea9c89583cfcfe927c54b982b"), looks := true }, kinds := [], alts := [], laidByText := true, laidKinds := [.handle], laidTests := true, laidLooks := .later }
def BudgetTakesUptoCardSaid : Prop := Claim7.holds Tryd.pinned (.plain (OpenSpec.upto budgetTakesSpec)) budgetTakesUptoCard

/-- THE SECOND FORM's CARD OF 'tithelaw07.BudgetResizes'. -/
def budgetResizesUptoCard : Claim7 := { stood := { row := budgetResizesUptoRow, standIns := [], harness := (true, "572133162757476ae820e61690e60d7f93d1424ea9c89583cfcfe927c54b982b"), looks := true }, kinds := [], alts := [], laidByText := true, laidKinds := [.handle], laidTests := true, laidLooks := .later }
def BudgetResizesUptoCardSaid : Prop := Claim7.holds Tryd.pinned (.plain (OpenSpec.upto budgetResizesSpec)) budgetResizesUptoCard
end Rows
end Go.Proofs.YtbkbmpnhjmcenaaDoor
