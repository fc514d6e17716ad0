/-
  DERIVED. GIVEN WITH THE SEED: THE CARDS: each row of YtdbfjcdglcagaaaDoorRows.lean that lists a variable, with what it lists TIED to the program's text (the seventh form; the later family's looks); each row that meets fmt, with fmt's text TOLD by the authors' own Lean function (tested against real Go, not proved from fmt's source: count such statements apart). THE CARD IS WHAT COUNTS. Prove the row's statement (the work); the ties are given (YtdbfjcdglcagaaaDoorTie.lean); close each card by the builder's one call (the guide's Derived/Test/ToyasCard.lean, 'card_holds'). Laid BY PROGRAM, IN A SANDBOX (cutbox-door.mjs). By AI agents, Wed Nov 11 2026. No macro, syntax, notation, axiom, sorry.
-/
import Derived.Test.YtdbfjcdglcagaaaDoorRows
import GoSem.ClaimSeven
namespace Go.Proofs.YtdbfjcdglcagaaaDoor
namespace Rows

/-- THE TIED CARD OF 'tithelaw15.LedgerPlays'. -/
def ledgerPlaysCard : Claim7 := { stood := { row := ledgerPlaysRow, standIns := [], harness := (true, "d2da42cbd03e17cf11d166ce7d6def700b183fb8f3af7caba11d677229d9f051"), looks := true }, kinds := [], alts := [], laidByText := true, laidKinds := [.handle], laidTests := true, laidLooks := .later }
def LedgerPlaysCardSaid : Prop := Claim7.holds Tryd.pinned (.plain (OpenSpec.ofChange ledgerPlaysSpec)) ledgerPlaysCard

/-- THE TIED CARD OF 'tithelaw15.LedgerAdds'. -/
def ledgerAddsCard : Claim7 := { stood := { row := ledgerAddsRow, standIns := [], harness := (true, "d2da42cbd03e17cf11d166ce7d6def700b183fb8f3af7caba11d677229d9f051"), looks := true }, kinds := [], alts := [], laidByText := true, laidKinds := [.handle], laidTests := true, laidLooks := .later }
def LedgerAddsCardSaid : Prop := Claim7.holds Tryd.pinned (.plain (OpenSpec.ofChange ledgerAddsSpec)) ledgerAddsCard

/-- THE TIED CARD OF 'tithelaw15.LedgerTwins'. -/
def ledgerTwinsCard : Claim7 := { stood := { row := ledgerTwinsRow, standIns := [], harness := (true, "d2da42cbd03e17cf11d166ce7d6def700b183fb8f3af7caba11d677229d9f051"), looks := true }, kinds := [], alts := [], laidByText := true, laidKinds := [.handle], laidTests := true, laidLooks := .later }
def LedgerTwinsCardSaid : Prop := Claim7.holds Tryd.pinned (.plain (OpenSpec.ofChange ledgerTwinsSpec)) ledgerTwinsCard

/-- THE SECOND FORM's CARD OF 'tithelaw15.LedgerPlays'. -/
def ledgerPlaysUptoCard : Claim7 := { stood := { row := ledgerPlaysUptoRow, standIns := [], harness := (true, "d2da42cbd03e17cf11d166ce7d6def700b183fb8f3af7caba11d677229d9f051"), looks := true }, kinds := [], alts := [], laidByText := true, laidKinds := [.handle], laidTests := true, laidLooks := .later }
def LedgerPlaysUptoCardSaid : Prop := Claim7.holds Tryd.pinned (.plain (OpenSpec.upto ledgerPlaysSpec)) ledgerPlaysUptoCard

/-- THE SECOND FORM's CARD OF 'tithelaw15.LedgerAdds'. -/
def ledgerAddsUptoCard : Claim7 := { stood := { row := ledgerAddsUptoRow, standIns := [], harness := (true, "d2da42cbd03e17cf11d166ce7d6def700b183fb8f3af7caba11d677229d9f051"), looks := true }, kinds := [], alts := [], laidByText := true, laidKinds := [.handle], laidTests := true, laidLooks := .later }
def LedgerAddsUptoCardSaid : Prop := Claim7.holds Tryd.pinned (.plain (OpenSpec.upto ledgerAddsSpec)) ledgerAddsUptoCard

/-- THE SECOND FORM's CARD OF 'tithelaw15.LedgerTwins'. -/
def ledgerTwinsUptoCard : Claim7 := { stood := { row := ledgerTwinsUptoRow, standIns := [], harness := (true, "d2da42cbd03e17cf11d166ce7d6def700b183fb8f3af7caba11d677229d9f051"), looks := true }, kinds := [], alts := [], laidByText := true, laidKinds := [.handle], laidTests := true, laidLooks := .later }
def LedgerTwinsUptoCardSaid : Prop := Claim7.holds Tryd.pinned (.plain (OpenSpec.upto ledgerTwinsSpec)) ledgerTwinsUptoCard
end Rows
end Go.Proofs.YtdbfjcdglcagaaaDoor
