/-
  DERIVED. GIVEN WITH THE SEED: THE CARDS: each row of YtlhgopdlpjmbhaaDoorRows.lean that lists a variable, with what it lists TIED to the program's text (the seventh form; the later family's looks); each row that meets fmt, with fmt's text TOLD by the authors' own Lean function (tested against real Go, not proved from fmt's source: count such statements apart). THE CARD IS WHAT COUNTS. Prove the row's statement (the work); the ties are given (YtlhgopdlpjmbhaaDoorTie.lean); close each card by the builder's one call (the guide's Derived/Test/ToyasCard.lean, 'card_holds'). Laid BY PROGRAM, IN A SANDBOX (cutbox-door.mjs). By AI agents, Wed Nov 11 2026. No macro, syntax, notation, axiom, sorry.
-/
import Derived.Test.YtlhgopdlpjmbhaaDoorRows
import GoSem.ClaimSeven
namespace Go.Proofs.YtlhgopdlpjmbhaaDoor
namespace Rows

/-- THE TIED CARD OF 'tithelaw01.FixedShares'. -/
def fixedSharesCard : Claim7 := { stood := { row := fixedSharesRow, standIns := [], harness := (true, "bd8e61664966ace09ab9b6c63f3310c20f8dc59204d5378ca088ddf83e004af1"), looks := true }, kinds := [], alts := [], laidByText := true, laidKinds := [.handle], laidTests := true, laidLooks := .later }
def FixedSharesCardSaid : Prop := Claim7.holds Tryd.pinned (.plain (OpenSpec.ofChange fixedSharesSpec)) fixedSharesCard

/-- THE TIED CARD OF 'tithelaw01.FixedSums'. -/
def fixedSumsCard : Claim7 := { stood := { row := fixedSumsRow, standIns := [], harness := (true, "bd8e61664966ace09ab9b6c63f3310c20f8dc59204d5378ca088ddf83e004af1"), looks := true }, kinds := [], alts := [], laidByText := true, laidKinds := [.handle], laidTests := true, laidLooks := .later }
def FixedSumsCardSaid : Prop := Claim7.holds Tryd.pinned (.plain (OpenSpec.ofChange fixedSumsSpec)) fixedSumsCard

/-- THE TIED CARD OF 'tithelaw01.FixedMosts'. -/
def fixedMostsCard : Claim7 := { stood := { row := fixedMostsRow, standIns := [], harness := (true, "bd8e61664966ace09ab9b6c63f3310c20f8dc59204d5378ca088ddf83e004af1"), looks := true }, kinds := [], alts := [], laidByText := true, laidKinds := [.handle], laidTests := true, laidLooks := .later }
def FixedMostsCardSaid : Prop := Claim7.holds Tryd.pinned (.plain (OpenSpec.ofChange fixedMostsSpec)) fixedMostsCard

/-- THE TIED CARD OF 'tithelaw01.FixedCompares'. -/
def fixedComparesCard : Claim7 := { stood := { row := fixedComparesRow, standIns := [], harness := (true, "bd8e61664966ace09ab9b6c63f3310c20f8dc59204d5378ca088ddf83e004af1"), looks := true }, kinds := [], alts := [], laidByText := true, laidKinds := [.handle], laidTests := true, laidLooks := .later }
def FixedComparesCardSaid : Prop := Claim7.holds Tryd.pinned (.plain (OpenSpec.ofChange fixedComparesSpec)) fixedComparesCard

/-- THE TIED CARD OF 'tithelaw01.FixedTexts'. -/
def fixedTextsCard : Claim7 := { stood := { row := fixedTextsRow, standIns := [], harness := (true, "bd8e61664966ace09ab9b6c63f3310c20f8dc59204d5378ca088ddf83e004af1"), looks := true }, kinds := [], alts := [], laidByText := true, laidKinds := [.handle], laidTests := true, laidLooks := .later }
def FixedTextsCardSaid : Prop := Claim7.holds Tryd.pinned (.plain (OpenSpec.ofChange fixedTextsSpec)) fixedTextsCard

/-- THE TIED CARD OF 'tithelaw01.FixedReads'. -/
def fixedReadsCard : Claim7 := { stood := { row := fixedReadsRow, standIns := [], harness := (true, "bd8e61664966ace09ab9b6c63f3310c20f8dc59204d5378ca088ddf83e004af1"), looks := true }, kinds := [], alts := [], laidByText := true, laidKinds := [.handle], laidTests := true, laidLooks := .later }
def FixedReadsCardSaid : Prop := Claim7.holds Tryd.pinned (.plain (OpenSpec.ofChange fixedReadsSpec)) fixedReadsCard

/-- THE SECOND FORM's CARD OF 'tithelaw01.FixedShares'. -/
def fixedSharesUptoCard : Claim7 := { stood := { row := fixedSharesUptoRow, standIns := [], harness := (true, "bd8e61664966ace09ab9b6c63f3310c20f8dc59204d5378ca088ddf83e004af1"), looks := true }, kinds := [], alts := [], laidByText := true, laidKinds := [.handle], laidTests := true, laidLooks := .later }
def FixedSharesUptoCardSaid : Prop := Claim7.holds Tryd.pinned (.plain (OpenSpec.upto fixedSharesSpec)) fixedSharesUptoCard

/-- THE SECOND FORM's CARD OF 'tithelaw01.FixedSums'. -/
def fixedSumsUptoCard : Claim7 := { stood := { row := fixedSumsUptoRow, standIns := [], harness := (true, "bd8e61664966ace09ab9b6c63f3310c20f8dc59204d5378ca088ddf83e004af1"), looks := true }, kinds := [], alts := [], laidByText := true, laidKinds := [.handle], laidTests := true, laidLooks := .later }
def FixedSumsUptoCardSaid : Prop := Claim7.holds Tryd.pinned (.plain (OpenSpec.upto fixedSumsSpec)) fixedSumsUptoCard

/-- THE SECOND FORM's CARD OF 'tithelaw01.FixedMosts'. -/
def fixedMostsUptoCard : Claim7 := { stood := { row := fixedMostsUptoRow, standIns := [], harness := (true, "bd8e61664966ace09ab9b6c63f3310c20f8dc59204d5378ca088ddf83e004af1"), looks := true }, kinds := [], alts := [], laidByText := true, laidKinds := [.handle], laidTests := true, laidLooks := .later }
def FixedMostsUptoCardSaid : Prop := Claim7.holds Tryd.pinned (.plain (OpenSpec.upto fixedMostsSpec)) fixedMostsUptoCard

/-- THE SECOND FORM's CARD OF 'tithelaw01.FixedCompares'. -/
def fixedComparesUptoCard : Claim7 := { stood := { row := fixedComparesUptoRow, standIns := [], harness := (true, "bd8e61664966ace09ab9b6c63f3310c20f8dc59204d5378ca088ddf83e004af1"), looks := true }, kinds := [], alts := [], laidByText := true, laidKinds := [.handle], laidTests := true, laidLooks := .later }
def FixedComparesUptoCardSaid : Prop := Claim7.holds Tryd.pinned (.plain (OpenSpec.upto fixedComparesSpec)) fixedComparesUptoCard

/-- THE SECOND FORM's CARD OF 'tithelaw01.FixedTexts'. -/
def fixedTextsUptoCard : Claim7 := { stood := { row := fixedTextsUptoRow, standIns := [], harness := (true, "bd8e61664966ace09ab9b6c63f3310c20f8dc59204d5378ca088ddf83e004af1"), looks := true }, kinds := [], alts := [], laidByText := true, laidKinds := [.handle], laidTests := true, laidLooks := .later }
def FixedTextsUptoCardSaid : Prop := Claim7.holds Tryd.pinned (.plain (OpenSpec.upto fixedTextsSpec)) fixedTextsUptoCard

/-- THE SECOND FORM's CARD OF 'tithelaw01.FixedReads'. -/
def fixedReadsUptoCard : Claim7 := { stood := { row := fixedReadsUptoRow, standIns := [], harness := (true, "bd8e61664966ace09ab9b6c63f3310c20f8dc59204d5378ca088ddf83e004af1"), looks := true }, kinds := [], alts := [], laidByText := true, laidKinds := [.handle], laidTests := true, laidLooks := .later }
def FixedReadsUptoCardSaid : Prop := Claim7.holds Tryd.pinned (.plain (OpenSpec.upto fixedReadsSpec)) fixedReadsUptoCard
end Rows
end Go.Proofs.YtlhgopdlpjmbhaaDoor
