/-
  DERIVED. GIVEN WITH THE SEED: THE CARDS: each row of YtgmloanagpkjeaaGreatDoorRows.lean that lists a variable, with what it lists TIED to the program's text (the seventh form; the later family's looks); each row that meets fmt, with fmt's text TOLD by the authors' own Lean function (tested against real Go, not proved from fmt's source: count such statements apart). THE CARD IS WHAT COUNTS. Prove the row's statement (the work); the ties are given (YtgmloanagpkjeaaGreatDoorTie.lean); close each card by the builder's one call (the guide's Derived/Test/ToyasCard.lean, 'card_holds'). Laid BY PROGRAM, IN A SANDBOX (cutbox-door.mjs). By AI agents, Wed Nov 11 2026. No macro, syntax, notation, axiom, sorry.
-/
import Derived.Test.YtgmloanagpkjeaaGreatDoorRows
import GoSem.ClaimSeven
namespace Go.Proofs.YtgmloanagpkjeaaGreatDoor
namespace Rows

/-- THE TIED CARD OF 'dwindlelaw02.ReadTerms'. -/
def readTermsCard : Claim7 := { stood := { row := readTermsRow, standIns := [], harness := (true, "f0664abf47d0ec01d6c882ec7823ce6a5e4430b173688c8d816705e0dee1f76b"), looks := true }, kinds := [], alts := [], laidByText := true, laidKinds := [.data, .pinned], laidTests := true, laidLooks := .later }
def ReadTermsCardSaid : Prop := Claim7.holds Tryz.pinned (.plain (OpenSpec.ofChange readTermsSpec)) readTermsCard

/-- THE TIED CARD OF 'dwindlelaw02.ReadSystems'. -/
def readSystemsCard : Claim7 := { stood := { row := readSystemsRow, standIns := [], harness := (true, "f0664abf47d0ec01d6c882ec7823ce6a5e4430b173688c8d816705e0dee1f76b"), looks := true }, kinds := [], alts := [], laidByText := true, laidKinds := [.data, .pinned], laidTests := true, laidLooks := .later }
def ReadSystemsCardSaid : Prop := Claim7.holds Tryz.pinned (.plain (OpenSpec.ofChange readSystemsSpec)) readSystemsCard

/-- THE TIED CARD OF 'dwindlelaw02.ReadTexts'. -/
def readTextsCard : Claim7 := { stood := { row := readTextsRow, standIns := [], harness := (true, "f0664abf47d0ec01d6c882ec7823ce6a5e4430b173688c8d816705e0dee1f76b"), looks := true }, kinds := [], alts := [], laidByText := true, laidKinds := [.data, .pinned], laidTests := true, laidLooks := .later }
def ReadTextsCardSaid : Prop := Claim7.holds Tryz.pinned (.plain (OpenSpec.ofChange readTextsSpec)) readTextsCard

/-- THE TIED CARD OF 'dwindlelaw02.ReadPositions'. -/
def readPositionsCard : Claim7 := { stood := { row := readPositionsRow, standIns := [], harness := (true, "f0664abf47d0ec01d6c882ec7823ce6a5e4430b173688c8d816705e0dee1f76b"), looks := true }, kinds := [], alts := [], laidByText := true, laidKinds := [.data, .data, .data, .data, .pinned], laidTests := true, laidLooks := .later }
def ReadPositionsCardSaid : Prop := Claim7.holds Tryz.pinned (.plain (OpenSpec.ofChange readPositionsSpec)) readPositionsCard

/-- THE TIED CARD OF 'dwindlelaw02.ReadRoundTrip'. -/
def readRoundTripCard : Claim7 := { stood := { row := readRoundTripRow, standIns := [], harness := (true, "f0664abf47d0ec01d6c882ec7823ce6a5e4430b173688c8d816705e0dee1f76b"), looks := true }, kinds := [], alts := [], laidByText := true, laidKinds := [.data, .pinned], laidTests := true, laidLooks := .later }
def ReadRoundTripCardSaid : Prop := Claim7.holds Tryz.pinned (.plain (OpenSpec.ofChange readRoundTripSpec)) readRoundTripCard

/-- THE TIED CARD OF 'dwindlelaw02.ReadLayout'. -/
def readLayoutCard : Claim7 := { stood := { row := readLayoutRow, standIns := [], harness := (true, "f0664abf47d0ec01d6c882ec7823ce6a5e4430b173688c8d816705e0dee1f76b"), looks := true }, kinds := [], alts := [], laidByText := true, laidKinds := [.data, .pinned], laidTests := true, laidLooks := .later }
def ReadLayoutCardSaid : Prop := Claim7.holds Tryz.pinned (.plain (OpenSpec.ofChange readLayoutSpec)) readLayoutCard

/-- THE TIED CARD OF 'dwindlelaw03.UnifyMatches'. -/
def unifyMatchesCard : Claim7 := { stood := { row := unifyMatchesRow, standIns := [], harness := (true, "f0664abf47d0ec01d6c882ec7823ce6a5e4430b173688c8d816705e0dee1f76b"), looks := true }, kinds := [], alts := [], laidByText := true, laidKinds := [.data, .data, .data], laidTests := true, laidLooks := .later }
def UnifyMatchesCardSaid : Prop := Claim7.holds Tryz.pinned (.plain (OpenSpec.ofChange unifyMatchesSpec)) unifyMatchesCard

/-- THE TIED CARD OF 'dwindlelaw03.UnifyUnifies'. -/
def unifyUnifiesCard : Claim7 := { stood := { row := unifyUnifiesRow, standIns := [], harness := (true, "f0664abf47d0ec01d6c882ec7823ce6a5e4430b173688c8d816705e0dee1f76b"), looks := true }, kinds := [], alts := [], laidByText := true, laidKinds := [.data, .data, .data], laidTests := true, laidLooks := .later }
def UnifyUnifiesCardSaid : Prop := Claim7.holds Tryz.pinned (.plain (OpenSpec.ofChange unifyUnifiesSpec)) unifyUnifiesCard

/-- THE TIED CARD OF 'dwindlelaw03.UnifyVariants'. -/
def unifyVariantsCard : Claim7 := { stood := { row := unifyVariantsRow, standIns := [], harness := (true, "f0664abf47d0ec01d6c882ec7823ce6a5e4430b173688c8d816705e0dee1f76b"), looks := true }, kinds := [], alts := [], laidByText := true, laidKinds := [.data, .data, .data], laidTests := true, laidLooks := .later }
def UnifyVariantsCardSaid : Prop := Claim7.holds Tryz.pinned (.plain (OpenSpec.ofChange unifyVariantsSpec)) unifyVariantsCard

/-- THE TIED CARD OF 'dwindlelaw03.UnifyMatching'. -/
def unifyMatchingCard : Claim7 := { stood := { row := unifyMatchingRow, standIns := [], harness := (true, "f0664abf47d0ec01d6c882ec7823ce6a5e4430b173688c8d816705e0dee1f76b"), looks := true }, kinds := [], alts := [], laidByText := true, laidKinds := [.data, .data, .data], laidTests := true, laidLooks := .later }
def UnifyMatchingCardSaid : Prop := Claim7.holds Tryz.pinned (.plain (OpenSpec.ofChange unifyMatchingSpec)) unifyMatchingCard

/-- THE TIED CARD OF 'dwindlelaw03.UnifyMostGeneral'. -/
def unifyMostGeneralCard : Claim7 := { stood := { row := unifyMostGeneralRow, standIns := [], harness := (true, "f0664abf47d0ec01d6c882ec7823ce6a5e4430b173688c8d816705e0dee1f76b"), looks := true }, kinds := [], alts := [], laidByText := true, laidKinds := [.data, .data, .data], laidTests := true, laidLooks := .later }
def UnifyMostGeneralCardSaid : Prop := Claim7.holds Tryz.pinned (.plain (OpenSpec.ofChange unifyMostGeneralSpec)) unifyMostGeneralCard

/-- THE TIED CARD OF 'dwindlelaw03.UnifySymmetric'. -/
def unifySymmetricCard : Claim7 := { stood := { row := unifySymmetricRow, standIns := [], harness := (true, "f0664abf47d0ec01d6c882ec7823ce6a5e4430b173688c8d816705e0dee1f76b"), looks := true }, kinds := [], alts := [], laidByText := true, laidKinds := [.data, .data, .data], laidTests := true, laidLooks := .later }
def UnifySymmetricCardSaid : Prop := Claim7.holds Tryz.pinned (.plain (OpenSpec.ofChange unifySymmetricSpec)) unifySymmetricCard

/-- THE SECOND FORM's CARD OF 'dwindlelaw02.ReadTerms'. -/
def readTermsUptoCard : Claim7 := { stood := { row := readTermsUptoRow, standIns := [], harness := (true, "f0664abf47d0ec01d6c882ec7823ce6a5e4430b173688c8d816705e0dee1f76b"), looks := true }, kinds := [], alts := [], laidByText := true, laidKinds := [.data, .pinned], laidTests := true, laidLooks := .later }
def ReadTermsUptoCardSaid : Prop := Claim7.holds Tryz.pinned (.plain (OpenSpec.upto readTermsSpec)) readTermsUptoCard

/-- THE SECOND FORM's CARD OF 'dwindlelaw02.ReadSystems'. -/
def readSystemsUptoCard : Claim7 := { stood := { row := readSystemsUptoRow, standIns := [], harness := (true, "f0664abf47d0ec01d6c882ec7823ce6a5e4430b173688c8d816705e0dee1f76b"), looks := true }, kinds := [], alts := [], laidByText := true, laidKinds := [.data, .pinned], laidTests := true, laidLooks := .later }
def ReadSystemsUptoCardSaid : Prop := Claim7.holds Tryz.pinned (.plain (OpenSpec.upto readSystemsSpec)) readSystemsUptoCard

/-- THE SECOND FORM's CARD OF 'dwindlelaw02.ReadTexts'. -/
def readTextsUptoCard : Claim7 := { stood := { row := readTextsUptoRow, standIns := [], harness := (true, "f0664abf47d0ec01d6c882ec7823ce6a5e4430b173688c8d816705e0dee1f76b"), looks := true }, kinds := [], alts := [], laidByText := true, laidKinds := [.data, .pinned], laidTests := true, laidLooks := .later }
def ReadTextsUptoCardSaid : Prop := Claim7.holds Tryz.pinned (.plain (OpenSpec.upto readTextsSpec)) readTextsUptoCard

/-- THE SECOND FORM's CARD OF 'dwindlelaw02.ReadPositions'. -/
def readPositionsUptoCard : Claim7 := { stood := { row := readPositionsUptoRow, standIns := [], harness := (true, "f0664abf47d0ec01d6c882ec7823ce6a5e4430b173688c8d816705e0dee1f76b"), looks := true }, kinds := [], alts := [], laidByText := true, laidKinds := [.data, .data, .data, .data, .pinned], laidTests := true, laidLooks := .later }
def ReadPositionsUptoCardSaid : Prop := Claim7.holds Tryz.pinned (.plain (OpenSpec.upto readPositionsSpec)) readPositionsUptoCard

/-- THE SECOND FORM's CARD OF 'dwindlelaw02.ReadRoundTrip'. -/
def readRoundTripUptoCard : Claim7 := { stood := { row := readRoundTripUptoRow, standIns := [], harness := (true, "f0664abf47d0ec01d6c882ec7823ce6a5e4430b173688c8d816705e0dee1f76b"), looks := true }, kinds := [], alts := [], laidByText := true, laidKinds := [.data, .pinned], laidTests := true, laidLooks := .later }
def ReadRoundTripUptoCardSaid : Prop := Claim7.holds Tryz.pinned (.plain (OpenSpec.upto readRoundTripSpec)) readRoundTripUptoCard

/-- THE SECOND FORM's CARD OF 'dwindlelaw02.ReadLayout'. -/
def readLayoutUptoCard : Claim7 := { stood := { row := readLayoutUptoRow, standIns := [], harness := (true, "f0664abf47d0ec01d6c882ec7823ce6a5e4430b173688c8d816705e0dee1f76b"), looks := true }, kinds := [], alts := [], laidByText := true, laidKinds := [.data, .pinned], laidTests := true, laidLooks := .later }
def ReadLayoutUptoCardSaid : Prop := Claim7.holds Tryz.pinned (.plain (OpenSpec.upto readLayoutSpec)) readLayoutUptoCard

/-- THE SECOND FORM's CARD OF 'dwindlelaw03.UnifyMatches'. -/
def unifyMatchesUptoCard : Claim7 := { stood := { row := unifyMatchesUptoRow, standIns := [], harness := (true, "f0664abf47d0ec01d6c882ec7823ce6a5e4430b173688c8d816705e0dee1f76b"), looks := true }, kinds := [], alts := [], laidByText := true, laidKinds := [.data, .data, .data], laidTests := true, laidLooks := .later }
def UnifyMatchesUptoCardSaid : Prop := Claim7.holds Tryz.pinned (.plain (OpenSpec.upto unifyMatchesSpec)) unifyMatchesUptoCard

/-- THE SECOND FORM's CARD OF 'dwindlelaw03.UnifyUnifies'. -/
def unifyUnifiesUptoCard : Claim7 := { stood := { row := unifyUnifiesUptoRow, standIns := [], harness := (true, "f0664abf47d0ec01d6c882ec7823ce6a5e4430b173688c8d816705e0dee1f76b"), looks := true }, kinds := [], alts := [], laidByText := true, laidKinds := [.data, .data, .data], laidTests := true, laidLooks := .later }
def UnifyUnifiesUptoCardSaid : Prop := Claim7.holds Tryz.pinned (.plain (OpenSpec.upto unifyUnifiesSpec)) unifyUnifiesUptoCard

/-- THE SECOND FORM's CARD OF 'dwindlelaw03.UnifyVariants'. -/
def unifyVariantsUptoCard : Claim7 := { stood := { row := unifyVariantsUptoRow, standIns := [], harness := (true, "f0664abf47d0ec01d6c882ec7823ce6a5e4430b173688c8d816705e0dee1f76b"), looks := true }, kinds := [], alts := [], laidByText := true, laidKinds := [.data, .data, .data], laidTests := true, laidLooks := .later }
def UnifyVariantsUptoCardSaid : Prop := Claim7.holds Tryz.pinned (.plain (OpenSpec.upto unifyVariantsSpec)) unifyVariantsUptoCard

/-- THE SECOND FORM's CARD OF 'dwindlelaw03.UnifyMatching'. -/
def unifyMatchingUptoCard : Claim7 := { stood := { row := unifyMatchingUptoRow, standIns := [], harness := (true, "f0664abf47d0ec01d6c882ec7823ce6a5e4430b173688c8d816705e0dee1f76b"), looks := true }, kinds := [], alts := [], laidByText := true, laidKinds := [.data, .data, .data], laidTests := true, laidLooks := .later }
def UnifyMatchingUptoCardSaid : Prop := Claim7.holds Tryz.pinned (.plain (OpenSpec.upto unifyMatchingSpec)) unifyMatchingUptoCard

/-- THE SECOND FORM's CARD OF 'dwindlelaw03.UnifyMostGeneral'. -/
def unifyMostGeneralUptoCard : Claim7 := { stood := { row := unifyMostGeneralUptoRow, standIns := [], harness := (true, "f0664abf47d0ec01d6c882ec7823ce6a5e4430b173688c8d816705e0dee1f76b"), looks := true }, kinds := [], alts := [], laidByText := true, laidKinds := [.data, .data, .data], laidTests := true, laidLooks := .later }
def UnifyMostGeneralUptoCardSaid : Prop := Claim7.holds Tryz.pinned (.plain (OpenSpec.upto unifyMostGeneralSpec)) unifyMostGeneralUptoCard

/-- THE SECOND FORM's CARD OF 'dwindlelaw03.UnifySymmetric'. -/
def unifySymmetricUptoCard : Claim7 := { stood := { row := unifySymmetricUptoRow, standIns := [], harness := (true, "f0664abf47d0ec01d6c882ec7823ce6a5e4430b173688c8d816705e0dee1f76b"), looks := true }, kinds := [], alts := [], laidByText := true, laidKinds := [.data, .data, .data], laidTests := true, laidLooks := .later }
def UnifySymmetricUptoCardSaid : Prop := Claim7.holds Tryz.pinned (.plain (OpenSpec.upto unifySymmetricSpec)) unifySymmetricUptoCard
end Rows
end Go.Proofs.YtgmloanagpkjeaaGreatDoor
