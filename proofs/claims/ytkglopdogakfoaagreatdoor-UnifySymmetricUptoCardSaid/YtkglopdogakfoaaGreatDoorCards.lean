/-
  DERIVED. GIVEN WITH THE SEED: THE CARDS: each row of YtkglopdogakfoaaGreatDoorRows.lean that lists a variable, with what it lists TIED to the program's text (the seventh form; the later family's looks); each row that meets fmt, with fmt's text TOLD by the authors' own Lean function (tested against real Go, not proved from fmt's source: count such statements apart). THE CARD IS WHAT COUNTS. Prove the row's statement (the work); the ties are given (YtkglopdogakfoaaGreatDoorTie.lean); close each card by the builder's one call (the guide's Derived/Test/ToyasCard.lean, 'card_holds'). Laid BY PROGRAM, IN A SANDBOX (cutbox-door.mjs). By AI agents, Wed Nov 11 2026. No macro, syntax, notation, axiom, sorry.
-/
import Derived.Test.YtkglopdogakfoaaGreatDoorRows
import GoSem.ClaimSeven
namespace Go.Proofs.YtkglopdogakfoaaGreatDoor
namespace Rows

/-- THE TIED CARD OF 'dwindlelaw02.ReadTerms'. -/
def readTermsCard : Claim7 := { stood := { row := readTermsRow, standIns := [], harness := (true, "6ceb848fadcf3c75c3ae72bb13daafd0a8939ace4b3033c3408eb9e165536848"), looks := true }, kinds := [], alts := [], laidByText := true, laidKinds := [.data, .pinned], laidTests := true, laidLooks := .later }
def ReadTermsCardSaid : Prop := Claim7.holds Tryz.pinned (.plain (OpenSpec.ofChange readTermsSpec)) readTermsCard

/-- THE TIED CARD OF 'dwindlelaw02.ReadSystems'. -/
def readSystemsCard : Claim7 := { stood := { row := readSystemsRow, standIns := [], harness := (true, "6ceb848fadcf3c75c3ae72bb13daafd0a8939ace4b3033c3408eb9e165536848"), looks := true }, kinds := [], alts := [], laidByText := true, laidKinds := [.data, .pinned], laidTests := true, laidLooks := .later }
def ReadSystemsCardSaid : Prop := Claim7.holds Tryz.pinned (.plain (OpenSpec.ofChange readSystemsSpec)) readSystemsCard

/-- THE TIED CARD OF 'dwindlelaw02.ReadPositions'. -/
def readPositionsCard : Claim7 := { stood := { row := readPositionsRow, standIns := [], harness := (true, "6ceb848fadcf3c75c3ae72bb13daafd0a8939ace4b3033c3408eb9e165536848"), looks := true }, kinds := [], alts := [], laidByText := true, laidKinds := [.data, .data, .data, .data, .pinned], laidTests := true, laidLooks := .later }
def ReadPositionsCardSaid : Prop := Claim7.holds Tryz.pinned (.plain (OpenSpec.ofChange readPositionsSpec)) readPositionsCard

/-- THE TIED CARD OF 'dwindlelaw02.ReadRoundTrip'. -/
def readRoundTripCard : Claim7 := { stood := { row := readRoundTripRow, standIns := [], harness := (true, "6ceb848fadcf3c75c3ae72bb13daafd0a8939ace4b3033c3408eb9e165536848"), looks := true }, kinds := [], alts := [], laidByText := true, laidKinds := [.data, .pinned], laidTests := true, laidLooks := .later }
def ReadRoundTripCardSaid : Prop := Claim7.holds Tryz.pinned (.plain (OpenSpec.ofChange readRoundTripSpec)) readRoundTripCard

/-- THE TIED CARD OF 'dwindlelaw02.ReadLayout'. -/
def readLayoutCard : Claim7 := { stood := { row := readLayoutRow, standIns := [], harness := (true, "6ceb848fadcf3c75c3ae72bb13daafd0a8939ace4b3033c3408eb9e165536848"), looks := true }, kinds := [], alts := [], laidByText := true, laidKinds := [.data, .pinned], laidTests := true, laidLooks := .later }
def ReadLayoutCardSaid : Prop := Claim7.holds Tryz.pinned (.plain (OpenSpec.ofChange readLayoutSpec)) readLayoutCard

/-- THE TIED CARD OF 'dwindlelaw03.UnifyMostGeneral'. -/
def unifyMostGeneralCard : Claim7 := { stood := { row := unifyMostGeneralRow, standIns := [], harness := (true, "6ceb848fadcf3c75c3ae72bb13daafd0a8939ace4b3033c3408eb9e165536848"), looks := true }, kinds := [], alts := [], laidByText := true, laidKinds := [.data, .data, .data], laidTests := true, laidLooks := .later }
def UnifyMostGeneralCardSaid : Prop := Claim7.holds Tryz.pinned (.plain (OpenSpec.ofChange unifyMostGeneralSpec)) unifyMostGeneralCard

/-- THE TIED CARD OF 'dwindlelaw03.UnifySymmetric'. -/
def unifySymmetricCard : Claim7 := { stood := { row := unifySymmetricRow, standIns := [], harness := (true, "6ceb848fadcf3c75c3ae72bb13daafd0a8939ace4b3033c3408eb9e165536848"), looks := true }, kinds := [], alts := [], laidByText := true, laidKinds := [.data, .data, .data], laidTests := true, laidLooks := .later }
def UnifySymmetricCardSaid : Prop := Claim7.holds Tryz.pinned (.plain (OpenSpec.ofChange unifySymmetricSpec)) unifySymmetricCard

/-- THE SECOND FORM's CARD OF 'dwindlelaw02.ReadTerms'. -/
def readTermsUptoCard : Claim7 := { stood := { row := readTermsUptoRow, standIns := [], harness := (true, "6ceb848fadcf3c75c3ae72bb13daafd0a8939ace4b3033c3408eb9e165536848"), looks := true }, kinds := [], alts := [], laidByText := true, laidKinds := [.data, .pinned], laidTests := true, laidLooks := .later }
def ReadTermsUptoCardSaid : Prop := Claim7.holds Tryz.pinned (.plain (OpenSpec.upto readTermsSpec)) readTermsUptoCard

/-- THE SECOND FORM's CARD OF 'dwindlelaw02.ReadSystems'. -/
def readSystemsUptoCard : Claim7 := { stood := { row := readSystemsUptoRow, standIns := [], harness := (true, "6ceb848fadcf3c75c3ae72bb13daafd0a8939ace4b3033c3408eb9e165536848"), looks := true }, kinds := [], alts := [], laidByText := true, laidKinds := [.data, .pinned], laidTests := true, laidLooks := .later }
def ReadSystemsUptoCardSaid : Prop := Claim7.holds Tryz.pinned (.plain (OpenSpec.upto readSystemsSpec)) readSystemsUptoCard

/-- THE SECOND FORM's CARD OF 'dwindlelaw02.ReadPositions'. -/
def readPositionsUptoCard : Claim7 := { stood := { row := readPositionsUptoRow, standIns := [], harness := (true, "6ceb848fadcf3c75c3ae72bb13daafd0a8939ace4b3033c3408eb9e165536848"), looks := true }, kinds := [], alts := [], laidByText := true, laidKinds := [.data, .data, .data, .data, .pinned], laidTests := true, laidLooks := .later }
def ReadPositionsUptoCardSaid : Prop := Claim7.holds Tryz.pinned (.plain (OpenSpec.upto readPositionsSpec)) readPositionsUptoCard

/-- THE SECOND FORM's CARD OF 'dwindlelaw02.ReadRoundTrip'. -/
def readRoundTripUptoCard : Claim7 := { stood := { row := readRoundTripUptoRow, standIns := [], harness := (true, "6ceb848fadcf3c75c3ae72bb13daafd0a8939ace4b3033c3408eb9e165536848"), looks := true }, kinds := [], alts := [], laidByText := true, laidKinds := [.data, .pinned], laidTests := true, laidLooks := .later }
def ReadRoundTripUptoCardSaid : Prop := Claim7.holds Tryz.pinned (.plain (OpenSpec.upto readRoundTripSpec)) readRoundTripUptoCard

/-- THE SECOND FORM's CARD OF 'dwindlelaw02.ReadLayout'. -/
def readLayoutUptoCard : Claim7 := { stood := { row := readLayoutUptoRow, standIns := [], harness := (true, "6ceb848fadcf3c75c3ae72bb13daafd0a8939ace4b3033c3408eb9e165536848"), looks := true }, kinds := [], alts := [], laidByText := true, laidKinds := [.data, .pinned], laidTests := true, laidLooks := .later }
def ReadLayoutUptoCardSaid : Prop := Claim7.holds Tryz.pinned (.plain (OpenSpec.upto readLayoutSpec)) readLayoutUptoCard

/-- THE SECOND FORM's CARD OF 'dwindlelaw03.UnifyMostGeneral'. -/
def unifyMostGeneralUptoCard : Claim7 := { stood := { row := unifyMostGeneralUptoRow, standIns := [], harness := (true, "6ceb848fadcf3c75c3ae72bb13daafd0a8939ace4b3033c3408eb9e165536848"), looks := true }, kinds := [], alts := [], laidByText := true, laidKinds := [.data, .data, .data], laidTests := true, laidLooks := .later }
def UnifyMostGeneralUptoCardSaid : Prop := Claim7.holds Tryz.pinned (.plain (OpenSpec.upto unifyMostGeneralSpec)) unifyMostGeneralUptoCard

/-- THE SECOND FORM's CARD OF 'dwindlelaw03.UnifySymmetric'. -/
def unifySymmetricUptoCard : Claim7 := { stood := { row := unifySymmetricUptoRow, standIns := [], harness := (true, "6ceb848fadcf3c75c3ae72bb13daafd0a8939ace4b3033c3408eb9e165536848"), looks := true }, kinds := [], alts := [], laidByText := true, laidKinds := [.data, .data, .data], laidTests := true, laidLooks := .later }
def UnifySymmetricUptoCardSaid : Prop := Claim7.holds Tryz.pinned (.plain (OpenSpec.upto unifySymmetricSpec)) unifySymmetricUptoCard
end Rows
end Go.Proofs.YtkglopdogakfoaaGreatDoor
