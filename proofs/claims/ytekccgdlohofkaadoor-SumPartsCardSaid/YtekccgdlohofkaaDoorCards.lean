/-
  DERIVED. GIVEN WITH THE SEED: THE CARDS: each row of YtekccgdlohofkaaDoorRows.lean that lists a variable, with what it lists TIED to the program's text (the seventh form; the later family's looks); each row that meets fmt, with fmt's text TOLD by the authors' own Lean function (tested against real Go, not proved from fmt's source: count such statements apart). THE CARD IS WHAT COUNTS. Prove the row's statement (the work); the ties are given (YtekccgdlohofkaaDoorTie.lean); close each card by the builder's one call (the guide's Derived/Test/ToyasCard.lean, 'card_holds'). Laid BY PROGRAM, IN A SANDBOX (cutbox-door.mjs). By AI agents, Wed Nov 11 2026. No macro, syntax, notation, axiom, sorry.
-/
import Derived.Test.YtekccgdlohofkaaDoorRows
import GoSem.ClaimSeven
namespace Go.Proofs.YtekccgdlohofkaaDoor
namespace Rows

/-- THE TIED CARD OF 'shuntlaw2.SumCRC'. -/
def sumCRCCard : Claim7 := { stood := { row := sumCRCRow, standIns := [], harness := (true, "fd8e1ac68d3b01c768e2f8e44c531b17840a975e1e5957b851fbff103eb92746"), looks := false }, kinds := [], alts := [], laidByText := true, laidKinds := [.data, .data], laidTests := true, laidLooks := .later }
def SumCRCCardSaid : Prop := Claim7.holds Tryd.pinned (.plain (OpenSpec.ofChange sumCRCSpec)) sumCRCCard

/-- THE TIED CARD OF 'shuntlaw2.SumSHA'. -/
def sumSHACard : Claim7 := { stood := { row := sumSHARow, standIns := [], harness := (true, "fd8e1ac68d3b01c768e2f8e44c531b17840a975e1e5957b851fbff103eb92746"), looks := false }, kinds := [], alts := [], laidByText := true, laidKinds := [.data, .data], laidTests := true, laidLooks := .later }
def SumSHACardSaid : Prop := Claim7.holds Tryd.pinned (.plain (OpenSpec.ofChange sumSHASpec)) sumSHACard

/-- THE TIED CARD OF 'shuntlaw2.SumParts'. -/
def sumPartsCard : Claim7 := { stood := { row := sumPartsRow, standIns := [], harness := (true, "fd8e1ac68d3b01c768e2f8e44c531b17840a975e1e5957b851fbff103eb92746"), looks := false }, kinds := [], alts := [], laidByText := true, laidKinds := [.data, .data], laidTests := true, laidLooks := .later }
def SumPartsCardSaid : Prop := Claim7.holds Tryd.pinned (.plain (OpenSpec.ofChange sumPartsSpec)) sumPartsCard

/-- THE TIED CARD OF 'shuntlaw2.SumSplit'. -/
def sumSplitCard : Claim7 := { stood := { row := sumSplitRow, standIns := [], harness := (true, "fd8e1ac68d3b01c768e2f8e44c531b17840a975e1e5957b851fbff103eb92746"), looks := false }, kinds := [], alts := [], laidByText := true, laidKinds := [.data, .data], laidTests := true, laidLooks := .later }
def SumSplitCardSaid : Prop := Claim7.holds Tryd.pinned (.plain (OpenSpec.ofChange sumSplitSpec)) sumSplitCard

/-- THE TIED CARD OF 'shuntlaw2.SumTurned'. -/
def sumTurnedCard : Claim7 := { stood := { row := sumTurnedRow, standIns := [], harness := (true, "fd8e1ac68d3b01c768e2f8e44c531b17840a975e1e5957b851fbff103eb92746"), looks := false }, kinds := [], alts := [], laidByText := true, laidKinds := [.data, .data], laidTests := true, laidLooks := .later }
def SumTurnedCardSaid : Prop := Claim7.holds Tryd.pinned (.plain (OpenSpec.ofChange sumTurnedSpec)) sumTurnedCard

/-- THE TIED CARD OF 'shuntlaw2.SumLength'. -/
def sumLengthCard : Claim7 := { stood := { row := sumLengthRow, standIns := [], harness := (true, "fd8e1ac68d3b01c768e2f8e44c531b17840a975e1e5957b851fbff103eb92746"), looks := false }, kinds := [], alts := [], laidByText := true, laidKinds := [.data, .data], laidTests := true, laidLooks := .later }
def SumLengthCardSaid : Prop := Claim7.holds Tryd.pinned (.plain (OpenSpec.ofChange sumLengthSpec)) sumLengthCard

/-- THE TIED CARD OF 'shuntlaw2.SumAgain'. -/
def sumAgainCard : Claim7 := { stood := { row := sumAgainRow, standIns := [], harness := (true, "fd8e1ac68d3b01c768e2f8e44c531b17840a975e1e5957b851fbff103eb92746"), looks := false }, kinds := [], alts := [], laidByText := true, laidKinds := [.data, .data], laidTests := true, laidLooks := .later }
def SumAgainCardSaid : Prop := Claim7.holds Tryd.pinned (.plain (OpenSpec.ofChange sumAgainSpec)) sumAgainCard

/-- THE TIED CARD OF 'shuntlaw2.SumJoin'. -/
def sumJoinCard : Claim7 := { stood := { row := sumJoinRow, standIns := [], harness := (true, "fd8e1ac68d3b01c768e2f8e44c531b17840a975e1e5957b851fbff103eb92746"), looks := false }, kinds := [], alts := [], laidByText := true, laidKinds := [.data, .data], laidTests := true, laidLooks := .later }
def SumJoinCardSaid : Prop := Claim7.holds Tryd.pinned (.plain (OpenSpec.ofChange sumJoinSpec)) sumJoinCard

/-- THE SECOND FORM's CARD OF 'shuntlaw2.SumCRC'. -/
def sumCRCUptoCard : Claim7 := { stood := { row := sumCRCUptoRow, standIns := [], harness := (true, "fd8e1ac68d3b01c768e2f8e44c531b17840a975e1e5957b851fbff103eb92746"), looks := false }, kinds := [], alts := [], laidByText := true, laidKinds := [.data, .data], laidTests := true, laidLooks := .later }
def SumCRCUptoCardSaid : Prop := Claim7.holds Tryd.pinned (.plain (OpenSpec.upto sumCRCSpec)) sumCRCUptoCard

/-- THE SECOND FORM's CARD OF 'shuntlaw2.SumSHA'. -/
def sumSHAUptoCard : Claim7 := { stood := { row := sumSHAUptoRow, standIns := [], harness := (true, "fd8e1ac68d3b01c768e2f8e44c531b17840a975e1e5957b851fbff103eb92746"), looks := false }, kinds := [], alts := [], laidByText := true, laidKinds := [.data, .data], laidTests := true, laidLooks := .later }
def SumSHAUptoCardSaid : Prop := Claim7.holds Tryd.pinned (.plain (OpenSpec.upto sumSHASpec)) sumSHAUptoCard

/-- THE SECOND FORM's CARD OF 'shuntlaw2.SumParts'. -/
def sumPartsUptoCard : Claim7 := { stood := { row := sumPartsUptoRow, standIns := [], harness := (true, "fd8e1ac68d3b01c768e2f8e44c531b17840a975e1e5957b851fbff103eb92746"), looks := false }, kinds := [], alts := [], laidByText := true, laidKinds := [.data, .data], laidTests := true, laidLooks := .later }
def SumPartsUptoCardSaid : Prop := Claim7.holds Tryd.pinned (.plain (OpenSpec.upto sumPartsSpec)) sumPartsUptoCard

/-- THE SECOND FORM's CARD OF 'shuntlaw2.SumSplit'. -/
def sumSplitUptoCard : Claim7 := { stood := { row := sumSplitUptoRow, standIns := [], harness := (true, "fd8e1ac68d3b01c768e2f8e44c531b17840a975e1e5957b851fbff103eb92746"), looks := false }, kinds := [], alts := [], laidByText := true, laidKinds := [.data, .data], laidTests := true, laidLooks := .later }
def SumSplitUptoCardSaid : Prop := Claim7.holds Tryd.pinned (.plain (OpenSpec.upto sumSplitSpec)) sumSplitUptoCard

/-- THE SECOND FORM's CARD OF 'shuntlaw2.SumTurned'. -/
def sumTurnedUptoCard : Claim7 := { stood := { row := sumTurnedUptoRow, standIns := [], harness := (true, "fd8e1ac68d3b01c768e2f8e44c531b17840a975e1e5957b851fbff103eb92746"), looks := false }, kinds := [], alts := [], laidByText := true, laidKinds := [.data, .data], laidTests := true, laidLooks := .later }
def SumTurnedUptoCardSaid : Prop := Claim7.holds Tryd.pinned (.plain (OpenSpec.upto sumTurnedSpec)) sumTurnedUptoCard

/-- THE SECOND FORM's CARD OF 'shuntlaw2.SumLength'. -/
def sumLengthUptoCard : Claim7 := { stood := { row := sumLengthUptoRow, standIns := [], harness := (true, "fd8e1ac68d3b01c768e2f8e44c531b17840a975e1e5957b851fbff103eb92746"), looks := false }, kinds := [], alts := [], laidByText := true, laidKinds := [.data, .data], laidTests := true, laidLooks := .later }
def SumLengthUptoCardSaid : Prop := Claim7.holds Tryd.pinned (.plain (OpenSpec.upto sumLengthSpec)) sumLengthUptoCard

/-- THE SECOND FORM's CARD OF 'shuntlaw2.SumAgain'. -/
def sumAgainUptoCard : Claim7 := { stood := { row := sumAgainUptoRow, standIns := [], harness := (true, "fd8e1ac68d3b01c768e2f8e44c531b17840a975e1e5957b851fbff103eb92746"), looks := false }, kinds := [], alts := [], laidByText := true, laidKinds := [.data, .data], laidTests := true, laidLooks := .later }
def SumAgainUptoCardSaid : Prop := Claim7.holds Tryd.pinned (.plain (OpenSpec.upto sumAgainSpec)) sumAgainUptoCard

/-- THE SECOND FORM's CARD OF 'shuntlaw2.SumJoin'. -/
def sumJoinUptoCard : Claim7 := { stood := { row := sumJoinUptoRow, standIns := [], harness := (true, "fd8e1ac68d3b01c768e2f8e44c531b17840a975e1e5957b851fbff103eb92746"), looks := false }, kinds := [], alts := [], laidByText := true, laidKinds := [.data, .data], laidTests := true, laidLooks := .later }
def SumJoinUptoCardSaid : Prop := Claim7.holds Tryd.pinned (.plain (OpenSpec.upto sumJoinSpec)) sumJoinUptoCard
end Rows
end Go.Proofs.YtekccgdlohofkaaDoor
