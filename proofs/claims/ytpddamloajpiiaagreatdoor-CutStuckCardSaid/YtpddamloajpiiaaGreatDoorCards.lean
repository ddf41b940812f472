/-
  DERIVED. GIVEN WITH THE SEED: THE CARDS: each row of YtpddamloajpiiaaGreatDoorRows.lean that lists a variable, with what it lists TIED to the program's text (the seventh form; the later family's looks); each row that meets fmt, with fmt's text TOLD by the authors' own Lean function (tested against real Go, not proved from fmt's source: count such statements apart). THE CARD IS WHAT COUNTS. Prove the row's statement (the work); the ties are given (YtpddamloajpiiaaGreatDoorTie.lean); close each card by the builder's one call (the guide's Derived/Test/ToyasCard.lean, 'card_holds'). Laid BY PROGRAM, IN A SANDBOX (cutbox-door.mjs). By AI agents, Wed Nov 11 2026. No macro, syntax, notation, axiom, sorry.
-/
import Derived.Test.YtpddamloajpiiaaGreatDoorRows
import GoSem.ClaimSeven
namespace Go.Proofs.YtpddamloajpiiaaGreatDoor
namespace Rows

/-- THE TIED CARD OF 'shuntlaw15.CutBreaks'. -/
def cutBreaksCard : Claim7 := { stood := { row := cutBreaksRow, standIns := [], harness := (true, "d4d5e09d8f9c333be577da69abb5abdc07c4c6f244de07175dbc4c133d60e107"), looks := false }, kinds := [], alts := [], laidByText := true, laidKinds := [.data, .data, .data], laidTests := true, laidLooks := .later }
def CutBreaksCardSaid : Prop := Claim7.holds Tryz.pinned (.plain (OpenSpec.ofChange cutBreaksSpec)) cutBreaksCard

/-- THE TIED CARD OF 'shuntlaw15.CutRing'. -/
def cutRingCard : Claim7 := { stood := { row := cutRingRow, standIns := [], harness := (true, "d4d5e09d8f9c333be577da69abb5abdc07c4c6f244de07175dbc4c133d60e107"), looks := false }, kinds := [], alts := [], laidByText := true, laidKinds := [.data, .data, .data], laidTests := true, laidLooks := .later }
def CutRingCardSaid : Prop := Claim7.holds Tryz.pinned (.plain (OpenSpec.ofChange cutRingSpec)) cutRingCard

/-- THE TIED CARD OF 'shuntlaw15.CutStuck'. -/
def cutStuckCard : Claim7 := { stood := { row := cutStuckRow, standIns := [], harness := (true, "d4d5e09d8f9c333be577da69abb5abdc07c4c6f244de07175dbc4c133d60e107"), looks := false }, kinds := [], alts := [], laidByText := true, laidKinds := [.data, .data, .data], laidTests := true, laidLooks := .later }
def CutStuckCardSaid : Prop := Claim7.holds Tryz.pinned (.plain (OpenSpec.ofChange cutStuckSpec)) cutStuckCard

/-- THE SECOND FORM's CARD OF 'shuntlaw15.CutBreaks'. -/
def cutBreaksUptoCard : Claim7 := { stood := { row := cutBreaksUptoRow, standIns := [], harness := (true, "d4d5e09d8f9c333be577da69abb5abdc07c4c6f244de07175dbc4c133d60e107"), looks := false }, kinds := [], alts := [], laidByText := true, laidKinds := [.data, .data, .data], laidTests := true, laidLooks := .later }
def CutBreaksUptoCardSaid : Prop := Claim7.holds Tryz.pinned (.plain (OpenSpec.upto cutBreaksSpec)) cutBreaksUptoCard

/-- THE SECOND FORM's CARD OF 'shuntlaw15.CutRing'. -/
def cutRingUptoCard : Claim7 := { stood := { row := cutRingUptoRow, standIns := [], harness := (true, "d4d5e09d8f9c333be577da69abb5abdc07c4c6f244de07175dbc4c133d60e107"), looks := false }, kinds := [], alts := [], laidByText := true, laidKinds := [.data, .data, .data], laidTests := true, laidLooks := .later }
def CutRingUptoCardSaid : Prop := Claim7.holds Tryz.pinned (.plain (OpenSpec.upto cutRingSpec)) cutRingUptoCard

/-- THE SECOND FORM's CARD OF 'shuntlaw15.CutStuck'. -/
def cutStuckUptoCard : Claim7 := { stood := { row := cutStuckUptoRow, standIns := [], harness := (true, "d4d5e09d8f9c333be577da69abb5abdc07c4c6f244de07175dbc4c133d60e107"), looks := false }, kinds := [], alts := [], laidByText := true, laidKinds := [.data, .data, .data], laidTests := true, laidLooks := .later }
def CutStuckUptoCardSaid : Prop := Claim7.holds Tryz.pinned (.plain (OpenSpec.upto cutStuckSpec)) cutStuckUptoCard
end Rows
end Go.Proofs.YtpddamloajpiiaaGreatDoor
