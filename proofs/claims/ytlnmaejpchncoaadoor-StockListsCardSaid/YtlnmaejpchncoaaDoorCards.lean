/-
  DERIVED. GIVEN WITH THE SEED: THE CARDS: each row of YtlnmaejpchncoaaDoorRows.lean that lists a variable, with what it lists TIED to the program's text (the seventh form; the later family's looks); each row that meets fmt, with fmt's text TOLD by the authors' own Lean function (tested against real Go, not proved from fmt's source: count such statements apart). THE CARD IS WHAT COUNTS. Prove the row's statement (the work); the ties are given (YtlnmaejpchncoaaDoorTie.lean); close each card by the builder's one call (the guide's Derived/Test/ToyasCard.lean, 'card_holds'). Laid BY PROGRAM, IN A SANDBOX (cutbox-door.mjs). By AI agents, Wed Nov 11 2026. No macro, syntax, notation, axiom, sorry.
-/
import Derived.Test.YtlnmaejpchncoaaDoorRows
import GoSem.ClaimSeven
namespace Go.Proofs.YtlnmaejpchncoaaDoor
namespace Rows

/-- THE TIED CARD OF 'shuntlaw10.StockLists'. -/
def stockListsCard : Claim7 := { stood := { row := stockListsRow, standIns := [], harness := (true, "98f9b51edd06ea9e326b5c71a3f4b69b44eb3ee910a2656900345798cac158b6"), looks := false }, kinds := [], alts := [], laidByText := true, laidKinds := [.data], laidTests := true, laidLooks := .later }
def StockListsCardSaid : Prop := Claim7.holds Tryd.pinned (.plain (OpenSpec.ofChange stockListsSpec)) stockListsCard

/-- THE SECOND FORM's CARD OF 'shuntlaw10.StockLists'. -/
def stockListsUptoCard : Claim7 := { stood := { row := stockListsUptoRow, standIns := [], harness := (true, "98f9b51edd06ea9e326b5c71a3f4b69b44eb3ee910a2656900345798cac158b6"), looks := false }, kinds := [], alts := [], laidByText := true, laidKinds := [.data], laidTests := true, laidLooks := .later }
def StockListsUptoCardSaid : Prop := Claim7.holds Tryd.pinned (.plain (OpenSpec.upto stockListsSpec)) stockListsUptoCard
end Rows
end Go.Proofs.YtlnmaejpchncoaaDoor
