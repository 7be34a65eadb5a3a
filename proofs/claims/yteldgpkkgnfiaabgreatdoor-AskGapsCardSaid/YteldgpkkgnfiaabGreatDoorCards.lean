/-
  DERIVED. GIVEN WITH THE SEED: THE CARDS: each row of YteldgpkkgnfiaabGreatDoorRows.lean that lists a variable, with what it lists TIED to the program's text (the seventh form; the later family's looks); each row that meets fmt, with fmt's text TOLD by the authors' own Lean function (tested against real Go, not proved from fmt's source: count such statements apart). THE CARD IS WHAT COUNTS. Prove the row's statement (the work); the ties are given (YteldgpkkgnfiaabGreatDoorTie.lean); close each card by the builder's one call (the guide's Derived/Test/ToyasCard.lean, 'card_holds'). Laid BY PROGRAM, IN A SANDBOX (cutbox-door.mjs). By AI agents, Wed Nov 11 2026. No macro, syntax, notation, axiom, sorry.
-/
import Derived.Test.YteldgpkkgnfiaabGreatDoorRows
import GoSem.ClaimSeven
namespace Go.Proofs.YteldgpkkgnfiaabGreatDoor
namespace Rows

/-- THE TIED CARD OF 'gatepostkeep.AskGaps'. -/
def askGapsCard : Claim7 := { stood := { row := askGapsRow, standIns := [], harness := (true, "6958a6840af02c71ef47cd0e40a3984df62af2d94cf73c00096e76427e5828f5"), looks := true }, kinds := [], alts := [], laidByText := true, laidKinds := [.data, .handle, .pinned], laidTests := true, laidLooks := .later }
def AskGapsCardSaid : Prop := Claim7.holds Tryz.pinned (.plain (OpenSpec.ofChange askGapsSpec)) askGapsCard

/-- THE TIED CARD OF 'gatepostkeep.AskCase'. -/
def askCaseCard : Claim7 := { stood := { row := askCaseRow, standIns := [], harness := (true, "6958a6840af02c71ef47cd0e40a3984df62af2d94cf73c00096e76427e5828f5"), looks := true }, kinds := [], alts := [], laidByText := true, laidKinds := [.data, .pinned], laidTests := true, laidLooks := .later }
def AskCaseCardSaid : Prop := Claim7.holds Tryz.pinned (.plain (OpenSpec.ofChange askCaseSpec)) askCaseCard

/-- THE SECOND FORM's CARD OF 'gatepostkeep.AskGaps'. -/
def askGapsUptoCard : Claim7 := { stood := { row := askGapsUptoRow, standIns := [], harness := (true, "6958a6840af02c71ef47cd0e40a3984df62af2d94cf73c00096e76427e5828f5"), looks := true }, kinds := [], alts := [], laidByText := true, laidKinds := [.data, .handle, .pinned], laidTests := true, laidLooks := .later }
def AskGapsUptoCardSaid : Prop := Claim7.holds Tryz.pinned (.plain (OpenSpec.upto askGapsSpec)) askGapsUptoCard

/-- THE SECOND FORM's CARD OF 'gatepostkeep.AskCase'. -/
def askCaseUptoCard : Claim7 := { stood := { row := askCaseUptoRow, standIns := [], harness := (true, "6958a6840af02c71ef47cd0e40a3984df62af2d94cf73c00096e76427e5828f5"), looks := true }, kinds := [], alts := [], laidByText := true, laidKinds := [.data, .pinned], laidTests := true, laidLooks := .later }
def AskCaseUptoCardSaid : Prop := Claim7.holds Tryz.pinned (.plain (OpenSpec.upto askCaseSpec)) askCaseUptoCard
end Rows
end Go.Proofs.YteldgpkkgnfiaabGreatDoor
