/-
  DERIVED. GIVEN WITH THE SEED: THE CARDS: each row of YtlmfhbffknganaaGreatDoorRows.lean that lists a variable, with what it lists TIED to the program's text (the seventh form; the later family's looks); each row that meets fmt, with fmt's text TOLD by the authors' own Lean function (tested against real Go, not proved from fmt's source: count such statements apart). THE CARD IS WHAT COUNTS. Prove the row's statement (the work); the ties are given (YtlmfhbffknganaaGreatDoorTie.lean); close each card by the builder's one call (the guide's Derived/Test/ToyasCard.lean, 'card_holds'). Laid BY PROGRAM, IN A SANDBOX (cutbox-door.mjs). By AI agents, Wed Nov 11 2026. No macro, syntax, notation, axiom, sorry.
-/
import Derived.Test.YtlmfhbffknganaaGreatDoorRows
import GoSem.ClaimSeven
namespace Go.Proofs.YtlmfhbffknganaaGreatDoor
namespace Rows

/-- THE TIED CARD OF 'gatepostkeep.AskBack'. -/
def askBackCard : Claim7 := { stood := { row := askBackRow, standIns := [], harness := (true, "a4b5357dbebd8f9137f2789dc59e7357be006f518be12491b4cab3b7c81e8a67"), looks := true }, kinds := [], alts := [], laidByText := true, laidKinds := [.data, .pinned], laidTests := true, laidLooks := .later }
def AskBackCardSaid : Prop := Claim7.holds Tryz.pinned (.plain (OpenSpec.ofChange askBackSpec)) askBackCard

/-- THE TIED CARD OF 'gatepostkeep.AskGaps'. -/
def askGapsCard : Claim7 := { stood := { row := askGapsRow, standIns := [], harness := (true, "a4b5357dbebd8f9137f2789dc59e7357be006f518be12491b4cab3b7c81e8a67"), looks := true }, kinds := [], alts := [], laidByText := true, laidKinds := [.data, .handle, .pinned], laidTests := true, laidLooks := .later }
def AskGapsCardSaid : Prop := Claim7.holds Tryz.pinned (.plain (OpenSpec.ofChange askGapsSpec)) askGapsCard

/-- THE TIED CARD OF 'gatepostkeep.AskCase'. -/
def askCaseCard : Claim7 := { stood := { row := askCaseRow, standIns := [], harness := (true, "a4b5357dbebd8f9137f2789dc59e7357be006f518be12491b4cab3b7c81e8a67"), looks := true }, kinds := [], alts := [], laidByText := true, laidKinds := [.data, .pinned], laidTests := true, laidLooks := .later }
def AskCaseCardSaid : Prop := Claim7.holds Tryz.pinned (.plain (OpenSpec.ofChange askCaseSpec)) askCaseCard

/-- THE SECOND FORM's CARD OF 'gatepostkeep.AskBack'. -/
def askBackUptoCard : Claim7 := { stood := { row := askBackUptoRow, standIns := [], harness := (true, "a4b5357dbebd8f9137f2789dc59e7357be006f518be12491b4cab3b7c81e8a67"), looks := true }, kinds := [], alts := [], laidByText := true, laidKinds := [.data, .pinned], laidTests := true, laidLooks := .later }
def AskBackUptoCardSaid : Prop := Claim7.holds Tryz.pinned (.plain (OpenSpec.upto askBackSpec)) askBackUptoCard

/-- THE SECOND FORM's CARD OF 'gatepostkeep.AskGaps'. -/
def askGapsUptoCard : Claim7 := { stood := { row := askGapsUptoRow, standIns := [], harness := (true, "a4b5357dbebd8f9137f2789dc59e7357be006f518be12491b4cab3b7c81e8a67"), looks := true }, kinds := [], alts := [], laidByText := true, laidKinds := [.data, .handle, .pinned], laidTests := true, laidLooks := .later }
def AskGapsUptoCardSaid : Prop := Claim7.holds Tryz.pinned (.plain (OpenSpec.upto askGapsSpec)) askGapsUptoCard

/-- THE SECOND FORM's CARD OF 'gatepostkeep.AskCase'. -/
def askCaseUptoCard : Claim7 := { stood := { row := askCaseUptoRow, standIns := [], harness := (true, "a4b5357dbebd8f9137f2789dc59e7357be006f518be12491b4cab3b7c81e8a67"), looks := true }, kinds := [], alts := [], laidByText := true, laidKinds := [.data, .pinned], laidTests := true, laidLooks := .later }
def AskCaseUptoCardSaid : Prop := Claim7.holds Tryz.pinned (.plain (OpenSpec.upto askCaseSpec)) askCaseUptoCard
end Rows
end Go.Proofs.YtlmfhbffknganaaGreatDoor
