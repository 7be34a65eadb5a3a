/-
  DERIVED. GIVEN WITH THE SEED: THE CARDS: each row of YthoblggjhdnlpaaGreatDoorRows.lean that lists a variable, with what it lists TIED to the program's text (the seventh form; the later family's looks); each row that meets fmt, with fmt's text TOLD by the authors' own Lean function (tested against real Go, not proved from fmt's source: count such statements apart). THE CARD IS WHAT COUNTS. Prove the row's statement (the work); the ties are given (YthoblggjhdnlpaaGreatDoorTie.lean); close each card by the builder's one call (the guide's Derived/Test/ToyasCard.lean, 'card_holds'). Laid BY PROGRAM, IN A SANDBOX (cutbox-door.mjs). By AI agents, Wed Nov 11 2026. No macro, syntax, notation, axiom, sorry.
-/
import Derived.Test.YthoblggjhdnlpaaGreatDoorRows
import GoSem.ClaimSeven
namespace Go.Proofs.YthoblggjhdnlpaaGreatDoor
namespace Rows

/-- THE TIED CARD OF 'gatepostkeep.GrantCovers'. -/
def grantCoversCard : Claim7 := { stood := { row := grantCoversRow, standIns := [], harness := (true, "8d5199a1463aec7f81c16a968d40050a16941b1dcfc137fa916f4441dfb9dd85"), looks := false }, kinds := [], alts := [], laidByText := true, laidKinds := [.data, .data, .data, .data, .data, .data, .pinned], laidTests := true, laidLooks := .later }
def GrantCoversCardSaid : Prop := Claim7.holds Tryz.pinned (.plain (OpenSpec.ofChange grantCoversSpec)) grantCoversCard

/-- THE SECOND FORM's CARD OF 'gatepostkeep.GrantCovers'. -/
def grantCoversUptoCard : Claim7 := { stood := { row := grantCoversUptoRow, standIns := [], harness := (true, "8d5199a1463aec7f81c16a968d40050a16941b1dcfc137fa916f4441dfb9dd85"), looks := false }, kinds := [], alts := [], laidByText := true, laidKinds := [.data, .data, .data, .data, .data, .data, .pinned], laidTests := true, laidLooks := .later }
def GrantCoversUptoCardSaid : Prop := Claim7.holds Tryz.pinned (.plain (OpenSpec.upto grantCoversSpec)) grantCoversUptoCard
end Rows
end Go.Proofs.YthoblggjhdnlpaaGreatDoor
