/-
  DERIVED. GIVEN WITH THE SEED: THE CARDS: each row of YtoblpjknnchlmaaGreatDoorRows.lean that lists a variable, with what it lists TIED to the program's text (the seventh form; the later family's looks); each row that meets fmt, with fmt's text TOLD by the authors' own Lean function (tested against real Go, not proved from fmt's source: count such statements apart). THE CARD IS WHAT COUNTS. Prove the row's statement (the work); the ties are given (YtoblpjknnchlmaaGreatDoorTie.lean); close each card by the builder's one call (the guide's Derived/Test/ToyasCard.lean, 'card_holds'). Laid BY PROGRAM, IN A SANDBOX (cutbox-door.mjs). By AI agents, Wed Nov 11 2026. No macro, syntax, notation, axiom, sorry.
-/
import Derived.Test.YtoblpjknnchlmaaGreatDoorRows
import GoSem.ClaimSeven
namespace Go.Proofs.YtoblpjknnchlmaaGreatDoor
namespace Rows

/-- THE TIED CARD OF 'gatepostlaw.CorsCovers'. -/
def corsCoversCard : Claim7 := { stood := { row := corsCoversRow, standIns := [], harness := (true, "61f214c4aba7d112a9315834fcd8ca1a498e9ec3c37b72d9bfd94fc7d713eb7a"), looks := false }, kinds := [], alts := [], laidByText := true, laidKinds := [.data, .data, .pinned, .pinned], laidTests := true, laidLooks := .later }
def CorsCoversCardSaid : Prop := Claim7.holds Tryz.pinned (.plain (OpenSpec.ofChange corsCoversSpec)) corsCoversCard

/-- THE SECOND FORM's CARD OF 'gatepostlaw.CorsCovers'. -/
def corsCoversUptoCard : Claim7 := { stood := { row := corsCoversUptoRow, standIns := [], harness := (true, "61f214c4aba7d112a9315834fcd8ca1a498e9ec3c37b72d9bfd94fc7d713eb7a"), looks := false }, kinds := [], alts := [], laidByText := true, laidKinds := [.data, .data, .pinned, .pinned], laidTests := true, laidLooks := .later }
def CorsCoversUptoCardSaid : Prop := Claim7.holds Tryz.pinned (.plain (OpenSpec.upto corsCoversSpec)) corsCoversUptoCard
end Rows
end Go.Proofs.YtoblpjknnchlmaaGreatDoor
