/-
  DERIVED. GIVEN WITH THE SEED: THE CARDS: each row of YtoblpjknnchlmacGreatDoorRows.lean that lists a variable, with what it lists TIED to the program's text (the seventh form; the later family's looks); each row that meets fmt, with fmt's text TOLD by the authors' own Lean function (tested against real Go, not proved from fmt's source: count such statements apart). THE CARD IS WHAT COUNTS. Prove the row's statement (the work); the ties are given (YtoblpjknnchlmacGreatDoorTie.lean); close each card by the builder's one call (the guide's Derived/Test/ToyasCard.lean, 'card_holds'). Laid BY PROGRAM, IN A SANDBOX (cutbox-door.mjs). By AI agents, Wed Nov 11 2026. No macro, syntax, notation, axiom, sorry.
-/
import Derived.Test.YtoblpjknnchlmacGreatDoorRows
import GoSem.ClaimSeven
namespace Go.Proofs.YtoblpjknnchlmacGreatDoor
namespace Rows

/-- THE TIED CARD OF 'gatepostkeep.NeedsOwn'. -/
def needsOwnCard : Claim7 := { stood := { row := needsOwnRow, standIns := [], harness := (true, "a46896a8bc38b58e2c749a02a2b3253e1bd261b33f5747a9a145f5b001a47630"), looks := false }, kinds := [], alts := [], laidByText := true, laidKinds := [.data, .data, .data, .data, .data, .data, .pinned], laidTests := true, laidLooks := .later }
def NeedsOwnCardSaid : Prop := Claim7.holds Tryz.pinned (.plain (OpenSpec.ofChange needsOwnSpec)) needsOwnCard

/-- THE SECOND FORM's CARD OF 'gatepostkeep.NeedsOwn'. -/
def needsOwnUptoCard : Claim7 := { stood := { row := needsOwnUptoRow, standIns := [], harness := (true, "a46896a8bc38b58e2c749a02a2b3253e1bd261b33f5747a9a145f5b001a47630"), looks := false }, kinds := [], alts := [], laidByText := true, laidKinds := [.data, .data, .data, .data, .data, .data, .pinned], laidTests := true, laidLooks := .later }
def NeedsOwnUptoCardSaid : Prop := Claim7.holds Tryz.pinned (.plain (OpenSpec.upto needsOwnSpec)) needsOwnUptoCard
end Rows
end Go.Proofs.YtoblpjknnchlmacGreatDoor
