/-
  DERIVED. GIVEN WITH THE SEED: THE CARDS: each row of YtclagicimiimfacDoorRows.lean that lists a variable, with what it lists TIED to the program's text (the seventh form; the later family's looks); each row that meets fmt, with fmt's text TOLD by the authors' own Lean function (tested against real Go, not proved from fmt's source: count such statements apart). THE CARD IS WHAT COUNTS. Prove the row's statement (the work); the ties are given (YtclagicimiimfacDoorTie.lean); close each card by the builder's one call (the guide's Derived/Test/ToyasCard.lean, 'card_holds'). Laid BY PROGRAM, IN A SANDBOX (cutbox-door.mjs). By AI agents, Wed Nov 11 2026. No macro, syntax, notation, axiom, sorry.
-/
import Derived.Test.YtclagicimiimfacDoorRows
import GoSem.ClaimSeven
namespace Go.Proofs.YtclagicimiimfacDoor
namespace Rows

/-- THE TIED CARD OF 'gatepostkeep.DirWithin'. -/
def dirWithinCard : Claim7 := { stood := { row := dirWithinRow, standIns := [], harness := (true, "a0404d410295b6bb41fb55649b1f4e340892a3485a5e32d5d9941ed507506317"), looks := false }, kinds := [], alts := [], laidByText := true, laidKinds := [.data, .data, .data, .data], laidTests := true, laidLooks := .later }
def DirWithinCardSaid : Prop := Claim7.holds Tryd.pinned (.plain (OpenSpec.ofChange dirWithinSpec)) dirWithinCard

/-- THE SECOND FORM's CARD OF 'gatepostkeep.DirWithin'. -/
def dirWithinUptoCard : Claim7 := { stood := { row := dirWithinUptoRow, standIns := [], harness := (true, "a0404d410295b6bb41fb55649b1f4e340892a3485a5e32d5d9941ed507506317"), looks := false }, kinds := [], alts := [], laidByText := true, laidKinds := [.data, .data, .data, .data], laidTests := true, laidLooks := .later }
def DirWithinUptoCardSaid : Prop := Claim7.holds Tryd.pinned (.plain (OpenSpec.upto dirWithinSpec)) dirWithinUptoCard
end Rows
end Go.Proofs.YtclagicimiimfacDoor
