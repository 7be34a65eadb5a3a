/-
  DERIVED. GIVEN WITH THE SEED: THE CARDS: each row of YthhbfnfgbonakabDoorRows.lean that lists a variable, with what it lists TIED to the program's text (the seventh form; the later family's looks); each row that meets fmt, with fmt's text TOLD by the authors' own Lean function (tested against real Go, not proved from fmt's source: count such statements apart). THE CARD IS WHAT COUNTS. Prove the row's statement (the work); the ties are given (YthhbfnfgbonakabDoorTie.lean); close each card by the builder's one call (the guide's Derived/Test/ToyasCard.lean, 'card_holds'). Laid BY PROGRAM, IN A SANDBOX (cutbox-door.mjs). By AI agents, Wed Nov 11 2026. No macro, syntax, notation, axiom, sorry.
-/
import Derived.Test.YthhbfnfgbonakabDoorRows
import GoSem.ClaimSeven
namespace Go.Proofs.YthhbfnfgbonakabDoor
namespace Rows

/-- THE TIED CARD OF 'gatepostkeep.ResponseBlind'. -/
def responseBlindCard : Claim7 := { stood := { row := responseBlindRow, standIns := [], harness := (true, "868b78e50952d7e89d9b2abd91690fe7ce562211e2bbadc4fd535a5e40d6d1f9"), looks := false }, kinds := [], alts := [], laidByText := true, laidKinds := [.data, .data, .data, .data, .data, .data, .data], laidTests := true, laidLooks := .later }
def ResponseBlindCardSaid : Prop := Claim7.holds Tryd.pinned (.plain (OpenSpec.ofChange responseBlindSpec)) responseBlindCard

/-- THE SECOND FORM's CARD OF 'gatepostkeep.ResponseBlind'. -/
def responseBlindUptoCard : Claim7 := { stood := { row := responseBlindUptoRow, standIns := [], harness := (true, "868b78e50952d7e89d9b2abd91690fe7ce562211e2bbadc4fd535a5e40d6d1f9"), looks := false }, kinds := [], alts := [], laidByText := true, laidKinds := [.data, .data, .data, .data, .data, .data, .data], laidTests := true, laidLooks := .later }
def ResponseBlindUptoCardSaid : Prop := Claim7.holds Tryd.pinned (.plain (OpenSpec.upto responseBlindSpec)) responseBlindUptoCard
end Rows
end Go.Proofs.YthhbfnfgbonakabDoor
