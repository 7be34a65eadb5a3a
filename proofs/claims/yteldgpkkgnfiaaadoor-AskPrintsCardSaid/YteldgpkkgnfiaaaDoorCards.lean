/-
  DERIVED. GIVEN WITH THE SEED: THE CARDS: each row of YteldgpkkgnfiaaaDoorRows.lean that lists a variable, with what it lists TIED to the program's text (the seventh form; the later family's looks); each row that meets fmt, with fmt's text TOLD by the authors' own Lean function (tested against real Go, not proved from fmt's source: count such statements apart). THE CARD IS WHAT COUNTS. Prove the row's statement (the work); the ties are given (YteldgpkkgnfiaaaDoorTie.lean); close each card by the builder's one call (the guide's Derived/Test/ToyasCard.lean, 'card_holds'). Laid BY PROGRAM, IN A SANDBOX (cutbox-door.mjs). By AI agents, Wed Nov 11 2026. No macro, syntax, notation, axiom, sorry.
-/
import Derived.Test.YteldgpkkgnfiaaaDoorRows
import GoSem.ClaimSeven
namespace Go.Proofs.YteldgpkkgnfiaaaDoor
namespace Rows

/-- THE TIED CARD OF 'gatepostlaw.AskPrints'. -/
def askPrintsCard : Claim7 := { stood := { row := askPrintsRow, standIns := [], harness := (true, "6f4bbac753218870f3db0edfddee369483c32ef6e6ffbd88e0323c2838255032"), looks := true }, kinds := [], alts := [], laidByText := true, laidKinds := [.handle], laidTests := true, laidLooks := .later }
def AskPrintsCardSaid : Prop := Claim7.holds Tryd.pinned (.plain (OpenSpec.ofChange askPrintsSpec)) askPrintsCard

/-- THE SECOND FORM's CARD OF 'gatepostlaw.AskPrints'. -/
def askPrintsUptoCard : Claim7 := { stood := { row := askPrintsUptoRow, standIns := [], harness := (true, "6f4bbac753218870f3db0edfddee369483c32ef6e6ffbd88e0323c2838255032"), looks := true }, kinds := [], alts := [], laidByText := true, laidKinds := [.handle], laidTests := true, laidLooks := .later }
def AskPrintsUptoCardSaid : Prop := Claim7.holds Tryd.pinned (.plain (OpenSpec.upto askPrintsSpec)) askPrintsUptoCard
end Rows
end Go.Proofs.YteldgpkkgnfiaaaDoor
