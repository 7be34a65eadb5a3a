/-
  DERIVED. GIVEN WITH THE SEED: THE CARDS: each row of YtapgbckpiffgnabDoorRows.lean that lists a variable, with what it lists TIED to the program's text (the seventh form; the later family's looks); each row that meets fmt, with fmt's text TOLD by the authors' own Lean function (tested against real Go, not proved from fmt's source: count such statements apart). THE CARD IS WHAT COUNTS. Prove the row's statement (the work); the ties are given (YtapgbckpiffgnabDoorTie.lean); close each card by the builder's one call (the guide's Derived/Test/ToyasCard.lean, 'card_holds'). Laid BY PROGRAM, IN A SANDBOX (cutbox-door.mjs). By AI agents, Wed Nov 11 2026. No macro, syntax, notation, axiom, sorry.
-/
import Derived.Test.YtapgbckpiffgnabDoorRows
import GoSem.ClaimSeven
namespace Go.Proofs.YtapgbckpiffgnabDoor
namespace Rows

/-- THE TIED CARD OF 'gatepostlaw.TokenSeconds'. -/
def tokenSecondsCard : Claim7 := { stood := { row := tokenSecondsRow, standIns := [], harness := (true, "c19ea701f75e923ea47e30a12c2dbf832086d77532d9eed19668fb49526b444a"), looks := true }, kinds := [], alts := [], laidByText := true, laidKinds := [.handle], laidTests := true, laidLooks := .later }
def TokenSecondsCardSaid : Prop := Claim7.holds Tryd.pinned (.plain (OpenSpec.ofChange tokenSecondsSpec)) tokenSecondsCard

/-- THE SECOND FORM's CARD OF 'gatepostlaw.TokenSeconds'. -/
def tokenSecondsUptoCard : Claim7 := { stood := { row := tokenSecondsUptoRow, standIns := [], harness := (true, "c19ea701f75e923ea47e30a12c2dbf832086d77532d9eed19668fb49526b444a"), looks := true }, kinds := [], alts := [], laidByText := true, laidKinds := [.handle], laidTests := true, laidLooks := .later }
def TokenSecondsUptoCardSaid : Prop := Claim7.holds Tryd.pinned (.plain (OpenSpec.upto tokenSecondsSpec)) tokenSecondsUptoCard
end Rows
end Go.Proofs.YtapgbckpiffgnabDoor
