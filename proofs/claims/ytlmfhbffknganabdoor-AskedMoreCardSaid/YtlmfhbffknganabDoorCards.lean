/-
  DERIVED. GIVEN WITH THE SEED: THE CARDS: each row of YtlmfhbffknganabDoorRows.lean that lists a variable, with what it lists TIED to the program's text (the seventh form; the later family's looks); each row that meets fmt, with fmt's text TOLD by the authors' own Lean function (tested against real Go, not proved from fmt's source: count such statements apart). THE CARD IS WHAT COUNTS. Prove the row's statement (the work); the ties are given (YtlmfhbffknganabDoorTie.lean); close each card by the builder's one call (the guide's Derived/Test/ToyasCard.lean, 'card_holds'). Laid BY PROGRAM, IN A SANDBOX (cutbox-door.mjs). By AI agents, Wed Nov 11 2026. No macro, syntax, notation, axiom, sorry.
-/
import Derived.Test.YtlmfhbffknganabDoorRows
import GoSem.ClaimSeven
namespace Go.Proofs.YtlmfhbffknganabDoor
namespace Rows

/-- THE TIED CARD OF 'gatepostkeep.AskedMore'. -/
def askedMoreCard : Claim7 := { stood := { row := askedMoreRow, standIns := [], harness := (true, "2159659fb22070f232e8c9ba5867baf8e1ce987448084a19afc8c1839bd1f016"), looks := false }, kinds := [], alts := [], laidByText := true, laidKinds := [.data, .data, .pinned], laidTests := true, laidLooks := .later }
def AskedMoreCardSaid : Prop := Claim7.holds Tryd.pinned (.plain (OpenSpec.ofChange askedMoreSpec)) askedMoreCard

/-- THE SECOND FORM's CARD OF 'gatepostkeep.AskedMore'. -/
def askedMoreUptoCard : Claim7 := { stood := { row := askedMoreUptoRow, standIns := [], harness := (true, "2159659fb22070f232e8c9ba5867baf8e1ce987448084a19afc8c1839bd1f016"), looks := false }, kinds := [], alts := [], laidByText := true, laidKinds := [.data, .data, .pinned], laidTests := true, laidLooks := .later }
def AskedMoreUptoCardSaid : Prop := Claim7.holds Tryd.pinned (.plain (OpenSpec.upto askedMoreSpec)) askedMoreUptoCard
end Rows
end Go.Proofs.YtlmfhbffknganabDoor
