/-
  DERIVED. GIVEN WITH THE SEED: THE CARDS: each row of YtbhnaekkjpcafabDoorRows.lean that lists a variable, with what it lists TIED to the program's text (the seventh form; the later family's looks); each row that meets fmt, with fmt's text TOLD by the authors' own Lean function (tested against real Go, not proved from fmt's source: count such statements apart). THE CARD IS WHAT COUNTS. Prove the row's statement (the work); the ties are given (YtbhnaekkjpcafabDoorTie.lean); close each card by the builder's one call (the guide's Derived/Test/ToyasCard.lean, 'card_holds'). Laid BY PROGRAM, IN A SANDBOX (cutbox-door.mjs). By AI agents, Wed Nov 11 2026. No macro, syntax, notation, axiom, sorry.
-/
import Derived.Test.YtbhnaekkjpcafabDoorRows
import GoSem.ClaimSeven
namespace Go.Proofs.YtbhnaekkjpcafabDoor
namespace Rows

/-- THE TIED CARD OF 'gatepostkeep.AskedMore'. -/
def askedMoreCard : Claim7 := { stood := { row := askedMoreRow, standIns := [], harness := (true, "bd955005dfc35a6aa0716d40aa6da6e2b7205faf4fe2be3c3c9cc8fca7448227"), looks := false }, kinds := [], alts := [], laidByText := true, laidKinds := [.data, .data, .pinned], laidTests := true, laidLooks := .later }
def AskedMoreCardSaid : Prop := Claim7.holds Tryd.pinned (.plain (OpenSpec.ofChange askedMoreSpec)) askedMoreCard

/-- THE TIED CARD OF 'gatepostkeep.PlainCase'. -/
def plainCaseCard : Claim7 := { stood := { row := plainCaseRow, standIns := [], harness := (true, "bd955005dfc35a6aa0716d40aa6da6e2b7205faf4fe2be3c3c9cc8fca7448227"), looks := false }, kinds := [], alts := [], laidByText := true, laidKinds := [.data, .data, .pinned], laidTests := true, laidLooks := .later }
def PlainCaseCardSaid : Prop := Claim7.holds Tryd.pinned (.plain (OpenSpec.ofChange plainCaseSpec)) plainCaseCard

/-- THE SECOND FORM's CARD OF 'gatepostkeep.AskedMore'. -/
def askedMoreUptoCard : Claim7 := { stood := { row := askedMoreUptoRow, standIns := [], harness := (true, "bd955005dfc35a6aa0716d40aa6da6e2b7205faf4fe2be3c3c9cc8fca7448227"), looks := false }, kinds := [], alts := [], laidByText := true, laidKinds := [.data, .data, .pinned], laidTests := true, laidLooks := .later }
def AskedMoreUptoCardSaid : Prop := Claim7.holds Tryd.pinned (.plain (OpenSpec.upto askedMoreSpec)) askedMoreUptoCard

/-- THE SECOND FORM's CARD OF 'gatepostkeep.PlainCase'. -/
def plainCaseUptoCard : Claim7 := { stood := { row := plainCaseUptoRow, standIns := [], harness := (true, "bd955005dfc35a6aa0716d40aa6da6e2b7205faf4fe2be3c3c9cc8fca7448227"), looks := false }, kinds := [], alts := [], laidByText := true, laidKinds := [.data, .data, .pinned], laidTests := true, laidLooks := .later }
def PlainCaseUptoCardSaid : Prop := Claim7.holds Tryd.pinned (.plain (OpenSpec.upto plainCaseSpec)) plainCaseUptoCard
end Rows
end Go.Proofs.YtbhnaekkjpcafabDoor
