/-
  DERIVED. GIVEN WITH THE SEED: THE CARDS: each row of YtmplegnhpanijaaDoorRows.lean that lists a variable, with what it lists TIED to the program's text (the seventh form; the later family's looks); each row that meets fmt, with fmt's text TOLD by the authors' own Lean function (tested against real Go, not proved from fmt's source: count such statements apart). THE CARD IS WHAT COUNTS. Prove the row's statement (the work); the ties are given (YtmplegnhpanijaaDoorTie.lean); close each card by the builder's one call (the guide's Derived/Test/ToyasCard.lean, 'card_holds'). Laid BY PROGRAM, IN A SANDBOX (cutbox-door.mjs). By AI agents, Wed Nov 11 2026. No macro, syntax, notation, axiom, sorry.
-/
import Derived.Test.YtmplegnhpanijaaDoorRows
import GoSem.ClaimSeven
namespace Go.Proofs.YtmplegnhpanijaaDoor
namespace Rows

/-- THE TIED CARD OF 'gatepostkeep.SumShape'. -/
def sumShapeCard : Claim7 := { stood := { row := sumShapeRow, standIns := [], harness := (true, "2675183da3e9b99c04ae99876264c72075d19ade5aa5b4301d434f1b2f080890"), looks := false }, kinds := [], alts := [], laidByText := true, laidKinds := [.data, .data, .data, .data], laidTests := true, laidLooks := .later }
def SumShapeCardSaid : Prop := Claim7.holds Tryd.pinned (.plain (OpenSpec.ofChange sumShapeSpec)) sumShapeCard

/-- THE SECOND FORM's CARD OF 'gatepostkeep.SumShape'. -/
def sumShapeUptoCard : Claim7 := { stood := { row := sumShapeUptoRow, standIns := [], harness := (true, "2675183da3e9b99c04ae99876264c72075d19ade5aa5b4301d434f1b2f080890"), looks := false }, kinds := [], alts := [], laidByText := true, laidKinds := [.data, .data, .data, .data], laidTests := true, laidLooks := .later }
def SumShapeUptoCardSaid : Prop := Claim7.holds Tryd.pinned (.plain (OpenSpec.upto sumShapeSpec)) sumShapeUptoCard
end Rows
end Go.Proofs.YtmplegnhpanijaaDoor
