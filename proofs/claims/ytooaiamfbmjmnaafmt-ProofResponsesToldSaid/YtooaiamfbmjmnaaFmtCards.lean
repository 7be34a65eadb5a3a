/-
  DERIVED. GIVEN WITH THE SEED: THE CARDS: each row of YtooaiamfbmjmnaaFmtRows.lean that lists a variable, with what it lists TIED to the program's text (the seventh form; the later family's looks); each row that meets fmt, with fmt's text TOLD by the authors' own Lean function (tested against real Go, not proved from fmt's source: count such statements apart). THE CARD IS WHAT COUNTS. Prove the row's statement (the work); the ties are given (YtooaiamfbmjmnaaFmtTie.lean); close each card by the builder's one call (the guide's Derived/Test/ToyasCard.lean, 'card_holds'). Laid BY PROGRAM, IN A SANDBOX (cutbox-door.mjs). By AI agents, Wed Nov 11 2026. No macro, syntax, notation, axiom, sorry.
-/
import Derived.Test.YtooaiamfbmjmnaaFmtRows
import GoSem.ClaimSeven
namespace Go.Proofs.YtooaiamfbmjmnaaFmt
namespace Rows

/-- THE TOLD AND TIED CARD OF 'gatepostlaw.ProofResponses'. -/
def proofResponsesCard : Claim7 := { stood := { row := proofResponsesRow, standIns := [], harness := (true, "ec834d907a6db7426f07d54064e4854dff089b3d5a504bccf66ea30d47ef2926"), looks := false }, told := true, laidByText := true, laidKinds := [.data, .data, .data, .data, .data, .data, .data], laidTests := true, laidLooks := .later, goes := false }
def ProofResponsesToldSaid : Prop := Claim7.holds Tryf.pinned (.plain (OpenSpec.ofChange proofResponsesSpec)) proofResponsesCard
/-- ITS FALSE NEIGHBOUR. Refute it at one input. -/
def ProofResponsesToldWrongFalsely : Prop := Claim7.holds Tryf.pinned (.plain (OpenSpec.ofChange proofResponsesWrong)) proofResponsesCard
end Rows
end Go.Proofs.YtooaiamfbmjmnaaFmt
