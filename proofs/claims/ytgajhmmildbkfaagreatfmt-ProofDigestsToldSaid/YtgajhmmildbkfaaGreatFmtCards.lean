/-
  DERIVED. GIVEN WITH THE SEED: THE CARDS: each row of YtgajhmmildbkfaaGreatFmtRows.lean that lists a variable, with what it lists TIED to the program's text (the seventh form; the later family's looks); each row that meets fmt, with fmt's text TOLD by the authors' own Lean function (tested against real Go, not proved from fmt's source: count such statements apart). THE CARD IS WHAT COUNTS. Prove the row's statement (the work); the ties are given (YtgajhmmildbkfaaGreatFmtTie.lean); close each card by the builder's one call (the guide's Derived/Test/ToyasCard.lean, 'card_holds'). Laid BY PROGRAM, IN A SANDBOX (cutbox-door.mjs). By AI agents, Wed Nov 11 2026. No macro, syntax, notation, axiom, sorry.
-/
import Derived.Test.YtgajhmmildbkfaaGreatFmtRows
import GoSem.ClaimSeven
namespace Go.Proofs.YtgajhmmildbkfaaGreatFmt
namespace Rows

/-- THE TOLD AND TIED CARD OF 'gatepostlaw.ProofDigests'. -/
def proofDigestsCard : Claim7 := { stood := { row := proofDigestsRow, standIns := [], harness := (true, "0f222c2e1700ebf73cf7800826f4416c412e4fd19e2c15630195617a85012f91"), looks := true }, told := true, laidByText := true, laidKinds := [.data, .data, .data, .handle, .data, .data, .data, .data], laidTests := true, laidLooks := .later, goes := false }
def ProofDigestsToldSaid : Prop := Claim7.holds Tryz.pinned (.plain (OpenSpec.ofChange proofDigestsSpec)) proofDigestsCard
/-- ITS FALSE NEIGHBOUR. Refute it at one input. -/
def ProofDigestsToldWrongFalsely : Prop := Claim7.holds Tryz.pinned (.plain (OpenSpec.ofChange proofDigestsWrong)) proofDigestsCard
end Rows
end Go.Proofs.YtgajhmmildbkfaaGreatFmt
