/-
  DERIVED. GIVEN WITH THE SEED: THE CARDS: each row of YthhbfnfgbonakaaFmtRows.lean that lists a variable, with what it lists TIED to the program's text (the seventh form; the later family's looks); each row that meets fmt, with fmt's text TOLD by the authors' own Lean function (tested against real Go, not proved from fmt's source: count such statements apart). THE CARD IS WHAT COUNTS. Prove the row's statement (the work); the ties are given (YthhbfnfgbonakaaFmtTie.lean); close each card by the builder's one call (the guide's Derived/Test/ToyasCard.lean, 'card_holds'). Laid BY PROGRAM, IN A SANDBOX (cutbox-door.mjs). By AI agents, Wed Nov 11 2026. No macro, syntax, notation, axiom, sorry.
-/
import Derived.Test.YthhbfnfgbonakaaFmtRows
import GoSem.ClaimSeven
namespace Go.Proofs.YthhbfnfgbonakaaFmt
namespace Rows

/-- THE TOLD AND TIED CARD OF 'gatepostlaw.ProofBasics'. -/
def proofBasicsCard : Claim7 := { stood := { row := proofBasicsRow, standIns := [], harness := (true, "8779a1be39455acbab7a367837fa0887577157d25db9a1f4410babcf67b2aadf"), looks := true }, told := true, laidByText := true, laidKinds := [.data, .data, .data, .handle, .sentinel, .sentinel], laidTests := true, laidLooks := .later, goes := false }
def ProofBasicsToldSaid : Prop := Claim7.holds Tryf.pinned (.plain (OpenSpec.ofChange proofBasicsSpec)) proofBasicsCard
/-- ITS FALSE NEIGHBOUR. Refute it at one input. -/
def ProofBasicsToldWrongFalsely : Prop := Claim7.holds Tryf.pinned (.plain (OpenSpec.ofChange proofBasicsWrong)) proofBasicsCard

/-- THE TOLD AND TIED CARD OF 'gatepostlaw.ProofResponses'. -/
def proofResponsesCard : Claim7 := { stood := { row := proofResponsesRow, standIns := [], harness := (true, "8779a1be39455acbab7a367837fa0887577157d25db9a1f4410babcf67b2aadf"), looks := true }, told := true, laidByText := true, laidKinds := [.data, .data, .data, .data, .data, .data, .data], laidTests := true, laidLooks := .later, goes := false }
def ProofResponsesToldSaid : Prop := Claim7.holds Tryf.pinned (.plain (OpenSpec.ofChange proofResponsesSpec)) proofResponsesCard
/-- ITS FALSE NEIGHBOUR. Refute it at one input. -/
def ProofResponsesToldWrongFalsely : Prop := Claim7.holds Tryf.pinned (.plain (OpenSpec.ofChange proofResponsesWrong)) proofResponsesCard
end Rows
end Go.Proofs.YthhbfnfgbonakaaFmt
