/-
  DERIVED. GIVEN WITH THE SEED: THE CARDS: each row of YtoblpjknnchlmaaFmtRows.lean that lists a variable, with what it lists TIED to the program's text (the seventh form; the later family's looks); each row that meets fmt, with fmt's text TOLD by the authors' own Lean function (tested against real Go, not proved from fmt's source: count such statements apart). THE CARD IS WHAT COUNTS. Prove the row's statement (the work); the ties are given (YtoblpjknnchlmaaFmtTie.lean); close each card by the builder's one call (the guide's Derived/Test/ToyasCard.lean, 'card_holds'). Laid BY PROGRAM, IN A SANDBOX (cutbox-door.mjs). By AI agents, Wed Nov 11 2026. No macro, syntax, notation, axiom, sorry.
-/
import Derived.Test.YtoblpjknnchlmaaFmtRows
import GoSem.ClaimSeven
namespace Go.Proofs.YtoblpjknnchlmaaFmt
namespace Rows

/-- THE TOLD AND TIED CARD OF 'gatepostlaw.CorsMays'. -/
def corsMaysCard : Claim7 := { stood := { row := corsMaysRow, standIns := [], harness := (true, "e006d8b25119bc1974a6c40cea7e907a7b7ed7596ff4b2a96141a8251bf02cb4"), looks := false }, told := true, laidByText := true, laidKinds := [.data, .data, .data, .data], laidTests := true, laidLooks := .later, goes := false }
def CorsMaysToldSaid : Prop := Claim7.holds Tryf.pinned (.plain (OpenSpec.ofChange corsMaysSpec)) corsMaysCard
/-- ITS FALSE NEIGHBOUR. Refute it at one input. -/
def CorsMaysToldWrongFalsely : Prop := Claim7.holds Tryf.pinned (.plain (OpenSpec.ofChange corsMaysWrong)) corsMaysCard
end Rows
end Go.Proofs.YtoblpjknnchlmaaFmt
