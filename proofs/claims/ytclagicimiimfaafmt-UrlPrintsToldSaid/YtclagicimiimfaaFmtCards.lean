/-
  DERIVED. GIVEN WITH THE SEED: THE CARDS: each row of YtclagicimiimfaaFmtRows.lean that lists a variable, with what it lists TIED to the program's text (the seventh form; the later family's looks); each row that meets fmt, with fmt's text TOLD by the authors' own Lean function (tested against real Go, not proved from fmt's source: count such statements apart). THE CARD IS WHAT COUNTS. Prove the row's statement (the work); the ties are given (YtclagicimiimfaaFmtTie.lean); close each card by the builder's one call (the guide's Derived/Test/ToyasCard.lean, 'card_holds'). Laid BY PROGRAM, IN A SANDBOX (cutbox-door.mjs). By AI agents, Wed Nov 11 2026. No macro, syntax, notation, axiom, sorry.
-/
import Derived.Test.YtclagicimiimfaaFmtRows
import GoSem.ClaimSeven
namespace Go.Proofs.YtclagicimiimfaaFmt
namespace Rows

/-- THE TOLD AND TIED CARD OF 'gatepostlaw.UrlTexts'. -/
def urlTextsCard : Claim7 := { stood := { row := urlTextsRow, standIns := [], harness := (true, "3e3102a3dde9d973bd8347648d6f4b99f37b1c4aab79ba749d023141c6ef1b8d"), looks := false }, told := true, laidByText := true, laidKinds := [.data, .data, .data, .data], laidTests := true, laidLooks := .later, goes := false }
def UrlTextsToldSaid : Prop := Claim7.holds Tryf.pinned (.plain (OpenSpec.ofChange urlTextsSpec)) urlTextsCard
/-- ITS FALSE NEIGHBOUR. Refute it at one input. -/
def UrlTextsToldWrongFalsely : Prop := Claim7.holds Tryf.pinned (.plain (OpenSpec.ofChange urlTextsWrong)) urlTextsCard

/-- THE TOLD AND TIED CARD OF 'gatepostlaw.UrlPrints'. -/
def urlPrintsCard : Claim7 := { stood := { row := urlPrintsRow, standIns := [], harness := (true, "3e3102a3dde9d973bd8347648d6f4b99f37b1c4aab79ba749d023141c6ef1b8d"), looks := false }, told := true, laidByText := true, laidKinds := [.data, .data, .data, .data], laidTests := true, laidLooks := .later, goes := false }
def UrlPrintsToldSaid : Prop := Claim7.holds Tryf.pinned (.plain (OpenSpec.ofChange urlPrintsSpec)) urlPrintsCard
/-- ITS FALSE NEIGHBOUR. Refute it at one input. -/
def UrlPrintsToldWrongFalsely : Prop := Claim7.holds Tryf.pinned (.plain (OpenSpec.ofChange urlPrintsWrong)) urlPrintsCard
end Rows
end Go.Proofs.YtclagicimiimfaaFmt
