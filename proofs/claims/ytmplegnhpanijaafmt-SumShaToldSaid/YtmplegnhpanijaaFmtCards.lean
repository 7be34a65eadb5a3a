/-
  DERIVED. GIVEN WITH THE SEED: THE CARDS: each row of YtmplegnhpanijaaFmtRows.lean that lists a variable, with what it lists TIED to the program's text (the seventh form; the later family's looks); each row that meets fmt, with fmt's text TOLD by the authors' own Lean function (tested against real Go, not proved from fmt's source: count such statements apart). THE CARD IS WHAT COUNTS. Prove the row's statement (the work); the ties are given (YtmplegnhpanijaaFmtTie.lean); close each card by the builder's one call (the guide's Derived/Test/ToyasCard.lean, 'card_holds'). Laid BY PROGRAM, IN A SANDBOX (cutbox-door.mjs). By AI agents, Wed Nov 11 2026. No macro, syntax, notation, axiom, sorry.
-/
import Derived.Test.YtmplegnhpanijaaFmtRows
import GoSem.ClaimSeven
namespace Go.Proofs.YtmplegnhpanijaaFmt
namespace Rows

/-- THE TOLD AND TIED CARD OF 'gatepostlaw.SumMd5'. -/
def sumMd5Card : Claim7 := { stood := { row := sumMd5Row, standIns := [], harness := (true, "7448047b2e8de82becc476026a8d781b936f1d86c4047614da2e42747083eaa5"), looks := false }, told := true, laidByText := true, laidKinds := [.data, .data], laidTests := true, laidLooks := .later, goes := false }
def SumMd5ToldSaid : Prop := Claim7.holds Tryf.pinned (.plain (OpenSpec.ofChange sumMd5Spec)) sumMd5Card
/-- ITS FALSE NEIGHBOUR. Refute it at one input. -/
def SumMd5ToldWrongFalsely : Prop := Claim7.holds Tryf.pinned (.plain (OpenSpec.ofChange sumMd5Wrong)) sumMd5Card

/-- THE TOLD AND TIED CARD OF 'gatepostlaw.SumSha'. -/
def sumShaCard : Claim7 := { stood := { row := sumShaRow, standIns := [], harness := (true, "7448047b2e8de82becc476026a8d781b936f1d86c4047614da2e42747083eaa5"), looks := false }, told := true, laidByText := true, laidKinds := [.data, .data], laidTests := true, laidLooks := .later, goes := false }
def SumShaToldSaid : Prop := Claim7.holds Tryf.pinned (.plain (OpenSpec.ofChange sumShaSpec)) sumShaCard
/-- ITS FALSE NEIGHBOUR. Refute it at one input. -/
def SumShaToldWrongFalsely : Prop := Claim7.holds Tryf.pinned (.plain (OpenSpec.ofChange sumShaWrong)) sumShaCard
end Rows
end Go.Proofs.YtmplegnhpanijaaFmt
