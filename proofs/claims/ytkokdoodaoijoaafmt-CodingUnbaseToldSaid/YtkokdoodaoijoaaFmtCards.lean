/-
  DERIVED. GIVEN WITH THE SEED: THE CARDS: each row of YtkokdoodaoijoaaFmtRows.lean that lists a variable, with what it lists TIED to the program's text (the seventh form; the later family's looks); each row that meets fmt, with fmt's text TOLD by the authors' own Lean function (tested against real Go, not proved from fmt's source: count such statements apart). THE CARD IS WHAT COUNTS. Prove the row's statement (the work); the ties are given (YtkokdoodaoijoaaFmtTie.lean); close each card by the builder's one call (the guide's Derived/Test/ToyasCard.lean, 'card_holds'). Laid BY PROGRAM, IN A SANDBOX (cutbox-door.mjs). By AI agents, Wed Nov 11 2026. No macro, syntax, notation, axiom, sorry.
-/
import Derived.Test.YtkokdoodaoijoaaFmtRows
import GoSem.ClaimSeven
namespace Go.Proofs.YtkokdoodaoijoaaFmt
namespace Rows

/-- THE TOLD CARD OF 'gatepostlaw.CodingHex'. -/
def codingHexCard : Claim7 := { stood := { row := codingHexRow, standIns := [], harness := (true, "4e2f1730d89564ffb63cc93845cd72605c5e3e896805fd6bd4ae7e5442c57e83"), looks := true }, told := true, goes := false }
def CodingHexToldSaid : Prop := Claim7.holds Tryf.pinned (.plain (OpenSpec.ofChange codingHexSpec)) codingHexCard
/-- ITS FALSE NEIGHBOUR. Refute it at one input. -/
def CodingHexToldWrongFalsely : Prop := Claim7.holds Tryf.pinned (.plain (OpenSpec.ofChange codingHexWrong)) codingHexCard

/-- THE TOLD AND TIED CARD OF 'gatepostlaw.CodingUnhex'. -/
def codingUnhexCard : Claim7 := { stood := { row := codingUnhexRow, standIns := [], harness := (true, "4e2f1730d89564ffb63cc93845cd72605c5e3e896805fd6bd4ae7e5442c57e83"), looks := true }, told := true, laidByText := true, laidKinds := [.handle], laidTests := true, laidLooks := .later, goes := false }
def CodingUnhexToldSaid : Prop := Claim7.holds Tryf.pinned (.plain (OpenSpec.ofChange codingUnhexSpec)) codingUnhexCard
/-- ITS FALSE NEIGHBOUR. Refute it at one input. -/
def CodingUnhexToldWrongFalsely : Prop := Claim7.holds Tryf.pinned (.plain (OpenSpec.ofChange codingUnhexWrong)) codingUnhexCard

/-- THE TOLD AND TIED CARD OF 'gatepostlaw.CodingBase'. -/
def codingBaseCard : Claim7 := { stood := { row := codingBaseRow, standIns := [], harness := (true, "4e2f1730d89564ffb63cc93845cd72605c5e3e896805fd6bd4ae7e5442c57e83"), looks := true }, told := true, laidByText := true, laidKinds := [.data, .data, .data, .sentinel, .sentinel], laidTests := true, laidLooks := .later, goes := false }
def CodingBaseToldSaid : Prop := Claim7.holds Tryf.pinned (.plain (OpenSpec.ofChange codingBaseSpec)) codingBaseCard
/-- ITS FALSE NEIGHBOUR. Refute it at one input. -/
def CodingBaseToldWrongFalsely : Prop := Claim7.holds Tryf.pinned (.plain (OpenSpec.ofChange codingBaseWrong)) codingBaseCard

/-- THE TOLD AND TIED CARD OF 'gatepostlaw.CodingUnbase'. -/
def codingUnbaseCard : Claim7 := { stood := { row := codingUnbaseRow, standIns := [], harness := (true, "4e2f1730d89564ffb63cc93845cd72605c5e3e896805fd6bd4ae7e5442c57e83"), looks := true }, told := true, laidByText := true, laidKinds := [.data, .data, .data, .handle, .sentinel, .sentinel], laidTests := true, laidLooks := .later, goes := false }
def CodingUnbaseToldSaid : Prop := Claim7.holds Tryf.pinned (.plain (OpenSpec.ofChange codingUnbaseSpec)) codingUnbaseCard
/-- ITS FALSE NEIGHBOUR. Refute it at one input. -/
def CodingUnbaseToldWrongFalsely : Prop := Claim7.holds Tryf.pinned (.plain (OpenSpec.ofChange codingUnbaseWrong)) codingUnbaseCard
end Rows
end Go.Proofs.YtkokdoodaoijoaaFmt
