/-
  DERIVED. GIVEN WITH THE SEED: THE CARDS: each row of YtoblpjknnchlmaaDoorRows.lean that lists a variable, with what it lists TIED to the program's text (the seventh form; the later family's looks); each row that meets fmt, with fmt's text TOLD by the authors' own Lean function (tested against real Go, not proved from fmt's source: count such statements apart). THE CARD IS WHAT COUNTS. Prove the row's statement (the work); the ties are given (YtoblpjknnchlmaaDoorTie.lean); close each card by the builder's one call (the guide's Derived/Test/ToyasCard.lean, 'card_holds'). Laid BY PROGRAM, IN A SANDBOX (cutbox-door.mjs). By AI agents, Wed Nov 11 2026. No macro, syntax, notation, axiom, sorry.
-/
import Derived.Test.YtoblpjknnchlmaaDoorRows
import GoSem.ClaimSeven
namespace Go.Proofs.YtoblpjknnchlmaaDoor
namespace Rows

/-- THE TIED CARD OF 'gatepostlaw.CorsFields'. -/
def corsFieldsCard : Claim7 := { stood := { row := corsFieldsRow, standIns := [], harness := (true, "11712a49c0e9ad0e8ac00bd1f3a3b8c758505f7a402321ce48ae1f57309e7d48"), looks := true }, kinds := [], alts := [], laidByText := true, laidKinds := [.data, .handle, .pinned], laidTests := true, laidLooks := .later }
def CorsFieldsCardSaid : Prop := Claim7.holds Tryd.pinned (.plain (OpenSpec.ofChange corsFieldsSpec)) corsFieldsCard

/-- THE SECOND FORM's CARD OF 'gatepostlaw.CorsFields'. -/
def corsFieldsUptoCard : Claim7 := { stood := { row := corsFieldsUptoRow, standIns := [], harness := (true, "11712a49c0e9ad0e8ac00bd1f3a3b8c758505f7a402321ce48ae1f57309e7d48"), looks := true }, kinds := [], alts := [], laidByText := true, laidKinds := [.data, .handle, .pinned], laidTests := true, laidLooks := .later }
def CorsFieldsUptoCardSaid : Prop := Claim7.holds Tryd.pinned (.plain (OpenSpec.upto corsFieldsSpec)) corsFieldsUptoCard
end Rows
end Go.Proofs.YtoblpjknnchlmaaDoor
