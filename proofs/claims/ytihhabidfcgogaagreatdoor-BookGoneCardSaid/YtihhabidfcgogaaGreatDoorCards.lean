/-
  DERIVED. GIVEN WITH THE SEED: THE CARDS: each row of YtihhabidfcgogaaGreatDoorRows.lean that lists a variable, with what it lists TIED to the program's text (the seventh form; the later family's looks); each row that meets fmt, with fmt's text TOLD by the authors' own Lean function (tested against real Go, not proved from fmt's source: count such statements apart). THE CARD IS WHAT COUNTS. Prove the row's statement (the work); the ties are given (YtihhabidfcgogaaGreatDoorTie.lean); close each card by the builder's one call (the guide's Derived/Test/ToyasCard.lean, 'card_holds'). Laid BY PROGRAM, IN A SANDBOX (cutbox-door.mjs). By AI agents, Wed Nov 11 2026. No macro, syntax, notation, axiom, sorry.
-/
import Derived.Test.YtihhabidfcgogaaGreatDoorRows
import GoSem.ClaimSeven
namespace Go.Proofs.YtihhabidfcgogaaGreatDoor
namespace Rows

/-- THE TIED CARD OF 'gatepostlaw.BookKeeps'. -/
def bookKeepsCard : Claim7 := { stood := { row := bookKeepsRow, standIns := [], harness := (true, "ef19b49f2da0497c8b3c7b970efff60ed952abca3e2e30aee17e9beb8945e8e3"), looks := false }, kinds := [], alts := [], laidByText := true, laidKinds := [.data, .data, .pinned, .pinned], laidTests := true, laidLooks := .later }
def BookKeepsCardSaid : Prop := Claim7.holds Tryz.pinned (.plain (OpenSpec.ofChange bookKeepsSpec)) bookKeepsCard

/-- THE TIED CARD OF 'gatepostkeep.BookGone'. -/
def bookGoneCard : Claim7 := { stood := { row := bookGoneRow, standIns := [], harness := (true, "ef19b49f2da0497c8b3c7b970efff60ed952abca3e2e30aee17e9beb8945e8e3"), looks := false }, kinds := [], alts := [], laidByText := true, laidKinds := [.data, .data, .pinned], laidTests := true, laidLooks := .later }
def BookGoneCardSaid : Prop := Claim7.holds Tryz.pinned (.plain (OpenSpec.ofChange bookGoneSpec)) bookGoneCard

/-- THE SECOND FORM's CARD OF 'gatepostlaw.BookKeeps'. -/
def bookKeepsUptoCard : Claim7 := { stood := { row := bookKeepsUptoRow, standIns := [], harness := (true, "ef19b49f2da0497c8b3c7b970efff60ed952abca3e2e30aee17e9beb8945e8e3"), looks := false }, kinds := [], alts := [], laidByText := true, laidKinds := [.data, .data, .pinned, .pinned], laidTests := true, laidLooks := .later }
def BookKeepsUptoCardSaid : Prop := Claim7.holds Tryz.pinned (.plain (OpenSpec.upto bookKeepsSpec)) bookKeepsUptoCard

/-- THE SECOND FORM's CARD OF 'gatepostkeep.BookGone'. -/
def bookGoneUptoCard : Claim7 := { stood := { row := bookGoneUptoRow, standIns := [], harness := (true, "ef19b49f2da0497c8b3c7b970efff60ed952abca3e2e30aee17e9beb8945e8e3"), looks := false }, kinds := [], alts := [], laidByText := true, laidKinds := [.data, .data, .pinned], laidTests := true, laidLooks := .later }
def BookGoneUptoCardSaid : Prop := Claim7.holds Tryz.pinned (.plain (OpenSpec.upto bookGoneSpec)) bookGoneUptoCard
end Rows
end Go.Proofs.YtihhabidfcgogaaGreatDoor
