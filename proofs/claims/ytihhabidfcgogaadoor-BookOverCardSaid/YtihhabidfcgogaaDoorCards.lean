/-
  DERIVED. GIVEN WITH THE SEED: THE CARDS: each row of YtihhabidfcgogaaDoorRows.lean that lists a variable, with what it lists TIED to the program's text (the seventh form; the later family's looks); each row that meets fmt, with fmt's text TOLD by the authors' own Lean function (tested against real Go, not proved from fmt's source: count such statements apart). THE CARD IS WHAT COUNTS. Prove the row's statement (the work); the ties are given (YtihhabidfcgogaaDoorTie.lean); close each card by the builder's one call (the guide's Derived/Test/ToyasCard.lean, 'card_holds'). Laid BY PROGRAM, IN A SANDBOX (cutbox-door.mjs). By AI agents, Wed Nov 11 2026. No macro, syntax, notation, axiom, sorry.
-/
import Derived.Test.YtihhabidfcgogaaDoorRows
import GoSem.ClaimSeven
namespace Go.Proofs.YtihhabidfcgogaaDoor
namespace Rows

/-- THE TIED CARD OF 'gatepostkeep.BookFew'. -/
def bookFewCard : Claim7 := { stood := { row := bookFewRow, standIns := [], harness := (true, "722f473d519624b98423b4540b4926eee4a282ca416a70eee70899bf0b548e36"), looks := false }, kinds := [], alts := [], laidByText := true, laidKinds := [.data, .data, .pinned], laidTests := true, laidLooks := .later }
def BookFewCardSaid : Prop := Claim7.holds Tryd.pinned (.plain (OpenSpec.ofChange bookFewSpec)) bookFewCard

/-- THE TIED CARD OF 'gatepostkeep.BookOver'. -/
def bookOverCard : Claim7 := { stood := { row := bookOverRow, standIns := [], harness := (true, "722f473d519624b98423b4540b4926eee4a282ca416a70eee70899bf0b548e36"), looks := false }, kinds := [], alts := [], laidByText := true, laidKinds := [.data, .data, .pinned], laidTests := true, laidLooks := .later }
def BookOverCardSaid : Prop := Claim7.holds Tryd.pinned (.plain (OpenSpec.ofChange bookOverSpec)) bookOverCard

/-- THE TIED CARD OF 'gatepostkeep.BookSound'. -/
def bookSoundCard : Claim7 := { stood := { row := bookSoundRow, standIns := [], harness := (true, "722f473d519624b98423b4540b4926eee4a282ca416a70eee70899bf0b548e36"), looks := false }, kinds := [], alts := [], laidByText := true, laidKinds := [.data, .data, .pinned], laidTests := true, laidLooks := .later }
def BookSoundCardSaid : Prop := Claim7.holds Tryd.pinned (.plain (OpenSpec.ofChange bookSoundSpec)) bookSoundCard

/-- THE SECOND FORM's CARD OF 'gatepostkeep.BookFew'. -/
def bookFewUptoCard : Claim7 := { stood := { row := bookFewUptoRow, standIns := [], harness := (true, "722f473d519624b98423b4540b4926eee4a282ca416a70eee70899bf0b548e36"), looks := false }, kinds := [], alts := [], laidByText := true, laidKinds := [.data, .data, .pinned], laidTests := true, laidLooks := .later }
def BookFewUptoCardSaid : Prop := Claim7.holds Tryd.pinned (.plain (OpenSpec.upto bookFewSpec)) bookFewUptoCard

/-- THE SECOND FORM's CARD OF 'gatepostkeep.BookOver'. -/
def bookOverUptoCard : Claim7 := { stood := { row := bookOverUptoRow, standIns := [], harness := (true, "722f473d519624b98423b4540b4926eee4a282ca416a70eee70899bf0b548e36"), looks := false }, kinds := [], alts := [], laidByText := true, laidKinds := [.data, .data, .pinned], laidTests := true, laidLooks := .later }
def BookOverUptoCardSaid : Prop := Claim7.holds Tryd.pinned (.plain (OpenSpec.upto bookOverSpec)) bookOverUptoCard

/-- THE SECOND FORM's CARD OF 'gatepostkeep.BookSound'. -/
def bookSoundUptoCard : Claim7 := { stood := { row := bookSoundUptoRow, standIns := [], harness := (true, "722f473d519624b98423b4540b4926eee4a282ca416a70eee70899bf0b548e36"), looks := false }, kinds := [], alts := [], laidByText := true, laidKinds := [.data, .data, .pinned], laidTests := true, laidLooks := .later }
def BookSoundUptoCardSaid : Prop := Claim7.holds Tryd.pinned (.plain (OpenSpec.upto bookSoundSpec)) bookSoundUptoCard
end Rows
end Go.Proofs.YtihhabidfcgogaaDoor
