/-
  DERIVED. GIVEN WITH THE SEED: THE CARDS: each row of YtoblpjknnchlmabGreatDoorRows.lean that lists a variable, with what it lists TIED to the program's text (the seventh form; the later family's looks); each row that meets fmt, with fmt's text TOLD by the authors' own Lean function (tested against real Go, not proved from fmt's source: count such statements apart). THE CARD IS WHAT COUNTS. Prove the row's statement (the work); the ties are given (YtoblpjknnchlmabGreatDoorTie.lean); close each card by the builder's one call (the guide's Derived/Test/ToyasCard.lean, 'card_holds'). Laid BY PROGRAM, IN A SANDBOX (cutbox-door.mjs). By AI agents, Wed Nov 11 2026. No macro, syntax, notation, axiom, sorry.
-/
import Derived.Test.YtoblpjknnchlmabGreatDoorRows
import GoSem.ClaimSeven
namespace Go.Proofs.YtoblpjknnchlmabGreatDoor
namespace Rows

/-- THE TIED CARD OF 'gatepostlaw.CorsNeeds'. -/
def corsNeedsCard : Claim7 := { stood := { row := corsNeedsRow, standIns := [], harness := (true, "39cfaeb53123d2cd53f93b791431c19a74fcfc102ccf204a7caa9a4255baea12"), looks := false }, kinds := [], alts := [], laidByText := true, laidKinds := [.data, .data, .pinned, .pinned], laidTests := true, laidLooks := .later }
def CorsNeedsCardSaid : Prop := Claim7.holds Tryz.pinned (.plain (OpenSpec.ofChange corsNeedsSpec)) corsNeedsCard

/-- THE TIED CARD OF 'gatepostkeep.FieldsPieces'. -/
def fieldsPiecesCard : Claim7 := { stood := { row := fieldsPiecesRow, standIns := [], harness := (true, "39cfaeb53123d2cd53f93b791431c19a74fcfc102ccf204a7caa9a4255baea12"), looks := false }, kinds := [], alts := [], laidByText := true, laidKinds := [.data, .data, .data, .data, .data, .data, .pinned], laidTests := true, laidLooks := .later }
def FieldsPiecesCardSaid : Prop := Claim7.holds Tryz.pinned (.plain (OpenSpec.ofChange fieldsPiecesSpec)) fieldsPiecesCard

/-- THE TIED CARD OF 'gatepostkeep.MayWith'. -/
def mayWithCard : Claim7 := { stood := { row := mayWithRow, standIns := [], harness := (true, "39cfaeb53123d2cd53f93b791431c19a74fcfc102ccf204a7caa9a4255baea12"), looks := false }, kinds := [], alts := [], laidByText := true, laidKinds := [.data, .data, .data, .data, .data, .data, .pinned], laidTests := true, laidLooks := .later }
def MayWithCardSaid : Prop := Claim7.holds Tryz.pinned (.plain (OpenSpec.ofChange mayWithSpec)) mayWithCard

/-- THE TIED CARD OF 'gatepostkeep.AgeBounds'. -/
def ageBoundsCard : Claim7 := { stood := { row := ageBoundsRow, standIns := [], harness := (true, "39cfaeb53123d2cd53f93b791431c19a74fcfc102ccf204a7caa9a4255baea12"), looks := false }, kinds := [], alts := [], laidByText := true, laidKinds := [.data, .data, .data, .data, .data, .data, .pinned], laidTests := true, laidLooks := .later }
def AgeBoundsCardSaid : Prop := Claim7.holds Tryz.pinned (.plain (OpenSpec.ofChange ageBoundsSpec)) ageBoundsCard

/-- THE TIED CARD OF 'gatepostkeep.GrantCovers'. -/
def grantCoversCard : Claim7 := { stood := { row := grantCoversRow, standIns := [], harness := (true, "39cfaeb53123d2cd53f93b791431c19a74fcfc102ccf204a7caa9a4255baea12"), looks := false }, kinds := [], alts := [], laidByText := true, laidKinds := [.data, .data, .data, .data, .data, .data, .pinned], laidTests := true, laidLooks := .later }
def GrantCoversCardSaid : Prop := Claim7.holds Tryz.pinned (.plain (OpenSpec.ofChange grantCoversSpec)) grantCoversCard

/-- THE TIED CARD OF 'gatepostkeep.CoversMore'. -/
def coversMoreCard : Claim7 := { stood := { row := coversMoreRow, standIns := [], harness := (true, "39cfaeb53123d2cd53f93b791431c19a74fcfc102ccf204a7caa9a4255baea12"), looks := false }, kinds := [], alts := [], laidByText := true, laidKinds := [.data, .data, .data, .data, .data, .data, .pinned], laidTests := true, laidLooks := .later }
def CoversMoreCardSaid : Prop := Claim7.holds Tryz.pinned (.plain (OpenSpec.ofChange coversMoreSpec)) coversMoreCard

/-- THE SECOND FORM's CARD OF 'gatepostlaw.CorsNeeds'. -/
def corsNeedsUptoCard : Claim7 := { stood := { row := corsNeedsUptoRow, standIns := [], harness := (true, "39cfaeb53123d2cd53f93b791431c19a74fcfc102ccf204a7caa9a4255baea12"), looks := false }, kinds := [], alts := [], laidByText := true, laidKinds := [.data, .data, .pinned, .pinned], laidTests := true, laidLooks := .later }
def CorsNeedsUptoCardSaid : Prop := Claim7.holds Tryz.pinned (.plain (OpenSpec.upto corsNeedsSpec)) corsNeedsUptoCard

/-- THE SECOND FORM's CARD OF 'gatepostkeep.FieldsPieces'. -/
def fieldsPiecesUptoCard : Claim7 := { stood := { row := fieldsPiecesUptoRow, standIns := [], harness := (true, "39cfaeb53123d2cd53f93b791431c19a74fcfc102ccf204a7caa9a4255baea12"), looks := false }, kinds := [], alts := [], laidByText := true, laidKinds := [.data, .data, .data, .data, .data, .data, .pinned], laidTests := true, laidLooks := .later }
def FieldsPiecesUptoCardSaid : Prop := Claim7.holds Tryz.pinned (.plain (OpenSpec.upto fieldsPiecesSpec)) fieldsPiecesUptoCard

/-- THE SECOND FORM's CARD OF 'gatepostkeep.MayWith'. -/
def mayWithUptoCard : Claim7 := { stood := { row := mayWithUptoRow, standIns := [], harness := (true, "39cfaeb53123d2cd53f93b791431c19a74fcfc102ccf204a7caa9a4255baea12"), looks := false }, kinds := [], alts := [], laidByText := true, laidKinds := [.data, .data, .data, .data, .data, .data, .pinned], laidTests := true, laidLooks := .later }
def MayWithUptoCardSaid : Prop := Claim7.holds Tryz.pinned (.plain (OpenSpec.upto mayWithSpec)) mayWithUptoCard

/-- THE SECOND FORM's CARD OF 'gatepostkeep.AgeBounds'. -/
def ageBoundsUptoCard : Claim7 := { stood := { row := ageBoundsUptoRow, standIns := [], harness := (true, "39cfaeb53123d2cd53f93b791431c19a74fcfc102ccf204a7caa9a4255baea12"), looks := false }, kinds := [], alts := [], laidByText := true, laidKinds := [.data, .data, .data, .data, .data, .data, .pinned], laidTests := true, laidLooks := .later }
def AgeBoundsUptoCardSaid : Prop := Claim7.holds Tryz.pinned (.plain (OpenSpec.upto ageBoundsSpec)) ageBoundsUptoCard

/-- THE SECOND FORM's CARD OF 'gatepostkeep.GrantCovers'. -/
def grantCoversUptoCard : Claim7 := { stood := { row := grantCoversUptoRow, standIns := [], harness := (true, "39cfaeb53123d2cd53f93b791431c19a74fcfc102ccf204a7caa9a4255baea12"), looks := false }, kinds := [], alts := [], laidByText := true, laidKinds := [.data, .data, .data, .data, .data, .data, .pinned], laidTests := true, laidLooks := .later }
def GrantCoversUptoCardSaid : Prop := Claim7.holds Tryz.pinned (.plain (OpenSpec.upto grantCoversSpec)) grantCoversUptoCard

/-- THE SECOND FORM's CARD OF 'gatepostkeep.CoversMore'. -/
def coversMoreUptoCard : Claim7 := { stood := { row := coversMoreUptoRow, standIns := [], harness := (true, "39cfaeb53123d2cd53f93b791431c19a74fcfc102ccf204a7caa9a4255baea12"), looks := false }, kinds := [], alts := [], laidByText := true, laidKinds := [.data, .data, .data, .data, .data, .data, .pinned], laidTests := true, laidLooks := .later }
def CoversMoreUptoCardSaid : Prop := Claim7.holds Tryz.pinned (.plain (OpenSpec.upto coversMoreSpec)) coversMoreUptoCard
end Rows
end Go.Proofs.YtoblpjknnchlmabGreatDoor
