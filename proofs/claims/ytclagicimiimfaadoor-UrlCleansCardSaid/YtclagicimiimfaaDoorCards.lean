/-
  DERIVED. GIVEN WITH THE SEED: THE CARDS: each row of YtclagicimiimfaaDoorRows.lean that lists a variable, with what it lists TIED to the program's text (the seventh form; the later family's looks); each row that meets fmt, with fmt's text TOLD by the authors' own Lean function (tested against real Go, not proved from fmt's source: count such statements apart). THE CARD IS WHAT COUNTS. Prove the row's statement (the work); the ties are given (YtclagicimiimfaaDoorTie.lean); close each card by the builder's one call (the guide's Derived/Test/ToyasCard.lean, 'card_holds'). Laid BY PROGRAM, IN A SANDBOX (cutbox-door.mjs). By AI agents, Wed Nov 11 2026. No macro, syntax, notation, axiom, sorry.
-/
import Derived.Test.YtclagicimiimfaaDoorRows
import GoSem.ClaimSeven
namespace Go.Proofs.YtclagicimiimfaaDoor
namespace Rows

/-- THE TIED CARD OF 'gatepostlaw.UrlRights'. -/
def urlRightsCard : Claim7 := { stood := { row := urlRightsRow, standIns := [], harness := (true, "e309c71ff846cf66809bc8ea2087a0903dde95a87c03f78017188cbfbdb8b2a8"), looks := true }, kinds := [], alts := [], laidByText := true, laidKinds := [.data], laidTests := true, laidLooks := .later }
def UrlRightsCardSaid : Prop := Claim7.holds Tryd.pinned (.plain (OpenSpec.ofChange urlRightsSpec)) urlRightsCard

/-- THE TIED CARD OF 'gatepostlaw.UrlOrigins'. -/
def urlOriginsCard : Claim7 := { stood := { row := urlOriginsRow, standIns := [], harness := (true, "e309c71ff846cf66809bc8ea2087a0903dde95a87c03f78017188cbfbdb8b2a8"), looks := true }, kinds := [], alts := [], laidByText := true, laidKinds := [.handle, .data], laidTests := true, laidLooks := .later }
def UrlOriginsCardSaid : Prop := Claim7.holds Tryd.pinned (.plain (OpenSpec.ofChange urlOriginsSpec)) urlOriginsCard

/-- THE TIED CARD OF 'gatepostlaw.UrlParses'. -/
def urlParsesCard : Claim7 := { stood := { row := urlParsesRow, standIns := [], harness := (true, "e309c71ff846cf66809bc8ea2087a0903dde95a87c03f78017188cbfbdb8b2a8"), looks := true }, kinds := [], alts := [], laidByText := true, laidKinds := [.data, .handle, .data, .pinned], laidTests := true, laidLooks := .later }
def UrlParsesCardSaid : Prop := Claim7.holds Tryd.pinned (.plain (OpenSpec.ofChange urlParsesSpec)) urlParsesCard

/-- THE TIED CARD OF 'gatepostlaw.UrlCleans'. -/
def urlCleansCard : Claim7 := { stood := { row := urlCleansRow, standIns := [], harness := (true, "e309c71ff846cf66809bc8ea2087a0903dde95a87c03f78017188cbfbdb8b2a8"), looks := true }, kinds := [], alts := [], laidByText := true, laidKinds := [.data, .pinned], laidTests := true, laidLooks := .later }
def UrlCleansCardSaid : Prop := Claim7.holds Tryd.pinned (.plain (OpenSpec.ofChange urlCleansSpec)) urlCleansCard

/-- THE SECOND FORM's CARD OF 'gatepostlaw.UrlRights'. -/
def urlRightsUptoCard : Claim7 := { stood := { row := urlRightsUptoRow, standIns := [], harness := (true, "e309c71ff846cf66809bc8ea2087a0903dde95a87c03f78017188cbfbdb8b2a8"), looks := true }, kinds := [], alts := [], laidByText := true, laidKinds := [.data], laidTests := true, laidLooks := .later }
def UrlRightsUptoCardSaid : Prop := Claim7.holds Tryd.pinned (.plain (OpenSpec.upto urlRightsSpec)) urlRightsUptoCard

/-- THE SECOND FORM's CARD OF 'gatepostlaw.UrlOrigins'. -/
def urlOriginsUptoCard : Claim7 := { stood := { row := urlOriginsUptoRow, standIns := [], harness := (true, "e309c71ff846cf66809bc8ea2087a0903dde95a87c03f78017188cbfbdb8b2a8"), looks := true }, kinds := [], alts := [], laidByText := true, laidKinds := [.handle, .data], laidTests := true, laidLooks := .later }
def UrlOriginsUptoCardSaid : Prop := Claim7.holds Tryd.pinned (.plain (OpenSpec.upto urlOriginsSpec)) urlOriginsUptoCard

/-- THE SECOND FORM's CARD OF 'gatepostlaw.UrlParses'. -/
def urlParsesUptoCard : Claim7 := { stood := { row := urlParsesUptoRow, standIns := [], harness := (true, "e309c71ff846cf66809bc8ea2087a0903dde95a87c03f78017188cbfbdb8b2a8"), looks := true }, kinds := [], alts := [], laidByText := true, laidKinds := [.data, .handle, .data, .pinned], laidTests := true, laidLooks := .later }
def UrlParsesUptoCardSaid : Prop := Claim7.holds Tryd.pinned (.plain (OpenSpec.upto urlParsesSpec)) urlParsesUptoCard

/-- THE SECOND FORM's CARD OF 'gatepostlaw.UrlCleans'. -/
def urlCleansUptoCard : Claim7 := { stood := { row := urlCleansUptoRow, standIns := [], harness := (true, "e309c71ff846cf66809bc8ea2087a0903dde95a87c03f78017188cbfbdb8b2a8"), looks := true }, kinds := [], alts := [], laidByText := true, laidKinds := [.data, .pinned], laidTests := true, laidLooks := .later }
def UrlCleansUptoCardSaid : Prop := Claim7.holds Tryd.pinned (.plain (OpenSpec.upto urlCleansSpec)) urlCleansUptoCard
end Rows
end Go.Proofs.YtclagicimiimfaaDoor
