/-
  DERIVED. GIVEN WITH THE SEED: THE CARDS: each row of YtpbipanafihabaaDoorRows.lean that lists a variable, with what it lists TIED to the program's text (the seventh form; the later family's looks); each row that meets fmt, with fmt's text TOLD by the authors' own Lean function (tested against real Go, not proved from fmt's source: count such statements apart). THE CARD IS WHAT COUNTS. Prove the row's statement (the work); the ties are given (YtpbipanafihabaaDoorTie.lean); close each card by the builder's one call (the guide's Derived/Test/ToyasCard.lean, 'card_holds'). Laid BY PROGRAM, IN A SANDBOX (cutbox-door.mjs). By AI agents, Wed Nov 11 2026. No macro, syntax, notation, axiom, sorry.
-/
import Derived.Test.YtpbipanafihabaaDoorRows
import GoSem.ClaimSeven
namespace Go.Proofs.YtpbipanafihabaaDoor
namespace Rows

/-- THE TIED CARD OF 'gatepostlaw.UrlOrigins'. -/
def urlOriginsCard : Claim7 := { stood := { row := urlOriginsRow, standIns := [], harness := (true, "1c69513a1ed98b7325b257ca871543d15c81ba6e7492f6e50bf9f4b0ce4b210a"), looks := true }, kinds := [], alts := [], laidByText := true, laidKinds := [.handle, .data], laidTests := true, laidLooks := .later }
def UrlOriginsCardSaid : Prop := Claim7.holds Tryd.pinned (.plain (OpenSpec.ofChange urlOriginsSpec)) urlOriginsCard

/-- THE TIED CARD OF 'gatepostlaw.UrlParses'. -/
def urlParsesCard : Claim7 := { stood := { row := urlParsesRow, standIns := [], harness := (true, "1c69513a1ed98b7325b257ca871543d15c81ba6e7492f6e50bf9f4b0ce4b210a"), looks := true }, kinds := [], alts := [], laidByText := true, laidKinds := [.data, .handle, .data, .pinned], laidTests := true, laidLooks := .later }
def UrlParsesCardSaid : Prop := Claim7.holds Tryd.pinned (.plain (OpenSpec.ofChange urlParsesSpec)) urlParsesCard

/-- THE TIED CARD OF 'gatepostkeep.UrlCase'. -/
def urlCaseCard : Claim7 := { stood := { row := urlCaseRow, standIns := [], harness := (true, "1c69513a1ed98b7325b257ca871543d15c81ba6e7492f6e50bf9f4b0ce4b210a"), looks := true }, kinds := [], alts := [], laidByText := true, laidKinds := [.data, .data, .data, .data, .data, .pinned, .pinned], laidTests := true, laidLooks := .later }
def UrlCaseCardSaid : Prop := Claim7.holds Tryd.pinned (.plain (OpenSpec.ofChange urlCaseSpec)) urlCaseCard

/-- THE SECOND FORM's CARD OF 'gatepostlaw.UrlOrigins'. -/
def urlOriginsUptoCard : Claim7 := { stood := { row := urlOriginsUptoRow, standIns := [], harness := (true, "1c69513a1ed98b7325b257ca871543d15c81ba6e7492f6e50bf9f4b0ce4b210a"), looks := true }, kinds := [], alts := [], laidByText := true, laidKinds := [.handle, .data], laidTests := true, laidLooks := .later }
def UrlOriginsUptoCardSaid : Prop := Claim7.holds Tryd.pinned (.plain (OpenSpec.upto urlOriginsSpec)) urlOriginsUptoCard

/-- THE SECOND FORM's CARD OF 'gatepostlaw.UrlParses'. -/
def urlParsesUptoCard : Claim7 := { stood := { row := urlParsesUptoRow, standIns := [], harness := (true, "1c69513a1ed98b7325b257ca871543d15c81ba6e7492f6e50bf9f4b0ce4b210a"), looks := true }, kinds := [], alts := [], laidByText := true, laidKinds := [.data, .handle, .data, .pinned], laidTests := true, laidLooks := .later }
def UrlParsesUptoCardSaid : Prop := Claim7.holds Tryd.pinned (.plain (OpenSpec.upto urlParsesSpec)) urlParsesUptoCard

/-- THE SECOND FORM's CARD OF 'gatepostkeep.UrlCase'. -/
def urlCaseUptoCard : Claim7 := { stood := { row := urlCaseUptoRow, standIns := [], harness := (true, "1c69513a1ed98b7325b257ca871543d15c81ba6e7492f6e50bf9f4b0ce4b210a"), looks := true }, kinds := [], alts := [], laidByText := true, laidKinds := [.data, .data, .data, .data, .data, .pinned, .pinned], laidTests := true, laidLooks := .later }
def UrlCaseUptoCardSaid : Prop := Claim7.holds Tryd.pinned (.plain (OpenSpec.upto urlCaseSpec)) urlCaseUptoCard
end Rows
end Go.Proofs.YtpbipanafihabaaDoor
