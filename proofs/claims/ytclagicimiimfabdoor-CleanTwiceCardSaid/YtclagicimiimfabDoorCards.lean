/-
  DERIVED. GIVEN WITH THE SEED: THE CARDS: each row of YtclagicimiimfabDoorRows.lean that lists a variable, with what it lists TIED to the program's text (the seventh form; the later family's looks); each row that meets fmt, with fmt's text TOLD by the authors' own Lean function (tested against real Go, not proved from fmt's source: count such statements apart). THE CARD IS WHAT COUNTS. Prove the row's statement (the work); the ties are given (YtclagicimiimfabDoorTie.lean); close each card by the builder's one call (the guide's Derived/Test/ToyasCard.lean, 'card_holds'). Laid BY PROGRAM, IN A SANDBOX (cutbox-door.mjs). By AI agents, Wed Nov 11 2026. No macro, syntax, notation, axiom, sorry.
-/
import Derived.Test.YtclagicimiimfabDoorRows
import GoSem.ClaimSeven
namespace Go.Proofs.YtclagicimiimfabDoor
namespace Rows

/-- THE TIED CARD OF 'gatepostkeep.UrlBack'. -/
def urlBackCard : Claim7 := { stood := { row := urlBackRow, standIns := [], harness := (true, "569afe5ebfcdbd5cfd5252ddbc2a193e97f4364a486e676f9d96c7996396453c"), looks := false }, kinds := [], alts := [], laidByText := true, laidKinds := [.data, .data, .data, .data], laidTests := true, laidLooks := .later }
def UrlBackCardSaid : Prop := Claim7.holds Tryd.pinned (.plain (OpenSpec.ofChange urlBackSpec)) urlBackCard

/-- THE TIED CARD OF 'gatepostkeep.UrlCase'. -/
def urlCaseCard : Claim7 := { stood := { row := urlCaseRow, standIns := [], harness := (true, "569afe5ebfcdbd5cfd5252ddbc2a193e97f4364a486e676f9d96c7996396453c"), looks := false }, kinds := [], alts := [], laidByText := true, laidKinds := [.data, .data, .data, .data, .data, .pinned, .pinned], laidTests := true, laidLooks := .later }
def UrlCaseCardSaid : Prop := Claim7.holds Tryd.pinned (.plain (OpenSpec.ofChange urlCaseSpec)) urlCaseCard

/-- THE TIED CARD OF 'gatepostkeep.UrlSends'. -/
def urlSendsCard : Claim7 := { stood := { row := urlSendsRow, standIns := [], harness := (true, "569afe5ebfcdbd5cfd5252ddbc2a193e97f4364a486e676f9d96c7996396453c"), looks := false }, kinds := [], alts := [], laidByText := true, laidKinds := [.data, .data, .data, .data], laidTests := true, laidLooks := .later }
def UrlSendsCardSaid : Prop := Claim7.holds Tryd.pinned (.plain (OpenSpec.ofChange urlSendsSpec)) urlSendsCard

/-- THE TIED CARD OF 'gatepostkeep.OriginBack'. -/
def originBackCard : Claim7 := { stood := { row := originBackRow, standIns := [], harness := (true, "569afe5ebfcdbd5cfd5252ddbc2a193e97f4364a486e676f9d96c7996396453c"), looks := false }, kinds := [], alts := [], laidByText := true, laidKinds := [.data, .data, .data, .data], laidTests := true, laidLooks := .later }
def OriginBackCardSaid : Prop := Claim7.holds Tryd.pinned (.plain (OpenSpec.ofChange originBackSpec)) originBackCard

/-- THE TIED CARD OF 'gatepostkeep.CleanTwice'. -/
def cleanTwiceCard : Claim7 := { stood := { row := cleanTwiceRow, standIns := [], harness := (true, "569afe5ebfcdbd5cfd5252ddbc2a193e97f4364a486e676f9d96c7996396453c"), looks := false }, kinds := [], alts := [], laidByText := true, laidKinds := [.data, .data, .data, .data, .data, .pinned], laidTests := true, laidLooks := .later }
def CleanTwiceCardSaid : Prop := Claim7.holds Tryd.pinned (.plain (OpenSpec.ofChange cleanTwiceSpec)) cleanTwiceCard

/-- THE SECOND FORM's CARD OF 'gatepostkeep.UrlBack'. -/
def urlBackUptoCard : Claim7 := { stood := { row := urlBackUptoRow, standIns := [], harness := (true, "569afe5ebfcdbd5cfd5252ddbc2a193e97f4364a486e676f9d96c7996396453c"), looks := false }, kinds := [], alts := [], laidByText := true, laidKinds := [.data, .data, .data, .data], laidTests := true, laidLooks := .later }
def UrlBackUptoCardSaid : Prop := Claim7.holds Tryd.pinned (.plain (OpenSpec.upto urlBackSpec)) urlBackUptoCard

/-- THE SECOND FORM's CARD OF 'gatepostkeep.UrlCase'. -/
def urlCaseUptoCard : Claim7 := { stood := { row := urlCaseUptoRow, standIns := [], harness := (true, "569afe5ebfcdbd5cfd5252ddbc2a193e97f4364a486e676f9d96c7996396453c"), looks := false }, kinds := [], alts := [], laidByText := true, laidKinds := [.data, .data, .data, .data, .data, .pinned, .pinned], laidTests := true, laidLooks := .later }
def UrlCaseUptoCardSaid : Prop := Claim7.holds Tryd.pinned (.plain (OpenSpec.upto urlCaseSpec)) urlCaseUptoCard

/-- THE SECOND FORM's CARD OF 'gatepostkeep.UrlSends'. -/
def urlSendsUptoCard : Claim7 := { stood := { row := urlSendsUptoRow, standIns := [], harness := (true, "569afe5ebfcdbd5cfd5252ddbc2a193e97f4364a486e676f9d96c7996396453c"), looks := false }, kinds := [], alts := [], laidByText := true, laidKinds := [.data, .data, .data, .data], laidTests := true, laidLooks := .later }
def UrlSendsUptoCardSaid : Prop := Claim7.holds Tryd.pinned (.plain (OpenSpec.upto urlSendsSpec)) urlSendsUptoCard

/-- THE SECOND FORM's CARD OF 'gatepostkeep.OriginBack'. -/
def originBackUptoCard : Claim7 := { stood := { row := originBackUptoRow, standIns := [], harness := (true, "569afe5ebfcdbd5cfd5252ddbc2a193e97f4364a486e676f9d96c7996396453c"), looks := false }, kinds := [], alts := [], laidByText := true, laidKinds := [.data, .data, .data, .data], laidTests := true, laidLooks := .later }
def OriginBackUptoCardSaid : Prop := Claim7.holds Tryd.pinned (.plain (OpenSpec.upto originBackSpec)) originBackUptoCard

/-- THE SECOND FORM's CARD OF 'gatepostkeep.CleanTwice'. -/
def cleanTwiceUptoCard : Claim7 := { stood := { row := cleanTwiceUptoRow, standIns := [], harness := (true, "569afe5ebfcdbd5cfd5252ddbc2a193e97f4364a486e676f9d96c7996396453c"), looks := false }, kinds := [], alts := [], laidByText := true, laidKinds := [.data, .data, .data, .data, .data, .pinned], laidTests := true, laidLooks := .later }
def CleanTwiceUptoCardSaid : Prop := Claim7.holds Tryd.pinned (.plain (OpenSpec.upto cleanTwiceSpec)) cleanTwiceUptoCard
end Rows
end Go.Proofs.YtclagicimiimfabDoor
