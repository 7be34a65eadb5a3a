/-
  DERIVED. GIVEN WITH THE SEED: THE CARDS: each row of YtbhnaekkjpcafaaDoorRows.lean that lists a variable, with what it lists TIED to the program's text (the seventh form; the later family's looks); each row that meets fmt, with fmt's text TOLD by the authors' own Lean function (tested against real Go, not proved from fmt's source: count such statements apart). THE CARD IS WHAT COUNTS. Prove the row's statement (the work); the ties are given (YtbhnaekkjpcafaaDoorTie.lean); close each card by the builder's one call (the guide's Derived/Test/ToyasCard.lean, 'card_holds'). Laid BY PROGRAM, IN A SANDBOX (cutbox-door.mjs). By AI agents, Wed Nov 11 2026. No macro, syntax, notation, axiom, sorry.
-/
import Derived.Test.YtbhnaekkjpcafaaDoorRows
import GoSem.ClaimSeven
namespace Go.Proofs.YtbhnaekkjpcafaaDoor
namespace Rows

/-- THE TIED CARD OF 'gatepostlaw.FetchMethods'. -/
def fetchMethodsCard : Claim7 := { stood := { row := fetchMethodsRow, standIns := [], harness := (true, "28923a6ddbef4eba8be53efc587a9608e6dfda7f8e2025d576b7c20ffe114e66"), looks := false }, kinds := [], alts := [], laidByText := true, laidKinds := [.data, .data, .pinned, .pinned], laidTests := true, laidLooks := .later }
def FetchMethodsCardSaid : Prop := Claim7.holds Tryd.pinned (.plain (OpenSpec.ofChange fetchMethodsSpec)) fetchMethodsCard

/-- THE TIED CARD OF 'gatepostlaw.FetchPlains'. -/
def fetchPlainsCard : Claim7 := { stood := { row := fetchPlainsRow, standIns := [], harness := (true, "28923a6ddbef4eba8be53efc587a9608e6dfda7f8e2025d576b7c20ffe114e66"), looks := false }, kinds := [], alts := [], laidByText := true, laidKinds := [.data, .pinned], laidTests := true, laidLooks := .later }
def FetchPlainsCardSaid : Prop := Claim7.holds Tryd.pinned (.plain (OpenSpec.ofChange fetchPlainsSpec)) fetchPlainsCard

/-- THE TIED CARD OF 'gatepostlaw.FetchAsks'. -/
def fetchAsksCard : Claim7 := { stood := { row := fetchAsksRow, standIns := [], harness := (true, "28923a6ddbef4eba8be53efc587a9608e6dfda7f8e2025d576b7c20ffe114e66"), looks := false }, kinds := [], alts := [], laidByText := true, laidKinds := [.data, .pinned], laidTests := true, laidLooks := .later }
def FetchAsksCardSaid : Prop := Claim7.holds Tryd.pinned (.plain (OpenSpec.ofChange fetchAsksSpec)) fetchAsksCard

/-- THE TIED CARD OF 'gatepostkeep.MethodTwice'. -/
def methodTwiceCard : Claim7 := { stood := { row := methodTwiceRow, standIns := [], harness := (true, "28923a6ddbef4eba8be53efc587a9608e6dfda7f8e2025d576b7c20ffe114e66"), looks := false }, kinds := [], alts := [], laidByText := true, laidKinds := [.data, .data, .pinned], laidTests := true, laidLooks := .later }
def MethodTwiceCardSaid : Prop := Claim7.holds Tryd.pinned (.plain (OpenSpec.ofChange methodTwiceSpec)) methodTwiceCard

/-- THE TIED CARD OF 'gatepostkeep.AskedOrder'. -/
def askedOrderCard : Claim7 := { stood := { row := askedOrderRow, standIns := [], harness := (true, "28923a6ddbef4eba8be53efc587a9608e6dfda7f8e2025d576b7c20ffe114e66"), looks := false }, kinds := [], alts := [], laidByText := true, laidKinds := [.data, .data, .pinned], laidTests := true, laidLooks := .later }
def AskedOrderCardSaid : Prop := Claim7.holds Tryd.pinned (.plain (OpenSpec.ofChange askedOrderSpec)) askedOrderCard

/-- THE SECOND FORM's CARD OF 'gatepostlaw.FetchMethods'. -/
def fetchMethodsUptoCard : Claim7 := { stood := { row := fetchMethodsUptoRow, standIns := [], harness := (true, "28923a6ddbef4eba8be53efc587a9608e6dfda7f8e2025d576b7c20ffe114e66"), looks := false }, kinds := [], alts := [], laidByText := true, laidKinds := [.data, .data, .pinned, .pinned], laidTests := true, laidLooks := .later }
def FetchMethodsUptoCardSaid : Prop := Claim7.holds Tryd.pinned (.plain (OpenSpec.upto fetchMethodsSpec)) fetchMethodsUptoCard

/-- THE SECOND FORM's CARD OF 'gatepostlaw.FetchPlains'. -/
def fetchPlainsUptoCard : Claim7 := { stood := { row := fetchPlainsUptoRow, standIns := [], harness := (true, "28923a6ddbef4eba8be53efc587a9608e6dfda7f8e2025d576b7c20ffe114e66"), looks := false }, kinds := [], alts := [], laidByText := true, laidKinds := [.data, .pinned], laidTests := true, laidLooks := .later }
def FetchPlainsUptoCardSaid : Prop := Claim7.holds Tryd.pinned (.plain (OpenSpec.upto fetchPlainsSpec)) fetchPlainsUptoCard

/-- THE SECOND FORM's CARD OF 'gatepostlaw.FetchAsks'. -/
def fetchAsksUptoCard : Claim7 := { stood := { row := fetchAsksUptoRow, standIns := [], harness := (true, "28923a6ddbef4eba8be53efc587a9608e6dfda7f8e2025d576b7c20ffe114e66"), looks := false }, kinds := [], alts := [], laidByText := true, laidKinds := [.data, .pinned], laidTests := true, laidLooks := .later }
def FetchAsksUptoCardSaid : Prop := Claim7.holds Tryd.pinned (.plain (OpenSpec.upto fetchAsksSpec)) fetchAsksUptoCard

/-- THE SECOND FORM's CARD OF 'gatepostkeep.MethodTwice'. -/
def methodTwiceUptoCard : Claim7 := { stood := { row := methodTwiceUptoRow, standIns := [], harness := (true, "28923a6ddbef4eba8be53efc587a9608e6dfda7f8e2025d576b7c20ffe114e66"), looks := false }, kinds := [], alts := [], laidByText := true, laidKinds := [.data, .data, .pinned], laidTests := true, laidLooks := .later }
def MethodTwiceUptoCardSaid : Prop := Claim7.holds Tryd.pinned (.plain (OpenSpec.upto methodTwiceSpec)) methodTwiceUptoCard

/-- THE SECOND FORM's CARD OF 'gatepostkeep.AskedOrder'. -/
def askedOrderUptoCard : Claim7 := { stood := { row := askedOrderUptoRow, standIns := [], harness := (true, "28923a6ddbef4eba8be53efc587a9608e6dfda7f8e2025d576b7c20ffe114e66"), looks := false }, kinds := [], alts := [], laidByText := true, laidKinds := [.data, .data, .pinned], laidTests := true, laidLooks := .later }
def AskedOrderUptoCardSaid : Prop := Claim7.holds Tryd.pinned (.plain (OpenSpec.upto askedOrderSpec)) askedOrderUptoCard
end Rows
end Go.Proofs.YtbhnaekkjpcafaaDoor
