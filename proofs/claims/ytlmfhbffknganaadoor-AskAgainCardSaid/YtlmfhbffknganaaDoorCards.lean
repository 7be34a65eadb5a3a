/-
  DERIVED. GIVEN WITH THE SEED: THE CARDS: each row of YtlmfhbffknganaaDoorRows.lean that lists a variable, with what it lists TIED to the program's text (the seventh form; the later family's looks); each row that meets fmt, with fmt's text TOLD by the authors' own Lean function (tested against real Go, not proved from fmt's source: count such statements apart). THE CARD IS WHAT COUNTS. Prove the row's statement (the work); the ties are given (YtlmfhbffknganaaDoorTie.lean); close each card by the builder's one call (the guide's Derived/Test/ToyasCard.lean, 'card_holds'). Laid BY PROGRAM, IN A SANDBOX (cutbox-door.mjs). By AI agents, Wed Nov 11 2026. No macro, syntax, notation, axiom, sorry.
-/
import Derived.Test.YtlmfhbffknganaaDoorRows
import GoSem.ClaimSeven
namespace Go.Proofs.YtlmfhbffknganaaDoor
namespace Rows

/-- THE TIED CARD OF 'gatepostkeep.AskAgain'. -/
def askAgainCard : Claim7 := { stood := { row := askAgainRow, standIns := [], harness := (true, "008a22f77584be5f14388da85f894f775349918953b7ef5606a7e7f7e4d3184a"), looks := false }, kinds := [], alts := [], laidByText := true, laidKinds := [.data, .pinned], laidTests := true, laidLooks := .later }
def AskAgainCardSaid : Prop := Claim7.holds Tryd.pinned (.plain (OpenSpec.ofChange askAgainSpec)) askAgainCard

/-- THE TIED CARD OF 'gatepostkeep.AskBest'. -/
def askBestCard : Claim7 := { stood := { row := askBestRow, standIns := [], harness := (true, "008a22f77584be5f14388da85f894f775349918953b7ef5606a7e7f7e4d3184a"), looks := false }, kinds := [], alts := [], laidByText := true, laidKinds := [.data, .pinned], laidTests := true, laidLooks := .later }
def AskBestCardSaid : Prop := Claim7.holds Tryd.pinned (.plain (OpenSpec.ofChange askBestSpec)) askBestCard

/-- THE TIED CARD OF 'gatepostkeep.AskedOrder'. -/
def askedOrderCard : Claim7 := { stood := { row := askedOrderRow, standIns := [], harness := (true, "008a22f77584be5f14388da85f894f775349918953b7ef5606a7e7f7e4d3184a"), looks := false }, kinds := [], alts := [], laidByText := true, laidKinds := [.data, .data, .pinned], laidTests := true, laidLooks := .later }
def AskedOrderCardSaid : Prop := Claim7.holds Tryd.pinned (.plain (OpenSpec.ofChange askedOrderSpec)) askedOrderCard

/-- THE SECOND FORM's CARD OF 'gatepostkeep.AskAgain'. -/
def askAgainUptoCard : Claim7 := { stood := { row := askAgainUptoRow, standIns := [], harness := (true, "008a22f77584be5f14388da85f894f775349918953b7ef5606a7e7f7e4d3184a"), looks := false }, kinds := [], alts := [], laidByText := true, laidKinds := [.data, .pinned], laidTests := true, laidLooks := .later }
def AskAgainUptoCardSaid : Prop := Claim7.holds Tryd.pinned (.plain (OpenSpec.upto askAgainSpec)) askAgainUptoCard

/-- THE SECOND FORM's CARD OF 'gatepostkeep.AskBest'. -/
def askBestUptoCard : Claim7 := { stood := { row := askBestUptoRow, standIns := [], harness := (true, "008a22f77584be5f14388da85f894f775349918953b7ef5606a7e7f7e4d3184a"), looks := false }, kinds := [], alts := [], laidByText := true, laidKinds := [.data, .pinned], laidTests := true, laidLooks := .later }
def AskBestUptoCardSaid : Prop := Claim7.holds Tryd.pinned (.plain (OpenSpec.upto askBestSpec)) askBestUptoCard

/-- THE SECOND FORM's CARD OF 'gatepostkeep.AskedOrder'. -/
def askedOrderUptoCard : Claim7 := { stood := { row := askedOrderUptoRow, standIns := [], harness := (true, "008a22f77584be5f14388da85f894f775349918953b7ef5606a7e7f7e4d3184a"), looks := false }, kinds := [], alts := [], laidByText := true, laidKinds := [.data, .data, .pinned], laidTests := true, laidLooks := .later }
def AskedOrderUptoCardSaid : Prop := Claim7.holds Tryd.pinned (.plain (OpenSpec.upto askedOrderSpec)) askedOrderUptoCard
end Rows
end Go.Proofs.YtlmfhbffknganaaDoor
