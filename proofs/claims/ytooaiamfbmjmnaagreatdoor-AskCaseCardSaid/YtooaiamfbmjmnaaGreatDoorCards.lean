/-
  DERIVED. GIVEN WITH THE SEED: THE CARDS: each row of YtooaiamfbmjmnaaGreatDoorRows.lean that lists a variable, with what it lists TIED to the program's text (the seventh form; the later family's looks); each row that meets fmt, with fmt's text TOLD by the authors' own Lean function (tested against real Go, not proved from fmt's source: count such statements apart). THE CARD IS WHAT COUNTS. Prove the row's statement (the work); the ties are given (YtooaiamfbmjmnaaGreatDoorTie.lean); close each card by the builder's one call (the guide's Derived/Test/ToyasCard.lean, 'card_holds'). Laid BY PROGRAM, IN A SANDBOX (cutbox-door.mjs). By AI agents, Wed Nov 11 2026. No macro, syntax, notation, axiom, sorry.
-/
import Derived.Test.YtooaiamfbmjmnaaGreatDoorRows
import GoSem.ClaimSeven
namespace Go.Proofs.YtooaiamfbmjmnaaGreatDoor
namespace Rows

/-- THE TIED CARD OF 'gatepostkeep.AskCase'. -/
def askCaseCard : Claim7 := { stood := { row := askCaseRow, standIns := [], harness := (true, "c7a0a36b46476699c615c1c0e1fd727a0b01a442b9e25d953bf309fc3d873495"), looks := true }, kinds := [], alts := [], laidByText := true, laidKinds := [.data, .pinned], laidTests := true, laidLooks := .later }
def AskCaseCardSaid : Prop := Claim7.holds Tryz.pinned (.plain (OpenSpec.ofChange askCaseSpec)) askCaseCard

/-- THE TIED CARD OF 'gatepostlaw.AskKnows'. -/
def askKnowsCard : Claim7 := { stood := { row := askKnowsRow, standIns := [], harness := (true, "c7a0a36b46476699c615c1c0e1fd727a0b01a442b9e25d953bf309fc3d873495"), looks := true }, kinds := [], alts := [], laidByText := true, laidKinds := [.data, .pinned], laidTests := true, laidLooks := .later }
def AskKnowsCardSaid : Prop := Claim7.holds Tryz.pinned (.plain (OpenSpec.ofChange askKnowsSpec)) askKnowsCard

/-- THE TIED CARD OF 'gatepostlaw.AskBests'. -/
def askBestsCard : Claim7 := { stood := { row := askBestsRow, standIns := [], harness := (true, "c7a0a36b46476699c615c1c0e1fd727a0b01a442b9e25d953bf309fc3d873495"), looks := true }, kinds := [], alts := [], laidByText := true, laidKinds := [.data, .pinned], laidTests := true, laidLooks := .later }
def AskBestsCardSaid : Prop := Claim7.holds Tryz.pinned (.plain (OpenSpec.ofChange askBestsSpec)) askBestsCard

/-- THE TIED CARD OF 'gatepostlaw.AskParses'. -/
def askParsesCard : Claim7 := { stood := { row := askParsesRow, standIns := [], harness := (true, "c7a0a36b46476699c615c1c0e1fd727a0b01a442b9e25d953bf309fc3d873495"), looks := true }, kinds := [], alts := [], laidByText := true, laidKinds := [.data, .handle, .pinned], laidTests := true, laidLooks := .later }
def AskParsesCardSaid : Prop := Claim7.holds Tryz.pinned (.plain (OpenSpec.ofChange askParsesSpec)) askParsesCard

/-- THE SECOND FORM's CARD OF 'gatepostkeep.AskCase'. -/
def askCaseUptoCard : Claim7 := { stood := { row := askCaseUptoRow, standIns := [], harness := (true, "c7a0a36b46476699c615c1c0e1fd727a0b01a442b9e25d953bf309fc3d873495"), looks := true }, kinds := [], alts := [], laidByText := true, laidKinds := [.data, .pinned], laidTests := true, laidLooks := .later }
def AskCaseUptoCardSaid : Prop := Claim7.holds Tryz.pinned (.plain (OpenSpec.upto askCaseSpec)) askCaseUptoCard

/-- THE SECOND FORM's CARD OF 'gatepostlaw.AskKnows'. -/
def askKnowsUptoCard : Claim7 := { stood := { row := askKnowsUptoRow, standIns := [], harness := (true, "c7a0a36b46476699c615c1c0e1fd727a0b01a442b9e25d953bf309fc3d873495"), looks := true }, kinds := [], alts := [], laidByText := true, laidKinds := [.data, .pinned], laidTests := true, laidLooks := .later }
def AskKnowsUptoCardSaid : Prop := Claim7.holds Tryz.pinned (.plain (OpenSpec.upto askKnowsSpec)) askKnowsUptoCard

/-- THE SECOND FORM's CARD OF 'gatepostlaw.AskBests'. -/
def askBestsUptoCard : Claim7 := { stood := { row := askBestsUptoRow, standIns := [], harness := (true, "c7a0a36b46476699c615c1c0e1fd727a0b01a442b9e25d953bf309fc3d873495"), looks := true }, kinds := [], alts := [], laidByText := true, laidKinds := [.data, .pinned], laidTests := true, laidLooks := .later }
def AskBestsUptoCardSaid : Prop := Claim7.holds Tryz.pinned (.plain (OpenSpec.upto askBestsSpec)) askBestsUptoCard

/-- THE SECOND FORM's CARD OF 'gatepostlaw.AskParses'. -/
def askParsesUptoCard : Claim7 := { stood := { row := askParsesUptoRow, standIns := [], harness := (true, "c7a0a36b46476699c615c1c0e1fd727a0b01a442b9e25d953bf309fc3d873495"), looks := true }, kinds := [], alts := [], laidByText := true, laidKinds := [.data, .handle, .pinned], laidTests := true, laidLooks := .later }
def AskParsesUptoCardSaid : Prop := Claim7.holds Tryz.pinned (.plain (OpenSpec.upto askParsesSpec)) askParsesUptoCard
end Rows
end Go.Proofs.YtooaiamfbmjmnaaGreatDoor
