/-
  DERIVED. GIVEN WITH THE SEED: THE CARDS: each row of YteldgpkkgnfiaaaGreatDoorRows.lean that lists a variable, with what it lists TIED to the program's text (the seventh form; the later family's looks); each row that meets fmt, with fmt's text TOLD by the authors' own Lean function (tested against real Go, not proved from fmt's source: count such statements apart). THE CARD IS WHAT COUNTS. Prove the row's statement (the work); the ties are given (YteldgpkkgnfiaaaGreatDoorTie.lean); close each card by the builder's one call (the guide's Derived/Test/ToyasCard.lean, 'card_holds'). Laid BY PROGRAM, IN A SANDBOX (cutbox-door.mjs). By AI agents, Wed Nov 11 2026. No macro, syntax, notation, axiom, sorry.
-/
import Derived.Test.YteldgpkkgnfiaaaGreatDoorRows
import GoSem.ClaimSeven
namespace Go.Proofs.YteldgpkkgnfiaaaGreatDoor
namespace Rows

/-- THE TIED CARD OF 'gatepostlaw.AskParses'. -/
def askParsesCard : Claim7 := { stood := { row := askParsesRow, standIns := [], harness := (true, "3a438317ce3b796ef41be0eabdd0501b1ee1918dc8cb6b5e66acf28fe5ccf594"), looks := true }, kinds := [], alts := [], laidByText := true, laidKinds := [.data, .handle, .pinned], laidTests := true, laidLooks := .later }
def AskParsesCardSaid : Prop := Claim7.holds Tryz.pinned (.plain (OpenSpec.ofChange askParsesSpec)) askParsesCard

/-- THE TIED CARD OF 'gatepostlaw.AskKnows'. -/
def askKnowsCard : Claim7 := { stood := { row := askKnowsRow, standIns := [], harness := (true, "3a438317ce3b796ef41be0eabdd0501b1ee1918dc8cb6b5e66acf28fe5ccf594"), looks := true }, kinds := [], alts := [], laidByText := true, laidKinds := [.data, .pinned], laidTests := true, laidLooks := .later }
def AskKnowsCardSaid : Prop := Claim7.holds Tryz.pinned (.plain (OpenSpec.ofChange askKnowsSpec)) askKnowsCard

/-- THE TIED CARD OF 'gatepostlaw.AskBests'. -/
def askBestsCard : Claim7 := { stood := { row := askBestsRow, standIns := [], harness := (true, "3a438317ce3b796ef41be0eabdd0501b1ee1918dc8cb6b5e66acf28fe5ccf594"), looks := true }, kinds := [], alts := [], laidByText := true, laidKinds := [.data, .pinned], laidTests := true, laidLooks := .later }
def AskBestsCardSaid : Prop := Claim7.holds Tryz.pinned (.plain (OpenSpec.ofChange askBestsSpec)) askBestsCard

/-- THE TIED CARD OF 'gatepostkeep.AskBack'. -/
def askBackCard : Claim7 := { stood := { row := askBackRow, standIns := [], harness := (true, "3a438317ce3b796ef41be0eabdd0501b1ee1918dc8cb6b5e66acf28fe5ccf594"), looks := true }, kinds := [], alts := [], laidByText := true, laidKinds := [.data, .pinned], laidTests := true, laidLooks := .later }
def AskBackCardSaid : Prop := Claim7.holds Tryz.pinned (.plain (OpenSpec.ofChange askBackSpec)) askBackCard

/-- THE SECOND FORM's CARD OF 'gatepostlaw.AskParses'. -/
def askParsesUptoCard : Claim7 := { stood := { row := askParsesUptoRow, standIns := [], harness := (true, "3a438317ce3b796ef41be0eabdd0501b1ee1918dc8cb6b5e66acf28fe5ccf594"), looks := true }, kinds := [], alts := [], laidByText := true, laidKinds := [.data, .handle, .pinned], laidTests := true, laidLooks := .later }
def AskParsesUptoCardSaid : Prop := Claim7.holds Tryz.pinned (.plain (OpenSpec.upto askParsesSpec)) askParsesUptoCard

/-- THE SECOND FORM's CARD OF 'gatepostlaw.AskKnows'. -/
def askKnowsUptoCard : Claim7 := { stood := { row := askKnowsUptoRow, standIns := [], harness := (true, "3a438317ce3b796ef41be0eabdd0501b1ee1918dc8cb6b5e66acf28fe5ccf594"), looks := true }, kinds := [], alts := [], laidByText := true, laidKinds := [.data, .pinned], laidTests := true, laidLooks := .later }
def AskKnowsUptoCardSaid : Prop := Claim7.holds Tryz.pinned (.plain (OpenSpec.upto askKnowsSpec)) askKnowsUptoCard

/-- THE SECOND FORM's CARD OF 'gatepostlaw.AskBests'. -/
def askBestsUptoCard : Claim7 := { stood := { row := askBestsUptoRow, standIns := [], harness := (true, "3a438317ce3b796ef41be0eabdd0501b1ee1918dc8cb6b5e66acf28fe5ccf594"), looks := true }, kinds := [], alts := [], laidByText := true, laidKinds := [.data, .pinned], laidTests := true, laidLooks := .later }
def AskBestsUptoCardSaid : Prop := Claim7.holds Tryz.pinned (.plain (OpenSpec.upto askBestsSpec)) askBestsUptoCard

/-- THE SECOND FORM's CARD OF 'gatepostkeep.AskBack'. -/
def askBackUptoCard : Claim7 := { stood := { row := askBackUptoRow, standIns := [], harness := (true, "3a438317ce3b796ef41be0eabdd0501b1ee1918dc8cb6b5e66acf28fe5ccf594"), looks := true }, kinds := [], alts := [], laidByText := true, laidKinds := [.data, .pinned], laidTests := true, laidLooks := .later }
def AskBackUptoCardSaid : Prop := Claim7.holds Tryz.pinned (.plain (OpenSpec.upto askBackSpec)) askBackUptoCard
end Rows
end Go.Proofs.YteldgpkkgnfiaaaGreatDoor
