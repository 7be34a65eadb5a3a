/-
  DERIVED. GIVEN WITH THE SEED: THE CARDS: each row of YteldgpkkgnfiaabDoorRows.lean that lists a variable, with what it lists TIED to the program's text (the seventh form; the later family's looks); each row that meets fmt, with fmt's text TOLD by the authors' own Lean function (tested against real Go, not proved from fmt's source: count such statements apart). THE CARD IS WHAT COUNTS. Prove the row's statement (the work); the ties are given (YteldgpkkgnfiaabDoorTie.lean); close each card by the builder's one call (the guide's Derived/Test/ToyasCard.lean, 'card_holds'). Laid BY PROGRAM, IN A SANDBOX (cutbox-door.mjs). By AI agents, Wed Nov 11 2026. No macro, syntax, notation, axiom, sorry.
-/
import Derived.Test.YteldgpkkgnfiaabDoorRows
import GoSem.ClaimSeven
namespace Go.Proofs.YteldgpkkgnfiaabDoor
namespace Rows

/-- THE TIED CARD OF 'gatepostkeep.AskAgain'. -/
def askAgainCard : Claim7 := { stood := { row := askAgainRow, standIns := [], harness := (true, "1a023798d38238d2244ac689738e07a26f23acd3ecaf646785ebcea8e6d01462"), looks := false }, kinds := [], alts := [], laidByText := true, laidKinds := [.data, .pinned], laidTests := true, laidLooks := .later }
def AskAgainCardSaid : Prop := Claim7.holds Tryd.pinned (.plain (OpenSpec.ofChange askAgainSpec)) askAgainCard

/-- THE TIED CARD OF 'gatepostkeep.AskBest'. -/
def askBestCard : Claim7 := { stood := { row := askBestRow, standIns := [], harness := (true, "1a023798d38238d2244ac689738e07a26f23acd3ecaf646785ebcea8e6d01462"), looks := false }, kinds := [], alts := [], laidByText := true, laidKinds := [.data, .pinned], laidTests := true, laidLooks := .later }
def AskBestCardSaid : Prop := Claim7.holds Tryd.pinned (.plain (OpenSpec.ofChange askBestSpec)) askBestCard

/-- THE SECOND FORM's CARD OF 'gatepostkeep.AskAgain'. -/
def askAgainUptoCard : Claim7 := { stood := { row := askAgainUptoRow, standIns := [], harness := (true, "1a023798d38238d2244ac689738e07a26f23acd3ecaf646785ebcea8e6d01462"), looks := false }, kinds := [], alts := [], laidByText := true, laidKinds := [.data, .pinned], laidTests := true, laidLooks := .later }
def AskAgainUptoCardSaid : Prop := Claim7.holds Tryd.pinned (.plain (OpenSpec.upto askAgainSpec)) askAgainUptoCard

/-- THE SECOND FORM's CARD OF 'gatepostkeep.AskBest'. -/
def askBestUptoCard : Claim7 := { stood := { row := askBestUptoRow, standIns := [], harness := (true, "1a023798d38238d2244ac689738e07a26f23acd3ecaf646785ebcea8e6d01462"), looks := false }, kinds := [], alts := [], laidByText := true, laidKinds := [.data, .pinned], laidTests := true, laidLooks := .later }
def AskBestUptoCardSaid : Prop := Claim7.holds Tryd.pinned (.plain (OpenSpec.upto askBestSpec)) askBestUptoCard
end Rows
end Go.Proofs.YteldgpkkgnfiaabDoor
