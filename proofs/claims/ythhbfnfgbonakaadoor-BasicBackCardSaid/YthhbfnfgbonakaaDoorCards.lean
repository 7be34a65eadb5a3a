/-
  DERIVED. GIVEN WITH THE SEED: THE CARDS: each row of YthhbfnfgbonakaaDoorRows.lean that lists a variable, with what it lists TIED to the program's text (the seventh form; the later family's looks); each row that meets fmt, with fmt's text TOLD by the authors' own Lean function (tested against real Go, not proved from fmt's source: count such statements apart). THE CARD IS WHAT COUNTS. Prove the row's statement (the work); the ties are given (YthhbfnfgbonakaaDoorTie.lean); close each card by the builder's one call (the guide's Derived/Test/ToyasCard.lean, 'card_holds'). Laid BY PROGRAM, IN A SANDBOX (cutbox-door.mjs). By AI agents, Wed Nov 11 2026. No macro, syntax, notation, axiom, sorry.
-/
import Derived.Test.YthhbfnfgbonakaaDoorRows
import GoSem.ClaimSeven
namespace Go.Proofs.YthhbfnfgbonakaaDoor
namespace Rows

/-- THE TIED CARD OF 'gatepostlaw.ProofCounts'. -/
def proofCountsCard : Claim7 := { stood := { row := proofCountsRow, standIns := [], harness := (true, "ba5a301e6df91b783a90a2697486ae471ec697fab2d530f14bb3f2e488a447e7"), looks := false }, kinds := [], alts := [], laidByText := true, laidKinds := [.data, .data, .data], laidTests := true, laidLooks := .later }
def ProofCountsCardSaid : Prop := Claim7.holds Tryd.pinned (.plain (OpenSpec.ofChange proofCountsSpec)) proofCountsCard

/-- THE TIED CARD OF 'gatepostkeep.BasicBack'. -/
def basicBackCard : Claim7 := { stood := { row := basicBackRow, standIns := [], harness := (true, "ba5a301e6df91b783a90a2697486ae471ec697fab2d530f14bb3f2e488a447e7"), looks := false }, kinds := [], alts := [], laidByText := true, laidKinds := [.data, .data, .data, .data, .data, .data, .data], laidTests := true, laidLooks := .later }
def BasicBackCardSaid : Prop := Claim7.holds Tryd.pinned (.plain (OpenSpec.ofChange basicBackSpec)) basicBackCard

/-- THE TIED CARD OF 'gatepostkeep.CountOrder'. -/
def countOrderCard : Claim7 := { stood := { row := countOrderRow, standIns := [], harness := (true, "ba5a301e6df91b783a90a2697486ae471ec697fab2d530f14bb3f2e488a447e7"), looks := false }, kinds := [], alts := [], laidByText := true, laidKinds := [.data, .data, .data, .data, .data, .data, .data], laidTests := true, laidLooks := .later }
def CountOrderCardSaid : Prop := Claim7.holds Tryd.pinned (.plain (OpenSpec.ofChange countOrderSpec)) countOrderCard

/-- THE SECOND FORM's CARD OF 'gatepostlaw.ProofCounts'. -/
def proofCountsUptoCard : Claim7 := { stood := { row := proofCountsUptoRow, standIns := [], harness := (true, "ba5a301e6df91b783a90a2697486ae471ec697fab2d530f14bb3f2e488a447e7"), looks := false }, kinds := [], alts := [], laidByText := true, laidKinds := [.data, .data, .data], laidTests := true, laidLooks := .later }
def ProofCountsUptoCardSaid : Prop := Claim7.holds Tryd.pinned (.plain (OpenSpec.upto proofCountsSpec)) proofCountsUptoCard

/-- THE SECOND FORM's CARD OF 'gatepostkeep.BasicBack'. -/
def basicBackUptoCard : Claim7 := { stood := { row := basicBackUptoRow, standIns := [], harness := (true, "ba5a301e6df91b783a90a2697486ae471ec697fab2d530f14bb3f2e488a447e7"), looks := false }, kinds := [], alts := [], laidByText := true, laidKinds := [.data, .data, .data, .data, .data, .data, .data], laidTests := true, laidLooks := .later }
def BasicBackUptoCardSaid : Prop := Claim7.holds Tryd.pinned (.plain (OpenSpec.upto basicBackSpec)) basicBackUptoCard

/-- THE SECOND FORM's CARD OF 'gatepostkeep.CountOrder'. -/
def countOrderUptoCard : Claim7 := { stood := { row := countOrderUptoRow, standIns := [], harness := (true, "ba5a301e6df91b783a90a2697486ae471ec697fab2d530f14bb3f2e488a447e7"), looks := false }, kinds := [], alts := [], laidByText := true, laidKinds := [.data, .data, .data, .data, .data, .data, .data], laidTests := true, laidLooks := .later }
def CountOrderUptoCardSaid : Prop := Claim7.holds Tryd.pinned (.plain (OpenSpec.upto countOrderSpec)) countOrderUptoCard
end Rows
end Go.Proofs.YthhbfnfgbonakaaDoor
