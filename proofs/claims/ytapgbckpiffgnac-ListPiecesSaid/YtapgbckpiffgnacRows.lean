/-
  No cell of these rows narrows 'for every input' (looked for: loops, veiled, ifaces, maps, wideKeys, modest, calm, conditions, laid).
  DERIVED. THE GIVEN ROWS OF THIS SEAT. 3 by the template 'for every input the law returns true; each argument reads behind the call as it read before'; 0 by the template 'total and deterministic' (their statements: YtapgbckpiffgnacTotals.lean).
  GIVEN WITH THE SEED: the statements are not yours to turn. If you find one false, say at which input.
  Laid BY PROGRAM, IN A SANDBOX (cutbox-rows.mjs): the forced cells as the released guide's own fill.sh prints them over the translation 3730722a5641e4d8… (all of the seat's roots in one cut). By AI agents, Wed Nov 11 2026. No macro, syntax, notation, axiom, sorry.
-/
import Derived.Test.YtapgbckpiffgnacChecked
import GoSem.Claim
import GoSem.ClaimJoined
import GoSem.ClaimMapViews
import Derived.JoinedTies
import Derived.KernelRfl
namespace Go.Proofs.Ytapgbckpiffgnac
/- THE CELL 'sum', in the pinned program and in every row, IS THE sha256 OF THE DUMP (.gsa) THAT YtapgbckpiffgnacProg.lean LOADS. Nothing in Lean hashes anything: it is a label: what it is worth is what the hold of that sum in a sandbox is worth. -/
noncomputable def Try.pinned : Pinned := { name := "ytapgbckpiffgnac", sum := "3730722a5641e4d8720da7135e9f446aaecfb5be199c7a0742e33f03a51d9d79", checked := Try.checked }
namespace Rows
def none {H : Type} : Left H := { results := [], args := [] }

/-- 'gatepostkeep.ListBack': WHATEVER THE INPUT: true; the input reads as it did. -/
def listBackSpec : ChangeSpec := { name := "listBack", fn := fun _ => fun
  | [d1, d2] => { results := [.lit (.bool true)], args := [d1, d2] }
  | _ => none }
def listBackRow : OpenClaim := { program := "ytapgbckpiffgnac", sum := "3730722a5641e4d8720da7135e9f446aaecfb5be199c7a0742e33f03a51d9d79", func := "gatepost/gatepostkeep.ListBack", spec := "listBack", inPlace := ["internal/bytealg.IndexByteString", "internal/abi.NoEscape"], unfollowed := true, recurses := true, apart := false }
def ListBackSaid : Prop := listBackRow.holds Try.pinned (OpenSpec.ofChange listBackSpec)

/-- ITS FALSE NEIGHBOUR: 'it returns false'. Refute it at one input. -/
def listBackWrong : ChangeSpec := { name := "listBack", fn := fun _ => fun
  | [d1, d2] => { results := [.lit (.bool false)], args := [d1, d2] }
  | _ => none }
def ListBackWrongFalsely : Prop := listBackRow.holds Try.pinned (OpenSpec.ofChange listBackWrong)

/-- 'gatepostkeep.ListPieces': WHATEVER THE INPUT: true; the input reads as it did. -/
def listPiecesSpec : ChangeSpec := { name := "listPieces", fn := fun _ => fun
  | [d1, d2, d3] => { results := [.lit (.bool true)], args := [d1, d2, d3] }
  | _ => none }
def listPiecesRow : OpenClaim := { program := "ytapgbckpiffgnac", sum := "3730722a5641e4d8720da7135e9f446aaecfb5be199c7a0742e33f03a51d9d79", func := "gatepost/gatepostkeep.ListPieces", spec := "listPieces", inPlace := ["internal/bytealg.IndexByteString", "internal/abi.NoEscape", "internal/bytealg.MakeNoZero"], unfollowed := true, recurses := true, apart := false }
def ListPiecesSaid : Prop := listPiecesRow.holds Try.pinned (OpenSpec.ofChange listPiecesSpec)

/-- ITS FALSE NEIGHBOUR: 'it returns false'. Refute it at one input. -/
def listPiecesWrong : ChangeSpec := { name := "listPieces", fn := fun _ => fun
  | [d1, d2, d3] => { results := [.lit (.bool false)], args := [d1, d2, d3] }
  | _ => none }
def ListPiecesWrongFalsely : Prop := listPiecesRow.holds Try.pinned (OpenSpec.ofChange listPiecesWrong)

/-- 'gatepostkeep.SecondsOrder': WHATEVER THE INPUT: true; the input reads as it did. -/
def secondsOrderSpec : ChangeSpec := { name := "secondsOrder", fn := fun _ => fun
  | [d1, d2, d3] => { results := [.lit (.bool true)], args := [d1, d2, d3] }
  | _ => none }
def secondsOrderRow : OpenClaim := { program := "ytapgbckpiffgnac", sum := "3730722a5641e4d8720da7135e9f446aaecfb5be199c7a0742e33f03a51d9d79", func := "gatepost/gatepostkeep.SecondsOrder", spec := "secondsOrder", inPlace := ["internal/bytealg.IndexByteString", "internal/abi.NoEscape", "internal/bytealg.MakeNoZero"], unfollowed := true, recurses := true, apart := false }
def SecondsOrderSaid : Prop := secondsOrderRow.holds Try.pinned (OpenSpec.ofChange secondsOrderSpec)

/-- ITS FALSE NEIGHBOUR: 'it returns false'. Refute it at one input. -/
def secondsOrderWrong : ChangeSpec := { name := "secondsOrder", fn := fun _ => fun
  | [d1, d2, d3] => { results := [.lit (.bool false)], args := [d1, d2, d3] }
  | _ => none }
def SecondsOrderWrongFalsely : Prop := secondsOrderRow.holds Try.pinned (OpenSpec.ofChange secondsOrderWrong)

/- THE SECOND FORM. 'bulk': how many values and letters a reading holds, each counted each time it is reached (what is shared counts as often as it is met; a slice's spare places count too). A statement '..UptoSaid' is the law's where the arguments, and the package variables that the reading takes, are together of bulk at most 1048576: NARROWER than '..Said'. Prove '..Said' where nothing that the law and all that it calls make is longer than what came in: it says more and counts as full. Else prove '..UptoSaid'. A law counts once. -/
mutual
def uptoBulk {H : Type} : DataW H → Nat
  | .lit (.string bytes) => bytes.length + 1
  | .lit _ => 1
  | .nil => 1
  | .ptr d => uptoBulk d + 1
  | .slice elems spare => uptoBulkAll elems + uptoBulkAll spare + 1
  | .agg parts => uptoBulkAll parts + 1
  | .iface _ d => uptoBulk d + 1
  | .map entries => uptoBulkEntries entries + 1
  | .held _ => 1
def uptoBulkAll {H : Type} : List (DataW H) → Nat
  | [] => 0
  | d :: r => uptoBulk d + uptoBulkAll r
def uptoBulkEntries {H : Type} : List (Lit × DataW H) → Nat
  | [] => 0
  | x :: r => uptoBulkEntry x + uptoBulkEntries r
def uptoBulkEntry {H : Type} : Lit × DataW H → Nat
  | (.string bytes, d) => bytes.length + uptoBulk d + 1
  | (_, d) => uptoBulk d + 1
 end
def uptoSmall : (H : Type) → List (DataW H) → Bool := fun _ ds => decide (uptoBulkAll ds ≤ 1048576)
def OpenSpec.upto (s : _root_.Go.ChangeSpec) : _root_.Go.OpenSpec := { _root_.Go.OpenSpec.ofChange s with cond := some uptoSmall }

/-- 'gatepostkeep.ListBack', WHERE WHAT IT READS IS OF BULK AT MOST 1048576: true; the input reads as it did. -/
def listBackUptoRow : OpenClaim := { program := "ytapgbckpiffgnac", sum := "3730722a5641e4d8720da7135e9f446aaecfb5be199c7a0742e33f03a51d9d79", func := "gatepost/gatepostkeep.ListBack", spec := "listBack", inPlace := ["internal/bytealg.IndexByteString", "internal/abi.NoEscape"], unfollowed := true, recurses := true, apart := false, narrowed := true }
def ListBackUptoSaid : Prop := listBackUptoRow.holds Try.pinned (OpenSpec.upto listBackSpec)

/-- 'gatepostkeep.ListPieces', WHERE WHAT IT READS IS OF BULK AT MOST 1048576: true; the input reads as it did. -/
def listPiecesUptoRow : OpenClaim := { program := "ytapgbckpiffgnac", sum := "3730722a5641e4d8720da7135e9f446aaecfb5be199c7a0742e33f03a51d9d79", func := "gatepost/gatepostkeep.ListPieces", spec := "listPieces", inPlace := ["internal/bytealg.IndexByteString", "internal/abi.NoEscape", "internal/bytealg.MakeNoZero"], unfollowed := true, recurses := true, apart := false, narrowed := true }
def ListPiecesUptoSaid : Prop := listPiecesUptoRow.holds Try.pinned (OpenSpec.upto listPiecesSpec)

/-- 'gatepostkeep.SecondsOrder', WHERE WHAT IT READS IS OF BULK AT MOST 1048576: true; the input reads as it did. -/
def secondsOrderUptoRow : OpenClaim := { program := "ytapgbckpiffgnac", sum := "3730722a5641e4d8720da7135e9f446aaecfb5be199c7a0742e33f03a51d9d79", func := "gatepost/gatepostkeep.SecondsOrder", spec := "secondsOrder", inPlace := ["internal/bytealg.IndexByteString", "internal/abi.NoEscape", "internal/bytealg.MakeNoZero"], unfollowed := true, recurses := true, apart := false, narrowed := true }
def SecondsOrderUptoSaid : Prop := secondsOrderUptoRow.holds Try.pinned (OpenSpec.upto secondsOrderSpec)

end Rows
end Go.Proofs.Ytapgbckpiffgnac
