/-
  No cell of these rows narrows 'for every input' (looked for: loops, veiled, ifaces, maps, wideKeys, modest, calm, conditions, laid).
  DERIVED. THE GIVEN ROWS OF THIS SEAT. 4 by the template 'for every input the law returns true; each argument reads behind the call as it read before'; 0 by the template 'total and deterministic' (their statements: YtkokdoodaoijoabTotals.lean).
  GIVEN WITH THE SEED: the statements are not yours to turn. If you find one false, say at which input.
  Laid BY PROGRAM, IN A SANDBOX (cutbox-rows.mjs): the forced cells as the released guide's own fill.sh prints them over the translation 4b27728b2889959d… (all of the seat's roots in one cut). By AI agents, Wed Nov 11 2026. No macro, syntax, notation, axiom, sorry.
-/
import Derived.Test.YtkokdoodaoijoabChecked
import GoSem.Claim
import GoSem.ClaimJoined
import GoSem.ClaimMapViews
import Derived.JoinedTies
import Derived.KernelRfl
namespace Go.Proofs.Ytkokdoodaoijoab
/- THE CELL 'sum', in the pinned program and in every row, IS THE sha256 OF THE DUMP (.gsa) THAT YtkokdoodaoijoabProg.lean LOADS. Nothing in Lean hashes anything: it is a label: what it is worth is what the hold of that sum in a sandbox is worth. -/
noncomputable def Try.pinned : Pinned := { name := "ytkokdoodaoijoab", sum := "4b27728b2889959d5ca9f90c1f2f3c2fed28d1c24dfddf47f288557d15aa71b1", checked := Try.checked }
namespace Rows
def none {H : Type} : Left H := { results := [], args := [] }

/-- 'gatepostkeep.HexPieces': WHATEVER THE INPUT: true; the input reads as it did. -/
def hexPiecesSpec : ChangeSpec := { name := "hexPieces", fn := fun _ => fun
  | [d1, d2] => { results := [.lit (.bool true)], args := [d1, d2] }
  | _ => none }
def hexPiecesRow : OpenClaim := { program := "ytkokdoodaoijoab", sum := "4b27728b2889959d5ca9f90c1f2f3c2fed28d1c24dfddf47f288557d15aa71b1", func := "gatepost/gatepostkeep.HexPieces", spec := "hexPieces", inPlace := ["internal/bytealg.IndexByteString"], apart := false }
def HexPiecesSaid : Prop := hexPiecesRow.holds Try.pinned (OpenSpec.ofChange hexPiecesSpec)

/-- ITS FALSE NEIGHBOUR: 'it returns false'. Refute it at one input. -/
def hexPiecesWrong : ChangeSpec := { name := "hexPieces", fn := fun _ => fun
  | [d1, d2] => { results := [.lit (.bool false)], args := [d1, d2] }
  | _ => none }
def HexPiecesWrongFalsely : Prop := hexPiecesRow.holds Try.pinned (OpenSpec.ofChange hexPiecesWrong)

/-- 'gatepostkeep.BaseBack': WHATEVER THE INPUT: true; the input reads as it did. -/
def baseBackSpec : ChangeSpec := { name := "baseBack", fn := fun _ => fun
  | [d1, d2] => { results := [.lit (.bool true)], args := [d1, d2] }
  | _ => none }
def baseBackRow : OpenClaim := { program := "ytkokdoodaoijoab", sum := "4b27728b2889959d5ca9f90c1f2f3c2fed28d1c24dfddf47f288557d15aa71b1", func := "gatepost/gatepostkeep.BaseBack", spec := "baseBack", inPlace := ["internal/bytealg.IndexByteString"], apart := false }
def BaseBackSaid : Prop := baseBackRow.holds Try.pinned (OpenSpec.ofChange baseBackSpec)

/-- ITS FALSE NEIGHBOUR: 'it returns false'. Refute it at one input. -/
def baseBackWrong : ChangeSpec := { name := "baseBack", fn := fun _ => fun
  | [d1, d2] => { results := [.lit (.bool false)], args := [d1, d2] }
  | _ => none }
def BaseBackWrongFalsely : Prop := baseBackRow.holds Try.pinned (OpenSpec.ofChange baseBackWrong)

/-- 'gatepostkeep.BasePieces': WHATEVER THE INPUT: true; the input reads as it did. -/
def basePiecesSpec : ChangeSpec := { name := "basePieces", fn := fun _ => fun
  | [d1, d2] => { results := [.lit (.bool true)], args := [d1, d2] }
  | _ => none }
def basePiecesRow : OpenClaim := { program := "ytkokdoodaoijoab", sum := "4b27728b2889959d5ca9f90c1f2f3c2fed28d1c24dfddf47f288557d15aa71b1", func := "gatepost/gatepostkeep.BasePieces", spec := "basePieces", inPlace := ["internal/bytealg.IndexByteString"], apart := false }
def BasePiecesSaid : Prop := basePiecesRow.holds Try.pinned (OpenSpec.ofChange basePiecesSpec)

/-- ITS FALSE NEIGHBOUR: 'it returns false'. Refute it at one input. -/
def basePiecesWrong : ChangeSpec := { name := "basePieces", fn := fun _ => fun
  | [d1, d2] => { results := [.lit (.bool false)], args := [d1, d2] }
  | _ => none }
def BasePiecesWrongFalsely : Prop := basePiecesRow.holds Try.pinned (OpenSpec.ofChange basePiecesWrong)

/-- 'gatepostkeep.LowerTwice': WHATEVER THE INPUT: true; the input reads as it did. -/
def lowerTwiceSpec : ChangeSpec := { name := "lowerTwice", fn := fun _ => fun
  | [d1, d2] => { results := [.lit (.bool true)], args := [d1, d2] }
  | _ => none }
def lowerTwiceRow : OpenClaim := { program := "ytkokdoodaoijoab", sum := "4b27728b2889959d5ca9f90c1f2f3c2fed28d1c24dfddf47f288557d15aa71b1", func := "gatepost/gatepostkeep.LowerTwice", spec := "lowerTwice", inPlace := ["internal/bytealg.IndexByteString", "internal/bytealg.IndexString"], named := ["internal/bytealg.MaxLen"], apart := false }
def LowerTwiceSaid : Prop := lowerTwiceRow.holds Try.pinned (OpenSpec.ofChange lowerTwiceSpec)

/-- ITS FALSE NEIGHBOUR: 'it returns false'. Refute it at one input. -/
def lowerTwiceWrong : ChangeSpec := { name := "lowerTwice", fn := fun _ => fun
  | [d1, d2] => { results := [.lit (.bool false)], args := [d1, d2] }
  | _ => none }
def LowerTwiceWrongFalsely : Prop := lowerTwiceRow.holds Try.pinned (OpenSpec.ofChange lowerTwiceWrong)

/- THE SECOND FORM. 'bulk': how many values and letters a reading holds, each counted each time it is reached (what is shared counts as often as it is met; a slice's spare places count too). A statement '..UptoSaid' is the law's where the arguments, and the package variables that the reading takes, are together of bulk at most 1048576: NARROWER than '..Said'. Prove '..Said' where nothing that the law and all that it calls make is longer than what came in: it says more and counts as full. Else prove '..UptoSaid'. A law counts once. -/
mutual
def uptoBulk {H : Type} : DataW H → Nat
  | .lit (.string bytes) => bytes.length + 1
  | .lit _ => 1
  | .nil => 1
  | .ptr d => uptoBulk d + 1
  | .slice elems spare => uptoBulkAll elems + uptoBulkAll spare + 1
  | .agg parts => uptoBulkAll parts + 1
  | .iface _ d => uptoBulk d + 1
  | .map entries => uptoBulkEntries entries + 1
  | .held _ => 1
def uptoBulkAll {H : Type} : List (DataW H) → Nat
  | [] => 0
  | d :: r => uptoBulk d + uptoBulkAll r
def uptoBulkEntries {H : Type} : List (Lit × DataW H) → Nat
  | [] => 0
  | x :: r => uptoBulkEntry x + uptoBulkEntries r
def uptoBulkEntry {H : Type} : Lit × DataW H → Nat
  | (.string bytes, d) => bytes.length + uptoBulk d + 1
  | (_, d) => uptoBulk d + 1
 end
def uptoSmall : (H : Type) → List (DataW H) → Bool := fun _ ds => decide (uptoBulkAll ds ≤ 1048576)
def OpenSpec.upto (s : _root_.Go.ChangeSpec) : _root_.Go.OpenSpec := { _root_.Go.OpenSpec.ofChange s with cond := some uptoSmall }

/-- 'gatepostkeep.HexPieces', WHERE WHAT IT READS IS OF BULK AT MOST 1048576: true; the input reads as it did. -/
def hexPiecesUptoRow : OpenClaim := { program := "ytkokdoodaoijoab", sum := "4b27728b2889959d5ca9f90c1f2f3c2fed28d1c24dfddf47f288557d15aa71b1", func := "gatepost/gatepostkeep.HexPieces", spec := "hexPieces", inPlace := ["internal/bytealg.IndexByteString"], apart := false, narrowed := true }
def HexPiecesUptoSaid : Prop := hexPiecesUptoRow.holds Try.pinned (OpenSpec.upto hexPiecesSpec)

/-- 'gatepostkeep.BaseBack', WHERE WHAT IT READS IS OF BULK AT MOST 1048576: true; the input reads as it did. -/
def baseBackUptoRow : OpenClaim := { program := "ytkokdoodaoijoab", sum := "4b27728b2889959d5ca9f90c1f2f3c2fed28d1c24dfddf47f288557d15aa71b1", func := "gatepost/gatepostkeep.BaseBack", spec := "baseBack", inPlace := ["internal/bytealg.IndexByteString"], apart := false, narrowed := true }
def BaseBackUptoSaid : Prop := baseBackUptoRow.holds Try.pinned (OpenSpec.upto baseBackSpec)

/-- 'gatepostkeep.BasePieces', WHERE WHAT IT READS IS OF BULK AT MOST 1048576: true; the input reads as it did. -/
def basePiecesUptoRow : OpenClaim := { program := "ytkokdoodaoijoab", sum := "4b27728b2889959d5ca9f90c1f2f3c2fed28d1c24dfddf47f288557d15aa71b1", func := "gatepost/gatepostkeep.BasePieces", spec := "basePieces", inPlace := ["internal/bytealg.IndexByteString"], apart := false, narrowed := true }
def BasePiecesUptoSaid : Prop := basePiecesUptoRow.holds Try.pinned (OpenSpec.upto basePiecesSpec)

/-- 'gatepostkeep.LowerTwice', WHERE WHAT IT READS IS OF BULK AT MOST 1048576: true; the input reads as it did. -/
def lowerTwiceUptoRow : OpenClaim := { program := "ytkokdoodaoijoab", sum := "4b27728b2889959d5ca9f90c1f2f3c2fed28d1c24dfddf47f288557d15aa71b1", func := "gatepost/gatepostkeep.LowerTwice", spec := "lowerTwice", inPlace := ["internal/bytealg.IndexByteString", "internal/bytealg.IndexString"], named := ["internal/bytealg.MaxLen"], apart := false, narrowed := true }
def LowerTwiceUptoSaid : Prop := lowerTwiceUptoRow.holds Try.pinned (OpenSpec.upto lowerTwiceSpec)

end Rows
end Go.Proofs.Ytkokdoodaoijoab
