/-
  No cell of these rows narrows 'for every input' (looked for: loops, veiled, ifaces, maps, wideKeys, modest, calm, conditions, laid).
  DERIVED. THE GIVEN ROWS OF THIS SEAT. 6 by the template 'for every input the law returns true; each argument reads behind the call as it read before'; 0 by the template 'total and deterministic' (their statements: YtjadmldnpdmamaaTotals.lean).
  GIVEN WITH THE SEED: the statements are not yours to turn. If you find one false, say at which input.
  Laid BY PROGRAM, IN A SANDBOX (cutbox-rows.mjs): the forced cells as the released guide's own fill.sh prints them over the translation ae1f0b34472c5c9d… (all of the seat's roots in one cut). By AI agents, Wed Nov 11 2026. No macro, syntax, notation, axiom, sorry.
-/
import Derived.Test.YtjadmldnpdmamaaChecked
import GoSem.Claim
import GoSem.ClaimJoined
import GoSem.ClaimMapViews
import Derived.JoinedTies
import Derived.KernelRfl
namespace Go.Proofs.Ytjadmldnpdmamaa
/- THE CELL 'sum', in the pinned program and in every row, IS THE sha256 OF THE DUMP (.gsa) THAT YtjadmldnpdmamaaProg.lean LOADS. Nothing in Lean hashes anything: it is a label: what it is worth is what the hold of that sum in a sandbox is worth. -/
noncomputable def Try.pinned : Pinned := { name := "ytjadmldnpdmamaa", sum := "ae1f0b34472c5c9d6aeea8fe714a47f7b8d65c5d097f88247b7a098f8a93559e", checked := Try.checked }
namespace Rows
def none {H : Type} : Left H := { results := [], args := [] }

/-- 'gatepostkeep.BankSwept': WHATEVER THE INPUT: true; the input reads as it did. -/
def bankSweptSpec : ChangeSpec := { name := "bankSwept", fn := fun _ => fun
  | [d1, d2, d3] => { results := [.lit (.bool true)], args := [d1, d2, d3] }
  | _ => none }
def bankSweptRow : OpenClaim := { program := "ytjadmldnpdmamaa", sum := "ae1f0b34472c5c9d6aeea8fe714a47f7b8d65c5d097f88247b7a098f8a93559e", func := "gatepost/gatepostkeep.BankSwept", spec := "bankSwept", unfollowed := true, recurses := true, apart := false }
def BankSweptSaid : Prop := bankSweptRow.holds Try.pinned (OpenSpec.ofChange bankSweptSpec)

/-- ITS FALSE NEIGHBOUR: 'it returns false'. Refute it at one input. -/
def bankSweptWrong : ChangeSpec := { name := "bankSwept", fn := fun _ => fun
  | [d1, d2, d3] => { results := [.lit (.bool false)], args := [d1, d2, d3] }
  | _ => none }
def BankSweptWrongFalsely : Prop := bankSweptRow.holds Try.pinned (OpenSpec.ofChange bankSweptWrong)

/-- 'gatepostkeep.BankTakes': WHATEVER THE INPUT: true; the input reads as it did. -/
def bankTakesSpec : ChangeSpec := { name := "bankTakes", fn := fun _ => fun
  | [d1, d2, d3] => { results := [.lit (.bool true)], args := [d1, d2, d3] }
  | _ => none }
def bankTakesRow : OpenClaim := { program := "ytjadmldnpdmamaa", sum := "ae1f0b34472c5c9d6aeea8fe714a47f7b8d65c5d097f88247b7a098f8a93559e", func := "gatepost/gatepostkeep.BankTakes", spec := "bankTakes", unfollowed := true, recurses := true, apart := false }
def BankTakesSaid : Prop := bankTakesRow.holds Try.pinned (OpenSpec.ofChange bankTakesSpec)

/-- ITS FALSE NEIGHBOUR: 'it returns false'. Refute it at one input. -/
def bankTakesWrong : ChangeSpec := { name := "bankTakes", fn := fun _ => fun
  | [d1, d2, d3] => { results := [.lit (.bool false)], args := [d1, d2, d3] }
  | _ => none }
def BankTakesWrongFalsely : Prop := bankTakesRow.holds Try.pinned (OpenSpec.ofChange bankTakesWrong)

/-- 'gatepostkeep.BankOnce': WHATEVER THE INPUT: true; the input reads as it did. -/
def bankOnceSpec : ChangeSpec := { name := "bankOnce", fn := fun _ => fun
  | [d] => { results := [.lit (.bool true)], args := [d] }
  | _ => none }
def bankOnceRow : OpenClaim := { program := "ytjadmldnpdmamaa", sum := "ae1f0b34472c5c9d6aeea8fe714a47f7b8d65c5d097f88247b7a098f8a93559e", func := "gatepost/gatepostkeep.BankOnce", spec := "bankOnce", unfollowed := true, recurses := true, apart := false }
def BankOnceSaid : Prop := bankOnceRow.holds Try.pinned (OpenSpec.ofChange bankOnceSpec)

/-- ITS FALSE NEIGHBOUR: 'it returns false'. Refute it at one input. -/
def bankOnceWrong : ChangeSpec := { name := "bankOnce", fn := fun _ => fun
  | [d] => { results := [.lit (.bool false)], args := [d] }
  | _ => none }
def BankOnceWrongFalsely : Prop := bankOnceRow.holds Try.pinned (OpenSpec.ofChange bankOnceWrong)

/-- 'gatepostkeep.BankFarthest': WHATEVER THE INPUT: true; the input reads as it did. -/
def bankFarthestSpec : ChangeSpec := { name := "bankFarthest", fn := fun _ => fun
  | [d1, d2, d3, d4] => { results := [.lit (.bool true)], args := [d1, d2, d3, d4] }
  | _ => none }
def bankFarthestRow : OpenClaim := { program := "ytjadmldnpdmamaa", sum := "ae1f0b34472c5c9d6aeea8fe714a47f7b8d65c5d097f88247b7a098f8a93559e", func := "gatepost/gatepostkeep.BankFarthest", spec := "bankFarthest", unfollowed := true, recurses := true, apart := false }
def BankFarthestSaid : Prop := bankFarthestRow.holds Try.pinned (OpenSpec.ofChange bankFarthestSpec)

/-- ITS FALSE NEIGHBOUR: 'it returns false'. Refute it at one input. -/
def bankFarthestWrong : ChangeSpec := { name := "bankFarthest", fn := fun _ => fun
  | [d1, d2, d3, d4] => { results := [.lit (.bool false)], args := [d1, d2, d3, d4] }
  | _ => none }
def BankFarthestWrongFalsely : Prop := bankFarthestRow.holds Try.pinned (OpenSpec.ofChange bankFarthestWrong)

/-- 'gatepostkeep.BankApart': WHATEVER THE INPUT: true; the input reads as it did. -/
def bankApartSpec : ChangeSpec := { name := "bankApart", fn := fun _ => fun
  | [d1, d2] => { results := [.lit (.bool true)], args := [d1, d2] }
  | _ => none }
def bankApartRow : OpenClaim := { program := "ytjadmldnpdmamaa", sum := "ae1f0b34472c5c9d6aeea8fe714a47f7b8d65c5d097f88247b7a098f8a93559e", func := "gatepost/gatepostkeep.BankApart", spec := "bankApart", unfollowed := true, recurses := true, apart := false }
def BankApartSaid : Prop := bankApartRow.holds Try.pinned (OpenSpec.ofChange bankApartSpec)

/-- ITS FALSE NEIGHBOUR: 'it returns false'. Refute it at one input. -/
def bankApartWrong : ChangeSpec := { name := "bankApart", fn := fun _ => fun
  | [d1, d2] => { results := [.lit (.bool false)], args := [d1, d2] }
  | _ => none }
def BankApartWrongFalsely : Prop := bankApartRow.holds Try.pinned (OpenSpec.ofChange bankApartWrong)

/-- 'gatepostkeep.SpaceHolds': WHATEVER THE INPUT: true; the input reads as it did. -/
def spaceHoldsSpec : ChangeSpec := { name := "spaceHolds", fn := fun _ => fun
  | [d1, d2, d3] => { results := [.lit (.bool true)], args := [d1, d2, d3] }
  | _ => none }
def spaceHoldsRow : OpenClaim := { program := "ytjadmldnpdmamaa", sum := "ae1f0b34472c5c9d6aeea8fe714a47f7b8d65c5d097f88247b7a098f8a93559e", func := "gatepost/gatepostkeep.SpaceHolds", spec := "spaceHolds", unfollowed := true, recurses := true, apart := false }
def SpaceHoldsSaid : Prop := spaceHoldsRow.holds Try.pinned (OpenSpec.ofChange spaceHoldsSpec)

/-- ITS FALSE NEIGHBOUR: 'it returns false'. Refute it at one input. -/
def spaceHoldsWrong : ChangeSpec := { name := "spaceHolds", fn := fun _ => fun
  | [d1, d2, d3] => { results := [.lit (.bool false)], args := [d1, d2, d3] }
  | _ => none }
def SpaceHoldsWrongFalsely : Prop := spaceHoldsRow.holds Try.pinned (OpenSpec.ofChange spaceHoldsWrong)

/- THE SECOND FORM. 'bulk': how many values and letters a reading holds, each counted each time it is reached (what is shared counts as often as it is met; a slice's spare places count too). A statement '..UptoSaid' is the law's where the arguments, and the package variables that the reading takes, are together of bulk at most 1048576: NARROWER than '..Said'. Prove '..Said' where nothing that the law and all that it calls make is longer than what came in: it says more and counts as full. Else prove '..UptoSaid'. A law counts once. -/
mutual
def uptoBulk {H : Type} : DataW H → Nat
  | .lit (.string bytes) => bytes.length + 1
  | .lit _ => 1
  | .nil => 1
  | .ptr d => uptoBulk d + 1
  | .slice elems spare => uptoBulkAll elems + uptoBulkAll spare + 1
  | .agg parts => uptoBulkAll parts + 1
  | .iface _ d => uptoBulk d + 1
  | .map entries => uptoBulkEntries entries + 1
  | .held _ => 1
def uptoBulkAll {H : Type} : List (DataW H) → Nat
  | [] => 0
  | d :: r => uptoBulk d + uptoBulkAll r
def uptoBulkEntries {H : Type} : List (Lit × DataW H) → Nat
  | [] => 0
  | x :: r => uptoBulkEntry x + uptoBulkEntries r
def uptoBulkEntry {H : Type} : Lit × DataW H → Nat
  | (.string bytes, d) => bytes.length + uptoBulk d + 1
  | (_, d) => uptoBulk d + 1
 end
def uptoSmall : (H : Type) → List (DataW H) → Bool := fun _ ds => decide (uptoBulkAll ds ≤ 1048576)
def OpenSpec.upto (s : _root_.Go.ChangeSpec) : _root_.Go.OpenSpec := { _root_.Go.OpenSpec.ofChange s with cond := some uptoSmall }

/-- 'gatepostkeep.BankSwept', WHERE WHAT IT READS IS OF BULK AT MOST 1048576: true; the input reads as it did. -/
def bankSweptUptoRow : OpenClaim := { program := "ytjadmldnpdmamaa", sum := "ae1f0b34472c5c9d6aeea8fe714a47f7b8d65c5d097f88247b7a098f8a93559e", func := "gatepost/gatepostkeep.BankSwept", spec := "bankSwept", unfollowed := true, recurses := true, apart := false, narrowed := true }
def BankSweptUptoSaid : Prop := bankSweptUptoRow.holds Try.pinned (OpenSpec.upto bankSweptSpec)

/-- 'gatepostkeep.BankTakes', WHERE WHAT IT READS IS OF BULK AT MOST 1048576: true; the input reads as it did. -/
def bankTakesUptoRow : OpenClaim := { program := "ytjadmldnpdmamaa", sum := "ae1f0b34472c5c9d6aeea8fe714a47f7b8d65c5d097f88247b7a098f8a93559e", func := "gatepost/gatepostkeep.BankTakes", spec := "bankTakes", unfollowed := true, recurses := true, apart := false, narrowed := true }
def BankTakesUptoSaid : Prop := bankTakesUptoRow.holds Try.pinned (OpenSpec.upto bankTakesSpec)

/-- 'gatepostkeep.BankOnce', WHERE WHAT IT READS IS OF BULK AT MOST 1048576: true; the input reads as it did. -/
def bankOnceUptoRow : OpenClaim := { program := "ytjadmldnpdmamaa", sum := "ae1f0b34472c5c9d6aeea8fe714a47f7b8d65c5d097f88247b7a098f8a93559e", func := "gatepost/gatepostkeep.BankOnce", spec := "bankOnce", unfollowed := true, recurses := true, apart := false, narrowed := true }
def BankOnceUptoSaid : Prop := bankOnceUptoRow.holds Try.pinned (OpenSpec.upto bankOnceSpec)

/-- 'gatepostkeep.BankFarthest', WHERE WHAT IT READS IS OF BULK AT MOST 1048576: true; the input reads as it did. -/
def bankFarthestUptoRow : OpenClaim := { program := "ytjadmldnpdmamaa", sum := "ae1f0b34472c5c9d6aeea8fe714a47f7b8d65c5d097f88247b7a098f8a93559e", func := "gatepost/gatepostkeep.BankFarthest", spec := "bankFarthest", unfollowed := true, recurses := true, apart := false, narrowed := true }
def BankFarthestUptoSaid : Prop := bankFarthestUptoRow.holds Try.pinned (OpenSpec.upto bankFarthestSpec)

/-- 'gatepostkeep.BankApart', WHERE WHAT IT READS IS OF BULK AT MOST 1048576: true; the input reads as it did. -/
def bankApartUptoRow : OpenClaim := { program := "ytjadmldnpdmamaa", sum := "ae1f0b34472c5c9d6aeea8fe714a47f7b8d65c5d097f88247b7a098f8a93559e", func := "gatepost/gatepostkeep.BankApart", spec := "bankApart", unfollowed := true, recurses := true, apart := false, narrowed := true }
def BankApartUptoSaid : Prop := bankApartUptoRow.holds Try.pinned (OpenSpec.upto bankApartSpec)

/-- 'gatepostkeep.SpaceHolds', WHERE WHAT IT READS IS OF BULK AT MOST 1048576: true; the input reads as it did. -/
def spaceHoldsUptoRow : OpenClaim := { program := "ytjadmldnpdmamaa", sum := "ae1f0b34472c5c9d6aeea8fe714a47f7b8d65c5d097f88247b7a098f8a93559e", func := "gatepost/gatepostkeep.SpaceHolds", spec := "spaceHolds", unfollowed := true, recurses := true, apart := false, narrowed := true }
def SpaceHoldsUptoSaid : Prop := spaceHoldsUptoRow.holds Try.pinned (OpenSpec.upto spaceHoldsSpec)

end Rows
end Go.Proofs.Ytjadmldnpdmamaa
