/-
  NARROWER THAN 'FOR EVERY INPUT', by the rows' own cells (each row's printed sentence says how): BookFew: laid · BookOver: laid · BookSound: laid.
  DERIVED. THE GIVEN ROWS OF THIS SEAT. 3 by the template 'for every input the law returns true; each argument reads behind the call as it read before'; 0 by the template 'total and deterministic' (their statements: YtihhabidfcgogaaDoorTotals.lean).
  GIVEN WITH THE SEED: the statements are not yours to turn. If you find one false, say at which input.
  Laid BY PROGRAM, IN A SANDBOX (cutbox-rows.mjs): the forced cells as the released guide's own fill.sh prints them over the translation 75b8f663f5bc5af4… (all of the seat's roots in one cut). By AI agents, Wed Nov 11 2026. No macro, syntax, notation, axiom, sorry.
-/
import Derived.Test.YtihhabidfcgogaaDoorChecked
import GoSem.PinnedTables
import GoSem.Claim
import GoSem.ClaimJoined
import GoSem.ClaimMapViews
import Derived.JoinedTies
import Derived.KernelRfl
namespace Go.Proofs.YtihhabidfcgogaaDoor
/- THE CELL 'sum', in the pinned program and in every row, IS THE sha256 OF THE DUMP (.gsa) THAT YtihhabidfcgogaaDoorProg.lean LOADS. Nothing in Lean hashes anything: it is a label: what it is worth is what the hold of that sum in a sandbox is worth. -/
noncomputable def Tryd.pinned : Pinned := { name := "ytihhabidfcgogaadoor", sum := "75b8f663f5bc5af47a5845577f2ea696feebbe2fb7b92be05426e9b672087545", checked := Tryd.checked }
namespace Rows
def none {H : Type} : Left H := { results := [], args := [] }

/- WHAT THE LISTED PACKAGE-LEVEL VARIABLES READ AS WHEN THE CALL BEGINS. Each datum BY PROGRAM (the guide's laid-datum.mjs) off the statement by which the dump's own 'gosem.cut.vars' lays the variable. In a bare row this is a premise. The card (YtihhabidfcgogaaDoorCards.lean) ties it to the program's text. -/
def laid_unicode_utf8_acceptRanges {H : Type} : DataW H := .agg [.agg [.lit (.int .u8 128), .lit (.int .u8 191)], .agg [.lit (.int .u8 160), .lit (.int .u8 191)], .agg [.lit (.int .u8 128), .lit (.int .u8 159)], .agg [.lit (.int .u8 144), .lit (.int .u8 191)], .agg [.lit (.int .u8 128), .lit (.int .u8 143)], .agg [.lit (.int .u8 0), .lit (.int .u8 0)], .agg [.lit (.int .u8 0), .lit (.int .u8 0)], .agg [.lit (.int .u8 0), .lit (.int .u8 0)], .agg [.lit (.int .u8 0), .lit (.int .u8 0)], .agg [.lit (.int .u8 0), .lit (.int .u8 0)], .agg [.lit (.int .u8 0), .lit (.int .u8 0)], .agg [.lit (.int .u8 0), .lit (.int .u8 0)], .agg [.lit (.int .u8 0), .lit (.int .u8 0)], .agg [.lit (.int .u8 0), .lit (.int .u8 0)], .agg [.lit (.int .u8 0), .lit (.int .u8 0)], .agg [.lit (.int .u8 0), .lit (.int .u8 0)]]
def laid_gatepost_fetch_methods {H : Type} : DataW H := .agg [.lit (.string [68, 69, 76, 69, 84, 69]), .lit (.string [71, 69, 84]), .lit (.string [72, 69, 65, 68]), .lit (.string [79, 80, 84, 73, 79, 78, 83]), .lit (.string [80, 79, 83, 84]), .lit (.string [80, 85, 84])]
/-- One of Go's own tables, pinned by name: the form's constant. -/
def laid_unicode_utf8_first : DataW Unit := Go.Pinned.utf8First

/-- 'gatepostkeep.BookFew': WHATEVER THE INPUT: true; the input reads as it did. -/
def bookFewSpec : ChangeSpec := { name := "bookFew", fn := fun _ => fun
  | [d1, d2, d3, d4] => { results := [.lit (.bool true)], args := [d1, d2, d3, d4] }
  | _ => none }
def bookFewRow : OpenClaim := { program := "ytihhabidfcgogaadoor", sum := "75b8f663f5bc5af47a5845577f2ea696feebbe2fb7b92be05426e9b672087545", func := "gatepost/gatepostkeep.BookFew", spec := "bookFew", inPlace := ["internal/bytealg.IndexByteString", "internal/bytealg.IndexString"], unfollowed := true, recurses := true, named := ["gatepost/fetch.methods", "internal/bytealg.MaxLen", "unicode/utf8.first", "unicode/utf8.acceptRanges"], plainKeys := false, apart := false, laid := [("unicode/utf8.acceptRanges", laid_unicode_utf8_acceptRanges), ("gatepost/fetch.methods", laid_gatepost_fetch_methods), ("unicode/utf8.first", laid_unicode_utf8_first)] }
def BookFewSaid : Prop := bookFewRow.holds Tryd.pinned (OpenSpec.ofChange bookFewSpec)

/-- ITS FALSE NEIGHBOUR: 'it returns false'. Refute it at one input. -/
def bookFewWrong : ChangeSpec := { name := "bookFew", fn := fun _ => fun
  | [d1, d2, d3, d4] => { results := [.lit (.bool false)], args := [d1, d2, d3, d4] }
  | _ => none }
def BookFewWrongFalsely : Prop := bookFewRow.holds Tryd.pinned (OpenSpec.ofChange bookFewWrong)

/-- 'gatepostkeep.BookOver': WHATEVER THE INPUT: true; the input reads as it did. -/
def bookOverSpec : ChangeSpec := { name := "bookOver", fn := fun _ => fun
  | [d1, d2, d3, d4] => { results := [.lit (.bool true)], args := [d1, d2, d3, d4] }
  | _ => none }
def bookOverRow : OpenClaim := { program := "ytihhabidfcgogaadoor", sum := "75b8f663f5bc5af47a5845577f2ea696feebbe2fb7b92be05426e9b672087545", func := "gatepost/gatepostkeep.BookOver", spec := "bookOver", inPlace := ["internal/bytealg.IndexByteString", "internal/bytealg.IndexString"], unfollowed := true, recurses := true, named := ["gatepost/fetch.methods", "internal/bytealg.MaxLen", "unicode/utf8.first", "unicode/utf8.acceptRanges"], plainKeys := false, apart := false, laid := [("unicode/utf8.acceptRanges", laid_unicode_utf8_acceptRanges), ("gatepost/fetch.methods", laid_gatepost_fetch_methods), ("unicode/utf8.first", laid_unicode_utf8_first)] }
def BookOverSaid : Prop := bookOverRow.holds Tryd.pinned (OpenSpec.ofChange bookOverSpec)

/-- ITS FALSE NEIGHBOUR: 'it returns false'. Refute it at one input. -/
def bookOverWrong : ChangeSpec := { name := "bookOver", fn := fun _ => fun
  | [d1, d2, d3, d4] => { results := [.lit (.bool false)], args := [d1, d2, d3, d4] }
  | _ => none }
def BookOverWrongFalsely : Prop := bookOverRow.holds Tryd.pinned (OpenSpec.ofChange bookOverWrong)

/-- 'gatepostkeep.BookSound': WHATEVER THE INPUT: true; the input reads as it did. -/
def bookSoundSpec : ChangeSpec := { name := "bookSound", fn := fun _ => fun
  | [d1, d2, d3] => { results := [.lit (.bool true)], args := [d1, d2, d3] }
  | _ => none }
def bookSoundRow : OpenClaim := { program := "ytihhabidfcgogaadoor", sum := "75b8f663f5bc5af47a5845577f2ea696feebbe2fb7b92be05426e9b672087545", func := "gatepost/gatepostkeep.BookSound", spec := "bookSound", inPlace := ["internal/bytealg.IndexByteString", "internal/bytealg.IndexString"], unfollowed := true, recurses := true, named := ["gatepost/fetch.methods", "internal/bytealg.MaxLen", "unicode/utf8.first", "unicode/utf8.acceptRanges"], plainKeys := false, apart := false, laid := [("unicode/utf8.acceptRanges", laid_unicode_utf8_acceptRanges), ("gatepost/fetch.methods", laid_gatepost_fetch_methods), ("unicode/utf8.first", laid_unicode_utf8_first)] }
def BookSoundSaid : Prop := bookSoundRow.holds Tryd.pinned (OpenSpec.ofChange bookSoundSpec)

/-- ITS FALSE NEIGHBOUR: 'it returns false'. Refute it at one input. -/
def bookSoundWrong : ChangeSpec := { name := "bookSound", fn := fun _ => fun
  | [d1, d2, d3] => { results := [.lit (.bool false)], args := [d1, d2, d3] }
  | _ => none }
def BookSoundWrongFalsely : Prop := bookSoundRow.holds Tryd.pinned (OpenSpec.ofChange bookSoundWrong)

/- THE SECOND FORM. 'bulk': how many values and letters a reading holds, each counted each time it is reached (what is shared counts as often as it is met; a slice's spare places count too). A statement '..UptoSaid' is the law's where the arguments, and the package variables that the reading takes, are together of bulk at most 1048576: NARROWER than '..Said'. Prove '..Said' where nothing that the law and all that it calls make is longer than what came in: it says more and counts as full. Else prove '..UptoSaid'. A law counts once. -/
mutual
def uptoBulk {H : Type} : DataW H → Nat
  | .lit (.string bytes) => bytes.length + 1
  | .lit _ => 1
  | .nil => 1
  | .ptr d => uptoBulk d + 1
  | .slice elems spare => uptoBulkAll elems + uptoBulkAll spare + 1
  | .agg parts => uptoBulkAll parts + 1
  | .iface _ d => uptoBulk d + 1
  | .map entries => uptoBulkEntries entries + 1
  | .held _ => 1
def uptoBulkAll {H : Type} : List (DataW H) → Nat
  | [] => 0
  | d :: r => uptoBulk d + uptoBulkAll r
def uptoBulkEntries {H : Type} : List (Lit × DataW H) → Nat
  | [] => 0
  | x :: r => uptoBulkEntry x + uptoBulkEntries r
def uptoBulkEntry {H : Type} : Lit × DataW H → Nat
  | (.string bytes, d) => bytes.length + uptoBulk d + 1
  | (_, d) => uptoBulk d + 1
 end
def uptoSmall : (H : Type) → List (DataW H) → Bool := fun _ ds => decide (uptoBulkAll ds ≤ 1048576)
def OpenSpec.upto (s : _root_.Go.ChangeSpec) : _root_.Go.OpenSpec := { _root_.Go.OpenSpec.ofChange s with cond := some uptoSmall }

/-- 'gatepostkeep.BookFew', WHERE WHAT IT READS IS OF BULK AT MOST 1048576: true; the input reads as it did. -/
def bookFewUptoRow : OpenClaim := { program := "ytihhabidfcgogaadoor", sum := "75b8f663f5bc5af47a5845577f2ea696feebbe2fb7b92be05426e9b672087545", func := "gatepost/gatepostkeep.BookFew", spec := "bookFew", inPlace := ["internal/bytealg.IndexByteString", "internal/bytealg.IndexString"], unfollowed := true, recurses := true, named := ["gatepost/fetch.methods", "internal/bytealg.MaxLen", "unicode/utf8.first", "unicode/utf8.acceptRanges"], plainKeys := false, apart := false, laid := [("unicode/utf8.acceptRanges", laid_unicode_utf8_acceptRanges), ("gatepost/fetch.methods", laid_gatepost_fetch_methods), ("unicode/utf8.first", laid_unicode_utf8_first)], narrowed := true }
def BookFewUptoSaid : Prop := bookFewUptoRow.holds Tryd.pinned (OpenSpec.upto bookFewSpec)

/-- 'gatepostkeep.BookOver', WHERE WHAT IT READS IS OF BULK AT MOST 1048576: true; the input reads as it did. -/
def bookOverUptoRow : OpenClaim := { program := "ytihhabidfcgogaadoor", sum := "75b8f663f5bc5af47a5845577f2ea696feebbe2fb7b92be05426e9b672087545", func := "gatepost/gatepostkeep.BookOver", spec := "bookOver", inPlace := ["internal/bytealg.IndexByteString", "internal/bytealg.IndexString"], unfollowed := true, recurses := true, named := ["gatepost/fetch.methods", "internal/bytealg.MaxLen", "unicode/utf8.first", "unicode/utf8.acceptRanges"], plainKeys := false, apart := false, laid := [("unicode/utf8.acceptRanges", laid_unicode_utf8_acceptRanges), ("gatepost/fetch.methods", laid_gatepost_fetch_methods), ("unicode/utf8.first", laid_unicode_utf8_first)], narrowed := true }
def BookOverUptoSaid : Prop := bookOverUptoRow.holds Tryd.pinned (OpenSpec.upto bookOverSpec)

/-- 'gatepostkeep.BookSound', WHERE WHAT IT READS IS OF BULK AT MOST 1048576: true; the input reads as it did. -/
def bookSoundUptoRow : OpenClaim := { program := "ytihhabidfcgogaadoor", sum := "75b8f663f5bc5af47a5845577f2ea696feebbe2fb7b92be05426e9b672087545", func := "gatepost/gatepostkeep.BookSound", spec := "bookSound", inPlace := ["internal/bytealg.IndexByteString", "internal/bytealg.IndexString"], unfollowed := true, recurses := true, named := ["gatepost/fetch.methods", "internal/bytealg.MaxLen", "unicode/utf8.first", "unicode/utf8.acceptRanges"], plainKeys := false, apart := false, laid := [("unicode/utf8.acceptRanges", laid_unicode_utf8_acceptRanges), ("gatepost/fetch.methods", laid_gatepost_fetch_methods), ("unicode/utf8.first", laid_unicode_utf8_first)], narrowed := true }
def BookSoundUptoSaid : Prop := bookSoundUptoRow.holds Tryd.pinned (OpenSpec.upto bookSoundSpec)

end Rows
end Go.Proofs.YtihhabidfcgogaaDoor
