/-
  NARROWER THAN 'FOR EVERY INPUT', by the rows' own cells (each row's printed sentence says how): UrlRights: laid · UrlOrigins: laid · UrlParses: laid · UrlCleans: laid.
  DERIVED. THE GIVEN ROWS OF THIS SEAT. 4 by the template 'for every input the law returns true; each argument reads behind the call as it read before'; 0 by the template 'total and deterministic' (their statements: YtclagicimiimfaaDoorTotals.lean).
  GIVEN WITH THE SEED: the statements are not yours to turn. If you find one false, say at which input.
  Laid BY PROGRAM, IN A SANDBOX (cutbox-rows.mjs): the forced cells as the released guide's own fill.sh prints them over the translation 39e1c16c2c1f24e7… (all of the seat's roots in one cut). By AI agents, Wed Nov 11 2026. No macro, syntax, notation, axiom, sorry.
-/
import Derived.Test.YtclagicimiimfaaDoorChecked
import GoSem.PinnedTables
import GoSem.Claim
import GoSem.ClaimJoined
import GoSem.ClaimMapViews
import Derived.JoinedTies
import Derived.KernelRfl
namespace Go.Proofs.YtclagicimiimfaaDoor
/- THE CELL 'sum', in the pinned program and in every row, IS THE sha256 OF THE DUMP (.gsa) THAT YtclagicimiimfaaDoorProg.lean LOADS. Nothing in Lean hashes anything: it is a label: what it is worth is what the hold of that sum in a sandbox is worth. -/
noncomputable def Tryd.pinned : Pinned := { name := "ytclagicimiimfaadoor", sum := "39e1c16c2c1f24e76db9a28358d90be2d7b685cef91c2752b3b2961f18b48832", checked := Tryd.checked }
namespace Rows
def none {H : Type} : Left H := { results := [], args := [] }

/- WHAT THE LISTED PACKAGE-LEVEL VARIABLES READ AS WHEN THE CALL BEGINS. Each datum BY PROGRAM (the guide's laid-datum.mjs) off the statement by which the dump's own 'gosem.cut.vars' lays the variable. In a bare row this is a premise. The card (YtclagicimiimfaaDoorCards.lean) ties it to the program's text. -/
def laid_gatepost_url_schemes {H : Type} : DataW H := .agg [.agg [.lit (.string [104, 116, 116, 112, 58, 47, 47]), .lit (.bool false), .lit (.int .i64 80)], .agg [.lit (.string [104, 116, 116, 112, 115, 58, 47, 47]), .lit (.bool true), .lit (.int .i64 443)]]
def laid_errors_errorType {H : Type} : DataW H := .iface "internal/reflectlite.rtype" (.agg [.ptr (.lit (.string [101, 114, 114, 111, 114]))])
def laid_unicode_utf8_acceptRanges {H : Type} : DataW H := .agg [.agg [.lit (.int .u8 128), .lit (.int .u8 191)], .agg [.lit (.int .u8 160), .lit (.int .u8 191)], .agg [.lit (.int .u8 128), .lit (.int .u8 159)], .agg [.lit (.int .u8 144), .lit (.int .u8 191)], .agg [.lit (.int .u8 128), .lit (.int .u8 143)], .agg [.lit (.int .u8 0), .lit (.int .u8 0)], .agg [.lit (.int .u8 0), .lit (.int .u8 0)], .agg [.lit (.int .u8 0), .lit (.int .u8 0)], .agg [.lit (.int .u8 0), .lit (.int .u8 0)], .agg [.lit (.int .u8 0), .lit (.int .u8 0)], .agg [.lit (.int .u8 0), .lit (.int .u8 0)], .agg [.lit (.int .u8 0), .lit (.int .u8 0)], .agg [.lit (.int .u8 0), .lit (.int .u8 0)], .agg [.lit (.int .u8 0), .lit (.int .u8 0)], .agg [.lit (.int .u8 0), .lit (.int .u8 0)], .agg [.lit (.int .u8 0), .lit (.int .u8 0)]]
/-- One of Go's own tables, pinned by name: the form's constant. -/
def laid_unicode_utf8_first : DataW Unit := Go.Pinned.utf8First

/-- 'gatepostlaw.UrlRights': WHATEVER THE INPUT: true; the input reads as it did. -/
def urlRightsSpec : ChangeSpec := { name := "urlRights", fn := fun _ => fun
  | [d] => { results := [.lit (.bool true)], args := [d] }
  | _ => none }
def urlRightsRow : OpenClaim := { program := "ytclagicimiimfaadoor", sum := "39e1c16c2c1f24e76db9a28358d90be2d7b685cef91c2752b3b2961f18b48832", func := "gatepost/gatepostlaw.UrlRights", spec := "urlRights", inPlace := ["internal/bytealg.IndexByteString"], unfollowed := true, recurses := true, named := ["gatepost/url.schemes"], apart := false, laid := [("gatepost/url.schemes", laid_gatepost_url_schemes)] }
def UrlRightsSaid : Prop := urlRightsRow.holds Tryd.pinned (OpenSpec.ofChange urlRightsSpec)

/-- ITS FALSE NEIGHBOUR: 'it returns false'. Refute it at one input. -/
def urlRightsWrong : ChangeSpec := { name := "urlRights", fn := fun _ => fun
  | [d] => { results := [.lit (.bool false)], args := [d] }
  | _ => none }
def UrlRightsWrongFalsely : Prop := urlRightsRow.holds Tryd.pinned (OpenSpec.ofChange urlRightsWrong)

/-- 'gatepostlaw.UrlOrigins': WHATEVER THE INPUT: true; the input reads as it did. -/
def urlOriginsSpec : ChangeSpec := { name := "urlOrigins", fn := fun _ => fun
  | [d] => { results := [.lit (.bool true)], args := [d] }
  | _ => none }
def urlOriginsRow : OpenClaim := { program := "ytclagicimiimfaadoor", sum := "39e1c16c2c1f24e76db9a28358d90be2d7b685cef91c2752b3b2961f18b48832", func := "gatepost/gatepostlaw.UrlOrigins", spec := "urlOrigins", inPlace := ["internal/bytealg.IndexByteString", "internal/bytealg.IndexString", "internal/reflectlite.ValueOf", "(internal/reflectlite.Value).Type", "(internal/reflectlite.Value).IsNil", "internal/reflectlite.TypeOf", "(internal/reflectlite.Value).Elem", "(internal/reflectlite.Value).Set"], unfollowed := true, recurses := true, named := ["internal/bytealg.MaxLen", "gatepost/url.schemes", "errors.errorType"], apart := false, laid := [("errors.errorType", laid_errors_errorType), ("gatepost/url.schemes", laid_gatepost_url_schemes)] }
def UrlOriginsSaid : Prop := urlOriginsRow.holds Tryd.pinned (OpenSpec.ofChange urlOriginsSpec)

/-- ITS FALSE NEIGHBOUR: 'it returns false'. Refute it at one input. -/
def urlOriginsWrong : ChangeSpec := { name := "urlOrigins", fn := fun _ => fun
  | [d] => { results := [.lit (.bool false)], args := [d] }
  | _ => none }
def UrlOriginsWrongFalsely : Prop := urlOriginsRow.holds Tryd.pinned (OpenSpec.ofChange urlOriginsWrong)

/-- 'gatepostlaw.UrlParses': WHATEVER THE INPUT: true; the input reads as it did. -/
def urlParsesSpec : ChangeSpec := { name := "urlParses", fn := fun _ => fun
  | [d] => { results := [.lit (.bool true)], args := [d] }
  | _ => none }
def urlParsesRow : OpenClaim := { program := "ytclagicimiimfaadoor", sum := "39e1c16c2c1f24e76db9a28358d90be2d7b685cef91c2752b3b2961f18b48832", func := "gatepost/gatepostlaw.UrlParses", spec := "urlParses", inPlace := ["internal/bytealg.CountString", "internal/bytealg.IndexByteString", "internal/bytealg.IndexString", "internal/abi.NoEscape", "internal/bytealg.MakeNoZero", "internal/reflectlite.ValueOf", "(internal/reflectlite.Value).Type", "(internal/reflectlite.Value).IsNil", "internal/reflectlite.TypeOf", "(internal/reflectlite.Value).Elem", "(internal/reflectlite.Value).Set"], unfollowed := true, recurses := true, named := ["unicode/utf8.first", "unicode/utf8.acceptRanges", "internal/bytealg.MaxLen", "gatepost/url.schemes", "errors.errorType"], apart := false, laid := [("unicode/utf8.acceptRanges", laid_unicode_utf8_acceptRanges), ("errors.errorType", laid_errors_errorType), ("gatepost/url.schemes", laid_gatepost_url_schemes), ("unicode/utf8.first", laid_unicode_utf8_first)] }
def UrlParsesSaid : Prop := urlParsesRow.holds Tryd.pinned (OpenSpec.ofChange urlParsesSpec)

/-- ITS FALSE NEIGHBOUR: 'it returns false'. Refute it at one input. -/
def urlParsesWrong : ChangeSpec := { name := "urlParses", fn := fun _ => fun
  | [d] => { results := [.lit (.bool false)], args := [d] }
  | _ => none }
def UrlParsesWrongFalsely : Prop := urlParsesRow.holds Tryd.pinned (OpenSpec.ofChange urlParsesWrong)

/-- 'gatepostlaw.UrlCleans': WHATEVER THE INPUT: true; the input reads as it did. -/
def urlCleansSpec : ChangeSpec := { name := "urlCleans", fn := fun _ => fun
  | [d] => { results := [.lit (.bool true)], args := [d] }
  | _ => none }
def urlCleansRow : OpenClaim := { program := "ytclagicimiimfaadoor", sum := "39e1c16c2c1f24e76db9a28358d90be2d7b685cef91c2752b3b2961f18b48832", func := "gatepost/gatepostlaw.UrlCleans", spec := "urlCleans", inPlace := ["internal/bytealg.IndexByteString", "internal/bytealg.CountString", "internal/bytealg.IndexString", "internal/abi.NoEscape", "internal/bytealg.MakeNoZero"], unfollowed := true, recurses := true, named := ["unicode/utf8.first", "unicode/utf8.acceptRanges", "internal/bytealg.MaxLen"], apart := false, laid := [("unicode/utf8.acceptRanges", laid_unicode_utf8_acceptRanges), ("unicode/utf8.first", laid_unicode_utf8_first)] }
def UrlCleansSaid : Prop := urlCleansRow.holds Tryd.pinned (OpenSpec.ofChange urlCleansSpec)

/-- ITS FALSE NEIGHBOUR: 'it returns false'. Refute it at one input. -/
def urlCleansWrong : ChangeSpec := { name := "urlCleans", fn := fun _ => fun
  | [d] => { results := [.lit (.bool false)], args := [d] }
  | _ => none }
def UrlCleansWrongFalsely : Prop := urlCleansRow.holds Tryd.pinned (OpenSpec.ofChange urlCleansWrong)

/- THE SECOND FORM. 'bulk': how many values and letters a reading holds, each counted each time it is reached (what is shared counts as often as it is met; a slice's spare places count too). A statement '..UptoSaid' is the law's where the arguments, and the package variables that the reading takes, are together of bulk at most 1048576: NARROWER than '..Said'. Prove '..Said' where nothing that the law and all that it calls make is longer than what came in: it says more and counts as full. Else prove '..UptoSaid'. A law counts once. -/
mutual
def uptoBulk {H : Type} : DataW H → Nat
  | .lit (.string bytes) => bytes.length + 1
  | .lit _ => 1
  | .nil => 1
  | .ptr d => uptoBulk d + 1
  | .slice elems spare => uptoBulkAll elems + uptoBulkAll spare + 1
  | .agg parts => uptoBulkAll parts + 1
  | .iface _ d => uptoBulk d + 1
  | .map entries => uptoBulkEntries entries + 1
  | .held _ => 1
def uptoBulkAll {H : Type} : List (DataW H) → Nat
  | [] => 0
  | d :: r => uptoBulk d + uptoBulkAll r
def uptoBulkEntries {H : Type} : List (Lit × DataW H) → Nat
  | [] => 0
  | x :: r => uptoBulkEntry x + uptoBulkEntries r
def uptoBulkEntry {H : Type} : Lit × DataW H → Nat
  | (.string bytes, d) => bytes.length + uptoBulk d + 1
  | (_, d) => uptoBulk d + 1
 end
def uptoSmall : (H : Type) → List (DataW H) → Bool := fun _ ds => decide (uptoBulkAll ds ≤ 1048576)
def OpenSpec.upto (s : _root_.Go.ChangeSpec) : _root_.Go.OpenSpec := { _root_.Go.OpenSpec.ofChange s with cond := some uptoSmall }

/-- 'gatepostlaw.UrlRights', WHERE WHAT IT READS IS OF BULK AT MOST 1048576: true; the input reads as it did. -/
def urlRightsUptoRow : OpenClaim := { program := "ytclagicimiimfaadoor", sum := "39e1c16c2c1f24e76db9a28358d90be2d7b685cef91c2752b3b2961f18b48832", func := "gatepost/gatepostlaw.UrlRights", spec := "urlRights", inPlace := ["internal/bytealg.IndexByteString"], unfollowed := true, recurses := true, named := ["gatepost/url.schemes"], apart := false, laid := [("gatepost/url.schemes", laid_gatepost_url_schemes)], narrowed := true }
def UrlRightsUptoSaid : Prop := urlRightsUptoRow.holds Tryd.pinned (OpenSpec.upto urlRightsSpec)

/-- 'gatepostlaw.UrlOrigins', WHERE WHAT IT READS IS OF BULK AT MOST 1048576: true; the input reads as it did. -/
def urlOriginsUptoRow : OpenClaim := { program := "ytclagicimiimfaadoor", sum := "39e1c16c2c1f24e76db9a28358d90be2d7b685cef91c2752b3b2961f18b48832", func := "gatepost/gatepostlaw.UrlOrigins", spec := "urlOrigins", inPlace := ["internal/bytealg.IndexByteString", "internal/bytealg.IndexString", "internal/reflectlite.ValueOf", "(internal/reflectlite.Value).Type", "(internal/reflectlite.Value).IsNil", "internal/reflectlite.TypeOf", "(internal/reflectlite.Value).Elem", "(internal/reflectlite.Value).Set"], unfollowed := true, recurses := true, named := ["internal/bytealg.MaxLen", "gatepost/url.schemes", "errors.errorType"], apart := false, laid := [("errors.errorType", laid_errors_errorType), ("gatepost/url.schemes", laid_gatepost_url_schemes)], narrowed := true }
def UrlOriginsUptoSaid : Prop := urlOriginsUptoRow.holds Tryd.pinned (OpenSpec.upto urlOriginsSpec)

/-- 'gatepostlaw.UrlParses', WHERE WHAT IT READS IS OF BULK AT MOST 1048576: true; the input reads as it did. -/
def urlParsesUptoRow : OpenClaim := { program := "ytclagicimiimfaadoor", sum := "39e1c16c2c1f24e76db9a28358d90be2d7b685cef91c2752b3b2961f18b48832", func := "gatepost/gatepostlaw.UrlParses", spec := "urlParses", inPlace := ["internal/bytealg.CountString", "internal/bytealg.IndexByteString", "internal/bytealg.IndexString", "internal/abi.NoEscape", "internal/bytealg.MakeNoZero", "internal/reflectlite.ValueOf", "(internal/reflectlite.Value).Type", "(internal/reflectlite.Value).IsNil", "internal/reflectlite.TypeOf", "(internal/reflectlite.Value).Elem", "(internal/reflectlite.Value).Set"], unfollowed := true, recurses := true, named := ["unicode/utf8.first", "unicode/utf8.acceptRanges", "internal/bytealg.MaxLen", "gatepost/url.schemes", "errors.errorType"], apart := false, laid := [("unicode/utf8.acceptRanges", laid_unicode_utf8_acceptRanges), ("errors.errorType", laid_errors_errorType), ("gatepost/url.schemes", laid_gatepost_url_schemes), ("unicode/utf8.first", laid_unicode_utf8_first)], narrowed := true }
def UrlParsesUptoSaid : Prop := urlParsesUptoRow.holds Tryd.pinned (OpenSpec.upto urlParsesSpec)

/-- 'gatepostlaw.UrlCleans', WHERE WHAT IT READS IS OF BULK AT MOST 1048576: true; the input reads as it did. -/
def urlCleansUptoRow : OpenClaim := { program := "ytclagicimiimfaadoor", sum := "39e1c16c2c1f24e76db9a28358d90be2d7b685cef91c2752b3b2961f18b48832", func := "gatepost/gatepostlaw.UrlCleans", spec := "urlCleans", inPlace := ["internal/bytealg.IndexByteString", "internal/bytealg.CountString", "internal/bytealg.IndexString", "internal/abi.NoEscape", "internal/bytealg.MakeNoZero"], unfollowed := true, recurses := true, named := ["unicode/utf8.first", "unicode/utf8.acceptRanges", "internal/bytealg.MaxLen"], apart := false, laid := [("unicode/utf8.acceptRanges", laid_unicode_utf8_acceptRanges), ("unicode/utf8.first", laid_unicode_utf8_first)], narrowed := true }
def UrlCleansUptoSaid : Prop := urlCleansUptoRow.holds Tryd.pinned (OpenSpec.upto urlCleansSpec)

end Rows
end Go.Proofs.YtclagicimiimfaaDoor
