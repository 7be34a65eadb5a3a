/- Where a text of one byte stands in a text, by the library. -/
import Derived.Test.YthhbfnfgbonakabDoorShIdx
import Derived.Test.YthhbfnfgbonakabDoorSpl
namespace Go.Proofs.YthhbfnfgbonakabDoor
open Go.RowKit Go.Shelf

theorem index_at (s : ByteArray) (c : UInt8) (w : World) :
    Calls Tryd.prog 34 #[.string s, .string ⟨#[c]⟩] w fun e w' => e = .returned (.int .i64 (ixOf s.data.toList c)) ∧ w' = w := Any.stringslite_Index_one lays219 s c w
end Go.Proofs.YthhbfnfgbonakabDoor
