/- Where a text of one byte stands in a text, by the library. -/
import Derived.Test.YtoblpjknnchlmabGreatDoorShIdx
import Derived.Test.YtoblpjknnchlmabGreatDoorSpl
namespace Go.Proofs.YtoblpjknnchlmabGreatDoor
open Go.RowKit Go.Shelf

theorem index_at (s : ByteArray) (c : UInt8) (w : World) :
    Calls Tryz.prog 89 #[.string s, .string ⟨#[c]⟩] w fun e w' => e = .returned (.int .i64 (ixOf s.data.toList c)) ∧ w' = w := Any.stringslite_Index_one lays219 s c w
end Go.Proofs.YtoblpjknnchlmabGreatDoor
