/- A text without the blanks about it, by the library. -/
import Derived.Test.YtoblpjknnchlmabGreatDoorTkR
import Derived.Test.YtoblpjknnchlmabGreatDoorShTrA
namespace Go.Proofs.YtoblpjknnchlmabGreatDoor
open Go.RowKit Go.Shelf

theorem trimBoth_any (p : ByteArray) (hp : p.size ≤ 20000) (w : World) :
    Calls Tryz.prog 32 #[.string p, .string ⟨#[32, 9]⟩] w fun e w' => ∃ t : ByteArray, e = .returned (.string t) ∧ Hid (t.data.toList = trimW p.data.toList) ∧ t.size ≤ p.size ∧ Below w.heap.size w w' := by
  refine (Any.strings_Trim_laid lays160 (by kernel_rfl) p ⟨#[32, 9]⟩ w (by omega) (by decide) (ascii_of_all (by decide))).mono ?_
  rintro e w' ⟨rfl, hb⟩
  have e1 : (⟨(Lib.trimS p.data.toList (⟨#[32, 9]⟩ : ByteArray).data.toList).toArray⟩ : ByteArray) = bs (trimW p.data.toList) := by
    show bs (Lib.trimS p.data.toList [32, 9]) = _
    rw [trimS_is]
  refine ⟨bs (trimW p.data.toList), by rw [e1], bs_data _, ?_, hb⟩
  rw [bs_size, ← (show p.data.toList.length = p.size from Array.length_toList)]
  exact trim_length _
end Go.Proofs.YtoblpjknnchlmabGreatDoor
