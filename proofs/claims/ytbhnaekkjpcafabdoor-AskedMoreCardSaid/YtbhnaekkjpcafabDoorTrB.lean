/- A text without the blanks about it, by the library. -/
import Derived.Test.YtbhnaekkjpcafabDoorTkR
import Derived.Test.YtbhnaekkjpcafabDoorShTrA
namespace Go.Proofs.YtbhnaekkjpcafabDoor
open Go.RowKit Go.Shelf

theorem trimBoth_any (p : ByteArray) (hp : p.size ≤ 5000) (w : World) :
    Calls Tryd.prog 38 #[.string p, .string ⟨#[32, 9]⟩] w fun e w' => ∃ t : ByteArray, e = .returned (.string t) ∧ Hid (t.data.toList = trimW p.data.toList) ∧ t.size ≤ p.size ∧ Below w.heap.size w w' := by
  refine (Any.strings_Trim_laid lays160 (by kernel_rfl) p ⟨#[32, 9]⟩ w (by omega) (by decide) (ascii_of_all (by decide))).mono ?_
  rintro e w' ⟨rfl, hb⟩
  have e1 : (⟨(Lib.trimS p.data.toList (⟨#[32, 9]⟩ : ByteArray).data.toList).toArray⟩ : ByteArray) = bs (trimW p.data.toList) := by
    show bs (Lib.trimS p.data.toList [32, 9]) = _
    rw [trimS_is]
  refine ⟨bs (trimW p.data.toList), by rw [e1], bs_data _, ?_, hb⟩
  rw [bs_size, ← (show p.data.toList.length = p.size from Array.length_toList)]
  exact trim_length _
end Go.Proofs.YtbhnaekkjpcafabDoor
