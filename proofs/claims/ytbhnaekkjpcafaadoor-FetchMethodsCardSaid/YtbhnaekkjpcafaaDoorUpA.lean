/- A text of ASCII bytes in great letters, by the library. -/
import Derived.Test.YtbhnaekkjpcafaaDoorShUp
namespace Go.Proofs.YtbhnaekkjpcafaaDoor
open Go.RowKit Go.Shelf Go.Lib

theorem upper_ascii (s x : ByteArray) (hs : s.size ≤ 5000) (ha : ∀ c ∈ s.data.toList, c.toNat < 128) (hx : s.data.toList.map Lib.upperB = x.data.toList) (w : World) :
    Calls Tryd.prog 29 #[.string s] w fun e w' => e = .returned (.string x) ∧ Below w.heap.size w w' := by
  refine (Any.strings_ToUpper_ascii lays158 Builder_Extra_158 s w (by omega) (fun j b hb => ha b (List.mem_of_getElem? hb))).mono ?_
  rintro e w' ⟨rfl, hb⟩
  refine ⟨?_, hb⟩
  congr 2
  apply ByteArray.ext
  apply Array.ext'
  rw [← hx]
  rfl
end Go.Proofs.YtbhnaekkjpcafaaDoor
