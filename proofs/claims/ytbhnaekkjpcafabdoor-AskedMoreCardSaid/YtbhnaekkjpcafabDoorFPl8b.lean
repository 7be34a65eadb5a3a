/- A parameter in a block of its own, that stays. -/
import Derived.Test.YtbhnaekkjpcafabDoorBxa
import Derived.Test.YtbhnaekkjpcafabDoorPrmA
namespace Go.Proofs.YtbhnaekkjpcafabDoor
open Go.RowKit

structure KeepW (w W : World) : Prop where
  bel : Below w.heap.size w W
  siz : w.heap.size < W.heap.size
abbrev BoxP (w : World) (x y : ByteArray) (W : World) : Prop :=
  W.cell? ⟨w.heap.size, 0, none⟩ = some (.string x) ∧ W.cell? ⟨w.heap.size, 1, none⟩ = some (.string y) ∧ KeepW w W
theorem BoxP.step {w W W' : World} {x y : ByteArray} (h : BoxP w x y W) (hb : Below W.heap.size W W') : BoxP w x y W' := by
  obtain ⟨h0, h1, h4, h5⟩ := h
  have hz := hb.size
  exact ⟨(hb.cell (p := ⟨w.heap.size, 0, none⟩) h5).trans h0, (hb.cell (p := ⟨w.heap.size, 1, none⟩) h5).trans h1, h4.trans (hb.mono h4.size), by omega⟩
theorem boxP_new (w : World) (x y : ByteArray) : BoxP w x y (w.alloc (.cells #[.string x, .string y] 24)) :=
  ⟨cells_new _ _ _ 0, cells_new _ _ _ 1, (Below.refl _ _).alloc (Nat.le_refl _) _, by simp⟩
end Go.Proofs.YtbhnaekkjpcafabDoor
