/- Where a text begins in another one, by the library: its own bound is read from the world's shape, and is of no account. -/
import Derived.Test.YteldgpkkgnfiaabGreatDoorShIx
import Derived.Below
namespace Go.Proofs.YteldgpkkgnfiaabGreatDoor
open Go.RowKit Go.Shelf

/-- The library's own bound, whatever it is. -/
def MaxL (w : World) : Prop := (∃ m : Int, w.cell? ⟨1, 0, none⟩ = some (.int .i64 m)) ∧ 1 < w.heap.size
theorem MaxL.below {w w' : World} (h : MaxL w) (hb : Below w.heap.size w w') : MaxL w' := by
  obtain ⟨⟨m, hm⟩, hl⟩ := h
  exact ⟨⟨m, (hb.cell (p := ⟨1, 0, none⟩) hl).trans hm⟩, Nat.lt_of_lt_of_le hl hb.size⟩
theorem index_any (s sub : ByteArray) (hs : s.size ≤ 5000) (w : World) (h : MaxL w) :
    Calls Tryz.prog 122 #[.string s, .string sub] w fun e w' => e = .returned (.int .i64 (Lib.index s.data.toList sub.data.toList)) ∧ w' = w := by
  obtain ⟨⟨m, hm⟩, _⟩ := h
  exact Any.strings_Index { laysM143 with } s sub m w (by omega) hm
theorem maxL_of_shape {W : World} (h : W.ShapedOpen Tryz.prog) : MaxL W := by
  obtain ⟨m, hm⟩ := laysM143.s1_3 W h
  refine ⟨⟨m, hm⟩, ?_⟩
  have hm' : W.cell? ⟨1, 0, none⟩ = some (.int .i64 m) := hm
  rcases Nat.lt_or_ge 1 W.heap.size with h | h
  · exact h
  · simp [World.cell?, Array.getElem?_eq_none h] at hm'
end Go.Proofs.YteldgpkkgnfiaabGreatDoor
