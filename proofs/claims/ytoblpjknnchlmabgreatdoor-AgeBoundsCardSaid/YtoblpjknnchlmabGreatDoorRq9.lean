/- A request in a block of its own. -/
import Derived.Test.YtoblpjknnchlmabGreatDoorBas
namespace Go.Proofs.YtoblpjknnchlmabGreatDoor
open Go.RowKit

/-- A struct in the first block that a call makes. -/
structure BoxQ (T : TypeId) (w : World) (cs : Array Value) (W : World) : Prop where
  bel : Below w.heap.size w W
  row : W.heap[w.heap.size]? = some (.cells cs T (0, 0))
theorem BoxQ.new (T : TypeId) (w : World) (cs : Array Value) : BoxQ T w cs (w.alloc (.cells cs T)) := ⟨(Below.refl _ _).alloc (Nat.le_refl _) _, heap_alloc_new w _⟩
theorem BoxQ.step {T : TypeId} {w W W' : World} {cs : Array Value} (h : BoxQ T w cs W) (hb : Below W.heap.size W W') : BoxQ T w cs W' :=
  ⟨h.bel.trans (hb.mono h.bel.size), (hb.block _ (Array.getElem?_eq_some_iff.1 h.row).1).trans h.row⟩
theorem BoxQ.at {T : TypeId} {w W : World} {cs : Array Value} (h : BoxQ T w cs W) (j : Nat) (v : Value) (hj : cs[j]? = some v) : W.cell? ⟨w.heap.size, j, none⟩ = some v := by
  simp [World.cell?, h.row, hj]
theorem BoxQ.lt {T : TypeId} {w W : World} {cs : Array Value} (h : BoxQ T w cs W) : w.heap.size < W.heap.size := (Array.getElem?_eq_some_iff.1 h.row).1
theorem BoxQ.inB {T : TypeId} {w W W' : World} {cs : Array Value} (h : BoxQ T w cs W) (hb : Below W.heap.size W W') : Below w.heap.size w W' := h.bel.trans (hb.mono h.bel.size)
theorem lt_cell9 {W : World} {g i : Nat} {v : Value} (h : W.cell? ⟨g, i, none⟩ = some v) : g < W.heap.size := by
  rcases Nat.lt_or_ge g W.heap.size with h1 | h1
  · exact h1
  · simp [World.cell?, Array.getElem?_eq_none h1] at h
end Go.Proofs.YtoblpjknnchlmabGreatDoor
