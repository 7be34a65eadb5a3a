/- A block of an argument's, and one of an answer's that is written into. -/
import Derived.Test.YtoblpjknnchlmabGreatDoorBxF
namespace Go.Proofs.YtoblpjknnchlmabGreatDoor
open Go.RowKit

structure BoxG (w : World) (x : Array Value) (n : Nat) (t : TypeId) (W : World) : Prop where
  bel : Below w.heap.size w W
  box : W.heap[w.heap.size]? = some (.cells x t (0, 0))
  res : ∃ y : Array Value, y.size = n ∧ W.heap[w.heap.size + 1]? = some (.cells y t (0, 0))
theorem BoxG.below {w w1 w2 : World} {x : Array Value} {n : Nat} {t : TypeId} (h : BoxG w x n t w1) (hb : Below w1.heap.size w1 w2) : BoxG w x n t w2 := by
  obtain ⟨y, hy, hr⟩ := h.res
  have h2 : w.heap.size + 1 < w1.heap.size := (Array.getElem?_eq_some_iff.1 hr).1
  exact ⟨h.bel.trans (hb.mono h.bel.size), by rw [hb.block _ (by omega)]; exact h.box, y, hy, by rw [hb.block _ h2]; exact hr⟩
theorem BoxG.at {w w1 : World} {x : Array Value} {n : Nat} {t : TypeId} (h : BoxG w x n t w1) (i : Nat) {v : Value} (hv : x[i]? = some v) : w1.cell? ⟨w.heap.size, i, none⟩ = some v := (cell_of h.box).trans hv
theorem BoxG.of {w w1 : World} {x y : Array Value} {t : TypeId} (h : BoxF w w1 x y t) : BoxG w x y.size t w1 := ⟨h.bel, h.box, y, rfl, h.res⟩
theorem BoxG.store {w w1 : World} {x : Array Value} {n : Nat} {t : TypeId} (h : BoxG w x n t w1) (vs : List Value) (hn : vs.length = n) :
    BoxG w x n t (w1.setCells (w.heap.size + 1) 0 vs) ∧ (w1.setCells (w.heap.size + 1) 0 vs).heap[w.heap.size + 1]? = some (.cells vs.toArray t (0, 0)) := by
  obtain ⟨y, hy, hr⟩ := h.res
  obtain ⟨z1, z2⟩ := setAll vs hr (by omega)
  have h2 : w.heap.size < w1.heap.size := (Array.getElem?_eq_some_iff.1 h.box).1
  exact ⟨⟨h.bel.grown z2 h.bel.size (fun i hi => by injection hi with hi; omega), by rw [z2.block _ h2 (by simp)]; exact h.box, _, by simpa using hn, z1⟩, z1⟩
theorem BoxG.frees {w w1 : World} {x : Array Value} {n : Nat} {t : TypeId} (h : BoxG w x n t w1) (i : Nat) : w1.frozen? ⟨w.heap.size + 1, i, none⟩ = false := by
  obtain ⟨y, hy, hr⟩ := h.res
  exact free_of hr i
theorem BoxG.some {w w1 : World} {x : Array Value} {n : Nat} {t : TypeId} (h : BoxG w x n t w1) (i : Nat) (hi : i < n) : ∃ v, w1.cell? ⟨w.heap.size + 1, i, none⟩ = some v := by
  obtain ⟨y, hy, hr⟩ := h.res
  exact ⟨y[i]'(by omega), (cell_of hr).trans (Array.getElem?_eq_getElem (by omega))⟩
end Go.Proofs.YtoblpjknnchlmabGreatDoor
