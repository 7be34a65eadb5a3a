/- Rows of texts that lie somewhere. -/
import Derived.Test.YtoblpjknnchlmabGreatDoorAppS
import Derived.Deep.Draws
namespace Go.Proofs.YtoblpjknnchlmabGreatDoor
open Go.RowKit

/-- A row of texts that lies somewhere. -/
structure Strs (w : World) (a0 : Option Addr) (len b off : Nat) (xs : List ByteArray) : Prop where
  len_eq : xs.length = len
  lies : 0 < len → a0 = some ⟨b, off, none⟩ ∧ b < w.heap.size
  cells : ∀ (j : Nat) (x : ByteArray), xs[j]? = some x → w.cell? ⟨b, off + j, none⟩ = some (.string x)
theorem Strs.below {w w' : World} {a0 : Option Addr} {len b off : Nat} {xs : List ByteArray} (h : Strs w a0 len b off xs) (hb : Below w.heap.size w w') : Strs w' a0 len b off xs := by
  refine ⟨h.len_eq, fun h0 => ⟨(h.lies h0).1, Nat.lt_of_lt_of_le (h.lies h0).2 hb.size⟩, fun j x hx => ?_⟩
  have hj := (List.getElem?_eq_some_iff.1 hx).1
  have hl := h.len_eq
  rw [hb.cell (p := ⟨b, off + j, none⟩) (h.lies (by omega)).2]
  exact h.cells j x hx
theorem OwnS.strs {w : World} {B : Nat} {v : Value} {xs : List ByteArray} (h : OwnS w B v xs) : ∃ (a : Option Addr) (cap g : Nat), v = .slice a xs.length cap ∧ Strs w a xs.length g 0 xs := by
  rcases h.2 with ⟨rfl, h0⟩ | ⟨g, cap, cur, rfl, _, hh, _, _, _, ht⟩
  · refine ⟨none, 0, 0, by rw [h0], rfl, fun h1 => absurd h0 (by omega), fun j x hx => ?_⟩
    have := (List.getElem?_eq_some_iff.1 hx).1
    omega
  · refine ⟨_, cap, g, rfl, rfl, fun _ => ⟨rfl, ?_⟩, fun j x hx => ?_⟩
    · rcases Nat.lt_or_ge g w.heap.size with h1 | h1
      · exact h1
      · simp [Array.getElem?_eq_none h1] at hh
    · have hj := World.ownsRow.cells h (g := g) rfl j (.string x) (by rw [List.getElem?_map, hx]; rfl)
      rw [WideShapes.add_plain] at hj
      exact hj
theorem Strs.drewN {w : World} {a0 : Option Addr} {len b off : Nat} {xs : List ByteArray} (h : Strs w a0 len b off xs) (n : Nat) : Strs (w.drewN n) a0 len b off xs := ⟨h.len_eq, h.lies, h.cells⟩
end Go.Proofs.YtoblpjknnchlmabGreatDoor
