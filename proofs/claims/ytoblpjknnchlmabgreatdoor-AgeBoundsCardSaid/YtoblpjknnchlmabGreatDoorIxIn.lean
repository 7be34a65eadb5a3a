/- Whether a byte stands in a list. -/
import Derived.Test.YtoblpjknnchlmabGreatDoorIbd
namespace Go.Proofs.YtoblpjknnchlmabGreatDoor
open Go.RowKit

theorem ixOf_in (l : List UInt8) (c : UInt8) : (ixOf l c = -1 ∧ l.contains c = false) ∨ ∃ n : Nat, n < l.length ∧ ixOf l c = n ∧ l.contains c = true := by
  rcases ixOf_cases l c with ⟨h1, h2⟩ | ⟨n, h1, h2, h3⟩
  · exact .inl ⟨h1, by simpa using h2⟩
  · refine .inr ⟨n, h1, h2, ?_⟩
    rw [List.contains_iff_mem, ← h3]
    simp [h1]
end Go.Proofs.YtoblpjknnchlmabGreatDoor
