/- Where a byte stands in a list. -/
import Derived.Test.YtoblpjknnchlmabGreatDoorBas
import Derived.Lib.Strings
import Derived.Lib.Slices
import Derived.Lib.Walk
import Derived.Lib.Bytealg
namespace Go.Proofs.YtoblpjknnchlmabGreatDoor
open Go.RowKit

/-- Where a byte stands in a list; below 0: nowhere. -/
def ixOf (l : List UInt8) (c : UInt8) : Int := Lib.indexByte l c
theorem ixOf_cases (l : List UInt8) (c : UInt8) : (ixOf l c = -1 ∧ c ∉ l) ∨ ∃ n : Nat, n < l.length ∧ ixOf l c = n ∧ l.getD n 0 = c := by
  unfold ixOf
  induction l with
  | nil => exact .inl ⟨rfl, by simp⟩
  | cons b r ih =>
    unfold Lib.indexByte
    by_cases hb : b = c
    · subst hb
      exact .inr ⟨0, by simp, by simp, rfl⟩
    · rw [if_neg (by simpa using hb)]
      rcases ih with ⟨h1, h2⟩ | ⟨n, h1, h2, h3⟩
      · exact .inl ⟨by rw [h1]; rfl, by simp [h2, Ne.symm hb]⟩
      · refine .inr ⟨n + 1, by simpa using h1, ?_, by simpa using h3⟩
        rw [h2, if_neg (by simp)]
        simp

end Go.Proofs.YtoblpjknnchlmabGreatDoor
