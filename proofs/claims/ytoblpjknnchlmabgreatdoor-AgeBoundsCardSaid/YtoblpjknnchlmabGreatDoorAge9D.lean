/- How long an answer counts. -/
import Derived.Test.YtoblpjknnchlmabGreatDoorCorsD
namespace Go.Proofs.YtoblpjknnchlmabGreatDoor

def aN : List UInt8 := [65, 99, 99, 101, 115, 115, 45, 67, 111, 110, 116, 114, 111, 108, 45, 77, 97, 120, 45, 65, 103, 101]
def ageL (ps : List Par) : Int := match secL (fieldT aN ps) with | none => 5 | some n => min (n : Int) 600
theorem aN_is : aN = (⟨#[65, 99, 99, 101, 115, 115, 45, 67, 111, 110, 116, 114, 111, 108, 45, 77, 97, 120, 45, 65, 103, 101]⟩ : ByteArray).data.toList := rfl
theorem aN_low : (⟨#[97, 99, 99, 101, 115, 115, 45, 99, 111, 110, 116, 114, 111, 108, 45, 109, 97, 120, 45, 97, 103, 101]⟩ : ByteArray).data.toList.map low = aN.map low := by decide +kernel
theorem ageL_bounds (ps : List Par) : 0 ≤ ageL ps ∧ ageL ps ≤ 600 := by
  unfold ageL
  split
  · decide
  · omega
theorem ageL_none {ps : List Par} (h : fieldL aN ps = none) : ageL ps = 5 := by
  unfold ageL
  rw [fieldT_none h]
  rfl
end Go.Proofs.YtoblpjknnchlmabGreatDoor
