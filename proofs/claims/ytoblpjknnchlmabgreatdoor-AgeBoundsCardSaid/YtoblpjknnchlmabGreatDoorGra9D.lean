/- What an answer allows a request. -/
import Derived.Test.YtoblpjknnchlmabGreatDoorPfr9D
import Derived.Test.YtoblpjknnchlmabGreatDoorCovD
import Derived.Test.YtoblpjknnchlmabGreatDoorWds9D
import Derived.Test.YtoblpjknnchlmabGreatDoorMay9D
import Derived.Test.YtoblpjknnchlmabGreatDoorAge9D
namespace Go.Proofs.YtoblpjknnchlmabGreatDoor

/-- The methods that an answer tells, or the request's own one. -/
def msOf (ms : List ByteArray) (m : ByteArray) : List ByteArray := if ms.length = 0 then [m] else ms
/-- The method and the header of each pass, or what is wrong. -/
def grantL (p : PsV) (may wi : Bool) (m : ByteArray) (xs : List ByteArray) (ps : List Par) : Except Int (List (ByteArray × ByteArray)) :=
  match wordsO (fieldT mN ps), wordsO (fieldT hN ps) with
  | some ms, some hs => if may = false then .error 6 else if coversL wi m xs ((passL (msOf ms m) hs).map p.of) then .ok (passL (msOf ms m) hs) else .error 6
  | _, _ => .error 3
theorem grantL_bad1 {p : PsV} {may wi : Bool} {m : ByteArray} {xs : List ByteArray} {ps : List Par} (h : wordsO (fieldT mN ps) = none) : grantL p may wi m xs ps = .error 3 := by
  unfold grantL
  rw [h]
theorem grantL_bad2 {p : PsV} {may wi : Bool} {m : ByteArray} {xs : List ByteArray} {ps : List Par} (h : wordsO (fieldT hN ps) = none) : grantL p may wi m xs ps = .error 3 := by
  unfold grantL
  rw [h]
  cases wordsO (fieldT mN ps) <;> rfl
theorem grantL_no {p : PsV} {wi : Bool} {m : ByteArray} {xs : List ByteArray} {ps : List Par} {ms hs : List ByteArray} (h1 : wordsO (fieldT mN ps) = some ms) (h2 : wordsO (fieldT hN ps) = some hs) : grantL p false wi m xs ps = .error 6 := by
  unfold grantL
  rw [h1, h2]
  rfl
theorem grantL_cov {p : PsV} {wi : Bool} {m : ByteArray} {xs : List ByteArray} {ps : List Par} {ms hs : List ByteArray} {t : Bool} (h1 : wordsO (fieldT mN ps) = some ms) (h2 : wordsO (fieldT hN ps) = some hs) (h3 : coversL wi m xs ((passL (msOf ms m) hs).map p.of) = t) : grantL p true wi m xs ps = if t then .ok (passL (msOf ms m) hs) else .error 6 := by
  unfold grantL
  rw [h1, h2]
  show (if coversL wi m xs _ = true then _ else _) = _
  rw [h3]
theorem mN_is : mN = (⟨#[65, 99, 99, 101, 115, 115, 45, 67, 111, 110, 116, 114, 111, 108, 45, 65, 108, 108, 111, 119, 45, 77, 101, 116, 104, 111, 100, 115]⟩ : ByteArray).data.toList := rfl
theorem hN_is : hN = (⟨#[65, 99, 99, 101, 115, 115, 45, 67, 111, 110, 116, 114, 111, 108, 45, 65, 108, 108, 111, 119, 45, 72, 101, 97, 100, 101, 114, 115]⟩ : ByteArray).data.toList := rfl
end Go.Proofs.YtoblpjknnchlmabGreatDoor
