/- Whether an answer may be seen by a request's origin. -/
import Derived.Test.YtoblpjknnchlmabGreatDoorCorsD
namespace Go.Proofs.YtoblpjknnchlmabGreatDoor

def oN : List UInt8 := [65, 99, 99, 101, 115, 115, 45, 67, 111, 110, 116, 114, 111, 108, 45, 65, 108, 108, 111, 119, 45, 79, 114, 105, 103, 105, 110]
def cN : List UInt8 := [65, 99, 99, 101, 115, 115, 45, 67, 111, 110, 116, 114, 111, 108, 45, 65, 108, 108, 111, 119, 45, 67, 114, 101, 100, 101, 110, 116, 105, 97, 108, 115]
/-- An origin's text is t: by what an answer's fields tell. -/
def mayB (wi : Bool) (x t c : ByteArray) : Bool := !wi && x.toList == [42] || (x.toList == t.toList && (!wi || c.toList == [116, 114, 117, 101]))
def mayL (wi : Bool) (t : List UInt8) (ps : List Par) : Bool := mayB wi (bs (fieldT oN ps)) (bs t) (bs (fieldT cN ps))
theorem mayL_is (wi : Bool) (t : List UInt8) (ps : List Par) : mayL wi t ps = mayB wi (bs (fieldT oN ps)) (bs t) (bs (fieldT cN ps)) := rfl
theorem oN_is : oN = (⟨#[65, 99, 99, 101, 115, 115, 45, 67, 111, 110, 116, 114, 111, 108, 45, 65, 108, 108, 111, 119, 45, 79, 114, 105, 103, 105, 110]⟩ : ByteArray).data.toList := rfl
theorem cN_is : cN = (⟨#[65, 99, 99, 101, 115, 115, 45, 67, 111, 110, 116, 114, 111, 108, 45, 65, 108, 108, 111, 119, 45, 67, 114, 101, 100, 101, 110, 116, 105, 97, 108, 115]⟩ : ByteArray).data.toList := rfl
theorem oN_low : (⟨#[97, 99, 99, 101, 115, 115, 45, 99, 111, 110, 116, 114, 111, 108, 45, 97, 108, 108, 111, 119, 45, 111, 114, 105, 103, 105, 110]⟩ : ByteArray).data.toList.map low = oN.map low := by decide +kernel
theorem cN_low : (⟨#[97, 99, 99, 101, 115, 115, 45, 99, 111, 110, 116, 114, 111, 108, 45, 97, 108, 108, 111, 119, 45, 99, 114, 101, 100, 101, 110, 116, 105, 97, 108, 115]⟩ : ByteArray).data.toList.map low = cN.map low := by decide +kernel
end Go.Proofs.YtoblpjknnchlmabGreatDoor
