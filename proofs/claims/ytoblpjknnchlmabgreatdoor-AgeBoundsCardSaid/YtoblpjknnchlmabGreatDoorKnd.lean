/- Functions that say whether a byte is of a kind. -/
import Derived.Test.YtoblpjknnchlmabGreatDoorTk
import Derived.Test.YtoblpjknnchlmabGreatDoorEnt
namespace Go.Proofs.YtoblpjknnchlmabGreatDoor
open Go.RowKit

/-- A function that says whether a byte is of a kind. -/
structure Kind (K : Nat) (f : UInt8 → Bool) : Prop where
  says : ∀ (c : UInt8) (w : World), Calls Tryz.prog K #[.int .u8 (c.toNat : Int)] w fun e w' => e = .returned (.bool (f c)) ∧ w' = w
  enters : ∀ (args : Array Value) (w : World), (callFunc K args).run Tryz.prog w = .ok (.enter K args) w
theorem all_snoc (f : UInt8 → Bool) (s : ByteArray) (k : Nat) (hk : k < s.size) (c : UInt8) (e : s[k] = c) (h : (s.data.toList.take k).all f = true) (hc : f c = true) : (s.data.toList.take (k + 1)).all f = true := by
  rw [take_snoc s k hk, List.all_append, h, e]
  simp [hc]
theorem run_full (f : UInt8 → Bool) (s : ByteArray) (k : Nat) (hk : s.size ≤ k) (h : (s.data.toList.take k).all f = true) : runL f s.data.toList = s.size := by
  rw [List.take_of_length_le (by simpa using hk)] at h
  have := (runL_all f s.data.toList).2 h
  simpa using this
theorem run_part (f : UInt8 → Bool) (s : ByteArray) (k : Nat) (hk : k < s.size) (c : UInt8) (e : s[k] = c) (h : (s.data.toList.take k).all f = true) (hc : f c = false) : runL f s.data.toList = k :=
  runL_stop f _ k (by simpa using hk) h (by rw [← hc, ← e]; rfl)

end Go.Proofs.YtoblpjknnchlmabGreatDoor
