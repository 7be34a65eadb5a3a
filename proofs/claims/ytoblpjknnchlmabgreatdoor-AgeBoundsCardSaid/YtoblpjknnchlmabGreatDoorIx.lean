/- A text without what it ends with, by the library's own functions. -/
import Derived.Test.YtoblpjknnchlmabGreatDoorBase
import Derived.Test.YtoblpjknnchlmabGreatDoorIb
namespace Go.Proofs.YtoblpjknnchlmabGreatDoor
open Go.RowKit

set_option maxHeartbeats 1000000 in
theorem trim_any (s p : ByteArray) (w : World) (hs : s.size ≤ 1000000) :
    Calls Tryz.prog 28 #[.string s, .string p] w fun e w' => e = .returned (.string (bs (Lib.trimSuffix s.data.toList p.data.toList))) ∧ w' = w := by
  go_enter Tryz.func28, Tryz.ntmps28
  go_wp2
  · have h1 : p.size ≤ s.size := by assumption
    have h2 : ((s.extract (s.size - p.size) s.size).toList == p.toList) = true := by assumption
    go_ret
    refine ⟨?_, rfl⟩
    have := Lib.trimSuffix_hit s p h1 h2
    unfold bs
    rw [this]
    rfl
  · have h2 : ((s.extract (s.size - p.size) s.size).toList == p.toList) = false := by assumption
    go_ret
    refine ⟨?_, rfl⟩
    have := Lib.trimSuffix_miss s p (by rw [h2]; simp)
    unfold bs
    rw [this]
    rfl
  · have h1 : ¬ p.size ≤ s.size := by assumption
    go_ret
    refine ⟨?_, rfl⟩
    have := Lib.trimSuffix_miss s p (by simp [h1])
    unfold bs
    rw [this]
    rfl
end Go.Proofs.YtoblpjknnchlmabGreatDoor
