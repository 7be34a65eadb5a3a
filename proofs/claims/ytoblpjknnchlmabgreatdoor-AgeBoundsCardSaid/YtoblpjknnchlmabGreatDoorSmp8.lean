/- Whether a method is simple, by the program. -/
import Derived.Test.YtoblpjknnchlmabGreatDoorEnt
namespace Go.Proofs.YtoblpjknnchlmabGreatDoor
open Go.RowKit

def simpleL (l : List UInt8) : Bool := l == [71, 69, 84] || (l == [72, 69, 65, 68] || l == [80, 79, 83, 84])
set_option maxHeartbeats 1000000 in
theorem simple_any (s : ByteArray) (w : World) : Calls Tryz.prog 45 #[.string s] w fun e w' => e = .returned (.bool (simpleL s.toList)) ∧ w' = w := by
  have HS : Hid (simpleL s.toList = (s.toList == [71, 69, 84] || (s.toList == [72, 69, 65, 68] || s.toList == [80, 79, 83, 84]))) := rfl
  go_enter Tryz.func45, Tryz.ntmps45
  go_wp2
  all_goals
    go_ret
    exact ⟨ret_bool (by rw [HS.out]; first | exact Bool.or_assoc _ _ _ | simp [*]), rfl⟩
end Go.Proofs.YtoblpjknnchlmabGreatDoor
