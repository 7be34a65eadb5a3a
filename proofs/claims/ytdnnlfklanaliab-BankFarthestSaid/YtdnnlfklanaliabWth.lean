/- Whether a text begins with another one, by the program. -/
import Derived.Test.YtdnnlfklanaliabBas
namespace Go.Proofs.Ytdnnlfklanaliab
open Go.RowKit

/-- Whether a text begins with another one. -/
def begins (s p : ByteArray) : Bool := decide (p.size ≤ s.size) && ((s.extract 0 p.size).toList == p.toList)
set_option maxHeartbeats 1000000 in
theorem within_p (s p : ByteArray) (w : World) :
    Calls Try.prog 55 #[.string s, .string p] w fun e w' => e = .returned (.bool (begins s p)) ∧ w' = w := by
  by_cases h : p.size ≤ s.size
  · have hb : begins s p = ((s.extract 0 p.size).toList == p.toList) := by unfold begins; rw [decide_eq_true h]; rfl
    rw [hb]
    go_enter Try.func55, Try.ntmps55
    go_wp2
    go_ret
    exact ⟨rfl, rfl⟩
  · have hb : begins s p = false := by unfold begins; rw [decide_eq_false h]; rfl
    rw [hb]
    go_enter Try.func55, Try.ntmps55
    go_wp2
    go_ret
    exact ⟨rfl, rfl⟩
end Go.Proofs.Ytdnnlfklanaliab
