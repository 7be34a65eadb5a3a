/- A value, by the program: told at once. -/
import Derived.Test.YteldgpkkgnfiaabDoorVal
namespace Go.Proofs.YteldgpkkgnfiaabDoor
open Go.RowKit

theorem value_some (s : ByteArray) (hs : s.size ≤ 3000) (t : List UInt8) (h : valueO s.data.toList = some t) (w : World) :
    Calls Tryd.prog 39 #[.string s] w fun e w' => e = .returned (.tuple #[.string (bs t), .nilIface]) ∧ Below w.heap.size w w' := by
  cases hi : isL s.data.toList
  · rw [valueO_no s hi] at h
    have hq : quoteO s.data.toList = some (quoteL s.data.toList) := by
      unfold quoteO at h ⊢
      split at h
      · rename_i h1; rw [if_pos h1]
      · cases h
    rw [hq] at h
    cases h
    exact value_yes s hs hi hq w
  · rw [valueO_yes s hi] at h
    cases h
    rw [bs_self]
    exact value_word_any s hs hi w
theorem value_none (s : ByteArray) (hs : s.size ≤ 3000) (h : valueO s.data.toList = none) (w : World) :
    Calls Tryd.prog 39 #[.string s] w fun e w' => e = .returned (.tuple #[.string ⟨#[]⟩, .iface 45 (.int .i64 3)]) ∧ w' = w := by
  cases hi : isL s.data.toList
  · rw [valueO_no s hi] at h
    exact value_no s hs hi h w
  · rw [valueO_yes s hi] at h
    cases h
end Go.Proofs.YteldgpkkgnfiaabDoor
