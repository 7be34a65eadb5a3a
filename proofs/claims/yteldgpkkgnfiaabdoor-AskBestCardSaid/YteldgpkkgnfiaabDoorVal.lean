/- A value, by the program. -/
import Derived.Test.YteldgpkkgnfiaabDoorQt
namespace Go.Proofs.YteldgpkkgnfiaabDoor
open Go.RowKit

theorem valueO_yes (s : ByteArray) (h : isL s.data.toList = true) : valueO s.data.toList = some s.data.toList := by
  unfold valueO
  rw [if_pos h]
theorem valueO_no (s : ByteArray) (h : isL s.data.toList = false) : valueO s.data.toList = quoteO s.data.toList := by
  unfold valueO
  rw [if_neg (by rw [h]; simp)]
/-- What a value is, by the program. -/
theorem value_word_any (s : ByteArray) (hs : s.size ≤ 3000) (h : isL s.data.toList = true) (w : World) :
    Calls Tryd.prog 39 #[.string s] w fun e w' => e = .returned (.tuple #[.string s, .nilIface]) ∧ Below w.heap.size w w' := by
  go_enter Tryd.func39, Tryd.ntmps39
  go_wp2_with (first | (go_at_call 23; refine (is_any s (by omega) _).mono ?_; rintro e w' ⟨rfl, hw⟩; obtain rfl := hw.symm; rw [h]) | (go_at_call 53; refine (clone_any s hs _).mono ?_; rintro e w' ⟨rfl, hb⟩))
  go_ret2
  exact ⟨rfl, hb⟩
theorem value_no (s : ByteArray) (hs : s.size ≤ 3000) (h : isL s.data.toList = false) (hq : quoteO s.data.toList = none) (w : World) :
    Calls Tryd.prog 39 #[.string s] w fun e w' => e = .returned (.tuple #[.string ⟨#[]⟩, .iface 45 (.int .i64 3)]) ∧ w' = w := by
  go_enter Tryd.func39, Tryd.ntmps39
  go_wp2_with (first | (go_at_call 23; refine (is_any s (by omega) _).mono ?_; rintro e w' ⟨rfl, hw⟩; obtain rfl := hw.symm; rw [h]) | (go_at_call 64; refine (quote_no s hs hq _).mono ?_; rintro e w' ⟨rfl, hw⟩; obtain rfl := hw.symm))
  go_ret2
  exact ⟨rfl, rfl⟩
theorem value_yes (s : ByteArray) (hs : s.size ≤ 3000) (h : isL s.data.toList = false) (hq : quoteO s.data.toList = some (quoteL s.data.toList)) (w : World) :
    Calls Tryd.prog 39 #[.string s] w fun e w' => e = .returned (.tuple #[.string (bs (quoteL s.data.toList)), .nilIface]) ∧ Below w.heap.size w w' := by
  have HQ : Hid (quoteO s.data.toList = some (quoteL s.data.toList)) := hq
  clear hq
  go_enter Tryd.func39, Tryd.ntmps39
  go_wp2_with (first | (go_at_call 23; refine (is_any s (by omega) _).mono ?_; rintro e w' ⟨rfl, hw⟩; obtain rfl := hw.symm; rw [h]) | (go_at_call 64; refine (quote_yes s hs HQ.out _).mono ?_; rintro e w' ⟨rfl, hb⟩))
  go_ret2
  exact ⟨rfl, hb⟩
end Go.Proofs.YteldgpkkgnfiaabDoor
