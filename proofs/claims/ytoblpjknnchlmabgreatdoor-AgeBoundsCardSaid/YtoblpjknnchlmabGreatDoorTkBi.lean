/- Whether a text is a word, by the program. -/
import Derived.Test.YtoblpjknnchlmabGreatDoorTkB
namespace Go.Proofs.YtoblpjknnchlmabGreatDoor
open Go.RowKit

set_option maxHeartbeats 1000000 in
theorem is_any (s : ByteArray) (hs : s.size ≤ 5000) (w : World) :
    Calls Tryz.prog 30 #[.string s] w fun e w' => e = .returned (.bool (isL s.data.toList)) ∧ w' = w := by
  by_cases h0 : s.size = 0
  · have HI : Hid (isL s.data.toList = false) := isL_empty s h0
    obtain rfl : s = ⟨#[]⟩ := by
      apply ByteArray.ext
      exact Array.eq_empty_of_size_eq_zero h0
    go_enter Tryz.func30, Tryz.ntmps30
    go_wp2
    go_ret
    exact ⟨ret_bool HI.out.symm, rfl⟩
  · have HI : Hid (isL s.data.toList = decide ((runL tokB s.data.toList : Int) = (s.size : Int))) := isL_run s (by omega)
    have hne : (s.toList == ([] : List UInt8)) = false := by
      rw [beq_eq_false_iff_ne]
      intro e
      have h5 : s.data.toList = [] := by
        rw [← ByteArray.toList_eq]
        exact e
      have h6 : s.data.toList.length = s.size := Array.length_toList
      rw [h5] at h6
      exact h0 h6.symm
    obtain ⟨n, HN⟩ : ∃ n : Int, Hid ((runL tokB s.data.toList : Int) = n) := ⟨_, rfl⟩
    go_enter Tryz.func30, Tryz.ntmps30
    go_wp2_with (go_at_call 56; refine (run_any _ _ kind_byte s (by omega) _).mono ?_; rintro e w' ⟨rfl, rfl⟩; rw [HN.out])
    go_ret
    exact ⟨ret_bool (by rw [HI.out, HN.out]; rfl), rfl⟩
end Go.Proofs.YtoblpjknnchlmabGreatDoor
