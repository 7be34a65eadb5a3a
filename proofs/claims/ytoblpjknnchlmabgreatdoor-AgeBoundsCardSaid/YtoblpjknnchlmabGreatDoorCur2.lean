/- What a cursor goes over. -/
import Derived.Test.YtoblpjknnchlmabGreatDoorCur
import Derived.Test.YtoblpjknnchlmabGreatDoorSpl
namespace Go.Proofs.YtoblpjknnchlmabGreatDoor
open Go.RowKit

theorem len_data (s : ByteArray) : s.data.toList.length = s.size := Array.length_toList
theorem rest_size (s : ByteArray) (k : Nat) : (s.extract k s.size).size = s.size - k := by simp
theorem run_rest_le (f : UInt8 → Bool) (s : ByteArray) (k : Nat) (hk : k ≤ s.size) : k + runL f (s.data.toList.drop k) ≤ s.size := by
  have := runL_le f (s.data.toList.drop k)
  rw [List.length_drop, len_data] at this
  omega
set_option maxHeartbeats 1000000 in
theorem over_any (K : Nat) (f : UInt8 → Bool) (hK : Kind K f) (b : Nat) (s : ByteArray) (hs : s.size ≤ 20000) (k : Nat) (w : World) (hc : Cur w b s k) :
    Calls Tryz.prog 128 #[.pointer (some ⟨b, 0, none⟩), .func (.func K) #[] #[]] w fun e w' => ∃ t : ByteArray, e = .returned (.string t) ∧ t.size = runL f (s.data.toList.drop k) ∧ Hid (t.data.toList = (s.data.toList.drop k).takeWhile f) ∧ Cur w' b s (k + runL f (s.data.toList.drop k)) ∧ w.grownBy w' (some b) := by
  obtain ⟨r, HR⟩ : ∃ r : ByteArray, Hid (s.extract k s.size = r) := ⟨_, rfl⟩
  have hr : r.size = s.size - k := by rw [← HR.out, rest_size]
  have HD : Hid (r.data.toList = s.data.toList.drop k) := by show _ = _; rw [← HR.out, from_data]
  obtain ⟨n, HN⟩ : ∃ n : Nat, Hid (runL f (s.data.toList.drop k) = n) := ⟨_, rfl⟩
  have hn : k + n ≤ s.size := by rw [← HN.out]; exact run_rest_le f s k hc.le
  have HC : Hid (Cur w b s k) := hc
  have HT : Hid ((r.extract 0 n).data.toList = (s.data.toList.drop k).takeWhile f) := by show _ = _; rw [upto_data, HD.out, ← HN.out, take_runL]
  have HZ : Hid ((r.extract 0 n).size = n) := by
    show _ = _
    simp
    omega
  obtain ⟨h1, h2, h3, h4⟩ := hc
  have hkS : (k : Int) ≤ (s.size : Int) := by omega
  go_enter Tryz.func128, Tryz.ntmps128
  go_wp2
  go_quiet (fail)
  rw [HR.out]
  go_wp2_with fail
  refine (run_any K f hK r (by omega) _).mono ?_
  rintro e w' ⟨rfl, hw⟩
  obtain rfl := hw.symm
  rw [HD.out, HN.out]
  have hnr : (n : Int) ≤ (r.size : Int) := by omega
  go_wp2
  go_ret
  refine ⟨_, rfl, ?_, ?_, ?_, ?_⟩
  · rw [HN.out]; exact HZ
  · exact HT
  · rw [HN.out]; exact (HC.out.drewN _).set _ hn _ (by push_cast; rfl)
  · exact grown_trans (grown_drewN w _ _) (grown_set _ _ _ _)
end Go.Proofs.YtoblpjknnchlmabGreatDoor
