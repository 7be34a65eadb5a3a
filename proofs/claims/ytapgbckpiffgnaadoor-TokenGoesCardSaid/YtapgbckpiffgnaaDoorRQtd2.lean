/- The text between marks at the document's cursor, taken. -/
import Derived.Test.YtapgbckpiffgnaaDoorRQtd
namespace Go.Proofs.YtapgbckpiffgnaaDoor
open Go.RowKit

set_option maxRecDepth 100000 in
set_option maxHeartbeats 2000000 in
theorem refQtd_any (b : Nat) (s : ByteArray) (hs : s.size ≤ 5000) (k : Nat) (w : World) (hc : Cur w b s k) :
    Calls Tryd.prog 15 #[.pointer (some ⟨b, 0, none⟩)] w (QtdAns b s k w) := by
  have HC : Hid (Cur w b s k) := hc
  obtain ⟨r, HR⟩ : ∃ r : ByteArray, Hid (s.extract k s.size = r) := ⟨_, rfl⟩
  have hr : r.size ≤ 5000 := by rw [← HR.out, rest_size]; omega
  have HD : Hid (r.data.toList = s.data.toList.drop k) := by show _ = _; rw [← HR.out, from_data]
  obtain ⟨h1, h2, h3, h4⟩ := hc
  have hk0 : (0 : Int) ≤ (k : Int) := by omega
  have hkS : (k : Int) ≤ (s.size : Int) := by omega
  rcases hu : quotedL r.data.toList with _ | ⟨t, n⟩
  · have hU : ∀ w, Calls Tryd.prog 36 #[.string r] w fun e w' => e = .returned (.tuple #[.string ⟨#[]⟩, .int .i64 0]) ∧ w' = w := fun w => by
      refine (refQuoted_any r hr w).mono ?_
      rintro e w' ⟨⟨t, n, h, _⟩ | ⟨_, rfl⟩, rfl⟩
      · rw [hu] at h; cases h
      · exact ⟨rfl, rfl⟩
    have HA : Hid (quotedL (s.data.toList.drop k) = none) := by show _ = _; rw [← HD.out, hu]
    clear hu
    go_enter Tryd.func15, Tryd.ntmps15
    go_wp2
    go_quiet ((go_at_call 36; rw [HR.out]; exact Calls.quiet_of_same (hU _)))
    rw [HR.out]
    go_wp2
    go_ret2
    exact .inr ⟨HA, rfl, (HC.out.drewN _).set _ h4 _ (by first | rfl | simp), grown_trans (grown_drewN w _ _) (grown_set _ _ _ _)⟩
  · have hU : ∀ w, Calls Tryd.prog 36 #[.string r] w fun e w' => e = .returned (.tuple #[.string (bs t), .int .i64 (n : Int)]) ∧ w' = w := fun w => by
      refine (refQuoted_any r hr w).mono ?_
      rintro e w' ⟨⟨t', n', h, rfl⟩ | ⟨h, _⟩, rfl⟩
      · rw [hu] at h; cases h; exact ⟨rfl, rfl⟩
      · rw [hu] at h; cases h
    have HA : Hid (quotedL (s.data.toList.drop k) = some (t, n)) := by show _ = _; rw [← HD.out, hu]
    obtain ⟨hn1, hn2⟩ := quoted_size _ _ _ HA.out
    rw [List.length_drop, len_data] at hn2
    have hn0 : 0 < n := by omega
    have hD : decide (0 < n) = true := decide_eq_true hn0
    obtain ⟨x, HX⟩ : ∃ x : ByteArray, Hid (bs t = x) := ⟨_, rfl⟩
    rw [HX.out] at hU
    clear hu hn1
    go_enter Tryd.func15, Tryd.ntmps15
    go_wp2
    go_quiet ((go_at_call 36; rw [HR.out]; exact Calls.quiet_of_same (hU _)))
    rw [HR.out]
    go_wp2
    go_ret2
    exact .inl ⟨t, n, HA, by rw [HX.out]; first | rfl | (simp only [hD]; rfl), (HC.out.drewN _).set _ (by omega) _ (by push_cast; rfl), grown_trans (grown_drewN w _ _) (grown_set _ _ _ _)⟩
end Go.Proofs.YtapgbckpiffgnaaDoor
