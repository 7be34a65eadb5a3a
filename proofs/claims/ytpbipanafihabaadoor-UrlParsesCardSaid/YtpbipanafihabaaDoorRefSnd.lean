/- Whether all bytes of a path or query may be in one, by the document's own answer. -/
import Derived.Test.YtpbipanafihabaaDoorSnd
import Derived.Test.YtpbipanafihabaaDoorWin
namespace Go.Proofs.YtpbipanafihabaaDoor
open Go.RowKit

set_option maxHeartbeats 1000000 in
set_option maxRecDepth 100000 in
theorem refSend_any (s : ByteArray) (hs : s.size ≤ 5000) (w : World) :
    Calls Tryd.prog 24 #[.string s] w fun e w' => e = .returned (.bool (sendL s.data.toList)) ∧ w' = w := by
  have hsl : s.data.toList.length = s.size := Array.length_toList
  go_enter Tryd.func24, Tryd.ntmps24
  go_wp2
  go_loop [7] (fun i => ∃ (k : Nat), k ≤ s.size ∧ i = .int .i64 k ∧ Hid ((s.data.toList.take k).all sendB = true)) (fun i => s.size - (intOf i).toNat)
  case atStart => exact ⟨0, Nat.zero_le _, rfl, rfl⟩
  case round =>
    obtain ⟨k, hk, rfl, HK⟩ := hrel
    by_cases hlt : k < s.size
    · obtain ⟨c, hcd⟩ : ∃ c : UInt8, s[k] = c := ⟨_, rfl⟩
      have hcl : (c.toNat : Int) < 256 := by have := c.toNat_lt; omega
      have HC : Hid (s[k] = c) := hcd
      by_cases h1 : 97 ≤ (c.toNat : Int) ∧ (c.toNat : Int) ≤ 122
      · have HO : Hid (sendB c = true) := sendB_small c h1
        have i1 : decide (97 ≤ (c.toNat : Int) ∧ (c.toNat : Int) ≤ 122) = true := decide_eq_true h1
        go_wp2_with (go_at_call 18; refine (within_any _ _ _ _).mono ?_; rintro e w' ⟨rfl, rfl⟩; rw [i1])
        go_round
        case rel => exact ⟨k + 1, by omega, by go_num, send_snoc s k hlt c HC HK HO⟩
        case measure => simp [intOf]; omega
      by_cases h2 : 65 ≤ (c.toNat : Int) ∧ (c.toNat : Int) ≤ 90
      · have HO : Hid (sendB c = true) := sendB_great c h2
        have i1 : decide (97 ≤ (c.toNat : Int) ∧ (c.toNat : Int) ≤ 122) = false := decide_eq_false h1
        have i2 : decide (65 ≤ (c.toNat : Int) ∧ (c.toNat : Int) ≤ 90) = true := decide_eq_true h2
        go_wp2_with (go_at_call 18; refine (within_any _ _ _ _).mono ?_; rintro e w' ⟨rfl, rfl⟩; first | rw [i1] | rw [i2])
        go_round
        case rel => exact ⟨k + 1, by omega, by go_num, send_snoc s k hlt c HC HK HO⟩
        case measure => simp [intOf]; omega
      by_cases h3 : 48 ≤ (c.toNat : Int) ∧ (c.toNat : Int) ≤ 57
      · have HO : Hid (sendB c = true) := sendB_digit c h3
        have i1 : decide (97 ≤ (c.toNat : Int) ∧ (c.toNat : Int) ≤ 122) = false := decide_eq_false h1
        have i2 : decide (65 ≤ (c.toNat : Int) ∧ (c.toNat : Int) ≤ 90) = false := decide_eq_false h2
        have i3 : decide (48 ≤ (c.toNat : Int) ∧ (c.toNat : Int) ≤ 57) = true := decide_eq_true h3
        go_wp2_with (go_at_call 18; refine (within_any _ _ _ _).mono ?_; rintro e w' ⟨rfl, rfl⟩; first | rw [i1] | rw [i2] | rw [i3])
        go_round
        case rel => exact ⟨k + 1, by omega, by go_num, send_snoc s k hlt c HC HK HO⟩
        case measure => simp [intOf]; omega
      have hsend := sendB_rest c h1 h2 h3
      have i1 : decide (97 ≤ (c.toNat : Int) ∧ (c.toNat : Int) ≤ 122) = false := decide_eq_false h1
      have i2 : decide (65 ≤ (c.toNat : Int) ∧ (c.toNat : Int) ≤ 90) = false := decide_eq_false h2
      have i3 : decide (48 ≤ (c.toNat : Int) ∧ (c.toNat : Int) ≤ 57) = false := decide_eq_false h3
      rcases ixS_cases c with ⟨hx, hcon⟩ | ⟨n, hn20, hx, hcon⟩
      · have HO : Hid (sendB c = false) := by show _ = _; rw [hsend, hcon]
        clear hsend hcon
        go_wp2_with (first | (go_at_call 18; refine (within_any _ _ _ _).mono ?_; rintro e w' ⟨rfl, rfl⟩; first | rw [i1] | rw [i2] | rw [i3]) | (go_at_call 17; refine (ix_signs c _ rfl _).mono ?_; rintro e w' ⟨rfl, rfl⟩; rw [hx]))
        go_ret
        exact ⟨by rw [send_no s k hlt c HC HO]; rfl, rfl⟩
      · have HO : Hid (sendB c = true) := by show _ = _; rw [hsend, hcon]
        clear hsend hcon
        go_wp2_with (first | (go_at_call 18; refine (within_any _ _ _ _).mono ?_; rintro e w' ⟨rfl, rfl⟩; first | rw [i1] | rw [i2] | rw [i3]) | (go_at_call 17; refine (ix_signs c _ rfl _).mono ?_; rintro e w' ⟨rfl, rfl⟩; rw [hx]))
        go_round
        case rel => exact ⟨k + 1, by omega, by go_num, send_snoc s k hlt c HC HK HO⟩
        case measure => simp [intOf]; omega
    · have HN : Hid (sendL s.data.toList = true) := by
        show _ = _
        have h1 := HK.out
        rw [List.take_of_length_le (by omega)] at h1
        exact h1
      go_wp2
      go_ret
      exact ⟨by rw [HN.out]; rfl, rfl⟩
end Go.Proofs.YtpbipanafihabaaDoor
