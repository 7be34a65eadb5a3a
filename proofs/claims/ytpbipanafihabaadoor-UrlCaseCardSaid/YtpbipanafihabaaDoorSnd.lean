/- Whether a path or a query may be sent, by the program. -/
import Derived.Test.YtpbipanafihabaaDoorLbl
namespace Go.Proofs.YtpbipanafihabaaDoor
open Go.RowKit

def signs : List UInt8 := [45, 46, 95, 126, 33, 36, 38, 39, 40, 41, 42, 43, 44, 59, 61, 58, 64, 37, 47, 63]
theorem sendB_small (c : UInt8) (h : 97 ≤ (c.toNat : Int) ∧ (c.toNat : Int) ≤ 122) : sendB c = true := by
  unfold sendB
  rw [decide_eq_true (show 97 ≤ c.toNat ∧ c.toNat ≤ 122 by omega)]
  rfl
theorem sendB_great (c : UInt8) (h : 65 ≤ (c.toNat : Int) ∧ (c.toNat : Int) ≤ 90) : sendB c = true := by
  unfold sendB
  rw [decide_eq_true (show 65 ≤ c.toNat ∧ c.toNat ≤ 90 by omega)]
  simp
theorem sendB_digit (c : UInt8) (h : 48 ≤ (c.toNat : Int) ∧ (c.toNat : Int) ≤ 57) : sendB c = true := by
  unfold sendB
  rw [decide_eq_true (show 48 ≤ c.toNat ∧ c.toNat ≤ 57 by omega)]
  simp
theorem sendB_rest (c : UInt8) (h1 : ¬ (97 ≤ (c.toNat : Int) ∧ (c.toNat : Int) ≤ 122)) (h2 : ¬ (65 ≤ (c.toNat : Int) ∧ (c.toNat : Int) ≤ 90)) (h3 : ¬ (48 ≤ (c.toNat : Int) ∧ (c.toNat : Int) ≤ 57)) : sendB c = signs.contains c := by
  unfold sendB
  rw [decide_eq_false (show ¬ (97 ≤ c.toNat ∧ c.toNat ≤ 122) by omega), decide_eq_false (show ¬ (65 ≤ c.toNat ∧ c.toNat ≤ 90) by omega), decide_eq_false (show ¬ (48 ≤ c.toNat ∧ c.toNat ≤ 57) by omega)]
  rfl
theorem send_snoc (s : ByteArray) (k : Nat) (hk : k < s.size) (c : UInt8) (e : s[k] = c) (h : (s.data.toList.take k).all sendB = true) (hc : sendB c = true) : (s.data.toList.take (k + 1)).all sendB = true := by
  rw [take_snoc s k hk, List.all_append, h, e]
  simp [hc]
theorem send_no (s : ByteArray) (k : Nat) (hk : k < s.size) (c : UInt8) (e : s[k] = c) (hc : sendB c = false) : sendL s.data.toList = false := by
  unfold sendL
  rw [List.all_eq_false]
  refine ⟨c, ?_, by rw [hc]; simp⟩
  rw [← e]
  exact List.getElem_mem (l := s.data.toList) (by simpa using hk)
theorem great_any (c : Int) (w : World) : Calls Tryd.prog 52 #[.int .u8 c] w fun e w' => e = .returned (.bool (isIn 65 90 c)) ∧ w' = w := by
  by_cases h : 65 ≤ c
  · by_cases h2 : c ≤ 90
    · rw [isIn_yes h h2]
      go_enter Tryd.func52, Tryd.ntmps52
      go_wp2
      go_ret
      exact ⟨rfl, rfl⟩
    · rw [isIn_no (by omega)]
      go_enter Tryd.func52, Tryd.ntmps52
      go_wp2
      go_ret
      exact ⟨rfl, rfl⟩
  · rw [isIn_no (by omega)]
    go_enter Tryd.func52, Tryd.ntmps52
    go_wp2
    go_ret
    exact ⟨rfl, rfl⟩
def ixS (c : UInt8) : Int := ixOf signs c
theorem ix_signs (c : UInt8) (n : Int) (hn : n = c.toNat) (w : World) :
    Calls Tryd.prog 17 #[.string { data := #[45, 46, 95, 126, 33, 36, 38, 39, 40, 41, 42, 43, 44, 59, 61, 58, 64, 37, 47, 63] }, .int .u8 n] w fun e w' => e = .returned (.int .i64 (ixS c)) ∧ w' = w := ix_of _ c n hn w
theorem ixS_cases (c : UInt8) : (ixS c = -1 ∧ signs.contains c = false) ∨ ∃ n : Nat, n < 20 ∧ ixS c = n ∧ signs.contains c = true := by
  rcases ixOf_first signs c with ⟨h1, h2⟩ | ⟨n, h1, h2, h3, h4⟩
  · exact .inl ⟨h1, by simpa using h2⟩
  · refine .inr ⟨n, h1, h2, ?_⟩
    rw [List.contains_iff_mem, h4]
    simp
set_option maxHeartbeats 1000000 in
set_option maxRecDepth 100000 in
theorem send_any (s : ByteArray) (hs : s.size ≤ 5000) (w : World) :
    Calls Tryd.prog 27 #[.string s] w fun e w' => e = .returned (.bool (sendL s.data.toList)) ∧ w' = w := by
  have hsl : s.data.toList.length = s.size := Array.length_toList
  go_enter Tryd.func27, Tryd.ntmps27
  go_wp2
  go_loop [7] (fun i => ∃ (k : Nat), k ≤ s.size ∧ i = .int .i64 k ∧ Hid ((s.data.toList.take k).all sendB = true)) (fun i => s.size - (intOf i).toNat)
  case atStart => exact ⟨0, Nat.zero_le _, rfl, rfl⟩
  case round =>
    obtain ⟨k, hk, rfl, HK⟩ := hrel
    by_cases hlt : k < s.size
    · obtain ⟨c, hcd⟩ : ∃ c : UInt8, s[k] = c := ⟨_, rfl⟩
      have hcl : (c.toNat : Int) < 256 := by have := c.toNat_lt; omega
      have HC : Hid (s[k] = c) := hcd
      have key : (∃ b1 b2 b3 : Bool, isIn 97 122 (c.toNat : Int) = b1 ∧ isIn 65 90 (c.toNat : Int) = b2 ∧ isIn 48 57 (c.toNat : Int) = b3 ∧ (b1 || b2 || b3) = true ∧ sendB c = true) ∨ (isIn 97 122 (c.toNat : Int) = false ∧ isIn 65 90 (c.toNat : Int) = false ∧ isIn 48 57 (c.toNat : Int) = false ∧ sendB c = signs.contains c) := by
        by_cases h1 : 97 ≤ (c.toNat : Int) ∧ (c.toNat : Int) ≤ 122
        · exact .inl ⟨_, _, _, rfl, rfl, rfl, by rw [isIn_yes h1.1 h1.2]; rfl, sendB_small c h1⟩
        by_cases h2 : 65 ≤ (c.toNat : Int) ∧ (c.toNat : Int) ≤ 90
        · exact .inl ⟨_, _, _, rfl, rfl, rfl, by rw [isIn_yes h2.1 h2.2]; simp, sendB_great c h2⟩
        by_cases h3 : 48 ≤ (c.toNat : Int) ∧ (c.toNat : Int) ≤ 57
        · exact .inl ⟨_, _, _, rfl, rfl, rfl, by rw [isIn_yes h3.1 h3.2]; simp, sendB_digit c h3⟩
        exact .inr ⟨isIn_no h1, isIn_no h2, isIn_no h3, sendB_rest c h1 h2 h3⟩
      rcases key with ⟨b1, b2, b3, i1, i2, i3, hb, hsend⟩ | ⟨i1, i2, i3, hsend⟩
      · have HO : Hid (sendB c = true) := hsend
        clear hsend
        cases b1 <;> cases b2 <;> cases b3
        all_goals (first | (exfalso; exact absurd hb (by decide)) | skip)
        all_goals
          clear hb
          go_wp2_with (first | (go_at_call 51; refine (small_any _ _).mono ?_; rintro e w' ⟨rfl, rfl⟩; rw [i1]) | (go_at_call 52; refine (great_any _ _).mono ?_; rintro e w' ⟨rfl, rfl⟩; rw [i2]) | (go_at_call 53; refine (digit_any _ _).mono ?_; rintro e w' ⟨rfl, rfl⟩; rw [i3]))
          go_round
          case rel => exact ⟨k + 1, by omega, by go_num, send_snoc s k hlt c HC HK HO⟩
          case measure => simp [intOf]; omega
      · rcases ixS_cases c with ⟨hx, hcon⟩ | ⟨n, hn20, hx, hcon⟩
        · have HO : Hid (sendB c = false) := by show _ = _; rw [hsend, hcon]
          clear hsend hcon
          go_wp2_with (first | (go_at_call 51; refine (small_any _ _).mono ?_; rintro e w' ⟨rfl, rfl⟩; rw [i1]) | (go_at_call 52; refine (great_any _ _).mono ?_; rintro e w' ⟨rfl, rfl⟩; rw [i2]) | (go_at_call 53; refine (digit_any _ _).mono ?_; rintro e w' ⟨rfl, rfl⟩; rw [i3]) | (go_at_call 17; refine (ix_signs c _ rfl _).mono ?_; rintro e w' ⟨rfl, rfl⟩; rw [hx]))
          go_ret
          exact ⟨by rw [send_no s k hlt c HC HO]; rfl, rfl⟩
        · have HO : Hid (sendB c = true) := by show _ = _; rw [hsend, hcon]
          clear hsend hcon
          go_wp2_with (first | (go_at_call 51; refine (small_any _ _).mono ?_; rintro e w' ⟨rfl, rfl⟩; rw [i1]) | (go_at_call 52; refine (great_any _ _).mono ?_; rintro e w' ⟨rfl, rfl⟩; rw [i2]) | (go_at_call 53; refine (digit_any _ _).mono ?_; rintro e w' ⟨rfl, rfl⟩; rw [i3]) | (go_at_call 17; refine (ix_signs c _ rfl _).mono ?_; rintro e w' ⟨rfl, rfl⟩; rw [hx]))
          go_round
          case rel => exact ⟨k + 1, by omega, by go_num, send_snoc s k hlt c HC HK HO⟩
          case measure => simp [intOf]; omega
    · have HN : Hid (sendL s.data.toList = true) := by
        show _ = _
        have h1 := HK.out
        rw [List.take_of_length_le (by omega)] at h1
        exact h1
      go_wp2
      go_ret
      exact ⟨by rw [HN.out]; rfl, rfl⟩
end Go.Proofs.YtpbipanafihabaaDoor
