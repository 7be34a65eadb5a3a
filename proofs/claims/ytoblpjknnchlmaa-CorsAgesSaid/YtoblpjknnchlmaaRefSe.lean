/- A number of seconds, by the document's own answer. -/
import Derived.Test.YtoblpjknnchlmaaSec
import Derived.Test.YtoblpjknnchlmaaWin
namespace Go.Proofs.Ytoblpjknnchlmaa
open Go.RowKit

def RefSecAns (s : ByteArray) (e : Ending) : Prop :=
  (∃ n : Nat, secL s.data.toList = some n ∧ n ≤ 2147483648 ∧ e = .returned (.tuple #[.int .i64 (n : Int), .int .i64 0])) ∨ (secL s.data.toList = none ∧ e = .returned (.tuple #[.int .i64 0, .int .i64 3]))
theorem secL_part (s : ByteArray) (k : Nat) (hk : k < s.size) (c : UInt8) (e : s[k] = c) (hc : digB c = false) : secL s.data.toList = none := by
  unfold secL
  rw [if_pos]
  right
  rw [List.all_eq_false]
  refine ⟨c, ?_, by rw [hc]; simp⟩
  rw [← e]
  exact List.getElem_mem (l := s.data.toList) (by simpa using hk)
set_option maxRecDepth 100000 in
set_option maxHeartbeats 1000000 in
theorem refSeconds_any (s : ByteArray) (hs : s.size ≤ 20000) (w : World) :
    Calls Try.prog 15 #[.string s] w fun e w' => RefSecAns s e ∧ w' = w := by
  go_enter Try.func15, Try.ntmps15
  go_wp2
  go_loop [4, 8] (fun v i => ∃ (k : Nat) (x : Int), k ≤ s.size ∧ i = .int .i64 k ∧ v = .int .i64 x ∧ 0 ≤ x ∧ x ≤ 2147483648 ∧ Hid (x = ((secN 0 (s.data.toList.take k) : Nat) : Int)) ∧ Hid ((s.data.toList.take k).all digB = true)) (fun _ i => s.size - (intOf i).toNat)
  case atStart => exact ⟨0, 0, Nat.zero_le _, rfl, rfl, by omega, by omega, rfl, rfl⟩
  case round =>
    obtain ⟨k, x, hk, rfl, rfl, hx0, hx1, HX, HK⟩ := hrel
    by_cases hlt : k < s.size
    · obtain ⟨c, hcd⟩ : ∃ c : UInt8, s[k] = c := ⟨_, rfl⟩
      have hcl : (c.toNat : Int) < 256 := by have := c.toNat_lt; omega
      cases hd : digB c
      · have HA : Hid (secL s.data.toList = none) := secL_part s k hlt c hcd hd
        have hno : ¬ (48 ≤ (c.toNat : Int) ∧ (c.toNat : Int) ≤ 57) := by
          intro h
          rw [digB_yes c h.1 h.2] at hd
          cases hd
        have HNo : Hid (¬ (48 ≤ (c.toNat : Int) ∧ (c.toNat : Int) ≤ 57)) := hno
        clear hno hd
        go_wp2_with (go_at_call 21; refine (within_no _ _ _ HNo.out _).mono ?_; rintro e w' ⟨rfl, hw⟩; obtain rfl := hw.symm)
        go_ret2
        exact ⟨.inr ⟨HA, rfl⟩, rfl⟩
      · have hc1 : 48 ≤ (c.toNat : Int) := by have := of_decide_eq_true hd; omega
        have hc2 : (c.toNat : Int) ≤ 57 := by have := of_decide_eq_true hd; omega
        have HS : Hid (((secN 0 (s.data.toList.take (k + 1)) : Nat) : Int) = min (10 * x + ((c.toNat : Int) - 48)) 2147483648) := by
          show _ = _
          rw [take_snoc s k hlt, hcd, secN_snoc, secStep_int _ _ hd x HX.out]
        have HD : Hid ((s.data.toList.take (k + 1)).all digB = true) := all_snoc digB s k hlt c hcd HK hd
        clear hd
        by_cases hbig : 2147483648 < x * 10 + ((c.toNat : Int) - 48)
        · go_wp2_with (go_at_call 21; refine (within_yes _ _ _ hc1 hc2 _).mono ?_; rintro e w' ⟨rfl, hw⟩; obtain rfl := hw.symm)
          go_round
          case rel => exact ⟨k + 1, _, by omega, by go_num, rfl, by omega, by omega, by show _ = _; rw [HS.out]; omega, HD⟩
          case measure => simp [intOf]; omega
        · go_wp2_with (go_at_call 21; refine (within_yes _ _ _ hc1 hc2 _).mono ?_; rintro e w' ⟨rfl, hw⟩; obtain rfl := hw.symm)
          go_round
          case rel => exact ⟨k + 1, _, by omega, by go_num, rfl, by omega, by omega, by show _ = _; rw [HS.out]; omega, HD⟩
          case measure => simp [intOf]; omega
    · obtain rfl : k = s.size := by omega
      have HE : Hid (((secN 0 s.data.toList : Nat) : Int) = x) := by
        show _ = _
        rw [HX.out, List.take_of_length_le (by simp)]
      have hle := secN_le 0 s.data.toList (by omega)
      have HL : Hid (s.data.toList.all digB = true) := by
        have := HK.out
        rw [List.take_of_length_le (by simp)] at this
        exact this
      clear HK HX
      by_cases h0 : s.size = 0
      · obtain rfl := empty_of h0
        have HA : Hid (secL (⟨#[]⟩ : ByteArray).data.toList = none) := secL_empty
        clear hle HE HL
        go_wp2
        go_ret2
        exact ⟨.inr ⟨HA, rfl⟩, rfl⟩
      · have hne := not_empty h0
        have HA : Hid (secL s.data.toList = some (secN 0 s.data.toList)) := (secL_some s h0 (by
          have h3 : s.data.toList.length = s.size := Array.length_toList
          rw [(runL_all digB s.data.toList).2 HL.out, h3]
          omega)).1
        go_wp2
        go_ret2
        exact ⟨.inl ⟨_, HA, hle, by rw [HE.out]; rfl⟩, rfl⟩
end Go.Proofs.Ytoblpjknnchlmaa
