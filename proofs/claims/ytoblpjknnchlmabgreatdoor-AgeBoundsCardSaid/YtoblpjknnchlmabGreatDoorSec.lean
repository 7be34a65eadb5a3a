/- A number of seconds, by the program. -/
import Derived.Test.YtoblpjknnchlmabGreatDoorTkD
namespace Go.Proofs.YtoblpjknnchlmabGreatDoor
open Go.RowKit

theorem empty_of {s : ByteArray} (h : s.size = 0) : s = ⟨#[]⟩ := by
  apply ByteArray.ext
  exact Array.eq_empty_of_size_eq_zero h
theorem not_empty {s : ByteArray} (h : s.size ≠ 0) : (s.toList == ([] : List UInt8)) = false := by
  rw [beq_eq_false_iff_ne]
  intro e
  have h5 : s.data.toList = [] := by
    rw [← ByteArray.toList_eq]
    exact e
  have h6 : s.data.toList.length = s.size := Array.length_toList
  rw [h5] at h6
  exact h h6.symm
theorem secL_empty : secL (⟨#[]⟩ : ByteArray).data.toList = none := rfl
theorem secL_none (s : ByteArray) (h : runL digB s.data.toList < s.size) : secL s.data.toList = none := by
  unfold secL
  rw [if_pos]
  right
  have h2 := runL_all digB s.data.toList
  have h3 : s.data.toList.length = s.size := Array.length_toList
  cases h4 : s.data.toList.all digB
  · rfl
  · have := h2.2 h4
    omega
theorem secL_some (s : ByteArray) (h0 : s.size ≠ 0) (h : ¬ runL digB s.data.toList < s.size) : secL s.data.toList = some (secN 0 s.data.toList) ∧ s.data.toList.all digB = true := by
  have h2 := runL_all digB s.data.toList
  have h3 : s.data.toList.length = s.size := Array.length_toList
  have h4 := runL_le digB s.data.toList
  have h5 : s.data.toList.all digB = true := h2.1 (by omega)
  refine ⟨?_, h5⟩
  unfold secL
  rw [if_neg]
  rintro (h6 | h6)
  · rw [h6] at h3
    exact h0 h3.symm
  · rw [h5] at h6
    cases h6
theorem secStep_int (n : Nat) (c : UInt8) (h : digB c = true) (x : Int) (hx : x = (n : Int)) : ((secStep n c : Nat) : Int) = min (10 * x + ((c.toNat : Int) - 48)) 2147483648 := by
  subst hx
  have h1 := of_decide_eq_true h
  unfold secStep
  omega
/-- What it answers: a number, or ErrForm. -/
def SecAns (s : ByteArray) (e : Ending) : Prop :=
  (∃ n : Nat, secL s.data.toList = some n ∧ n ≤ 2147483648 ∧ e = .returned (.tuple #[.int .i64 (n : Int), .nilIface])) ∨ (secL s.data.toList = none ∧ e = .returned (.tuple #[.int .i64 0, .iface 56 (.int .i64 3)]))
set_option maxRecDepth 100000 in
set_option maxHeartbeats 1000000 in
theorem seconds_any (s : ByteArray) (hs : s.size ≤ 20000) (w : World) :
    Calls Tryz.prog 40 #[.string s] w fun e w' => SecAns s e ∧ w' = w := by
  by_cases h0 : s.size = 0
  · obtain rfl := empty_of h0
    have HA : Hid (secL (⟨#[]⟩ : ByteArray).data.toList = none) := secL_empty
    go_enter Tryz.func40, Tryz.ntmps40
    go_wp2
    go_ret2
    exact ⟨.inr ⟨HA, rfl⟩, rfl⟩
  · have hne := not_empty h0
    by_cases hr : runL digB s.data.toList < s.size
    · have HA : Hid (secL s.data.toList = none) := secL_none s hr
      obtain ⟨n, HN, hn⟩ : ∃ n : Nat, Hid (runL digB s.data.toList = n) ∧ n < s.size := ⟨_, rfl, hr⟩
      clear hr h0
      go_enter Tryz.func40, Tryz.ntmps40
      go_wp2_with (go_at_call 56; refine (run_any _ _ kind_digit s (by omega) _).mono ?_; rintro e w' ⟨rfl, hw⟩; obtain rfl := hw.symm; rw [HN.out])
      go_ret2
      exact ⟨.inr ⟨HA, rfl⟩, rfl⟩
    · obtain ⟨hsome, hall⟩ := secL_some s h0 hr
      have HA : Hid (secL s.data.toList = some (secN 0 s.data.toList)) := hsome
      have HL : Hid (s.data.toList.all digB = true) := hall
      have HN : Hid (runL digB s.data.toList = s.size) := by
        show _ = _
        have h3 : s.data.toList.length = s.size := Array.length_toList
        rw [(runL_all digB s.data.toList).2 hall, h3]
      clear hsome hall hr h0
      go_enter Tryz.func40, Tryz.ntmps40
      go_wp2_with (go_at_call 56; refine (run_any _ _ kind_digit s (by omega) _).mono ?_; rintro e w' ⟨rfl, hw⟩; obtain rfl := hw.symm; rw [HN.out])
      go_loop [4, 18] (fun v i => ∃ (k : Nat) (x : Int), k ≤ s.size ∧ i = .int .i64 k ∧ v = .int .i64 x ∧ 0 ≤ x ∧ x ≤ 2147483648 ∧ Hid (x = ((secN 0 (s.data.toList.take k) : Nat) : Int))) (fun _ i => s.size - (intOf i).toNat)
      case atStart => exact ⟨0, 0, Nat.zero_le _, rfl, rfl, by omega, by omega, rfl⟩
      case round =>
        obtain ⟨k, x, hk, rfl, rfl, hx0, hx1, HX⟩ := hrel
        by_cases hlt : k < s.size
        · obtain ⟨c, hcd⟩ : ∃ c : UInt8, s[k] = c := ⟨_, rfl⟩
          have hd : digB c = true := by
            refine List.all_eq_true.1 HL.out c ?_
            rw [← hcd]
            exact List.getElem_mem (l := s.data.toList) (by simpa using hlt)
          have hc1 : 48 ≤ (c.toNat : Int) := by have := of_decide_eq_true hd; omega
          have hc2 : (c.toNat : Int) ≤ 57 := by have := of_decide_eq_true hd; omega
          have HS : Hid (((secN 0 (s.data.toList.take (k + 1)) : Nat) : Int) = min (10 * x + ((c.toNat : Int) - 48)) 2147483648) := by
            show _ = _
            rw [take_snoc s k hlt, hcd, secN_snoc, secStep_int _ _ hd x HX.out]
          clear hd
          go_wp2
          go_round
          case rel => exact ⟨k + 1, _, by omega, by go_num, rfl, by omega, by omega, by show _ = _; rw [HS.out]⟩
          case measure => simp [intOf]; omega
        · have HE : Hid (((secN 0 s.data.toList : Nat) : Int) = x) := by
            show _ = _
            rw [HX.out, List.take_of_length_le (by simp; omega)]
          have hle := secN_le 0 s.data.toList (by omega)
          go_wp2
          go_ret2
          exact ⟨.inl ⟨_, HA, hle, by rw [HE.out]; rfl⟩, rfl⟩
end Go.Proofs.YtoblpjknnchlmabGreatDoor
