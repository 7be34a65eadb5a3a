/- A cursor's blanks, words and marks, by the program. -/
import Derived.Test.YtoblpjknnchlmabGreatDoorCur2
namespace Go.Proofs.YtoblpjknnchlmabGreatDoor
open Go.RowKit

theorem ne_zero_list (t : ByteArray) (n : Nat) (h : t.size = n) : (!t.toList.isEmpty) = decide (0 < n) := by
  subst h
  rw [ByteArray.toList_eq]
  by_cases h0 : t.size = 0
  · have e : t.data.toList = [] := List.eq_nil_of_length_eq_zero (by rw [len_data]; exact h0)
    rw [e, decide_eq_false (by omega)]
    rfl
  · have e : t.data.toList ≠ [] := by
      intro e
      have := len_data t
      rw [e] at this
      exact h0 this.symm
    rw [decide_eq_true (by omega)]
    cases e2 : t.data.toList with
    | nil => exact absurd e2 e
    | cons x r => rfl
set_option maxHeartbeats 1000000 in
theorem blanks_any (b : Nat) (s : ByteArray) (hs : s.size ≤ 20000) (k : Nat) (w : World) (hc : Cur w b s k) :
    Calls Tryz.prog 98 #[.pointer (some ⟨b, 0, none⟩)] w fun e w' => e = .returned (.bool (decide (0 < runL blankB (s.data.toList.drop k)))) ∧ Cur w' b s (k + runL blankB (s.data.toList.drop k)) ∧ w.grownBy w' (some b) := by
  go_enter Tryz.func98, Tryz.ntmps98
  go_wp2_with (go_at_call 128; refine (over_any _ _ kind_blank b s (by omega) k _ hc).mono ?_; rintro e w' ⟨t, rfl, ht, HT, hc2, hg⟩)
  go_ret
  exact ⟨ret_bool (ne_zero_list t _ ht), hc2, hg⟩
set_option maxHeartbeats 1000000 in
theorem word_any (b : Nat) (s : ByteArray) (hs : s.size ≤ 20000) (k : Nat) (w : World) (hc : Cur w b s k) :
    Calls Tryz.prog 99 #[.pointer (some ⟨b, 0, none⟩)] w fun e w' => ∃ t : ByteArray, e = .returned (.string t) ∧ t.size = runL tokB (s.data.toList.drop k) ∧ Hid (t.data.toList = (s.data.toList.drop k).takeWhile tokB) ∧ Cur w' b s (k + runL tokB (s.data.toList.drop k)) ∧ w.grownBy w' (some b) := by
  have hle := run_rest_le tokB s k hc.le
  obtain ⟨n, HN⟩ : ∃ n : Nat, Hid (runL tokB (s.data.toList.drop k) = n) := ⟨_, rfl⟩
  rw [HN.out] at hle
  go_enter Tryz.func99, Tryz.ntmps99
  go_wp2_with (first | (go_at_call 128; refine (over_any _ _ kind_byte b s (by omega) k _ hc).mono ?_; rintro e w1 ⟨t, rfl, ht, HT, hc2, hg⟩; have htz : t.size ≤ 20000 := by rw [ht, HN.out]; omega) | (go_at_call 31; refine (clone_any _ htz _).mono ?_; rintro e w2 ⟨rfl, hb2⟩))
  go_ret
  exact ⟨t, rfl, ht, HT, hc2.below hb2, grown_trans hg (grown_below hb2 _)⟩
set_option maxHeartbeats 1000000 in
theorem mark_end (b : Nat) (s : ByteArray) (c : UInt8) (w : World) (hc : Cur w b s s.size) :
    Calls Tryz.prog 101 #[.pointer (some ⟨b, 0, none⟩), .int .u8 (c.toNat : Int)] w fun e w' => e = .returned (.bool false) ∧ ∃ n, w' = w.drewN n := by
  have HC : Hid (Cur w b s s.size) := hc
  have hend : ∀ n, Calls Tryz.prog 100 #[.pointer (some ⟨b, 0, none⟩)] (w.drewN n) fun e w' => e = .returned (.bool true) ∧ ∃ m, w' = (w.drewN n).drewN m := fun n => by
    refine (end_any b s s.size _ (HC.out.drewN n)).mono ?_
    rintro e w' ⟨rfl, h⟩
    exact ⟨ret_bool (by simp), h⟩
  clear hc
  go_enter Tryz.func101, Tryz.ntmps101
  go_wp2
  go_quiet ((go_at_call 100; exact Calls.quiet_of (hend _)))
  go_wp2
  go_ret
  exact ⟨rfl, _, rfl⟩
set_option maxHeartbeats 1000000 in
theorem mark_other (b : Nat) (s : ByteArray) (k : Nat) (hk : k < s.size) (c : UInt8) (hne : s[k] ≠ c) (w : World) (hc : Cur w b s k) :
    Calls Tryz.prog 101 #[.pointer (some ⟨b, 0, none⟩), .int .u8 (c.toNat : Int)] w fun e w' => e = .returned (.bool false) ∧ ∃ n, w' = w.drewN n := by
  have HC : Hid (Cur w b s k) := hc
  have hend : ∀ n, Calls Tryz.prog 100 #[.pointer (some ⟨b, 0, none⟩)] (w.drewN n) fun e w' => e = .returned (.bool false) ∧ ∃ m, w' = (w.drewN n).drewN m := fun n => by
    refine (end_any b s k _ (HC.out.drewN n)).mono ?_
    rintro e w' ⟨rfl, h⟩
    exact ⟨ret_bool (beq_eq_false_iff_ne.2 (by omega)), h⟩
  obtain ⟨d, hd⟩ : ∃ d : UInt8, s[k] = d := ⟨_, rfl⟩
  have hq : ((d.toNat : Int) != (c.toNat : Int)) = true := by
    rw [bne_iff_ne]
    intro e
    apply hne
    rw [hd]
    exact UInt8.toNat_inj.1 (by omega)
  obtain ⟨h1, h2, h3, h4⟩ := hc
  clear hne
  have hkS : (k : Int) < (s.size : Int) := by omega
  go_enter Tryz.func101, Tryz.ntmps101
  go_wp2
  go_quiet ((go_at_call 100; exact Calls.quiet_of (hend _)))
  go_wp2
  go_ret
  exact ⟨rfl, _, rfl⟩
set_option maxHeartbeats 1000000 in
theorem mark_yes (b : Nat) (s : ByteArray) (hs : s.size ≤ 20000) (k : Nat) (hk : k < s.size) (c : UInt8) (he : s[k] = c) (w : World) (hc : Cur w b s k) :
    Calls Tryz.prog 101 #[.pointer (some ⟨b, 0, none⟩), .int .u8 (c.toNat : Int)] w fun e w' => e = .returned (.bool true) ∧ Cur w' b s (k + 1) ∧ w.grownBy w' (some b) := by
  have HC : Hid (Cur w b s k) := hc
  have hend : ∀ n, Calls Tryz.prog 100 #[.pointer (some ⟨b, 0, none⟩)] (w.drewN n) fun e w' => e = .returned (.bool false) ∧ ∃ m, w' = (w.drewN n).drewN m := fun n => by
    refine (end_any b s k _ (HC.out.drewN n)).mono ?_
    rintro e w' ⟨rfl, h⟩
    exact ⟨ret_bool (beq_eq_false_iff_ne.2 (by omega)), h⟩
  have hq : ((c.toNat : Int) != (c.toNat : Int)) = false := by simp
  obtain ⟨h1, h2, h3, h4⟩ := hc
  have hkS : (k : Int) < (s.size : Int) := by omega
  go_enter Tryz.func101, Tryz.ntmps101
  go_wp2
  go_quiet ((go_at_call 100; exact Calls.quiet_of (hend _)))
  go_wp2
  go_ret
  exact ⟨rfl, (HC.out.drewN _).set _ (by omega) _ (by push_cast; rfl), grown_trans (grown_drewN w _ _) (grown_set _ _ _ _)⟩
/-- The place that a number stands for. -/
def clampK (n : Nat) (m : Int) : Nat := (max 0 (min m (n : Int))).toNat
theorem clampK_le (n : Nat) (m : Int) : clampK n m ≤ n := by unfold clampK; omega
end Go.Proofs.YtoblpjknnchlmabGreatDoor
