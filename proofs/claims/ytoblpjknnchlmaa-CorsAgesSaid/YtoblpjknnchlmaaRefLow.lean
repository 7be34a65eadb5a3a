/- The document's own small letters, told as a list of bytes. -/
import Derived.Test.YtoblpjknnchlmaaLw
import Derived.Test.YtoblpjknnchlmaaChar
import Derived.Test.YtoblpjknnchlmaaWin
namespace Go.Proofs.Ytoblpjknnchlmaa
open Go.RowKit

set_option maxHeartbeats 400000 in
theorem refLower_any (s : ByteArray) (w : World) (hs : s.size ≤ 20000) :
    Calls Try.prog 16 #[.string s] w fun e w' => e = .returned (.string (bs (s.data.toList.map low))) ∧ Below w.heap.size w w' := by
  go_enter Try.func16, Try.ntmps16
  go_wp2
  go_loopw [3, 8] (fun v i wr => ∃ (k : Nat) (o : ByteArray), k ≤ s.size ∧ i = .int .i64 k ∧ v = .string o ∧ o.size = k ∧ Hid (o = bs ((s.data.toList.take k).map low)) ∧ Below w.heap.size w wr) (fun _ i _ => s.size - (intOf i).toNat)
  case atStart => exact ⟨0, _, Nat.zero_le _, rfl, rfl, rfl, rfl, Below.refl _ _⟩
  case round =>
    obtain ⟨k, o, hk, rfl, rfl, ho, HO, hb⟩ := hrel
    by_cases hlt : k < s.size
    · obtain ⟨c, hcd⟩ : ∃ c : UInt8, s[k] = c := ⟨_, rfl⟩
      have hcl : (c.toNat : Int) < 256 := by have := c.toNat_lt; omega
      have HS : Hid (s.data.toList.take (k + 1) = s.data.toList.take k ++ [c]) := by rw [← hcd]; exact take_snoc s k hlt
      by_cases hc : 65 ≤ (c.toNat : Int) ∧ (c.toNat : Int) ≤ 90
      · have HL : Hid (UInt8.ofNat ((c.toNat : Int) + 32).toNat = low c) := low_in _ hc
        go_wp2_with (first | (go_at_call 21; refine (within_yes _ _ _ hc.1 hc.2 _).mono ?_; rintro e w' ⟨rfl, rfl⟩) | (go_at_call 22; refine (char_o _ (by omega) (by omega) _).mono ?_; rintro e w' ⟨t, rfl, ht, HT, hb2⟩))
        go_roundw
        case rel => exact ⟨k + 1, o ++ t, by omega, by go_num, rfl, by simp [ho, ht], by show o ++ t = _; rw [HS.out, List.map_append, bs_append, HO.out, HT.out, HL.out]; rfl, hb.trans (hb2.mono hb.size)⟩
        case measure => simp [intOf]; omega
      · have HL : Hid (low c = c) := low_out _ hc
        go_wp2_with (first | (go_at_call 21; refine (within_no _ _ _ hc _).mono ?_; rintro e w' ⟨rfl, rfl⟩) | (go_at_call 22; refine (char_o _ (by omega) (by omega) _).mono ?_; rintro e w' ⟨t, rfl, ht, HT, hb2⟩))
        go_roundw
        case rel => exact ⟨k + 1, o ++ t, by omega, by go_num, rfl, by simp [ho, ht], by show o ++ t = _; rw [HS.out, List.map_append, bs_append, HO.out, HT.out]; simp [HL.out], hb.trans (hb2.mono hb.size)⟩
        case measure => simp [intOf]; omega
    · go_wp2
      go_ret
      exact ⟨ret_str (by rw [HO.out, List.take_of_length_le (by simp; omega)]), hb⟩

end Go.Proofs.Ytoblpjknnchlmaa
