/- Whether a byte may be one of a word, and a text is a word, by the document's own answer. -/
import Derived.Test.YtbhnaekkjpcafaaTkB
import Derived.Test.YtbhnaekkjpcafaaWin
namespace Go.Proofs.Ytbhnaekkjpcafaa
open Go.RowKit

def tbars : List UInt8 := [34, 40, 41, 44, 47, 58, 59, 60, 61, 62, 63, 64, 91, 92, 93, 123, 125]
def ixR (c : UInt8) : Int := ixOf tbars c
theorem ix_tbars (c : UInt8) (w : World) :
    Calls Try.prog 14 #[.string { data := #[34, 40, 41, 44, 47, 58, 59, 60, 61, 62, 63, 64, 91, 92, 93, 123, 125] }, .int .u8 (c.toNat : Int)] w fun e w' => e = .returned (.int .i64 (ixR c)) ∧ w' = w := ix_of _ c _ rfl w
set_option maxHeartbeats 1000000 in
theorem refByte_any (c : UInt8) (w : World) : Calls Try.prog 12 #[.int .u8 (c.toNat : Int)] w fun e w' => e = .returned (.bool (tokB c)) ∧ w' = w := by
  have hcl : (c.toNat : Int) < 256 := by have := c.toNat_lt; omega
  by_cases h : 33 ≤ (c.toNat : Int) ∧ (c.toNat : Int) ≤ 126
  · obtain ⟨x, hx, HX⟩ : ∃ x : Int, ixR c = x ∧ Hid (tokB c = decide (x < 0)) := by
      refine ⟨_, rfl, ?_⟩
      show _ = _
      rw [tok_all c, decide_eq_true (show 33 ≤ c.toNat ∧ c.toNat ≤ 126 by omega)]
      unfold ixR
      rcases ixOf_in tbars c with ⟨e1, e2⟩ | ⟨n, _, e1, e2⟩
      · rw [e1]; unfold tbars at e2; rw [e2]; rfl
      · rw [e1]; unfold tbars at e2; rw [e2]; simp
    rw [HX.out]
    go_enter Try.func12, Try.ntmps12
    go_wp2_with (first | (go_at_call 8; refine (within_yes _ _ _ h.1 h.2 _).mono ?_; rintro e w' ⟨rfl, rfl⟩) | (go_at_call 14; refine (ix_tbars c _).mono ?_; rintro e w' ⟨rfl, rfl⟩; rw [hx]))
    go_ret
    exact ⟨rfl, rfl⟩
  · have HX : Hid (tokB c = false) := by
      show _ = _
      rw [tok_all c, decide_eq_false (show ¬ (33 ≤ c.toNat ∧ c.toNat ≤ 126) by omega)]
      rfl
    rw [HX.out]
    go_enter Try.func12, Try.ntmps12
    go_wp2_with (go_at_call 8; refine (within_no _ _ _ h _).mono ?_; rintro e w' ⟨rfl, rfl⟩)
    go_ret
    exact ⟨rfl, rfl⟩
set_option maxHeartbeats 1000000 in
theorem refToken_any (s : ByteArray) (hs : s.size ≤ 5000) (w : World) :
    Calls Try.prog 9 #[.string s] w fun e w' => e = .returned (.bool (isL s.data.toList)) ∧ w' = w := by
  go_enter Try.func9, Try.ntmps9
  go_wp2
  go_loop [3] (fun i => ∃ (k : Nat), k ≤ s.size ∧ i = .int .i64 k ∧ Hid ((s.data.toList.take k).all tokB = true)) (fun i => s.size - (intOf i).toNat)
  case atStart => exact ⟨0, Nat.zero_le _, rfl, rfl⟩
  case round =>
    obtain ⟨k, hk, rfl, HK⟩ := hrel
    by_cases hlt : k < s.size
    · obtain ⟨c, hcd⟩ : ∃ c : UInt8, s[k] = c := ⟨_, rfl⟩
      have hcl : (c.toNat : Int) < 256 := by have := c.toNat_lt; omega
      cases hf : tokB c
      · have HR : Hid (isL s.data.toList = false) := by
          show _ = _
          rw [isL_run s (by omega), run_part tokB s k hlt c hcd HK hf]
          exact decide_eq_false (by omega)
        have hks : ¬ (k : Int) = (s.size : Int) := by omega
        by_cases h0 : 0 < k
        · go_wp2_with (go_at_call 12; refine (refByte_any c _).mono ?_; rintro e w' ⟨rfl, rfl⟩; rw [hf])
          go_ret
          exact ⟨ret_bool (by rw [HR.out]; exact beq_eq_false_iff_ne.2 hks), rfl⟩
        · go_wp2_with (go_at_call 12; refine (refByte_any c _).mono ?_; rintro e w' ⟨rfl, rfl⟩; rw [hf])
          go_ret
          exact ⟨ret_bool HR.out.symm, rfl⟩
      · have HS : Hid ((s.data.toList.take (k + 1)).all tokB = true) := all_snoc tokB s k hlt c hcd HK hf
        go_wp2_with (go_at_call 12; refine (refByte_any c _).mono ?_; rintro e w' ⟨rfl, rfl⟩; rw [hf])
        go_round
        case rel => exact ⟨k + 1, by omega, by go_num, HS⟩
        case measure => simp [intOf]; omega
    · obtain rfl : k = s.size := by omega
      by_cases h0 : 0 < s.size
      · have HR : Hid (isL s.data.toList = true) := by
          show _ = _
          rw [isL_run s h0, run_full tokB s s.size (Nat.le_refl _) HK]
          exact decide_eq_true rfl
        go_wp2
        go_ret
        exact ⟨ret_bool HR.out.symm, rfl⟩
      · have HR : Hid (isL s.data.toList = false) := isL_empty s (by omega)
        go_wp2
        go_ret
        exact ⟨ret_bool HR.out.symm, rfl⟩
end Go.Proofs.Ytbhnaekkjpcafaa
