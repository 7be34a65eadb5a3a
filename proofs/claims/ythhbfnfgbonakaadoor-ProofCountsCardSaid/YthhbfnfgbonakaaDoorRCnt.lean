/- A count, by the document. -/
import Derived.Test.YthhbfnfgbonakaaDoorCnt
namespace Go.Proofs.YthhbfnfgbonakaaDoor
open Go.RowKit

set_option maxRecDepth 100000 in
set_option maxHeartbeats 1000000 in
theorem refCount_any (n : Nat) (hn : n < 9223372036854775808) (w : World) (HD : Hid (Bruijn w)) :
    Calls Tryd.prog 7 #[.int .i64 (n : Int)] w fun e w' => e = .returned (.string (bs (countL n))) ∧ Below w.heap.size w w' := by
  have hl := hexN_len n
  have hf := fmt16_any n hn
  go_enter Tryd.func7, Tryd.ntmps7
  go_wp2_with fail
  refine (hf _ HD).mono ?_
  rintro e w1 ⟨rfl, hb1⟩
  go_wp2
  go_loopw [3] (fun s wr => ∃ (j z : Nat) (H : ByteArray), s = .string H ∧ H.size = z ∧ z = j + (hexN n).length ∧ (j = 0 ∨ z ≤ 8) ∧ Hid (H = bs (List.replicate j 48 ++ hexN n) ∧ Below w.heap.size w wr)) (fun s _ => 8 - (match s with | .string H => H.size | _ => 0))
  case atStart => exact ⟨0, _, _, rfl, rfl, by rw [bs_size]; omega, .inl rfl, ⟨rfl, hb1⟩⟩
  case round =>
    obtain ⟨j, z, H, rfl, hz, hzj, hj, HI⟩ := hrel
    by_cases h8 : z < 8
    · have hi : (z : Int) < 8 := by omega
      go_wp2
      go_roundw
      case rel =>
        refine ⟨j + 1, z + 1, _, rfl, ?_, by omega, .inr (by omega), ⟨?_, HI.out.2⟩⟩
        · rw [ByteArray.size_append, hz]; show 1 + z = z + 1; omega
        · rw [HI.out.1, List.replicate_succ, List.cons_append, show (48 :: (List.replicate j 48 ++ hexN n) : List UInt8) = [48] ++ (List.replicate j 48 ++ hexN n) from rfl, bs_append]; rfl
      case measure =>
        show 8 - ((⟨#[48]⟩ : ByteArray) ++ H).size < 8 - H.size
        rw [ByteArray.size_append, hz]
        show 8 - (1 + z) < 8 - z
        omega
    · have hi : ¬ (z : Int) < 8 := by omega
      have HB := HI.out.2
      have HE : Hid (H = bs (countL n)) := by
        show H = _
        rw [HI.out.1]
        unfold countL
        congr 3
        omega
      go_wp2
      go_ret
      exact ⟨by rw [← HE.out]; rfl, HI.out.2⟩
/-- The law ProofCounts. -/
theorem counts_walk (n : Int) (_ : -9223372036854775808 ≤ n) (hn : n ≤ 9223372036854775807) (w : World) (HD : Hid (Bruijn w)) :
    Calls Tryd.prog 3 #[.int .i64 n] w fun e w' => e = .returned (.bool true) ∧ Below w.heap.size w w' := by
  by_cases h0 : n < 0
  · go_enter Tryd.func3, Tryd.ntmps3
    go_wp2
    go_ret
    exact ⟨rfl, Below.refl _ _⟩
  · obtain ⟨k, rfl⟩ := Int.eq_ofNat_of_zero_le (Int.not_lt.1 h0)
    have h1 := fun w HD => count_any k (by omega) w HD
    have h2 := fun w HD => refCount_any k (by omega) w HD
    go_enter Tryd.func3, Tryd.ntmps3
    go_wp2_with fail
    refine (h1 _ HD).mono ?_
    rintro e w1 ⟨rfl, hb1⟩
    go_wp2_with fail
    refine (h2 _ (HD.out.below hb1 (Nat.le_refl _))).mono ?_
    rintro e w2 ⟨rfl, hb2⟩
    go_wp2
    go_ret
    exact ⟨by simp, hb1.trans (hb2.mono hb1.size)⟩
end Go.Proofs.YthhbfnfgbonakaaDoor
