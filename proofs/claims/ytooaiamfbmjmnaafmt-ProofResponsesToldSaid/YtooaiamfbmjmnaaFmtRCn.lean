/- A count, by the document. -/
import Derived.Test.YtooaiamfbmjmnaaFmtCnt
namespace Go.Proofs.YtooaiamfbmjmnaaFmt
open Go.RowKit

set_option maxRecDepth 100000 in
set_option maxHeartbeats 1000000 in
theorem refCount_any (n : Nat) (hn : n < 9223372036854775808) (w : World) (HD : Hid (Bruijn w)) :
    Calls Tryf.prog 10 #[.int .i64 (n : Int)] w fun e w' => e = .returned (.string (bs (countL n))) ∧ Below w.heap.size w w' := by
  have hl := hexD_len n
  have hf := fmt16_any n hn
  go_enter Tryf.func10, Tryf.ntmps10
  go_wp2_with fail
  refine (hf _ HD).mono ?_
  rintro e w1 ⟨rfl, hb1⟩
  go_wp2
  go_loopw [3] (fun s wr => ∃ (j z : Nat) (H : ByteArray), s = .string H ∧ H.size = z ∧ z = j + (hexD n).length ∧ (j = 0 ∨ z ≤ 8) ∧ Hid (H = bs (List.replicate j 48 ++ hexD n) ∧ Below w.heap.size w wr)) (fun s _ => 8 - (match s with | .string H => H.size | _ => 0))
  case atStart => exact ⟨0, _, _, rfl, rfl, by rw [bs_size]; omega, .inl rfl, ⟨rfl, hb1⟩⟩
  case round =>
    obtain ⟨j, z, H, rfl, hz, hzj, hj, HI⟩ := hrel
    by_cases h8 : z < 8
    · have hi : (z : Int) < 8 := by omega
      go_wp2
      go_roundw
      case rel =>
        refine ⟨j + 1, z + 1, _, rfl, ?_, by omega, .inr (by omega), ⟨?_, HI.out.2⟩⟩
        · rw [ByteArray.size_append, hz]; show 1 + z = z + 1; omega
        · rw [HI.out.1, List.replicate_succ, List.cons_append, show (48 :: (List.replicate j 48 ++ hexD n) : List UInt8) = [48] ++ (List.replicate j 48 ++ hexD n) from rfl, bs_append]; rfl
      case measure =>
        show 8 - ((⟨#[48]⟩ : ByteArray) ++ H).size < 8 - H.size
        rw [ByteArray.size_append, hz]
        show 8 - (1 + z) < 8 - z
        omega
    · have hi : ¬ (z : Int) < 8 := by omega
      have HB := HI.out.2
      have HE : Hid (H = bs (countL n)) := by
        show H = _
        rw [HI.out.1]
        unfold countL
        congr 3
        omega
      go_wp2
      go_ret
      exact ⟨by rw [← HE.out]; rfl, HI.out.2⟩
end Go.Proofs.YtooaiamfbmjmnaaFmt
