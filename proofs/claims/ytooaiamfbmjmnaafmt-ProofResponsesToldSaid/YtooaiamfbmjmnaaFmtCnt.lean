/- A count, by the program. -/
import Derived.Test.YtooaiamfbmjmnaaFmtFib
import Derived.Test.YtooaiamfbmjmnaaFmtShRep
namespace Go.Proofs.YtooaiamfbmjmnaaFmt
open Go.RowKit Go.Shelf

set_option maxHeartbeats 1000000 in
theorem fmt16_in (n : Nat) (hn : n < 9223372036854775808) (w : World) (HD : Hid (Bruijn w)) :
    Calls Tryf.prog 27 #[.int .i64 (n : Int), .int .i64 16] w fun e w' => e = .returned (.string (bs (hexD n))) ∧ Below w.heap.size w w' := by
  have hc : IntKind.u64.wrap (n : Int) = (n : Int) := by rw [IntKind.wrap_u64]; omega
  have hneg : ¬ (n : Int) < 0 := by omega
  go_enter Tryf.func27, Tryf.ntmps27
  go_wp2_with fail
  refine (fib_any n hn _ HD).mono ?_
  rintro e w1 ⟨rfl, hb1⟩
  go_wp2
  go_ret
  exact ⟨rfl, hb1⟩
theorem fmt16_any (n : Nat) (hn : n < 9223372036854775808) (w : World) (HD : Hid (Bruijn w)) :
    Calls Tryf.prog 14 #[.int .i64 (n : Int), .int .i64 16] w fun e w' => e = .returned (.string (bs (hexD n))) ∧ Below w.heap.size w w' := by
  go_enter Tryf.func14, Tryf.ntmps14
  go_wp2_with fail
  refine (fmt16_in n hn _ HD).mono ?_
  rintro e w1 ⟨rfl, hb1⟩
  go_wp2
  go_ret
  exact ⟨rfl, hb1⟩
theorem repeat_noughts (q : Nat) (hq : q ≤ 8) (w : World) : Calls Tryf.prog 15 #[.string ⟨#[48]⟩, .int .i64 (q : Int)] w fun e w' => e = .returned (.string (bs (List.replicate q 48))) ∧ Below w.heap.size w w' := by
  have h := Any.strings_Repeat lays105 Builder_Extra_105 ⟨#[48]⟩ q w (by omega) (by rw [show (⟨#[48]⟩ : ByteArray).size = 1 from rfl, Nat.one_mul]; omega)
  have e : (⟨(Lib.repeatL (⟨#[48]⟩ : ByteArray).data.toList q).toArray⟩ : ByteArray) = bs (List.replicate q 48) := by
    obtain rfl | rfl | rfl | rfl | rfl | rfl | rfl | rfl | rfl : q = 0 ∨ q = 1 ∨ q = 2 ∨ q = 3 ∨ q = 4 ∨ q = 5 ∨ q = 6 ∨ q = 7 ∨ q = 8 := by omega
    all_goals rfl
  rw [e] at h
  exact h
set_option maxHeartbeats 1000000 in
theorem count_any (n : Nat) (hn : n < 9223372036854775808) (w : World) (HD : Hid (Bruijn w)) :
    Calls Tryf.prog 8 #[.int .i64 (n : Int)] w fun e w' => e = .returned (.string (bs (countL n))) ∧ Below w.heap.size w w' := by
  have hl := hexD_len n
  have hl1 := hexD_pos n
  have hz : (bs (hexD n)).size = (hexD n).length := bs_size _
  have hrep := repeat_noughts (8 - (hexD n).length) (by omega)
  have hadd : bs (List.replicate (8 - (hexD n).length) 48) ++ bs (hexD n) = bs (countL n) := by
    unfold countL
    rw [bs_append]
  have hfit : ((bs (List.replicate (8 - (hexD n).length) 48)).size + (bs (hexD n)).size : Nat) ≤ 24 := by rw [bs_size, bs_size, List.length_replicate]; omega
  obtain ⟨H, hH⟩ : ∃ H, bs (hexD n) = H := ⟨_, rfl⟩
  have hf := fmt16_any n hn
  rw [hH] at hz hadd hfit hf
  generalize (hexD n).length = L at *
  obtain ⟨q, hq⟩ : ∃ q : Nat, 8 - L = q := ⟨_, rfl⟩
  rw [hq] at hrep hadd hfit
  have hmax : max (0 : Int) (8 - (L : Int)) = (q : Int) := by omega
  generalize bs (List.replicate q 48) = R at *
  go_enter Tryf.func8, Tryf.ntmps8
  go_wp2_with fail
  refine (hf _ HD).mono ?_
  rintro e w1 ⟨rfl, hb1⟩
  go_wp2_with fail
  refine (hrep _).mono ?_
  rintro e w2 ⟨rfl, hb2⟩
  go_wp2
  go_ret
  exact ⟨rfl, hb1.trans (hb2.mono hb1.size)⟩
end Go.Proofs.YtooaiamfbmjmnaaFmt
