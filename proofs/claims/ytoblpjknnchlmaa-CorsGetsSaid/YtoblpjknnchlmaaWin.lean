/- Whether a number lies between two, by the document's own answer. -/
import Derived.Test.YtoblpjknnchlmaaBas
namespace Go.Proofs.Ytoblpjknnchlmaa
open Go.RowKit

set_option maxHeartbeats 400000 in
theorem within_any (n a b : Int) (w : World) :
    Calls Try.prog 21 #[.int .i64 n, .int .i64 a, .int .i64 b] w fun e w' => e = .returned (.bool (decide (a ≤ n ∧ n ≤ b))) ∧ w' = w := by
  by_cases h : a ≤ n
  · by_cases h2 : n ≤ b
    · go_enter Try.func21, Try.ntmps21
      go_wp2
      go_ret
      simp [h, h2]
    · go_enter Try.func21, Try.ntmps21
      go_wp2
      go_ret
      simp [h2]
  · go_enter Try.func21, Try.ntmps21
    go_wp2
    go_ret
    simp; omega

theorem within_yes (n a b : Int) (h : a ≤ n) (h2 : n ≤ b) (w : World) : Calls Try.prog 21 #[.int .i64 n, .int .i64 a, .int .i64 b] w fun e w' => e = .returned (.bool true) ∧ w' = w := by
  refine (within_any n a b w).mono ?_
  rintro e w' ⟨rfl, rfl⟩
  simp [h, h2]
theorem within_no (n a b : Int) (h : ¬ (a ≤ n ∧ n ≤ b)) (w : World) : Calls Try.prog 21 #[.int .i64 n, .int .i64 a, .int .i64 b] w fun e w' => e = .returned (.bool false) ∧ w' = w := by
  refine (within_any n a b w).mono ?_
  rintro e w' ⟨rfl, rfl⟩
  rw [decide_eq_false h]
  exact ⟨rfl, rfl⟩
end Go.Proofs.Ytoblpjknnchlmaa
