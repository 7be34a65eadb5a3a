/- One of n that a number stands for. -/
import Derived.Test.YthhbfnfgbonakabDoorBas
namespace Go.Proofs.YthhbfnfgbonakabDoor
open Go.RowKit

def pickI (a n : Int) : Int := (a % 18446744073709551616) % n
theorem pickI_in (a n : Int) (h : 0 < n) : 0 ≤ pickI a n ∧ pickI a n < n := ⟨Int.emod_nonneg _ (by omega), Int.emod_lt_of_pos _ h⟩
theorem u64_wrap (a : Int) : IntKind.u64.wrap a = a % 18446744073709551616 := rfl
theorem pick_eq (a n : Int) (hn : 0 < n) (hn2 : n ≤ 4294967296) : wrap64 ((IntKind.u64.wrap a).tmod n) = pickI a n := by
  rw [u64_wrap, Int.tmod_eq_emod_of_nonneg (Int.emod_nonneg _ (by decide))]
  have h := pickI_in a n hn
  unfold pickI at *
  unfold wrap64
  omega
set_option maxRecDepth 100000 in
set_option maxHeartbeats 1000000 in
theorem pick_any (a n : Int) (_h0 : -9223372036854775808 ≤ a) (_h1 : a ≤ 9223372036854775807) (hn : 0 < n) (hn2 : n ≤ 4294967296) (w : World) :
    Calls Tryd.prog 6 #[.int .i64 a, .int .i64 n] w fun e w' => e = .returned (.int .i64 (pickI a n)) ∧ w' = w := by
  go_enter Tryd.func6, Tryd.ntmps6
  go_wp2
  go_ret
  exact ⟨congrArg (fun x => Ending.returned (.int .i64 x)) (pick_eq a n hn hn2), rfl⟩
end Go.Proofs.YthhbfnfgbonakabDoor
