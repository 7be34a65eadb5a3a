/- The document's own target. -/
import Derived.Test.YtclagicimiimfaaFmtBase
namespace Go.Proofs.YtclagicimiimfaaFmt
open Go.RowKit

theorem refTarget (sec : Bool) (host path query : ByteArray) (port : Int) (w : World) (hs : path.size + query.size ≤ 4000) :
    Calls Tryf.prog 10 #[.agg #[.bool sec, .string host, .int .i64 port, .string path, .string query]] w fun e w' => e = .returned (.string (if query.size = 0 then path else path ++ bs [63] ++ query)) ∧ Below w.heap.size w w' := by
  by_cases hq : query.size = 0
  · obtain rfl : query = ⟨#[]⟩ := by
      apply ByteArray.ext
      exact Array.eq_empty_of_size_eq_zero hq
    rw [if_pos hq]
    go_enter Tryf.func10, Tryf.ntmps10
    go_wp2
    go_ret
    exact ⟨rfl, (Below.refl _ _).alloc (Nat.le_refl _) _⟩
  · have hie : query.toList.isEmpty = false := by
      rw [ByteArray.toList_eq]
      cases h : query.data.toList with
      | nil =>
        exfalso
        apply hq
        have := congrArg List.length h
        simpa using this
      | cons c t => rfl
    rw [if_neg hq]
    go_enter Tryf.func10, Tryf.ntmps10
    go_wp2
    go_ret
    exact ⟨rfl, (Below.refl _ _).alloc (Nat.le_refl _) _⟩
end Go.Proofs.YtclagicimiimfaaFmt
