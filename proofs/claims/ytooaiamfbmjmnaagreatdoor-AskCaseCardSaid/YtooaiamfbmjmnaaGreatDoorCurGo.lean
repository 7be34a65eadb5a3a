/- A cursor elsewhere, by the program. -/
import Derived.Test.YtooaiamfbmjmnaaGreatDoorCur3
namespace Go.Proofs.YtooaiamfbmjmnaaGreatDoor
open Go.RowKit

set_option maxHeartbeats 1000000 in
theorem go_any (b : Nat) (s : ByteArray) (k : Nat) (m : Int) (w : World) (hc : Cur w b s k) :
    Calls Tryz.prog 120 #[.pointer (some ⟨b, 0, none⟩), .int .i64 m] w fun e w' => e = .returned (.tuple #[]) ∧ Cur w' b s (clampK s.size m) ∧ w.grownBy w' (some b) := by
  have HC : Hid (Cur w b s k) := hc
  obtain ⟨h1, h2, h3, h4⟩ := hc
  go_enter Tryz.func120, Tryz.ntmps120
  go_wp2
  refine bodyPost_end (v := .tuple #[]) (by simp [results, Tryz.f120]) rfl ⟨rfl, HC.out.set _ (clampK_le _ _) _ (by unfold clampK; omega), grown_set _ _ _ _⟩
end Go.Proofs.YtooaiamfbmjmnaaGreatDoor
