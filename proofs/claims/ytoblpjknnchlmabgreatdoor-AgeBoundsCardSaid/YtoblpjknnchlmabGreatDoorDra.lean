/- A world that has drawn an order is the same. -/
import Derived.Test.YtoblpjknnchlmabGreatDoorBas
namespace Go.Proofs.YtoblpjknnchlmabGreatDoor
open Go.RowKit

theorem drewN_at {B : Nat} {a w : World} (h : Below B a w) (n : Nat) : Below B a (w.drewN n) := h.trans ⟨rfl, rfl, rfl, Nat.le_refl _, fun _ _ => rfl⟩
end Go.Proofs.YtoblpjknnchlmabGreatDoor
