/- A text once more, by the library. -/
import Derived.Test.YteldgpkkgnfiaaaShClone
namespace Go.Proofs.Yteldgpkkgnfiaaa
open Go.RowKit Go.Shelf

theorem clone_any (s : ByteArray) (hs : s.size ≤ 3000) (w : World) :
    Calls Try.prog 9 #[.string s] w fun e w' => e = .returned (.string s) ∧ Below w.heap.size w w' := by
  have hc : ∀ w, Calls Try.prog 14 #[.string s] w fun e w' => e = .returned (.string s) ∧ Below w.heap.size w w' := fun w => Any.stringslite_Clone laysM316 s w (by omega)
  go_enter Try.func9, Try.ntmps9
  go_wp2_with (go_at_call 14; refine (hc _).mono ?_; rintro e w' ⟨rfl, hb⟩)
  go_ret
  exact ⟨rfl, hb⟩
end Go.Proofs.Yteldgpkkgnfiaaa
