/- A clean path by the program is the document's. -/
import Derived.Test.YtclagicimiimfaaDoorRefClW
namespace Go.Proofs.YtclagicimiimfaaDoor
open Go.RowKit

set_option maxHeartbeats 1000000 in
set_option maxRecDepth 100000 in
theorem urlCleans_walk (s : ByteArray) (hs : s.size ≤ 140737488355328) (w : World) :
    Calls Tryd.prog 6 #[.string s] w fun e w' => e = .returned (.bool true) ∧ Below w.heap.size w w' := by
  by_cases h1 : (300 : Int) < (s.size : Int)
  · have hd : decide ((300 : Int) < (s.size : Int)) = true := decide_eq_true h1
    go_enter Tryd.func6, Tryd.ntmps6
    go_wp2
    go_ret
    exact ⟨rfl, Below.refl _ _⟩
  · have hs' : s.size ≤ 400 := by omega
    obtain ⟨y, hy⟩ : ∃ y, bs (cleanL s.data.toList) = y := ⟨_, rfl⟩
    have c1 := fun W => clean_any s (by omega) W
    have c2 := fun W => refClean_any s hs' W
    rw [hy] at c1 c2
    clear hy
    go_enter Tryd.func6, Tryd.ntmps6
    go_wp2_with (first
      | (go_at_call 16; refine (c1 _).mono ?_; rintro e w1 ⟨rfl, hb1⟩)
      | (go_at_call 17; refine (c2 _).mono ?_; rintro e w2 ⟨rfl, hb2⟩))
    go_ret
    exact ⟨by simp, hb1.trans (hb2.mono hb1.size)⟩
end Go.Proofs.YtclagicimiimfaaDoor
