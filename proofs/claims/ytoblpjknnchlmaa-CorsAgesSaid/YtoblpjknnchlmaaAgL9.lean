/- The law CorsAges, walked. -/
import Derived.Test.YtoblpjknnchlmaaAge9
import Derived.Test.YtoblpjknnchlmaaRAge9
import Derived.Test.YtoblpjknnchlmaaGtL9
namespace Go.Proofs.Ytoblpjknnchlmaa
open Go.RowKit

set_option maxRecDepth 100000 in
set_option maxHeartbeats 4000000 in
theorem corsAges_walk (a0 : Option Addr) (len cap b off : Nat) (ps : List Par) (hl : len ≤ cap ∧ cap ≤ 9223372036854775807) (hz : ∀ p ∈ ps, p.1.size ≤ 140737488355328 ∧ p.2.size ≤ 140737488355328) (w : World) (hx : Pars w a0 len b off ps) :
    Calls Try.prog 4 #[.slice a0 len cap] w fun e w' => e = .returned (.bool true) ∧ Below w.heap.size w w' := by
  have hlg := large0_any ps hz a0 len cap b off (Nat.le_trans hl.1 hl.2) w hx
  obtain ⟨z, HZ⟩ : ∃ z, Hid (largeL ps 0 = z) := ⟨_, rfl⟩
  rw [HZ.out] at hlg
  have HX : Hid (Pars w a0 len b off ps) := hx
  clear hx hz hl
  go_enter Try.func4, Try.ntmps4
  go_wp2_with fail
  refine hlg.mono ?_
  rintro e w1 ⟨rfl, hb1⟩
  have HB1 : Hid (Below w.heap.size w w1) := hb1
  clear hlg hb1
  cases z
  · have HF : Hid (Few9 ps) := few9_of HZ.out
    obtain ⟨n, HN⟩ : ∃ n, Hid (ageL ps = n) := ⟨_, rfl⟩
    have ha := age9_any ps HF.out a0 len cap b off w1 (HX.out.below HB1.out)
    have HR : Hid (∀ W, Below w.heap.size w W → Calls Try.prog 9 #[.slice a0 len cap] W fun e w' => e = .returned (.int .i64 n) ∧ Below W.heap.size W w') := fun W hW => by
      have := refAge9_any ps HF.out a0 len cap b off W (HX.out.below hW)
      rw [HN.out] at this
      exact this
    rw [HN.out] at ha
    go_wp2_with fail
    refine ha.mono ?_
    rintro e w2 ⟨rfl, hb2⟩
    have HB2 : Hid (Below w.heap.size w w2) := HB1.out.trans (hb2.mono HB1.out.size)
    clear ha hb2
    go_wp2_with fail
    refine (HR.out _ HB2.out).mono ?_
    rintro e w3 ⟨rfl, hb3⟩
    have HB3 : Hid (Below w.heap.size w w3) := HB2.out.trans (hb3.mono HB2.out.size)
    clear hb3
    go_wp2
    go_ret
    exact ⟨ret_bool (by simp), HB3.out⟩
  · go_wp2
    go_ret
    exact ⟨rfl, HB1.out⟩
end Go.Proofs.Ytoblpjknnchlmaa
