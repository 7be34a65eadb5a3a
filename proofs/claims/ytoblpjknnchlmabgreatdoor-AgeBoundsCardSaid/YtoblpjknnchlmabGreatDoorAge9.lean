/- Age: how long an answer counts, by the program. -/
import Derived.Test.YtoblpjknnchlmabGreatDoorAge9D
import Derived.Test.YtoblpjknnchlmabGreatDoorGet9
import Derived.Test.YtoblpjknnchlmabGreatDoorSec
namespace Go.Proofs.YtoblpjknnchlmabGreatDoor
open Go.RowKit

set_option maxRecDepth 100000 in
set_option maxHeartbeats 4000000 in
theorem age9_any (ps : List Par) (hf : Few9 ps) (a0 : Option Addr) (len cap b off : Nat) (w : World) (hx : Pars w a0 len b off ps) :
    Calls Tryz.prog 20 #[.slice a0 len cap] w fun e w' => e = .returned (.int .i64 (ageL ps)) ∧ Below w.heap.size w w' := by
  obtain ⟨x, HXE⟩ : ∃ x, Hid (bs (fieldT aN ps) = x) := ⟨_, rfl⟩
  have hxz : x.size ≤ 20000 := by rw [← HXE.out, bs_size]; exact Nat.le_trans (hf.len aN) (by decide)
  have HXL : Hid (fieldT aN ps = x.data.toList) := by show _ = _; rw [← HXE.out, bs_data]
  have hg := get9_any ps hf ⟨#[65, 99, 99, 101, 115, 115, 45, 67, 111, 110, 116, 114, 111, 108, 45, 77, 97, 120, 45, 65, 103, 101]⟩ (by decide) a0 len cap b off w hx
  rw [← aN_is, HXE.out] at hg
  clear hf hx
  go_enter Tryz.func20, Tryz.ntmps20
  go_wp2_with fail
  refine hg.mono ?_
  rintro e w1 ⟨rfl, hb1⟩
  have HB1 : Hid (Below w.heap.size w w1) := hb1
  clear hb1 hg
  go_wp2_with fail
  refine (seconds_any x hxz _).mono ?_
  rintro e w2 ⟨⟨n, hn, hn2, rfl⟩ | ⟨hn, rfl⟩, hw⟩
  · obtain rfl := hw.symm
    have HA : Hid (ageL ps = min (n : Int) 600) := by show _ = _; unfold ageL; rw [HXL.out, hn]
    clear hn
    go_wp2
    go_ret
    exact ⟨by rw [HA.out]; rfl, HB1.out⟩
  · obtain rfl := hw.symm
    have HA : Hid (ageL ps = 5) := by show _ = _; unfold ageL; rw [HXL.out, hn]
    clear hn
    go_wp2
    go_ret
    exact ⟨by rw [HA.out]; rfl, HB1.out⟩
end Go.Proofs.YtoblpjknnchlmabGreatDoor
