/- The document's Age. -/
import Derived.Test.YtoblpjknnchlmaaAge9D
import Derived.Test.YtoblpjknnchlmaaRGet9
import Derived.Test.YtoblpjknnchlmaaRefSe
namespace Go.Proofs.Ytoblpjknnchlmaa
open Go.RowKit

set_option maxRecDepth 100000 in
set_option maxHeartbeats 4000000 in
theorem refAge9_any (ps : List Par) (hf : Few9 ps) (a0 : Option Addr) (len cap b off : Nat) (w : World) (hx : Pars w a0 len b off ps) :
    Calls Try.prog 9 #[.slice a0 len cap] w fun e w' => e = .returned (.int .i64 (ageL ps)) ∧ Below w.heap.size w w' := by
  obtain ⟨x, HXE⟩ : ∃ x, Hid (bs (fieldT aN ps) = x) := ⟨_, rfl⟩
  obtain ⟨f, HFE⟩ : ∃ f, Hid ((fieldL aN ps).isSome = f) := ⟨_, rfl⟩
  have hxz : x.size ≤ 20000 := by rw [← HXE.out, bs_size]; exact Nat.le_trans (hf.len aN) (by decide)
  have HXL : Hid (fieldT aN ps = x.data.toList) := by show _ = _; rw [← HXE.out, bs_data]
  have HNO : Hid (f = false → ageL ps = 5) := fun hno => by
    have := HFE.out
    rw [hno] at this
    exact ageL_none (by simpa using this)
  have hg := refGet9_any ps hf ⟨#[97, 99, 99, 101, 115, 115, 45, 99, 111, 110, 116, 114, 111, 108, 45, 109, 97, 120, 45, 97, 103, 101]⟩ (by decide) a0 len cap b off w hx
  rw [fieldT_low aN_low, fieldL_low aN_low, HXE.out, HFE.out] at hg
  clear hf hx HFE
  go_enter Try.func9, Try.ntmps9
  go_wp2_with fail
  refine hg.mono ?_
  rintro e w1 ⟨rfl, hb1⟩
  have HB1 : Hid (Below w.heap.size w w1) := hb1
  clear hb1 hg
  go_wp2_with fail
  refine (refSeconds_any x hxz _).mono ?_
  rintro e w2 ⟨⟨n, hn, hn2, rfl⟩ | ⟨hn, rfl⟩, hw⟩
  · obtain rfl := hw.symm
    have HA : Hid (ageL ps = min (n : Int) 600) := by show _ = _; unfold ageL; rw [HXL.out, hn]
    clear hn
    cases f
    · go_wp2
      go_ret
      exact ⟨by rw [HNO.out trivial]; rfl, HB1.out⟩
    · by_cases hgt : (600 : Int) < (n : Int)
      · go_wp2
        go_ret
        exact ⟨by rw [HA.out, show min (n : Int) 600 = 600 by omega]; rfl, HB1.out⟩
      · go_wp2
        go_ret
        exact ⟨by rw [HA.out, show min (n : Int) 600 = (n : Int) by omega]; rfl, HB1.out⟩
  · obtain rfl := hw.symm
    have HA : Hid (ageL ps = 5) := by show _ = _; unfold ageL; rw [HXL.out, hn]
    clear hn
    cases f
    · go_wp2
      go_ret
      exact ⟨by rw [HA.out]; rfl, HB1.out⟩
    · go_wp2
      go_ret
      exact ⟨by rw [HA.out]; rfl, HB1.out⟩
end Go.Proofs.Ytoblpjknnchlmaa
