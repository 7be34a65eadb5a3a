/- The laws TokenQuotes and TokenValues, walked. -/
import Derived.Test.YtapgbckpiffgnaaDoorRefQt
import Derived.Test.YtapgbckpiffgnaaDoorTell
namespace Go.Proofs.YtapgbckpiffgnaaDoor
open Go.RowKit

set_option maxHeartbeats 800000 in
theorem tokenQuotes_walk (s : ByteArray) (_hs : s.size ≤ 140737488355328) (w : World) (hg : ErrT w) :
    Calls Tryd.prog 4 #[.string s] w fun e w' => e = .returned (.bool true) ∧ Below w.heap.size w w' := by
  have HG : Hid (ErrT w) := hg
  clear hg _hs
  by_cases h : (300 : Int) < (s.size : Int)
  · go_enter Tryd.func4, Tryd.ntmps4
    go_wp2
    go_ret
    exact ⟨rfl, Below.refl _ _⟩
  · have h3 : s.size ≤ 300 := by omega
    go_enter Tryd.func4, Tryd.ntmps4
    go_wp2_with fail
    refine (refQuote_any s (by omega) _).mono ?_
    rintro e w1 ⟨hw, ⟨rfl, hq⟩ | ⟨rfl, hq⟩⟩
    · obtain rfl := hw.symm
      have HQ : Hid (quoteO s.data.toList = some (quoteL s.data.toList)) := hq
      obtain ⟨x, HX⟩ : ∃ x : ByteArray, Hid (bs (quoteL s.data.toList) = x) := ⟨_, rfl⟩
      rw [HX.out]
      clear hq hw
      go_wp2_with fail
      refine (quote_yes s (by omega) HQ.out _).mono ?_
      rintro e w2 ⟨rfl, hb2⟩
      rw [HX.out]
      go_wp2_with fail
      refine (bare_nil _).mono ?_
      rintro e w3 ⟨rfl, hb3⟩
      go_wp2
      go_ret
      exact ⟨by simp, hb2.trans (hb3.mono hb2.size)⟩
    · obtain rfl := hw.symm
      have HQ : Hid (quoteO s.data.toList = none) := hq
      clear hq hw
      go_wp2_with fail
      refine (quote_no s (by omega) HQ.out _).mono ?_
      rintro e w2 ⟨rfl, hw⟩
      obtain rfl := hw.symm
      clear hw
      go_wp2_with fail
      refine (bare_form _ HG.out).mono ?_
      rintro e w3 ⟨rfl, hb3⟩
      go_wp2
      go_ret
      exact ⟨by simp, hb3⟩
set_option maxHeartbeats 800000 in
theorem tokenValues_walk (s : ByteArray) (_hs : s.size ≤ 140737488355328) (w : World) (hg : ErrT w) :
    Calls Tryd.prog 5 #[.string s] w fun e w' => e = .returned (.bool true) ∧ Below w.heap.size w w' := by
  have HG : Hid (ErrT w) := hg
  clear hg _hs
  by_cases h : (300 : Int) < (s.size : Int)
  · go_enter Tryd.func5, Tryd.ntmps5
    go_wp2
    go_ret
    exact ⟨rfl, Below.refl _ _⟩
  · have h3 : s.size ≤ 300 := by omega
    go_enter Tryd.func5, Tryd.ntmps5
    go_wp2_with fail
    refine (refValue_any s (by omega) _).mono ?_
    rintro e w1 ⟨hw, ⟨rfl, hi⟩ | ⟨hi, ⟨rfl, hq⟩ | ⟨rfl, hq⟩⟩⟩
    · obtain rfl := hw.symm
      have HI : Hid (isL s.data.toList = true) := hi
      clear hi hw
      go_wp2_with fail
      refine (value_word_any s (by omega) HI.out _).mono ?_
      rintro e w2 ⟨rfl, hb2⟩
      go_wp2_with fail
      refine (bare_nil _).mono ?_
      rintro e w3 ⟨rfl, hb3⟩
      go_wp2
      go_ret
      exact ⟨by simp, hb2.trans (hb3.mono hb2.size)⟩
    · obtain rfl := hw.symm
      have HI : Hid (isL s.data.toList = false) := hi
      have HQ : Hid (quoteO s.data.toList = some (quoteL s.data.toList)) := hq
      obtain ⟨x, HX⟩ : ∃ x : ByteArray, Hid (bs (quoteL s.data.toList) = x) := ⟨_, rfl⟩
      rw [HX.out]
      clear hq hw hi
      go_wp2_with fail
      refine (value_yes s (by omega) HI.out HQ.out _).mono ?_
      rintro e w2 ⟨rfl, hb2⟩
      rw [HX.out]
      go_wp2_with fail
      refine (bare_nil _).mono ?_
      rintro e w3 ⟨rfl, hb3⟩
      go_wp2
      go_ret
      exact ⟨by simp, hb2.trans (hb3.mono hb2.size)⟩
    · obtain rfl := hw.symm
      have HI : Hid (isL s.data.toList = false) := hi
      have HQ : Hid (quoteO s.data.toList = none) := hq
      clear hq hw hi
      go_wp2_with fail
      refine (value_no s (by omega) HI.out HQ.out _).mono ?_
      rintro e w2 ⟨rfl, hw⟩
      obtain rfl := hw.symm
      clear hw
      go_wp2_with fail
      refine (bare_form _ HG.out).mono ?_
      rintro e w3 ⟨rfl, hb3⟩
      go_wp2
      go_ret
      exact ⟨by simp, hb3⟩
end Go.Proofs.YtapgbckpiffgnaaDoor
