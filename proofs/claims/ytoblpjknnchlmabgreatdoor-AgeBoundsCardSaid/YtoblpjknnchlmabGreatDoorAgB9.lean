/- The law AgeBounds, walked. -/
import Derived.Test.YtoblpjknnchlmabGreatDoorGtd9
import Derived.Test.YtoblpjknnchlmabGreatDoorFew8
namespace Go.Proofs.YtoblpjknnchlmabGreatDoor
open Go.RowKit

theorem few9_few {ps : List Par} (h : fewL ps = true) : Few9 ps := by
  obtain ⟨h1, h2⟩ := fewL_small h
  exact ⟨by omega, fun p hp => by have := h2 p hp; omega⟩
set_option maxRecDepth 100000 in
set_option maxHeartbeats 4000000 in
theorem ageBounds_walk (a0 : Option Addr) (len cap b off : Nat) (ps : List Par) (hl : len ≤ cap ∧ cap ≤ 9223372036854775807) (hz : ∀ p ∈ ps, p.1.size ≤ 140737488355328 ∧ p.2.size ≤ 140737488355328) (w : World) (hx : Pars w a0 len b off ps) (he : Env w) (hm : Methods w) :
    Calls Tryz.prog 6 #[.slice a0 len cap] w fun e w' => e = .returned (.bool true) ∧ Below w.heap.size w w' := by
  have HX : Hid (Pars w a0 len b off ps) := hx
  have HZ : Hid (∀ p ∈ ps, p.1.size ≤ 140737488355328 ∧ p.2.size ≤ 140737488355328) := hz
  have HLB : Hid (len ≤ 9223372036854775807) := Nat.le_trans hl.1 hl.2
  have hgr := granted_any w he hm
  clear hx hz hl he hm
  go_enter Tryz.func6, Tryz.ntmps6
  go_wp2_with fail
  refine hgr.mono ?_
  rintro e w1 ⟨rfl, hb1⟩
  have HB1 : Hid (Below w.heap.size w w1) := hb1
  clear hgr hb1
  have hfw := few_any ps HZ.out a0 len cap b off HLB.out w1 (HX.out.below HB1.out)
  obtain ⟨z, HF⟩ : ∃ z, Hid (fewL ps = z) := ⟨_, rfl⟩
  rw [HF.out] at hfw
  go_wp2_with fail
  refine hfw.mono ?_
  rintro e w2 ⟨rfl, hb2⟩
  have HB2 : Hid (Below w.heap.size w w2) := HB1.out.trans (hb2.mono HB1.out.size)
  clear hfw hb2
  cases z
  · go_wp2
    go_ret
    exact ⟨rfl, HB2.out⟩
  · have HFW : Hid (Few9 ps) := few9_few HF.out
    obtain ⟨n, HN⟩ : ∃ n, Hid (ageL ps = n) := ⟨_, rfl⟩
    obtain ⟨f, HFE⟩ : ∃ f, Hid ((fieldL aN ps).isSome = f) := ⟨_, rfl⟩
    obtain ⟨x, HXE⟩ : ∃ x, Hid (bs (fieldT aN ps) = x) := ⟨_, rfl⟩
    have HNO : Hid (f = false → n = 5) := fun hno => by
      have := HFE.out
      rw [hno] at this
      rw [← HN.out]
      exact ageL_none (by simpa using this)
    have hn := ageL_bounds ps
    rw [HN.out] at hn
    obtain ⟨hn0, hn1⟩ := hn
    have ha := age9_any ps HFW.out a0 len cap b off w2 (HX.out.below HB2.out)
    rw [HN.out] at ha
    go_wp2_with fail
    refine ha.mono ?_
    rintro e w3 ⟨rfl, hb3⟩
    have HB3 : Hid (Below w.heap.size w w3) := HB2.out.trans (hb3.mono HB2.out.size)
    clear ha hb3
    have hg := get9_any ps HFW.out ⟨#[97, 99, 99, 101, 115, 115, 45, 99, 111, 110, 116, 114, 111, 108, 45, 109, 97, 120, 45, 97, 103, 101]⟩ (by decide) a0 len cap b off w3 (HX.out.below HB3.out)
    rw [fieldT_low aN_low, fieldL_low aN_low, HXE.out, HFE.out] at hg
    go_wp2_with fail
    refine hg.mono ?_
    rintro e w4 ⟨rfl, hb4⟩
    have HB4 : Hid (Below w.heap.size w w4) := HB3.out.trans (hb4.mono HB3.out.size)
    clear hg hb4
    cases f
    · have h5 : n = 5 := HNO.out rfl
      subst h5
      go_wp2
      go_ret
      exact ⟨rfl, HB4.out⟩
    · go_wp2
      go_ret
      exact ⟨rfl, HB4.out⟩
end Go.Proofs.YtoblpjknnchlmabGreatDoor
