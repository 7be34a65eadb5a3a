/- The law CorsGets, walked. -/
import Derived.Test.YtoblpjknnchlmaaGet9
import Derived.Test.YtoblpjknnchlmaaRGet9
import Derived.Test.YtoblpjknnchlmaaLrg8
namespace Go.Proofs.Ytoblpjknnchlmaa
open Go.RowKit

theorem few9_of {ps : List Par} {n : Nat} (h : largeL ps n = false) : Few9 ps := by
  obtain ⟨h1, _, h3⟩ := large_small h
  exact ⟨h1, fun p hp => by have := h3 p hp; omega⟩
theorem large0_any (ps : List Par) (hz : ∀ p ∈ ps, p.1.size ≤ 140737488355328 ∧ p.2.size ≤ 140737488355328) (a0 : Option Addr) (len cap b off : Nat) (hlb : len ≤ 9223372036854775807) (w : World) (hx : Pars w a0 len b off ps) :
    Calls Try.prog 5 #[.agg #[.int .i64 0, .bool false, .string ⟨#[]⟩, .int .i64 0, .bool false, .string ⟨#[]⟩, .int .i64 0, .string ⟨#[]⟩, .string ⟨#[]⟩, .string ⟨#[]⟩, .slice a0 len cap, .bool false, .string ⟨#[]⟩]] w fun e w' => e = .returned (.bool (largeL ps 0)) ∧ Below w.heap.size w w' :=
  large_any ps hz a0 len cap b off hlb 0 0 0 false false false ⟨#[]⟩ ⟨#[]⟩ ⟨#[]⟩ ⟨#[]⟩ ⟨#[]⟩ ⟨#[]⟩ (by decide) (by decide) (by decide) (by decide) (by decide) (by decide) w hx
set_option maxRecDepth 100000 in
set_option maxHeartbeats 4000000 in
theorem corsGets_walk (a0 : Option Addr) (len cap b off : Nat) (ps : List Par) (hl : len ≤ cap ∧ cap ≤ 9223372036854775807) (hz : ∀ p ∈ ps, p.1.size ≤ 140737488355328 ∧ p.2.size ≤ 140737488355328) (n : ByteArray) (hn : n.size ≤ 140737488355328) (w : World) (hx : Pars w a0 len b off ps) :
    Calls Try.prog 3 #[.slice a0 len cap, .string n] w fun e w' => e = .returned (.bool true) ∧ Below w.heap.size w w' := by
  have hlg := large0_any ps hz a0 len cap b off (Nat.le_trans hl.1 hl.2) w hx
  obtain ⟨z, HZ⟩ : ∃ z, Hid (largeL ps 0 = z) := ⟨_, rfl⟩
  rw [HZ.out] at hlg
  have HX : Hid (Pars w a0 len b off ps) := hx
  clear hx hz hl
  go_enter Try.func3, Try.ntmps3
  go_wp2_with fail
  refine hlg.mono ?_
  rintro e w1 ⟨rfl, hb1⟩
  have HB1 : Hid (Below w.heap.size w w1) := hb1
  clear hlg hb1
  cases z
  · have HF : Hid (Few9 ps) := few9_of HZ.out
    by_cases h100 : (100 : Int) < (n.size : Int)
    · go_wp2
      go_ret
      exact ⟨rfl, HB1.out⟩
    · obtain ⟨x, HXE⟩ : ∃ x, Hid (bs (fieldT n.data.toList ps) = x) := ⟨_, rfl⟩
      obtain ⟨f, HFE⟩ : ∃ f, Hid ((fieldL n.data.toList ps).isSome = f) := ⟨_, rfl⟩
      have hr := refGet9_any ps HF.out n (by omega) a0 len cap b off w1 (HX.out.below HB1.out)
      have HG : Hid (∀ W, Below w.heap.size w W → Calls Try.prog 7 #[.slice a0 len cap, .string n] W fun e w' => e = .returned (.tuple #[.string x, .bool f]) ∧ Below W.heap.size W w') := fun W hW => by
        have := get9_any ps HF.out n (by omega) a0 len cap b off W (HX.out.below hW)
        rw [HXE.out, HFE.out] at this
        exact this
      rw [HXE.out, HFE.out] at hr
      go_wp2_with fail
      refine hr.mono ?_
      rintro e w2 ⟨rfl, hb2⟩
      have HB2 : Hid (Below w.heap.size w w2) := HB1.out.trans (hb2.mono HB1.out.size)
      clear hr hb2
      go_wp2_with fail
      refine (HG.out _ HB2.out).mono ?_
      rintro e w3 ⟨rfl, hb3⟩
      have HB3 : Hid (Below w.heap.size w w3) := HB2.out.trans (hb3.mono HB2.out.size)
      clear hb3
      cases f
      · go_wp2
        go_ret
        exact ⟨rfl, HB3.out⟩
      · go_wp2
        go_ret
        exact ⟨rfl, HB3.out⟩
  · go_wp2
    go_ret
    exact ⟨rfl, HB1.out⟩
end Go.Proofs.Ytoblpjknnchlmaa
