/- The digits of two texts are those of each, and twice as many: the law HexPieces returns true at every two texts. -/
import Derived.Test.YtkokdoodaoijoabCoded
namespace Go.Proofs.Ytkokdoodaoijoab
open Go.RowKit

theorem hex_o (s : ByteArray) (w : World) (hs : s.size ≤ 1000) :
    Calls Try.prog 8 #[.string s] w fun e w' => ∃ o : ByteArray, e = .returned (.string o) ∧ o.size = 2 * s.size ∧ Hid (o = bs (hexL s.data.toList)) ∧ Below w.heap.size w w' := by
  refine (hex_any s w hs).mono ?_
  rintro e w' ⟨rfl, hb⟩
  exact ⟨_, rfl, by rw [bs_size, hexL_length]; simp, rfl, hb⟩

set_option maxRecDepth 100000 in
set_option maxHeartbeats 800000 in
theorem hexPieces_walk (s : ByteArray) (hs : s.size ≤ 140737488355328) (t : ByteArray) (ht : t.size ≤ 140737488355328) (w : World) :
    Calls Try.prog 3 #[.string s, .string t] w fun e w' => e = .returned (.bool true) ∧ Below w.heap.size w w' := by
  by_cases h : (400 : Int) < (s.size : Int) + (t.size : Int)
  · go_enter Try.func3, Try.ntmps3
    go_wp2_with (go_at_call 7; refine (coded_any _).mono ?_; rintro e w1 ⟨rfl, hb1⟩)
    go_ret
    exact ⟨rfl, hb1⟩
  · have hs4 : s.size ≤ 400 := by omega
    have ht4 : t.size ≤ 400 := by omega
    have hst : (s ++ t).size ≤ 1000 := by simp; omega
    clear hs ht
    go_enter Try.func3, Try.ntmps3
    go_wp2_with (go_at_call 7; refine (coded_any _).mono ?_; rintro e w1 ⟨rfl, hb1⟩)
    refine (hex_o (s ++ t) _ hst).mono ?_
    rintro e w2 ⟨x, rfl, hxz, HX, hb2⟩
    clear hst
    go_wp2_with fail
    refine (hex_o s _ (by omega)).mono ?_
    rintro e w3 ⟨a, rfl, haz, HA, hb3⟩
    go_wp2_with fail
    refine (hex_o t _ (by omega)).mono ?_
    rintro e w4 ⟨b, rfl, hbz, HB, hb4⟩
    have e : x = a ++ b := by
      rw [HX.out, HA.out, HB.out, ← bs_append, ← hexL_append]
      simp
    subst e
    clear HX HA HB
    go_wp2_with fail
    refine (hex_o s _ (by omega)).mono ?_
    rintro e w5 ⟨a2, rfl, hez, HE, hb5⟩
    clear HE
    go_wp2
    go_ret
    refine ⟨by simp, ?_⟩
    have s1 := hb1.size
    have s2 := hb2.size
    have s3 := hb3.size
    have s4 := hb4.size
    exact (((hb1.trans (hb2.mono (by omega))).trans (hb3.mono (by omega))).trans (hb4.mono (by omega))).trans (hb5.mono (by omega))
end Go.Proofs.Ytkokdoodaoijoab
