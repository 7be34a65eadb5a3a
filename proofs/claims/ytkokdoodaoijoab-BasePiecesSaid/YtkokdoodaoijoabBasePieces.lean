/- The letters of two texts, the first of whole threes, are those of each; four for each three bytes or some: the law BasePieces returns true at every two texts. -/
import Derived.Test.YtkokdoodaoijoabCoded
namespace Go.Proofs.Ytkokdoodaoijoab
open Go.RowKit

theorem base_o (s : ByteArray) (w : World) (hs : s.size ≤ 1000) :
    Calls Try.prog 10 #[.string s] w fun e w' => ∃ o : ByteArray, e = .returned (.string o) ∧ o.size = (s.size + 2) / 3 * 4 ∧ Hid (o = bs (enc s.data.toList)) ∧ Below w.heap.size w w' := by
  refine (base_any s w hs).mono ?_
  rintro e w' ⟨rfl, hb⟩
  exact ⟨_, rfl, by rw [bs_size, enc_length]; simp, rfl, hb⟩

set_option maxRecDepth 100000 in
set_option maxHeartbeats 800000 in
theorem basePieces_walk (s : ByteArray) (hs : s.size ≤ 140737488355328) (t : ByteArray) (ht : t.size ≤ 140737488355328) (w : World) :
    Calls Try.prog 5 #[.string s, .string t] w fun e w' => e = .returned (.bool true) ∧ Below w.heap.size w w' := by
  by_cases h : (400 : Int) < (s.size : Int) + (t.size : Int)
  · go_enter Try.func5, Try.ntmps5
    go_wp2_with (go_at_call 7; refine (coded_any _).mono ?_; rintro e w1 ⟨rfl, hb1⟩)
    go_ret
    exact ⟨rfl, hb1⟩
  · have hs4 : s.size ≤ 400 := by omega
    have ht4 : t.size ≤ 400 := by omega
    clear hs ht
    go_enter Try.func5, Try.ntmps5
    go_wp2_with (go_at_call 7; refine (coded_any _).mono ?_; rintro e w1 ⟨rfl, hb1⟩)
    obtain ⟨p, hp⟩ : ∃ p : ByteArray, s.extract 0 (s.size / 3 * 3) = p := ⟨_, rfl⟩
    rw [hp]
    have hpz : p.size = s.size / 3 * 3 := by rw [← hp, Lib.size_eq, Lib.extract_data]; simp; omega
    have hp3 : p.size % 3 = 0 := by omega
    have HP : Hid (p.size % 3 = 0) := hp3
    have hp4 : p.size ≤ 400 := by omega
    clear hp hpz hp3
    refine (base_o (p ++ t) _ (by simp; omega)).mono ?_
    rintro e w2 ⟨x, rfl, hxz, HX, hb2⟩
    go_wp2_with fail
    refine (base_o p _ (by omega)).mono ?_
    rintro e w3 ⟨a, rfl, haz, HA, hb3⟩
    have haz2 : a.size ≤ 1000 := by omega
    clear haz hxz
    go_wp2_with fail
    refine (base_o t _ (by omega)).mono ?_
    rintro e w4 ⟨b, rfl, hbz, HB, hb4⟩
    have hbz2 : b.size ≤ 1000 := by omega
    clear hbz
    have e : x = a ++ b := by
      rw [HX.out, HA.out, HB.out, ← bs_append, ← enc_append _ _ (by simpa using HP.out)]
      simp
    subst e
    clear HX HA HB
    go_wp2_with fail
    refine (base_o t _ (by omega)).mono ?_
    rintro e w5 ⟨a2, rfl, hez, HE, hb5⟩
    have hez2 : (a2.size : Int) = ((t.size : Int) + 2) / 3 * 4 := by omega
    clear HE hez
    go_wp2
    go_ret
    refine ⟨by simp, ?_⟩
    have s1 := hb1.size
    have s2 := hb2.size
    have s3 := hb3.size
    have s4 := hb4.size
    exact (((hb1.trans (hb2.mono (by omega))).trans (hb3.mono (by omega))).trans (hb4.mono (by omega))).trans (hb5.mono (by omega))
end Go.Proofs.Ytkokdoodaoijoab
