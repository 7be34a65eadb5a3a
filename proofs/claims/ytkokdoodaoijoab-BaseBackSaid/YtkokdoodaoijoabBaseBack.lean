/- What Base64 writes Unbase64 reads as what it was, and what Unbase64 reads Base64 writes again: the law BaseBack returns true at every two texts, without a condition. -/
import Derived.Test.YtkokdoodaoijoabCoded
namespace Go.Proofs.Ytkokdoodaoijoab
open Go.RowKit

set_option maxRecDepth 100000 in
set_option maxHeartbeats 800000 in
theorem baseBack_walk (s : ByteArray) (hs : s.size ≤ 140737488355328) (t : ByteArray) (ht : t.size ≤ 140737488355328) (w : World) :
    Calls Try.prog 4 #[.string s, .string t] w fun e w' => e = .returned (.bool true) ∧ Below w.heap.size w w' := by
  by_cases h : (400 : Int) < (s.size : Int) + (t.size : Int)
  · go_enter Try.func4, Try.ntmps4
    go_wp2_with (go_at_call 7; refine (coded_any _).mono ?_; rintro e w1 ⟨rfl, hb1⟩)
    go_ret
    exact ⟨rfl, hb1⟩
  · have hs4 : s.size ≤ 400 := by omega
    have ht4 : t.size ≤ 400 := by omega
    clear hs ht
    obtain ⟨x, hx⟩ : ∃ x : ByteArray, bs (enc s.data.toList) = x := ⟨_, rfl⟩
    have hxz : x.size ≤ 1000 := by rw [← hx, bs_size, enc_length]; simp; omega
    have HX : Hid (enc s.data.toList = x.data.toList) := by show _ = _; rw [← hx, bs_data]
    go_enter Try.func4, Try.ntmps4
    go_wp2_with (go_at_call 7; refine (coded_any _).mono ?_; rintro e w1 ⟨rfl, hb1⟩)
    refine (base_any s _ (by omega)).mono ?_
    rintro e w2 ⟨rfl, hb2⟩
    rw [hx]
    clear hx
    go_wp2_with fail
    refine (unbase_of x s.data.toList s HX.out (bs_self s) _ hxz).mono ?_
    rintro e w3 ⟨rfl, hb3⟩
    go_wp2_with fail
    refine (unbase_any t _ (by omega)).mono ?_
    rintro e w4 ⟨hb4, ⟨o, rfl, ho⟩ | ⟨rfl, hn⟩⟩
    · have hoz : o.length ≤ 400 := by
        have := congrArg List.length ho
        rw [enc_length] at this
        simp at this
        omega
      have HO : Hid (enc o = t.data.toList) := ho
      clear ho
      obtain ⟨b, hbo⟩ : ∃ b : ByteArray, bs o = b := ⟨_, rfl⟩
      have HB : Hid (bs (enc b.data.toList) = t) := by show _ = _; rw [← hbo, bs_data, HO.out, bs_self]
      have hbz : b.size ≤ 1000 := by rw [← hbo, bs_size]; omega
      rw [hbo]
      clear hbo hoz
      go_wp2_with fail
      refine (base_any b _ hbz).mono ?_
      rintro e w5 ⟨rfl, hb5⟩
      rw [HB.out]
      go_wp2
      go_ret
      refine ⟨by simp, ?_⟩
      have s1 := hb1.size
      have s2 := hb2.size
      have s3 := hb3.size
      have s4 := hb4.size
      exact (((hb1.trans (hb2.mono (by omega))).trans (hb3.mono (by omega))).trans (hb4.mono (by omega))).trans (hb5.mono (by omega))
    · clear hn
      go_wp2
      go_ret
      refine ⟨rfl, ?_⟩
      have s1 := hb1.size
      have s2 := hb2.size
      have s3 := hb3.size
      exact ((hb1.trans (hb2.mono (by omega))).trans (hb3.mono (by omega))).trans (hb4.mono (by omega))
end Go.Proofs.Ytkokdoodaoijoab
