/- The law QuoteStays, walked. -/
import Derived.Test.YtapgbckpiffgnabQBk
import Derived.Test.YtapgbckpiffgnabCurGo
import Derived.Test.YtapgbckpiffgnabPick
namespace Go.Proofs.Ytapgbckpiffgnab
open Go.RowKit

set_option maxRecDepth 100000 in
set_option maxHeartbeats 2000000 in
theorem quoteStays_walk (s : ByteArray) (_hs : s.size ≤ 140737488355328) (a : Int) (h0 : -9223372036854775808 ≤ a) (h1 : a ≤ 9223372036854775807) (w : World) :
    Calls Try.prog 5 #[.string s, .int .i64 a] w fun e w' => e = .returned (.bool true) ∧ Below w.heap.size w w' := by
  by_cases h : (300 : Int) < (s.size : Int)
  · clear h0 h1
    go_enter Try.func5, Try.ntmps5
    go_wp2_with (go_at_call 9; refine (worded_any _).mono ?_; rintro e w1 ⟨rfl, hb1⟩)
    go_ret
    exact ⟨rfl, hb1⟩
  · have h3 : s.size ≤ 300 := by omega
    clear _hs
    have hp := pickI_in a ((s.size : Int) + 1) (by omega)
    have hpk : ∀ w, Calls Try.prog 15 #[.int .i64 a, .int .i64 ((s.size : Int) + 1)] w fun e w' => e = .returned (.int .i64 (pickI a ((s.size : Int) + 1))) ∧ w' = w := fun w => pick_any a _ h0 h1 (by omega) (by omega) w
    obtain ⟨p, HP⟩ : ∃ p : Nat, Hid (pickI a ((s.size : Int) + 1) = (p : Int)) := ⟨(pickI a ((s.size : Int) + 1)).toNat, by show _ = _; omega⟩
    rw [HP.out] at hp hpk
    have hps : p ≤ s.size := by omega
    have hcl : clampK s.size (p : Int) = p := by unfold clampK; omega
    clear h0 h1 hp
    go_enter Try.func5, Try.ntmps5
    go_wp2_with (first | (go_at_call 9; refine (worded_any _).mono ?_; rintro e w1 ⟨rfl, hb1⟩) | (go_at_call 11; refine (on_any s _).mono ?_; rintro e w2 ⟨rfl, hc2, hb2, hz2⟩; have HC2 : Hid (Cur w2 w1.heap.size s 0) := hc2; clear hc2) | (go_at_call 15; refine (hpk _).mono ?_; rintro e w' ⟨rfl, hw⟩; obtain rfl := hw.symm))
    refine (go_any w1.heap.size s 0 (p : Int) _ HC2.out).mono ?_
    rintro e w3 ⟨rfl, hc3, hg3⟩
    rw [hcl] at hc3
    have HC3 : Hid (Cur w3 w1.heap.size s p) := hc3
    have s1 := hb1.size
    have s2 := hb2.size
    have s3 := hg3.size
    have hb3 : Below w.heap.size w w3 := (hb1.trans (hb2.mono (by omega))).grown hg3 (by omega) (fun i hi => by injection hi with hi; omega)
    have hz3 : w.heap.size ≤ w1.heap.size ∧ w1.heap.size < w3.heap.size := by omega
    clear hc3 hg3 HC2 hb1 hb2 hz2 s1 s2 s3 hcl
    go_wp2_with fail
    refine (at_any w1.heap.size s p _ HC3.out).mono ?_
    rintro e w4 ⟨rfl, hw⟩
    obtain rfl := hw.symm
    go_wp2_with fail
    refine (quoted_any w1.heap.size s (by omega) p _ HC3.out).mono ?_
    rintro e w5 (⟨t, n, hq, rfl, hc5, hg5⟩ | ⟨hq, rfl, hc5, hg5⟩)
    · have HC5 : Hid (Cur w5 w1.heap.size s (p + n)) := hc5
      have hb5 : Below w.heap.size w w5 := hb3.grown hg5 (by omega) (fun i hi => by injection hi with hi; omega)
      obtain ⟨hn1, hn2⟩ := quoted_size _ _ _ hq
      rw [List.length_drop, len_data] at hn2
      obtain ⟨x, HX⟩ : ∃ x : ByteArray, Hid (bs t = x) := ⟨_, rfl⟩
      have hx : x.size + 2 ≤ n := by rw [← HX.out, bs_size]; exact hn1
      rw [HX.out]
      have hat : ∀ w', w' = w5 → Calls Try.prog 13 #[.pointer (some ⟨w1.heap.size, 0, none⟩)] w' fun e w' => e = .returned (.int .i64 ((p : Int) + (n : Int))) ∧ w' = w5 := by
        rintro w' rfl
        have := at_any w1.heap.size s (p + n) _ HC5.out
        push_cast at this
        exact this
      clear hc5 hg5 HC3 hq hn1 hb3
      have hgt : ((p : Int) + 1 < (p : Int) + (n : Int)) := by omega
      have hle : ((x.size : Int) ≤ (p : Int) + (n : Int) - (p : Int) - 2) := by omega
      go_wp2_with (first | (go_at_call 15; refine (hpk _).mono ?_; rintro e w' ⟨rfl, hw⟩; obtain rfl := hw.symm) | (go_at_call 13; refine (hat _ rfl).mono ?_; rintro e w' ⟨rfl, hw⟩; obtain rfl := hw.symm))
      go_ret
      exact ⟨by simp, hb5⟩
    · have HC5 : Hid (Cur w5 w1.heap.size s p) := hc5
      have hb5 : Below w.heap.size w w5 := hb3.grown hg5 (by omega) (fun i hi => by injection hi with hi; omega)
      have hat : ∀ w', w' = w5 → Calls Try.prog 13 #[.pointer (some ⟨w1.heap.size, 0, none⟩)] w' fun e w' => e = .returned (.int .i64 (p : Int)) ∧ w' = w5 := by
        rintro w' rfl
        exact at_any w1.heap.size s p _ HC5.out
      clear hc5 hg5 HC3 hq hb3
      go_wp2_with (first | (go_at_call 15; refine (hpk _).mono ?_; rintro e w' ⟨rfl, hw⟩; obtain rfl := hw.symm) | (go_at_call 13; refine (hat _ rfl).mono ?_; rintro e w' ⟨rfl, hw⟩; obtain rfl := hw.symm))
      go_ret
      exact ⟨by simp, hb5⟩
end Go.Proofs.Ytapgbckpiffgnab
