/- The laws QuoteBack and ValueBack, walked. -/
import Derived.Test.YtapgbckpiffgnabWrd
namespace Go.Proofs.Ytapgbckpiffgnab
open Go.RowKit

theorem quote_len (s : ByteArray) : (quoteL s.data.toList).length ≤ 2 * s.size + 2 := by
  unfold quoteL
  have := escL_length s.data.toList
  rw [len_data] at this
  simp
  omega
theorem all_of_quote {l : List UInt8} (h : quoteO l = some (quoteL l)) : l.all textB = true := by
  unfold quoteO at h
  split at h
  · assumption
  · cases h
set_option maxRecDepth 100000 in
set_option maxHeartbeats 2000000 in
theorem quoteBack_walk (s : ByteArray) (_hs : s.size ≤ 140737488355328) (m : ByteArray) (_hm : m.size ≤ 140737488355328) (w : World) :
    Calls Try.prog 4 #[.string s, .string m] w fun e w' => e = .returned (.bool true) ∧ Below w.heap.size w w' := by
  by_cases h : (400 : Int) < (s.size : Int) + (m.size : Int)
  · go_enter Try.func4, Try.ntmps4
    go_wp2_with (go_at_call 9; refine (worded_any _).mono ?_; rintro e w1 ⟨rfl, hb1⟩)
    go_ret
    exact ⟨rfl, hb1⟩
  · have h4 : s.size + m.size ≤ 400 := by omega
    clear _hs _hm
    rcases quoteO_cases s with hq | hq
    · have HQ : Hid (quoteO s.data.toList = none) := hq
      clear hq
      go_enter Try.func4, Try.ntmps4
      go_wp2_with (first | (go_at_call 9; refine (worded_any _).mono ?_; rintro e w1 ⟨rfl, hb1⟩) | (go_at_call 10; refine (quote_no s (by omega) HQ.out _).mono ?_; rintro e w2 ⟨rfl, hw⟩; obtain rfl := hw.symm))
      go_ret
      exact ⟨rfl, hb1⟩
    · have HQ : Hid (quoteO s.data.toList = some (quoteL s.data.toList)) := hq
      obtain ⟨q, HX⟩ : ∃ q : ByteArray, Hid (bs (quoteL s.data.toList) = q) := ⟨_, rfl⟩
      have hqz : q.size ≤ 802 := by rw [← HX.out, bs_size]; have := quote_len s; omega
      have HT : Hid (quotedL ((q ++ m).data.toList.drop 0) = some (s.data.toList, q.size)) := by
        show _ = _
        have e : (q ++ m).data.toList = quoteL s.data.toList ++ m.data.toList := by rw [← HX.out]; simp [bs]
        rw [List.drop_zero, e, quoted_quote _ _ (all_of_quote HQ.out), ← HX.out, bs_size]
      have hqm : (q ++ m).size ≤ 1300 := by rw [ByteArray.size_append]; omega
      clear hq
      go_enter Try.func4, Try.ntmps4
      go_wp2_with (first | (go_at_call 9; refine (worded_any _).mono ?_; rintro e w1 ⟨rfl, hb1⟩) | (go_at_call 10; refine (quote_yes s (by omega) HQ.out _).mono ?_; rintro e w2 ⟨rfl, hb2⟩; rw [HX.out]) | (go_at_call 11; refine (on_any (q ++ m) _).mono ?_; rintro e w3 ⟨rfl, hc3, hb3, hz3⟩; have HC3 : Hid (Cur w3 w2.heap.size (q ++ m) 0) := hc3; clear hc3))
      refine (quoted_any w2.heap.size (q ++ m) (by omega) 0 _ HC3.out).mono ?_
      rintro e w4 (⟨t, n, ht, rfl, hc4, hg4⟩ | ⟨ht, _⟩)
      · rw [HT.out] at ht
        cases ht
        have HC4 : Hid (Cur w4 w2.heap.size (q ++ m) (0 + q.size)) := hc4
        have s1 := hb1.size
        have s2 := hb2.size
        have s3 := hb3.size
        have hb4 : Below w.heap.size w w4 := ((hb1.trans (hb2.mono (by omega))).trans (hb3.mono (by omega))).grown hg4 (by omega) (fun i hi => by injection hi with hi; omega)
        rw [bs_self]
        clear hc4 hg4 HC3 hb1 hb2 hb3 s1 s2 s3 hz3 HT
        go_wp2_with fail
        refine (at_any w2.heap.size (q ++ m) (0 + q.size) _ HC4.out).mono ?_
        rintro e w6 ⟨rfl, rfl⟩
        go_wp2
        go_ret
        exact ⟨by simp, hb4⟩
      · rw [HT.out] at ht
        cases ht
end Go.Proofs.Ytapgbckpiffgnab
