/- The law ValueBack, walked. -/
import Derived.Test.YtapgbckpiffgnabQBk
namespace Go.Proofs.Ytapgbckpiffgnab
open Go.RowKit

theorem ext_data {a b : ByteArray} (h : a.data.toList = b.data.toList) : a = b := by rw [← bs_self a, ← bs_self b, h]
theorem cat_data (a b : ByteArray) : (a ++ b).data.toList = a.data.toList ++ b.data.toList := by simp
set_option maxRecDepth 100000 in
set_option maxHeartbeats 2000000 in
theorem valueBack_none (s m : ByteArray) (h4 : s.size + m.size ≤ 400) (hi : isL s.data.toList = false) (hq : quoteO s.data.toList = none) (w : World) (hk : (m.toList.isEmpty = true) ∨ (∃ c : UInt8, (m.toList.isEmpty = false) ∧ (∃ h : 0 < m.size, m[0] = c) ∧ tokB c = false)) :
    Calls Try.prog 6 #[.string s, .string m] w fun e w' => e = .returned (.bool true) ∧ Below w.heap.size w w' := by
  have HI : Hid (isL s.data.toList = false) := hi
  have HQ : Hid (quoteO s.data.toList = none) := hq
  have h4' : ¬ (400 : Int) < (s.size : Int) + (m.size : Int) := by omega
  clear hi hq
  rcases hk with hme | ⟨c, hme, ⟨hpos, hc⟩, ht⟩
  all_goals
    go_enter Try.func6, Try.ntmps6
    go_wp2_with (first | (go_at_call 9; refine (worded_any _).mono ?_; rintro e w1 ⟨rfl, hb1⟩) | (go_at_call 16; refine (byte_any c _).mono ?_; rintro e w2 ⟨rfl, hw⟩; obtain rfl := hw.symm; rw [ht]) | (go_at_call 17; refine (value_no s (by omega) HI.out HQ.out _).mono ?_; rintro e w3 ⟨rfl, hw⟩; obtain rfl := hw.symm))
    go_ret
    exact ⟨rfl, hb1⟩
set_option maxRecDepth 100000 in
set_option maxHeartbeats 2000000 in
theorem valueBack_word (s m : ByteArray) (h4 : s.size + m.size ≤ 400) (hm : ∀ c t, m.data.toList = c :: t → tokB c = false) (hi : isL s.data.toList = true) (w : World) (hk : (m.toList.isEmpty = true) ∨ (∃ c : UInt8, (m.toList.isEmpty = false) ∧ (∃ h : 0 < m.size, m[0] = c) ∧ tokB c = false)) :
    Calls Try.prog 6 #[.string s, .string m] w fun e w' => e = .returned (.bool true) ∧ Below w.heap.size w w' := by
  have HI : Hid (isL s.data.toList = true) := hi
  have HW : Hid (((s ++ m).data.toList.drop 0).takeWhile tokB = s.data.toList) := by
    show _ = _
    rcases value_word s.data.toList s.data.toList m.data.toList hm (valueO_yes s hi) with ⟨_, _, h3⟩ | ⟨h3, _⟩
    · rw [List.drop_zero, cat_data, h3]
    · rw [hi] at h3; cases h3
  have HL : Hid (runL tokB ((s ++ m).data.toList.drop 0) = s.size) := by
    show _ = _
    unfold runL
    rw [HW.out, len_data]
  have hs0 : s.size ≠ 0 := by
    intro h
    rw [isL_empty s h] at hi
    cases hi
  have hsm : (s ++ m).size ≤ 1300 := by rw [ByteArray.size_append]; omega
  have hse : s.toList.isEmpty = false := not_empty_at hs0
  have h4' : ¬ (400 : Int) < (s.size : Int) + (m.size : Int) := by omega
  clear hi hm
  rcases hk with hme | ⟨c, hme, ⟨hpos, hc⟩, ht⟩
  all_goals
    go_enter Try.func6, Try.ntmps6
    go_wp2_with (first | (go_at_call 9; refine (worded_any _).mono ?_; rintro e w1 ⟨rfl, hb1⟩) | (go_at_call 16; refine (byte_any c _).mono ?_; rintro e w2 ⟨rfl, hw⟩; obtain rfl := hw.symm; rw [ht]) | (go_at_call 17; refine (value_word_any s (by omega) HI.out _).mono ?_; rintro e w3 ⟨rfl, hb3⟩) | (go_at_call 11; refine (on_any (s ++ m) _).mono ?_; rintro e w4 ⟨rfl, hc4, hb4, hz4⟩; have HC4 : Hid (Cur w4 w3.heap.size (s ++ m) 0) := hc4; clear hc4))
    refine (word_any w3.heap.size (s ++ m) (by omega) 0 _ HC4.out).mono ?_
    rintro e w5 ⟨t, rfl, htz, HT, hc5, hg5⟩
    obtain rfl : s = t := (ext_data (by rw [HT.out, HW.out])).symm
    have HC5 : Hid (Cur w5 w3.heap.size (s ++ m) s.size) := by have := hc5; rw [HL.out, Nat.zero_add] at this; exact this
    have s1 := hb1.size
    have s3 := hb3.size
    have s4 := hb4.size
    have hb5 : Below w.heap.size w w5 := ((hb1.trans (hb3.mono (by omega))).trans (hb4.mono (by omega))).grown hg5 (by omega) (fun i hi => by injection hi with hi; omega)
    clear hc5 hg5 HC4 hb1 hb3 hb4 s1 s3 s4 hz4 htz HT HL
    go_wp2_with fail
    refine (at_any w3.heap.size (s ++ m) s.size _ HC5.out).mono ?_
    rintro e w6 ⟨rfl, rfl⟩
    go_wp2
    go_ret
    exact ⟨by simp, hb5⟩
set_option maxRecDepth 100000 in
set_option maxHeartbeats 2000000 in
theorem valueBack_quote (s m : ByteArray) (h4 : s.size + m.size ≤ 400) (hm : ∀ c t, m.data.toList = c :: t → tokB c = false) (hi : isL s.data.toList = false) (hq : quoteO s.data.toList = some (quoteL s.data.toList)) (w : World) (hk : (m.toList.isEmpty = true) ∨ (∃ c : UInt8, (m.toList.isEmpty = false) ∧ (∃ h : 0 < m.size, m[0] = c) ∧ tokB c = false)) :
    Calls Try.prog 6 #[.string s, .string m] w fun e w' => e = .returned (.bool true) ∧ Below w.heap.size w w' := by
  have HI : Hid (isL s.data.toList = false) := hi
  have HQ : Hid (quoteO s.data.toList = some (quoteL s.data.toList)) := hq
  obtain ⟨q, HX⟩ : ∃ q : ByteArray, Hid (bs (quoteL s.data.toList) = q) := ⟨_, rfl⟩
  have HD : Hid (q.data.toList = quoteL s.data.toList) := by show _ = _; rw [← HX.out, bs_data]
  have hqz : q.size ≤ 802 := by rw [← HX.out, bs_size]; have := quote_len s; omega
  have hv := value_word s.data.toList (quoteL s.data.toList) m.data.toList hm (by rw [valueO_no s hi, hq])
  have HW : Hid (((q ++ m).data.toList.drop 0).takeWhile tokB = [] ∧ quotedL ((q ++ m).data.toList.drop 0) = some (s.data.toList, q.size)) := by
    rcases hv with ⟨h3, _⟩ | ⟨_, h2, h3⟩
    · rw [hi] at h3; cases h3
    · refine ⟨?_, ?_⟩
      · rw [List.drop_zero, cat_data, HD.out, h2]
      · rw [List.drop_zero, cat_data, HD.out, h3, ← HD.out, len_data]
  have HL : Hid (runL tokB ((q ++ m).data.toList.drop 0) = 0) := by
    show _ = _
    unfold runL
    rw [HW.out.1]
    rfl
  have hsm : (q ++ m).size ≤ 1300 := by rw [ByteArray.size_append]; omega
  have h4' : ¬ (400 : Int) < (s.size : Int) + (m.size : Int) := by omega
  clear hi hm hq hv
  rcases hk with hme | ⟨c, hme, ⟨hpos, hc⟩, ht⟩
  all_goals
    go_enter Try.func6, Try.ntmps6
    go_wp2_with (first | (go_at_call 9; refine (worded_any _).mono ?_; rintro e w1 ⟨rfl, hb1⟩) | (go_at_call 16; refine (byte_any c _).mono ?_; rintro e w2 ⟨rfl, hw⟩; obtain rfl := hw.symm; rw [ht]) | (go_at_call 17; refine (value_yes s (by omega) HI.out HQ.out _).mono ?_; rintro e w3 ⟨rfl, hb3⟩; rw [HX.out]) | (go_at_call 11; refine (on_any (q ++ m) _).mono ?_; rintro e w4 ⟨rfl, hc4, hb4, hz4⟩; have HC4 : Hid (Cur w4 w3.heap.size (q ++ m) 0) := hc4; clear hc4))
    refine (word_any w3.heap.size (q ++ m) (by omega) 0 _ HC4.out).mono ?_
    rintro e w5 ⟨t, rfl, htz, HT, hc5, hg5⟩
    obtain rfl : t = ⟨#[]⟩ := empty_at (by rw [htz, HL.out])
    have HC5 : Hid (Cur w5 w3.heap.size (q ++ m) 0) := by have := hc5; rw [HL.out, Nat.zero_add] at this; exact this
    have s1 := hb1.size
    have s3 := hb3.size
    have s4 := hb4.size
    have hb5 : Below w.heap.size w w5 := ((hb1.trans (hb3.mono (by omega))).trans (hb4.mono (by omega))).grown hg5 (by omega) (fun i hi => by injection hi with hi; omega)
    have hz5 : w.heap.size ≤ w3.heap.size := by omega
    have hz6 := hg5.size
    clear hc5 hg5 HC4 hb1 hb3 hb4 s1 s3 htz HT HL
    go_wp2_with fail
    refine (quoted_any w3.heap.size (q ++ m) (by omega) 0 _ HC5.out).mono ?_
    rintro e w6 (⟨t, n, htq, rfl, hc6, hg6⟩ | ⟨htq, _⟩)
    · rw [HW.out.2] at htq
      cases htq
      have HC6 : Hid (Cur w6 w3.heap.size (q ++ m) (0 + q.size)) := hc6
      have hb6 : Below w.heap.size w w6 := hb5.grown hg6 (by omega) (fun i hi => by injection hi with hi; omega)
      rw [bs_self]
      clear hc6 hg6 HC5 hb5
      go_wp2_with fail
      refine (at_any w3.heap.size (q ++ m) (0 + q.size) _ HC6.out).mono ?_
      rintro e w7 ⟨rfl, rfl⟩
      go_wp2
      go_ret
      exact ⟨by simp, hb6⟩
    · rw [HW.out.2] at htq
      cases htq
theorem valueBack_rest (s m : ByteArray) (h4 : s.size + m.size ≤ 400) (hm : ∀ c t, m.data.toList = c :: t → tokB c = false) (w : World) (hk : (m.toList.isEmpty = true) ∨ (∃ c : UInt8, (m.toList.isEmpty = false) ∧ (∃ h : 0 < m.size, m[0] = c) ∧ tokB c = false)) :
    Calls Try.prog 6 #[.string s, .string m] w fun e w' => e = .returned (.bool true) ∧ Below w.heap.size w w' := by
  cases hi : isL s.data.toList
  · rcases quoteO_cases s with hq | hq
    · exact valueBack_none s m h4 hi hq w hk
    · exact valueBack_quote s m h4 hm hi hq w hk
  · exact valueBack_word s m h4 hm hi w hk
set_option maxRecDepth 100000 in
set_option maxHeartbeats 2000000 in
theorem valueBack_walk (s : ByteArray) (_hs : s.size ≤ 140737488355328) (m : ByteArray) (_hm : m.size ≤ 140737488355328) (w : World) :
    Calls Try.prog 6 #[.string s, .string m] w fun e w' => e = .returned (.bool true) ∧ Below w.heap.size w w' := by
  by_cases h : (400 : Int) < (s.size : Int) + (m.size : Int)
  · go_enter Try.func6, Try.ntmps6
    go_wp2_with (go_at_call 9; refine (worded_any _).mono ?_; rintro e w1 ⟨rfl, hb1⟩)
    go_ret
    exact ⟨rfl, hb1⟩
  · have h4 : s.size + m.size ≤ 400 := by omega
    clear _hs _hm
    by_cases hm0 : m.size = 0
    · refine valueBack_rest s m h4 (fun c t e => ?_) w (.inl (by obtain rfl := empty_at hm0; rw [ByteArray.toList_eq]; rfl))
      have := len_data m
      rw [e] at this
      simp at this
      omega
    · have hne := not_empty_at hm0
      have hpos : 0 < m.size := by omega
      obtain ⟨c, hc⟩ : ∃ c : UInt8, m[0] = c := ⟨_, rfl⟩
      cases ht : tokB c
      · refine valueBack_rest s m h4 (fun c' t e => ?_) w (.inr ⟨c, hne, ⟨hpos, hc⟩, ht⟩)
        have : c' = c := by
          have h1 : m.data.toList[0]'(by rw [len_data]; exact hpos) = c := hc
          simp only [e] at h1
          exact h1
        rw [this]
        exact ht
      · have hcl : (c.toNat : Int) < 256 := by have := c.toNat_lt; omega
        go_enter Try.func6, Try.ntmps6
        go_wp2_with (first | (go_at_call 9; refine (worded_any _).mono ?_; rintro e w1 ⟨rfl, hb1⟩) | (go_at_call 16; refine (byte_any c _).mono ?_; rintro e w2 ⟨rfl, hw⟩; obtain rfl := hw.symm; rw [ht]))
        go_ret
        exact ⟨rfl, hb1⟩
end Go.Proofs.Ytapgbckpiffgnab
