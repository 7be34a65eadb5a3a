/- The law ListBack, walked. -/
import Derived.Test.YtapgbckpiffgnacLBk
namespace Go.Proofs.Ytapgbckpiffgnac
open Go.RowKit

theorem list_join {xs : List ByteArray} (h : ∀ l ∈ datas xs, isL l = true) : listP 0 (splitL 44 (bs (joinC (datas xs))).data.toList) = .ok (texts xs) := by
  rw [bs_data]
  exact (okL_iff _ _).2 (okL_join _ h)
set_option maxRecDepth 100000 in
set_option maxHeartbeats 2000000 in
theorem listBack_walk (a0 : Option Addr) (len cap b off : Nat) (hlen : len ≤ 9223372036854775807) (xs : List ByteArray) (hbig : ∀ x ∈ xs, x.size ≤ 9223372036854775807) (s : ByteArray) (_hs : s.size ≤ 140737488355328) (w : World) (hx : Strs w a0 len b off xs) :
    Calls Try.prog 3 #[.slice a0 len cap, .string s] w fun e w' => e = .returned (.bool true) ∧ Below w.heap.size w w' := by
  have HX : Hid (Strs w a0 len b off xs) := hx
  have hl := hx.len_eq
  have HB : Hid (∀ x ∈ xs, x.size ≤ 9223372036854775807) := hbig
  have HLn : Hid (len ≤ 9223372036854775807) := hlen
  clear hx hbig hlen
  by_cases h : (300 : Int) < (s.size : Int)
  · clear hl
    go_enter Try.func3, Try.ntmps3
    go_wp2_with (go_at_call 6; refine (worded_any _).mono ?_; rintro e w1 ⟨rfl, hb1⟩)
    go_ret
    exact ⟨rfl, hb1⟩
  · have h3 : s.size ≤ 300 := by omega
    clear _hs
    obtain ⟨q, HQ⟩ : ∃ q : Bool, Hid (wordsB len xs = q) := ⟨_, rfl⟩
    go_enter Try.func3, Try.ntmps3
    go_upto_if 15 with (first | (go_at_call 6; refine (worded_any _).mono ?_; rintro e w1 ⟨rfl, hb1⟩) | (go_at_call 7; refine (wordsOf_any a0 len cap b off HLn.out xs HB.out _ (HX.out.below hb1)).mono ?_; rintro e w2 ⟨rfl, hw⟩; obtain rfl := hw.symm; rw [HQ.out]))
    go_cut [5, 6] from 16 (fun v u wc => Below w.heap.size w wc)
    case first =>
      cases q
      · go_wp2
        go_meet
        exact hb1
      · obtain ⟨h20, h30, hall⟩ := words_all HQ.out
        have HA : Hid (∀ l ∈ datas xs, isL l = true) := hall
        have hjl := joinC_length xs 30 h30
        have hmul : xs.length * (30 + 2) ≤ 640 := by omega
        obtain ⟨j, HJ⟩ : ∃ j : ByteArray, Hid (bs (joinC (datas xs)) = j) := ⟨_, rfl⟩
        have hjz : j.size ≤ 640 := by rw [← HJ.out, bs_size]; omega
        have HJL : Hid (listP 0 (splitL 44 j.data.toList) = .ok (texts xs)) := by show _ = _; rw [← HJ.out]; exact list_join hall
        clear hjl hall
        go_wp2_with fail
        refine (join_any a0 len cap b off xs 30 h30 (by omega) (by omega) _ (HX.out.below hb1)).mono ?_
        rintro e w2 ⟨rfl, hb2⟩
        rw [HJ.out]
        clear h30 hmul
        have hB2 : Below w.heap.size w w2 := hb1.trans (hb2.mono hb1.size)
        go_wp2_with fail
        refine (list_any j (by omega) _).mono ?_
        rintro e w3 ⟨⟨ys, v, hy, _, rfl, hown⟩ | ⟨ys, hy, hy40, _⟩ | ⟨p, g, hy, _⟩, hb3⟩
        · rw [HJL.out] at hy
          obtain rfl := texts_inj (Except.ok.inj hy)
          obtain ⟨a, cap', g, rfl, hs⟩ := hown.strs
          have HS : Hid (Strs w3 a xs.length g 0 xs) := hs
          have hB3 : Below w.heap.size w w3 := hB2.trans (hb3.mono hB2.size)
          rw [hl]
          have HS2 : Hid (Strs w3 a len g 0 xs) := by have := HS.out; rw [hl] at this; exact this
          clear hs hown hy HS
          go_wp2_with fail
          refine (equal_same a a0 len _ g 0 _ b off xs _ (by omega) HS2.out (HX.out.below hB3)).mono ?_
          rintro e w4 ⟨rfl, n4, rfl⟩
          go_wp2
          go_meet
          exact drewN_at hB3 _
        · rw [HJL.out] at hy
          have := texts_inj (Except.ok.inj hy)
          rw [← this] at hy40
          omega
        · rw [HJL.out] at hy
          cases hy
    case rest =>
      have hBc : Below w.heap.size w wc := hcut
      clear hcut
      go_wp2_with fail
      refine (list_any s (by omega) _).mono ?_
      rintro e w5 ⟨⟨ys, v, hy, hy40, rfl, hown⟩ | ⟨ys, hy, hy40, rfl⟩ | ⟨p, g, hy, rfl, _⟩, hb5⟩
      · have hB5 : Below w.heap.size w w5 := hBc.trans (hb5.mono hBc.size)
        obtain ⟨a, cap', g, rfl, hs⟩ := hown.strs
        have HS : Hid (Strs w5 a ys.length g 0 ys) := hs
        have HN : Hid (ys.any notWord = false) := by
          show _ = _
          rw [List.any_eq_false]
          intro x hx
          rw [size_of_words hy x hx]
          simp
        have HZ : Hid (∀ x ∈ ys, x.size ≤ 5000) := fun x hx => by have := size_le hy x hx; omega
        clear hs hown hy
        go_wp2_with fail
        refine (containsFunc_any _ _ ys (kindNot ys HZ.out) a ys.length cap' g 0 (by omega) _ HS.out).mono ?_
        rintro e w6 ⟨rfl, hw⟩
        obtain rfl := hw.symm
        rw [HN.out]
        go_wp2
        go_ret
        exact ⟨rfl, hB5⟩
      · have hB5 : Below w.heap.size w w5 := hBc.trans (hb5.mono hBc.size)
        clear hy hy40
        go_wp2
        go_ret
        exact ⟨rfl, hB5⟩
      · have hB5 : Below w.heap.size w w5 := hBc.trans (hb5.mono hBc.size)
        clear hy
        go_wp2
        go_ret
        exact ⟨rfl, hB5⟩
end Go.Proofs.Ytapgbckpiffgnac
