/- The law SameOnes, walked. -/
import Derived.Test.YtapgbckpiffgnabWrd
import Derived.Test.YtapgbckpiffgnabCoded
namespace Go.Proofs.Ytapgbckpiffgnab
open Go.RowKit

theorem sameL_self (l : List UInt8) : sameL l l = true := by simp [sameL]
theorem sameL_comm (a b : List UInt8) : sameL a b = sameL b a := by
  unfold sameL
  rw [Bool.eq_iff_iff, beq_iff_eq, beq_iff_eq]
  exact eq_comm
theorem sameL_trans {a b c : List UInt8} (h1 : sameL a b = true) (h2 : sameL b c = true) : sameL a c = true := by
  unfold sameL at *
  rw [beq_iff_eq] at *
  exact h1.trans h2
theorem low_low : ∀ c : UInt8, low (low c) = low c := by
  intro c
  have : ∀ n : Fin 256, low (low (UInt8.ofNat n.1)) = low (UInt8.ofNat n.1) := by decide +kernel
  have h := this ⟨c.toNat, c.toNat_lt⟩
  simpa using h
theorem sameL_low (l : List UInt8) : sameL l (l.map low) = true := by
  unfold sameL
  rw [beq_iff_eq, List.map_map]
  apply List.map_congr_left
  intro c _
  exact (low_low c).symm
set_option maxRecDepth 100000 in
set_option maxHeartbeats 2000000 in
theorem sameOnes_walk (a : ByteArray) (_ha : a.size ≤ 140737488355328) (b : ByteArray) (_hb : b.size ≤ 140737488355328) (c : ByteArray) (_hc : c.size ≤ 140737488355328) (w : World) :
    Calls Try.prog 7 #[.string a, .string b, .string c] w fun e w' => e = .returned (.bool true) ∧ Below w.heap.size w w' := by
  by_cases h : (400 : Int) < (a.size : Int) + (b.size : Int) + (c.size : Int)
  · go_enter Try.func7, Try.ntmps7
    go_wp2_with (first | (go_at_call 9; refine (worded_any _).mono ?_; rintro e w1 ⟨rfl, hb1⟩) | (go_at_call 19; refine (coded_any _).mono ?_; rintro e w2 ⟨rfl, hb2⟩))
    go_ret
    exact ⟨rfl, hb1.trans (hb2.mono hb1.size)⟩
  · have h4 : a.size + b.size + c.size ≤ 400 := by omega
    clear _ha _hb _hc
    obtain ⟨p, HP⟩ : ∃ p : Bool, Hid (sameL a.data.toList b.data.toList = p) := ⟨_, rfl⟩
    obtain ⟨q, HQ⟩ : ∃ q : Bool, Hid (sameL b.data.toList c.data.toList = q) := ⟨_, rfl⟩
    obtain ⟨r, HR⟩ : ∃ r : Bool, Hid (sameL a.data.toList c.data.toList = r) := ⟨_, rfl⟩
    have hpqr : p = true → q = true → r = true := by
      rintro rfl rfl
      rw [← HR.out]
      exact sameL_trans HP.out HQ.out
    obtain ⟨x, HX⟩ : ∃ x : ByteArray, Hid (bs (a.data.toList.map low) = x) := ⟨_, rfl⟩
    have hxz : x.size ≤ 1000 := by rw [← HX.out, bs_size]; simp; omega
    have HXS : Hid (sameL a.data.toList x.data.toList = true) := by show _ = _; rw [← HX.out, bs_data]; exact sameL_low _
    go_enter Try.func7, Try.ntmps7
    go_wp2_with (first | (go_at_call 9; refine (worded_any _).mono ?_; rintro e w1 ⟨rfl, hb1⟩) | (go_at_call 19; refine (coded_any _).mono ?_; rintro e w2 ⟨rfl, hb2⟩))
    have hB2 : Below w.heap.size w w2 := hb1.trans (hb2.mono hb1.size)
    clear hb1 hb2
    refine (same_any a a (by omega) (by omega) _).mono ?_
    rintro e w3 ⟨rfl, hb3⟩
    rw [sameL_self]
    have hB3 : Below w.heap.size w w3 := hB2.trans (hb3.mono hB2.size)
    clear hb3 hB2
    go_wp2_with fail
    refine (same_any a b (by omega) (by omega) _).mono ?_
    rintro e w4 ⟨rfl, hb4⟩
    rw [HP.out]
    have hB4 : Below w.heap.size w w4 := hB3.trans (hb4.mono hB3.size)
    clear hb4 hB3
    go_wp2_with fail
    refine (same_any b a (by omega) (by omega) _).mono ?_
    rintro e w5 ⟨rfl, hb5⟩
    rw [sameL_comm, HP.out]
    have hB5 : Below w.heap.size w w5 := hB4.trans (hb5.mono hB4.size)
    clear hb5 hB4
    have hpp : (p == p) = true := by simp
    go_wp2_with fail
    refine (same_any a b (by omega) (by omega) _).mono ?_
    rintro e w6 ⟨rfl, hb6⟩
    rw [HP.out]
    have hB6 : Below w.heap.size w w6 := hB5.trans (hb6.mono hB5.size)
    clear hb6 hB5
    cases p
    · clear hpqr
      go_wp2_with fail
      refine (lower_any a _ (by omega)).mono ?_
      rintro e w7 ⟨rfl, hb7⟩
      rw [HX.out]
      have hB7 : Below w.heap.size w w7 := hB6.trans (hb7.mono hB6.size)
      go_wp2_with fail
      refine (same_any a x (by omega) hxz _).mono ?_
      rintro e w8 ⟨rfl, hb8⟩
      rw [HXS.out]
      go_wp2
      go_ret
      exact ⟨by simp, hB7.trans (hb8.mono hB7.size)⟩
    · go_wp2_with fail
      refine (same_any b c (by omega) (by omega) _).mono ?_
      rintro e w7 ⟨rfl, hb7⟩
      rw [HQ.out]
      have hB7 : Below w.heap.size w w7 := hB6.trans (hb7.mono hB6.size)
      clear hb7 hB6
      cases q
      · clear hpqr
        go_wp2_with fail
        refine (lower_any a _ (by omega)).mono ?_
        rintro e w8 ⟨rfl, hb8⟩
        rw [HX.out]
        have hB8 : Below w.heap.size w w8 := hB7.trans (hb8.mono hB7.size)
        go_wp2_with fail
        refine (same_any a x (by omega) hxz _).mono ?_
        rintro e w9 ⟨rfl, hb9⟩
        rw [HXS.out]
        go_wp2
        go_ret
        exact ⟨by simp, hB8.trans (hb9.mono hB8.size)⟩
      · obtain rfl : r = true := by simpa using hpqr
        clear hpqr
        go_wp2_with fail
        refine (same_any a c (by omega) (by omega) _).mono ?_
        rintro e w8 ⟨rfl, hb8⟩
        rw [HR.out]
        have hB8 : Below w.heap.size w w8 := hB7.trans (hb8.mono hB7.size)
        clear hb8 hB7
        go_wp2_with fail
        refine (lower_any a _ (by omega)).mono ?_
        rintro e w9 ⟨rfl, hb9⟩
        rw [HX.out]
        have hB9 : Below w.heap.size w w9 := hB8.trans (hb9.mono hB8.size)
        go_wp2_with fail
        refine (same_any a x (by omega) hxz _).mono ?_
        rintro e w10 ⟨rfl, hb10⟩
        rw [HXS.out]
        go_wp2
        go_ret
        exact ⟨by simp, hB9.trans (hb10.mono hB9.size)⟩
end Go.Proofs.Ytapgbckpiffgnab
