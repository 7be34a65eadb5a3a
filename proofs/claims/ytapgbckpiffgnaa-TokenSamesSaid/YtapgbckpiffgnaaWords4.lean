/- The laws TokenWords and TokenSames, walked. -/
import Derived.Test.YtapgbckpiffgnaaTkRef
namespace Go.Proofs.Ytapgbckpiffgnaa
open Go.RowKit

set_option maxHeartbeats 1000000 in
theorem tokenWords_walk (s : ByteArray) (_hs : s.size ≤ 140737488355328) (c : UInt8) (w : World) :
    Calls Try.prog 3 #[.string s, .int .u8 (c.toNat : Int)] w fun e w' => e = .returned (.bool true) ∧ Below w.heap.size w w' := by
  have hcl : (c.toNat : Int) < 256 := by have := c.toNat_lt; omega
  by_cases hh : s.size ≤ 300
  · clear _hs
    obtain ⟨b, HB⟩ : ∃ b : Bool, Hid (isL s.data.toList = b) := ⟨_, rfl⟩
    obtain ⟨d, HD⟩ : ∃ d : Bool, Hid (tokB c = d) := ⟨_, rfl⟩
    have hh' : ¬ (300 : Int) < (s.size : Int) := by omega
    go_enter Try.func3, Try.ntmps3
    go_wp2_with fail
    refine (is_any s (by omega) _).mono ?_
    rintro e w' ⟨rfl, rfl⟩
    rw [HB.out]
    go_wp2_with fail
    refine (refToken_any s (by omega) _).mono ?_
    rintro e w' ⟨rfl, rfl⟩
    rw [HB.out]
    go_wp2_with fail
    refine (byte_any c _).mono ?_
    rintro e w' ⟨rfl, rfl⟩
    rw [HD.out]
    go_wp2_with fail
    refine (refByte_any c _).mono ?_
    rintro e w' ⟨rfl, rfl⟩
    rw [HD.out]
    go_wp2
    go_ret
    exact ⟨ret_bool (by cases b <;> cases d <;> rfl), Below.refl _ _⟩
  · have h : (300 : Int) < (s.size : Int) := by omega
    clear hh _hs hcl
    go_enter Try.func3, Try.ntmps3
    go_wp2
    go_ret
    exact ⟨rfl, Below.refl _ _⟩

def sameL (a b : List UInt8) : Bool := a.map low == b.map low
theorem eq_bs (a b : List UInt8) : ((bs a).toList == (bs b).toList) = (a == b) := by rw [ByteArray.toList_eq, ByteArray.toList_eq, bs_data, bs_data]
set_option maxHeartbeats 1000000 in
theorem same_any (s t : ByteArray) (hs : s.size ≤ 1000) (ht : t.size ≤ 1000) (w : World) :
    Calls Try.prog 9 #[.string s, .string t] w fun e w' => e = .returned (.bool (sameL s.data.toList t.data.toList)) ∧ Below w.heap.size w w' := by
  obtain ⟨x, HX⟩ : ∃ x : ByteArray, Hid (bs (s.data.toList.map low) = x) := ⟨_, rfl⟩
  obtain ⟨y, HY⟩ : ∃ y : ByteArray, Hid (bs (t.data.toList.map low) = y) := ⟨_, rfl⟩
  have HS : Hid (sameL s.data.toList t.data.toList = (x.toList == y.toList)) := by show _ = _; rw [← HX.out, ← HY.out, eq_bs]; rfl
  go_enter Try.func9, Try.ntmps9
  go_wp2_with fail
  refine (lower_any s _ hs).mono ?_
  rintro e w1 ⟨rfl, hb1⟩
  rw [HX.out]
  go_wp2_with fail
  refine (lower_any t _ ht).mono ?_
  rintro e w2 ⟨rfl, hb2⟩
  rw [HY.out]
  go_wp2
  go_ret
  exact ⟨ret_bool HS.out.symm, hb1.trans (hb2.mono hb1.size)⟩
set_option maxHeartbeats 1000000 in
theorem refSame_any (s t : ByteArray) (hs : s.size ≤ 1000) (ht : t.size ≤ 1000) (w : World) :
    Calls Try.prog 10 #[.string s, .string t] w fun e w' => e = .returned (.bool (sameL s.data.toList t.data.toList)) ∧ Below w.heap.size w w' := by
  obtain ⟨x, HX⟩ : ∃ x : ByteArray, Hid (bs (s.data.toList.map low) = x) := ⟨_, rfl⟩
  obtain ⟨y, HY⟩ : ∃ y : ByteArray, Hid (bs (t.data.toList.map low) = y) := ⟨_, rfl⟩
  have HS : Hid (sameL s.data.toList t.data.toList = (x.toList == y.toList)) := by show _ = _; rw [← HX.out, ← HY.out, eq_bs]; rfl
  go_enter Try.func10, Try.ntmps10
  go_wp2_with fail
  refine (refLower_any s _ (by omega)).mono ?_
  rintro e w1 ⟨rfl, hb1⟩
  rw [HX.out]
  go_wp2_with fail
  refine (refLower_any t _ (by omega)).mono ?_
  rintro e w2 ⟨rfl, hb2⟩
  rw [HY.out]
  go_wp2
  go_ret
  exact ⟨ret_bool HS.out.symm, hb1.trans (hb2.mono hb1.size)⟩
set_option maxHeartbeats 1000000 in
theorem tokenSames_walk (s : ByteArray) (_hs : s.size ≤ 140737488355328) (t : ByteArray) (_ht : t.size ≤ 140737488355328) (w : World) :
    Calls Try.prog 4 #[.string s, .string t] w fun e w' => e = .returned (.bool true) ∧ Below w.heap.size w w' := by
  by_cases h : s.size + t.size ≤ 400
  · obtain ⟨b, HB⟩ : ∃ b : Bool, Hid (sameL s.data.toList t.data.toList = b) := ⟨_, rfl⟩
    go_enter Try.func4, Try.ntmps4
    go_wp2_with fail
    refine (same_any s t (by omega) (by omega) _).mono ?_
    rintro e w1 ⟨rfl, hb1⟩
    rw [HB.out]
    go_wp2_with fail
    refine (refSame_any s t (by omega) (by omega) _).mono ?_
    rintro e w2 ⟨rfl, hb2⟩
    rw [HB.out]
    go_wp2
    go_ret
    exact ⟨ret_bool (by cases b <;> rfl), hb1.trans (hb2.mono hb1.size)⟩
  · go_enter Try.func4, Try.ntmps4
    go_wp2
    go_ret
    exact ⟨rfl, Below.refl _ _⟩
end Go.Proofs.Ytapgbckpiffgnaa
