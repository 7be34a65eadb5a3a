/- A method as it is sent, and whether one is simple, by both. -/
import Derived.Test.YtbhnaekkjpcafaaDoorMth8
import Derived.Test.YtbhnaekkjpcafaaDoorUpA
import Derived.Test.YtbhnaekkjpcafaaDoorRefLow
namespace Go.Proofs.YtbhnaekkjpcafaaDoor
open Go.RowKit Go.Shelf

def simpleL (l : List UInt8) : Bool := l == [71, 69, 84] || (l == [72, 69, 65, 68] || l == [80, 79, 83, 84])
set_option maxHeartbeats 1000000 in
theorem simple_any (s : ByteArray) (w : World) : Calls Tryd.prog 10 #[.string s] w fun e w' => e = .returned (.bool (simpleL s.toList)) ∧ w' = w := by
  have HS : Hid (simpleL s.toList = (s.toList == [71, 69, 84] || (s.toList == [72, 69, 65, 68] || s.toList == [80, 79, 83, 84]))) := rfl
  go_enter Tryd.func10, Tryd.ntmps10
  go_wp2
  all_goals
    go_ret
    exact ⟨ret_bool (by rw [HS.out]; first | exact Bool.or_assoc _ _ _ | simp [*]), rfl⟩
set_option maxHeartbeats 1000000 in
theorem refSimple_any (s : ByteArray) (w : World) : Calls Tryd.prog 11 #[.string s] w fun e w' => e = .returned (.bool (simpleL s.toList)) ∧ w' = w := by
  have HS : Hid (simpleL s.toList = (s.toList == [71, 69, 84] || (s.toList == [72, 69, 65, 68] || s.toList == [80, 79, 83, 84]))) := rfl
  go_enter Tryd.func11, Tryd.ntmps11
  go_wp2
  all_goals
    go_ret
    exact ⟨ret_bool (by rw [HS.out]; first | exact Bool.or_assoc _ _ _ | simp [*]), rfl⟩
theorem low_is (s x : ByteArray) (hx : bs (s.data.toList.map low) = x) (m : ByteArray) (l : List UInt8) (hm : m.data.toList.map low = l) : sameL s.data.toList m.data.toList = (x.toList == l) := by
  unfold sameL
  rw [hm, ByteArray.toList_eq, ← hx, bs_data]
theorem upper_is (x m : ByteArray) (l : List UInt8) (hx : (x.toList == l) = true) (hm : l.map Lib.upperB = m.data.toList) : x.data.toList.map Lib.upperB = m.data.toList := by
  rw [← hm, ← eq_of_beq hx, ByteArray.toList_eq]
theorem ascii_is (x : ByteArray) (l : List UInt8) (hx : (x.toList == l) = true) (ha : l.all (fun c => decide (c.toNat < 128)) = true) : ∀ c ∈ x.data.toList, c.toNat < 128 := by
  intro c hc
  rw [← ByteArray.toList_eq, eq_of_beq hx] at hc
  simpa using List.all_eq_true.1 ha c hc
set_option maxRecDepth 100000 in
set_option maxHeartbeats 4000000 in
theorem refMethod_any (s : ByteArray) (hs : s.size ≤ 3000) (w : World) :
    Calls Tryd.prog 9 #[.string s] w fun e w' => e = .returned (.string (methodB s)) ∧ Below w.heap.size w w' := by
  obtain ⟨y, HY⟩ : ∃ y, Hid (methodB s = y) := ⟨_, rfl⟩
  rw [HY.out]
  obtain ⟨x, HX⟩ : ∃ x : ByteArray, Hid (bs (s.data.toList.map low) = x) := ⟨_, rfl⟩
  have hxs : x.size ≤ 5000 := by
    rw [← HX.out, bs_size, List.length_map]
    have : s.data.toList.length = s.size := Array.length_toList
    omega
  go_enter Tryd.func9, Tryd.ntmps9
  go_wp2_with fail
  refine (refLower_any s _ (by omega)).mono ?_
  rintro e w1 ⟨rfl, hb1⟩
  rw [HX.out]
  have HW1 : Hid (Below w.heap.size w w1) := hb1
  clear hb1
  have HB0 : Hid (sameL s.data.toList mth0.data.toList = (x.toList == [100, 101, 108, 101, 116, 101])) := low_is s x HX.out mth0 _ (by decide)
  cases a0 : (x.toList == [100, 101, 108, 101, 116, 101])
  rotate_left
  · have HE : Hid (y = mth0) := by
      show _ = _
      rw [← HY.out]
      unfold methodB
      simp only [HB0.out, a0, if_true]
    have HU := upper_is x mth0 _ a0 (by decide)
    have HA := ascii_is x _ a0 (by decide)
    go_wp2_with fail
    refine (refLower_any s _ (by omega)).mono ?_
    rintro e w2 ⟨rfl, hb2⟩
    rw [HX.out]
    have HW2 : Hid (Below w.heap.size w w2) := HW1.out.trans (hb2.mono HW1.out.size)
    clear hb2
    go_wp2_with fail
    refine (upper_ascii x mth0 hxs HA HU _).mono ?_
    rintro e w3 ⟨rfl, hb3⟩
    go_wp2
    go_ret
    exact ⟨by rw [HE.out]; rfl, HW2.out.trans (hb3.mono HW2.out.size)⟩
  have HB1 : Hid (sameL s.data.toList mth1.data.toList = (x.toList == [103, 101, 116])) := low_is s x HX.out mth1 _ (by decide)
  cases a1 : (x.toList == [103, 101, 116])
  rotate_left
  · have HE : Hid (y = mth1) := by
      show _ = _
      rw [← HY.out]
      unfold methodB
      simp only [HB0.out, HB1.out, a0, a1, if_true, Bool.false_eq_true, if_false]
    have HU := upper_is x mth1 _ a1 (by decide)
    have HA := ascii_is x _ a1 (by decide)
    go_wp2_with fail
    refine (refLower_any s _ (by omega)).mono ?_
    rintro e w2 ⟨rfl, hb2⟩
    rw [HX.out]
    have HW2 : Hid (Below w.heap.size w w2) := HW1.out.trans (hb2.mono HW1.out.size)
    clear hb2
    go_wp2_with fail
    refine (upper_ascii x mth1 hxs HA HU _).mono ?_
    rintro e w3 ⟨rfl, hb3⟩
    go_wp2
    go_ret
    exact ⟨by rw [HE.out]; rfl, HW2.out.trans (hb3.mono HW2.out.size)⟩
  have HB2 : Hid (sameL s.data.toList mth2.data.toList = (x.toList == [104, 101, 97, 100])) := low_is s x HX.out mth2 _ (by decide)
  cases a2 : (x.toList == [104, 101, 97, 100])
  rotate_left
  · have HE : Hid (y = mth2) := by
      show _ = _
      rw [← HY.out]
      unfold methodB
      simp only [HB0.out, HB1.out, HB2.out, a0, a1, a2, if_true, Bool.false_eq_true, if_false]
    have HU := upper_is x mth2 _ a2 (by decide)
    have HA := ascii_is x _ a2 (by decide)
    go_wp2_with fail
    refine (refLower_any s _ (by omega)).mono ?_
    rintro e w2 ⟨rfl, hb2⟩
    rw [HX.out]
    have HW2 : Hid (Below w.heap.size w w2) := HW1.out.trans (hb2.mono HW1.out.size)
    clear hb2
    go_wp2_with fail
    refine (upper_ascii x mth2 hxs HA HU _).mono ?_
    rintro e w3 ⟨rfl, hb3⟩
    go_wp2
    go_ret
    exact ⟨by rw [HE.out]; rfl, HW2.out.trans (hb3.mono HW2.out.size)⟩
  have HB3 : Hid (sameL s.data.toList mth3.data.toList = (x.toList == [111, 112, 116, 105, 111, 110, 115])) := low_is s x HX.out mth3 _ (by decide)
  cases a3 : (x.toList == [111, 112, 116, 105, 111, 110, 115])
  rotate_left
  · have HE : Hid (y = mth3) := by
      show _ = _
      rw [← HY.out]
      unfold methodB
      simp only [HB0.out, HB1.out, HB2.out, HB3.out, a0, a1, a2, a3, if_true, Bool.false_eq_true, if_false]
    have HU := upper_is x mth3 _ a3 (by decide)
    have HA := ascii_is x _ a3 (by decide)
    go_wp2_with fail
    refine (refLower_any s _ (by omega)).mono ?_
    rintro e w2 ⟨rfl, hb2⟩
    rw [HX.out]
    have HW2 : Hid (Below w.heap.size w w2) := HW1.out.trans (hb2.mono HW1.out.size)
    clear hb2
    go_wp2_with fail
    refine (upper_ascii x mth3 hxs HA HU _).mono ?_
    rintro e w3 ⟨rfl, hb3⟩
    go_wp2
    go_ret
    exact ⟨by rw [HE.out]; rfl, HW2.out.trans (hb3.mono HW2.out.size)⟩
  have HB4 : Hid (sameL s.data.toList mth4.data.toList = (x.toList == [112, 111, 115, 116])) := low_is s x HX.out mth4 _ (by decide)
  cases a4 : (x.toList == [112, 111, 115, 116])
  rotate_left
  · have HE : Hid (y = mth4) := by
      show _ = _
      rw [← HY.out]
      unfold methodB
      simp only [HB0.out, HB1.out, HB2.out, HB3.out, HB4.out, a0, a1, a2, a3, a4, if_true, Bool.false_eq_true, if_false]
    have HU := upper_is x mth4 _ a4 (by decide)
    have HA := ascii_is x _ a4 (by decide)
    go_wp2_with fail
    refine (refLower_any s _ (by omega)).mono ?_
    rintro e w2 ⟨rfl, hb2⟩
    rw [HX.out]
    have HW2 : Hid (Below w.heap.size w w2) := HW1.out.trans (hb2.mono HW1.out.size)
    clear hb2
    go_wp2_with fail
    refine (upper_ascii x mth4 hxs HA HU _).mono ?_
    rintro e w3 ⟨rfl, hb3⟩
    go_wp2
    go_ret
    exact ⟨by rw [HE.out]; rfl, HW2.out.trans (hb3.mono HW2.out.size)⟩
  have HB5 : Hid (sameL s.data.toList mth5.data.toList = (x.toList == [112, 117, 116])) := low_is s x HX.out mth5 _ (by decide)
  cases a5 : (x.toList == [112, 117, 116])
  rotate_left
  · have HE : Hid (y = mth5) := by
      show _ = _
      rw [← HY.out]
      unfold methodB
      simp only [HB0.out, HB1.out, HB2.out, HB3.out, HB4.out, HB5.out, a0, a1, a2, a3, a4, a5, if_true, Bool.false_eq_true, if_false]
    have HU := upper_is x mth5 _ a5 (by decide)
    have HA := ascii_is x _ a5 (by decide)
    go_wp2_with fail
    refine (refLower_any s _ (by omega)).mono ?_
    rintro e w2 ⟨rfl, hb2⟩
    rw [HX.out]
    have HW2 : Hid (Below w.heap.size w w2) := HW1.out.trans (hb2.mono HW1.out.size)
    clear hb2
    go_wp2_with fail
    refine (upper_ascii x mth5 hxs HA HU _).mono ?_
    rintro e w3 ⟨rfl, hb3⟩
    go_wp2
    go_ret
    exact ⟨by rw [HE.out]; rfl, HW2.out.trans (hb3.mono HW2.out.size)⟩
  have HE : Hid (y = s) := by
    show _ = _
    rw [← HY.out]
    unfold methodB
    simp only [HB0.out, HB1.out, HB2.out, HB3.out, HB4.out, HB5.out, a0, a1, a2, a3, a4, a5, Bool.false_eq_true, if_false]
  go_wp2
  go_ret
  exact ⟨by rw [HE.out]; rfl, HW1.out⟩
set_option maxHeartbeats 2000000 in
theorem fetchMethods_walk (s : ByteArray) (_hs : s.size ≤ 140737488355328) (w : World) (hm : Methods w) :
    Calls Tryd.prog 3 #[.string s] w fun e w' => e = .returned (.bool true) ∧ Below w.heap.size w w' := by
  by_cases h : s.size ≤ 100
  · have h' : ¬ (100 : Int) < (s.size : Int) := by omega
    have HM : Hid (Methods w) := hm
    obtain ⟨y, HY⟩ : ∃ y, Hid (methodB s = y) := ⟨_, rfl⟩
    obtain ⟨b, HB⟩ : ∃ b, Hid (simpleL s.toList = b) := ⟨_, rfl⟩
    clear _hs hm
    go_enter Tryd.func3, Tryd.ntmps3
    go_wp2_with fail
    refine (method_any s (by omega) _ HM.out).mono ?_
    rintro e w1 ⟨rfl, hb1⟩
    rw [HY.out]
    go_wp2_with fail
    refine (refMethod_any s (by omega) _).mono ?_
    rintro e w2 ⟨rfl, hb2⟩
    rw [HY.out]
    have HB2 : Hid (Below w.heap.size w w2) := hb1.trans (hb2.mono hb1.size)
    clear hb1 hb2
    go_wp2_with fail
    refine (simple_any s _).mono ?_
    rintro e w' ⟨rfl, hw⟩
    obtain rfl := hw.symm
    rw [HB.out]
    go_wp2_with fail
    refine (refSimple_any s _).mono ?_
    rintro e w' ⟨rfl, hw⟩
    obtain rfl := hw.symm
    rw [HB.out]
    go_wp2
    go_ret
    exact ⟨ret_bool (by simp), HB2.out⟩
  · have h' : (100 : Int) < (s.size : Int) := by omega
    clear _hs
    go_enter Tryd.func3, Tryd.ntmps3
    go_wp2
    go_ret
    exact ⟨rfl, Below.refl _ _⟩
end Go.Proofs.YtbhnaekkjpcafaaDoor
