/- The law MethodTwice, walked. -/
import Derived.Test.YtbhnaekkjpcafaaDoorFtd8
import Derived.Test.YtbhnaekkjpcafaaDoorWrd
namespace Go.Proofs.YtbhnaekkjpcafaaDoor
open Go.RowKit

def methOf (l : List UInt8) : Option ByteArray :=
  if l == mth0.data.toList.map low then some mth0 else if l == mth1.data.toList.map low then some mth1 else if l == mth2.data.toList.map low then some mth2 else if l == mth3.data.toList.map low then some mth3 else if l == mth4.data.toList.map low then some mth4 else if l == mth5.data.toList.map low then some mth5 else none
theorem methodB_of (s : ByteArray) : methodB s = (methOf (s.data.toList.map low)).getD s := by
  unfold methodB methOf sameL
  generalize s.data.toList.map low = l
  split
  · rfl
  split
  · rfl
  split
  · rfl
  split
  · rfl
  split
  · rfl
  split
  · rfl
  · rfl
theorem methOf_low {l : List UInt8} {m : ByteArray} (h : methOf l = some m) : m.data.toList.map low = l := by
  unfold methOf at h
  split at h
  · rename_i e; cases h; exact (eq_of_beq e).symm
  split at h
  · rename_i e; cases h; exact (eq_of_beq e).symm
  split at h
  · rename_i e; cases h; exact (eq_of_beq e).symm
  split at h
  · rename_i e; cases h; exact (eq_of_beq e).symm
  split at h
  · rename_i e; cases h; exact (eq_of_beq e).symm
  split at h
  · rename_i e; cases h; exact (eq_of_beq e).symm
  · cases h
theorem method_same (s : ByteArray) : sameL (methodB s).data.toList s.data.toList = true := by
  rw [methodB_of]
  unfold sameL
  rw [beq_iff_eq]
  cases h : methOf (s.data.toList.map low) with
  | none => rfl
  | some m => exact methOf_low h
theorem method_again (s : ByteArray) : methodB (methodB s) = methodB s := by
  have h1 := method_same s
  unfold sameL at h1
  rw [beq_iff_eq] at h1
  rw [methodB_of (methodB s), h1]
  cases h : methOf (s.data.toList.map low) with
  | none => rfl
  | some m => show m = _; rw [methodB_of, h]; rfl
theorem method_alike (s t : ByteArray) (h : sameL s.data.toList t.data.toList = true) (hne : methodB s ≠ s) : methodB t = methodB s := by
  unfold sameL at h
  rw [beq_iff_eq] at h
  rw [methodB_of] at hne ⊢
  rw [methodB_of s, ← h]
  cases e : methOf (s.data.toList.map low) with
  | none => rw [e] at hne; exact absurd rfl hne
  | some m => rfl
theorem method_simple (s : ByteArray) (h : simpleL s.toList = true) : methodB s = s := by
  unfold simpleL at h
  rw [ByteArray.toList_eq] at h
  rw [← bs_self s]
  generalize s.data.toList = l at h
  rw [Bool.or_eq_true, Bool.or_eq_true] at h
  rcases h with h | h | h
  · rw [eq_of_beq h]; decide +kernel
  · rw [eq_of_beq h]; decide +kernel
  · rw [eq_of_beq h]; decide +kernel
theorem ne_list {a b : ByteArray} (h : a ≠ b) : (a.toList == b.toList) = false := by
  rw [beq_eq_false_iff_ne, ByteArray.toList_eq, ByteArray.toList_eq]
  intro e
  exact h (by rw [← bs_self a, ← bs_self b, e])
theorem method_size (s : ByteArray) (hs : s.size ≤ 200) : (methodB s).size ≤ 200 := by
  rw [methodB_of]
  cases h : methOf (s.data.toList.map low) with
  | none => exact hs
  | some m =>
    have h1 := congrArg List.length (methOf_low h)
    simp only [List.length_map] at h1
    have e1 : m.data.toList.length = m.size := Array.length_toList
    have e2 : s.data.toList.length = s.size := Array.length_toList
    show m.size ≤ 200
    omega
set_option maxRecDepth 100000 in
set_option maxHeartbeats 4000000 in
theorem methodTwice_walk (s : ByteArray) (_hs : s.size ≤ 140737488355328) (t : ByteArray) (_ht : t.size ≤ 140737488355328) (w : World) (hm : Methods w) :
    Calls Tryd.prog 6 #[.string s, .string t] w fun e w' => e = .returned (.bool true) ∧ Below w.heap.size w w' := by
  have HM : Hid (∀ w', Below w.heap.size w w' → Methods w') := fun w' hb => hm.below hb (Nat.le_refl _)
  go_enter Tryd.func6, Tryd.ntmps6
  go_wp2_with fail
  refine (fetched_any _ hm).mono ?_
  rintro e w1 ⟨rfl, hb1⟩
  clear hm
  go_wp2_with fail
  refine (worded_any _).mono ?_
  rintro e w2 ⟨rfl, hb2⟩
  have HB2 : Hid (Below w.heap.size w w2) := hb1.trans (hb2.mono hb1.size)
  clear hb1 hb2
  by_cases h : s.size + t.size ≤ 200
  · have h' : ¬ (200 : Int) < (s.size : Int) + (t.size : Int) := by omega
    obtain ⟨m, HMS⟩ : ∃ m, Hid (methodB s = m) := ⟨_, rfl⟩
    have hmz : m.size ≤ 200 := by rw [← HMS.out]; exact method_size s (by omega)
    have HMM : Hid (methodB m = m ∧ sameL m.data.toList s.data.toList = true) := by rw [← HMS.out]; exact ⟨method_again s, method_same s⟩
    go_wp2_with fail
    refine (method_any s (by omega) _ (HM.out _ HB2.out)).mono ?_
    rintro e w3 ⟨rfl, hb3⟩
    rw [HMS.out]
    have HB3 : Hid (Below w.heap.size w w3) := HB2.out.trans (hb3.mono HB2.out.size)
    clear hb3
    go_wp2_with fail
    refine (method_any m (by omega) _ (HM.out _ HB3.out)).mono ?_
    rintro e w4 ⟨rfl, hb4⟩
    rw [HMM.out.1]
    have HB4 : Hid (Below w.heap.size w w4) := HB3.out.trans (hb4.mono HB3.out.size)
    clear hb4
    go_wp2_with fail
    refine (same_any m s (by omega) (by omega) _).mono ?_
    rintro e w5 ⟨rfl, hb5⟩
    rw [HMM.out.2]
    have HB5 : Hid (Below w.heap.size w w5) := HB4.out.trans (hb5.mono HB4.out.size)
    clear hb5
    obtain ⟨r, HR⟩ : ∃ r, Hid (simpleL s.toList = r) := ⟨_, rfl⟩
    by_cases hms : m = s
    · subst hms
      go_wp2_with fail
      refine (simple_any m _).mono ?_
      rintro e w' ⟨rfl, hw⟩
      obtain rfl := hw.symm
      rw [HR.out]
      cases r
      · go_wp2
        go_ret
        exact ⟨rfl, HB5.out⟩
      · go_wp2
        go_ret
        exact ⟨by simp, HB5.out⟩
    · have hne := ne_list hms
      obtain rfl : r = false := by
        cases r
        · rfl
        · exact absurd (HMS.out.symm.trans (method_simple s HR.out)) hms
      obtain ⟨q, HQ⟩ : ∃ q, Hid (sameL s.data.toList t.data.toList = q) := ⟨_, rfl⟩
      go_wp2_with fail
      refine (same_any s t (by omega) (by omega) _).mono ?_
      rintro e w6 ⟨rfl, hb6⟩
      rw [HQ.out]
      have HB6 : Hid (Below w.heap.size w w6) := HB5.out.trans (hb6.mono HB5.out.size)
      clear hb6
      cases q
      · go_wp2_with fail
        refine (simple_any s _).mono ?_
        rintro e w' ⟨rfl, hw⟩
        obtain rfl := hw.symm
        rw [HR.out]
        go_wp2
        go_ret
        exact ⟨rfl, HB6.out⟩
      · have HT : Hid (methodB t = m) := by
          show _ = _
          rw [method_alike s t HQ.out (by rw [HMS.out]; exact hms), HMS.out]
        go_wp2_with fail
        refine (method_any t (by omega) _ (HM.out _ HB6.out)).mono ?_
        rintro e w7 ⟨rfl, hb7⟩
        rw [HT.out]
        have HB7 : Hid (Below w.heap.size w w7) := HB6.out.trans (hb7.mono HB6.out.size)
        clear hb7
        go_wp2_with fail
        refine (simple_any s _).mono ?_
        rintro e w' ⟨rfl, hw⟩
        obtain rfl := hw.symm
        rw [HR.out]
        go_wp2
        go_ret
        exact ⟨by simp, HB7.out⟩
  · have h' : (200 : Int) < (s.size : Int) + (t.size : Int) := by omega
    go_wp2
    go_ret
    exact ⟨rfl, HB2.out⟩
end Go.Proofs.YtbhnaekkjpcafaaDoor
