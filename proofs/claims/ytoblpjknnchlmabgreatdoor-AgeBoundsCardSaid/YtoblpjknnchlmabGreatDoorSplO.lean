/- strings.Split at one byte, without a word on internal/bytealg.MaxLen. -/
import Derived.Test.YtoblpjknnchlmabGreatDoorShSplit
import Derived.Test.YtoblpjknnchlmabGreatDoorSpl
namespace Go.Proofs.YtoblpjknnchlmabGreatDoor
open Go.RowKit Go.Shelf

theorem indexB_ix (s : ByteArray) (c : UInt8) : Lib.indexB s ⟨#[c]⟩ = ixOf s.data.toList c := Lib.index_one s.data.toList c
theorem countB_ct (s : ByteArray) (c : UInt8) : Lib.countB s ⟨#[c]⟩ = s.data.toList.count c := Lib.count_one c s.data.toList
theorem splitB_list (c : UInt8) : ∀ (k : Nat) (s : ByteArray), s.data.toList.count c ≤ k → (Lib.splitB ⟨#[c]⟩ 0 k s).map (·.data.toList) = splitL c s.data.toList
  | k, s, hk => by
    rcases ixOf_first s.data.toList c with ⟨hi, hno⟩ | ⟨n, hn, hi, hno, hsp⟩
    · rw [Lib.splitB_miss _ _ _ _ ((indexB_ix s c).trans hi), splitL_part c _ hno]
      rfl
    · have hc : s.data.toList.count c = (s.data.toList.drop (n + 1)).count c + 1 := by
        conv => lhs; rw [hsp]
        rw [List.count_append, List.count_eq_zero.2 hno, List.count_cons_self]
        omega
      cases k with
      | zero => omega
      | succ k =>
        have hl : s.data.toList.length = s.size := Array.length_toList
        have e1 : (s.extract (n + (⟨#[c]⟩ : ByteArray).size) s.size).data.toList = s.data.toList.drop (n + 1) := by
          rw [ByteArray.data_extract, Array.toList_extract, List.extract_eq_take_drop]
          show List.take (s.size - (n + 1)) (List.drop (n + 1) s.data.toList) = _
          rw [List.take_of_length_le (by rw [List.length_drop]; omega)]
        have e0 : (s.extract 0 (n + 0)).data.toList = s.data.toList.take n := by
          rw [ByteArray.data_extract, Array.toList_extract, List.extract_eq_take_drop]
          simp
        rw [Lib.splitB_hit _ _ _ _ n ((indexB_ix s c).trans hi), List.map_cons, splitB_list c k _ (by rw [e1]; omega), e1, e0]
        conv => rhs; rw [hsp]
        rw [splitL_more c _ _ hno]

set_option maxHeartbeats 1000000 in
theorem split_one (s : ByteArray) (c : UInt8) (hs : s.size ≤ 20000) (w : World) :
    Calls Tryz.prog 27 #[.string s, .string ⟨#[c]⟩] w fun e w' => ∃ ps : List ByteArray, e = .returned (.slice (some ⟨w.heap.size, 0, none⟩) ps.length ps.length) ∧ ps.length ≤ s.size + 1 ∧ w' = w.alloc (.cells (ps.map Value.string).toArray 9) ∧ Hid (ps.map (·.data.toList) = splitL c s.data.toList) := by
  have h1 : 1 ≤ (⟨#[c]⟩ : ByteArray).size := Nat.le_refl _
  have hle := Lib.countB_le ⟨#[c]⟩ h1 s.size s (Nat.le_refl _)
  have hlen := Lib.splitB_all ⟨#[c]⟩ h1 0 _ s rfl
  have HL : Hid ((Lib.splitB ⟨#[c]⟩ 0 (Lib.countB s ⟨#[c]⟩) s).map (·.data.toList) = splitL c s.data.toList) := splitB_list c _ s (Nat.le_of_eq (countB_ct s c).symm)
  have hI : ∀ (x : ByteArray) (a : Array Value), x.size ≤ s.size → Calls Tryz.prog (lays146_ren.f 143) #[.string x, .string ⟨#[c]⟩] (w.alloc (.cells a (lays146_ren.t 9))) fun e w' => e = .returned (.int .i64 (Lib.indexB x ⟨#[c]⟩)) ∧ w' = w.alloc (.cells a (lays146_ren.t 9)) := fun x a _ => by
    rw [indexB_ix]
    exact Any.strings_Index_one { lays146 with } x c _
  have hC : Calls Tryz.prog (lays146_ren.f 138) #[.string s, .string ⟨#[c]⟩] w fun e w' => e = .returned (.int .i64 (Lib.countB s ⟨#[c]⟩)) ∧ w' = w := by
    rw [countB_ct]
    exact Any.strings_Count_one { lays146 with } s c w
  have g := Any.strings_genSplit_core { lays146 with } (by kernel_rfl) s ⟨#[c]⟩ 0 (-1) (Lib.countB s ⟨#[c]⟩ + 1) w (by omega) h1 (Nat.zero_le _) hI hC (by decide) (by decide) (by rw [if_pos (by decide)]; omega)
  rw [Nat.add_sub_cancel] at g
  have e2 : Lib.cellsOf (Lib.splitB ⟨#[c]⟩ 0 (Lib.countB s ⟨#[c]⟩) s) (Lib.countB s ⟨#[c]⟩ + 1) = ((Lib.splitB ⟨#[c]⟩ 0 (Lib.countB s ⟨#[c]⟩) s).map Value.string).toArray := by rw [← hlen]; exact Lib.cellsOf_full _
  rw [e2, ← hlen] at g
  have hl2 : (Lib.splitB ⟨#[c]⟩ 0 (Lib.countB s ⟨#[c]⟩) s).length ≤ s.size + 1 := by omega
  clear e2 hI hC hle hlen
  generalize Lib.splitB ⟨#[c]⟩ 0 (Lib.countB s ⟨#[c]⟩) s = ps at g HL hl2
  have g2 : Calls Tryz.prog 53 #[.string s, .string ⟨#[c]⟩, .int .i64 0, .int .i64 (-1)] w fun e w' => e = .returned (.slice (some ⟨w.heap.size, 0, none⟩) ps.length ps.length) ∧ w' = w.alloc (.cells (ps.map Value.string).toArray 9) := g
  clear g
  go_enter Tryz.func27, Tryz.ntmps27
  go_wp2_with (go_at_call 53; refine g2.mono ?_; rintro e w' ⟨rfl, hw⟩; rw [hw])
  go_ret
  exact ⟨ps, rfl, hl2, rfl, HL⟩

end Go.Proofs.YtoblpjknnchlmabGreatDoor
