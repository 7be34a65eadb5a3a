/- A path's directory, and whether it lies in a space, by the program. -/
import Derived.Test.YtokiddikcaihmabShClone
import Derived.Test.YtokiddikcaihmabWth
import Derived.Test.YtokiddikcaihmabShLast
import Derived.Test.YtokiddikcaihmabCln
namespace Go.Proofs.Ytokiddikcaihmab
open Go.RowKit Go.Shelf

theorem extract_list (s : ByteArray) (a b : Nat) : (s.extract a b).data.toList = (s.data.toList.drop a).take (b - a) := by
  rw [ByteArray.data_extract, Array.toList_extract, List.extract_eq_take_drop]
theorem upto_list (s : ByteArray) (b : Nat) : (s.extract 0 b).data.toList = s.data.toList.take b := by rw [extract_list]; simp
theorem dirL_none (l : List UInt8) (h : (47 : UInt8) ∉ l) : dirL l = [] := by
  unfold dirL
  have : l.reverse.dropWhile (· != 47) = [] := by
    have h2 : (47 : UInt8) ∉ l.reverse := by simpa using h
    revert h2
    generalize l.reverse = r
    intro h2
    induction r with
    | nil => rfl
    | cons c t ih =>
      have hc : c ≠ 47 := fun e => h2 (by simp [e])
      rw [List.dropWhile_cons, if_pos (by simpa using hc)]
      exact ih (fun e => h2 (by simp [e]))
  rw [this]
  rfl
theorem dirL_some (a b : List UInt8) (h : (47 : UInt8) ∉ b) : dirL (a ++ 47 :: b) = a ++ [47] := by
  unfold dirL
  have e : (a ++ 47 :: b).reverse = b.reverse ++ 47 :: a.reverse := by simp
  rw [e, List.dropWhile_append_of_pos]
  · simp
  · intro x hx
    have : x ≠ 47 := fun e => h (by rw [← e]; simpa using hx)
    simpa using this
theorem dirL_drop (a : List UInt8) (c : UInt8) (h : c ≠ 47) : dirL (a ++ [c]) = dirL a := by
  unfold dirL
  rw [List.reverse_append, List.reverse_singleton, List.singleton_append, List.dropWhile_cons, if_pos (by simpa using h)]
theorem dirL_end (a : List UInt8) : dirL (a ++ [47]) = a ++ [47] := dirL_some a [] (by simp)
theorem last_cases (s : ByteArray) (c : UInt8) : (Lib.lastIndexByte s (c.toNat : Int) = -1 ∧ c ∉ s.data.toList) ∨ ∃ i : Nat, i < s.size ∧ Lib.lastIndexByte s (c.toNat : Int) = i ∧ s.data.toList = s.data.toList.take i ++ c :: s.data.toList.drop (i + 1) ∧ c ∉ s.data.toList.drop (i + 1) := by
  have hl : s.data.toList.length = s.size := Array.length_toList
  have hat : ∀ j, (h : j < s.size) → s.data[j]! = s.data.toList[j]'(by omega) := fun j h => by
    rw [getElem!_pos s.data j h]
    simp
  have hne : ∀ j, (h : j < s.size) → ((s.data[j]!).toNat : Int) ≠ (c.toNat : Int) → s.data.toList[j]'(by omega) ≠ c := fun j h hn e => by
    rw [hat j h, e] at hn
    exact hn rfl
  rcases Lib.lastIdx_spec s (c.toNat : Int) s.size with ⟨h1, h2⟩ | ⟨i, hi, h1, h2, h3⟩
  · refine .inl ⟨h1, fun hm => ?_⟩
    obtain ⟨j, hj, e⟩ := List.getElem_of_mem hm
    exact hne j (by omega) (h2 j (by omega)) e
  · refine .inr ⟨i, hi, h1, ?_, fun hm => ?_⟩
    · have e : s.data.toList[i]'(by omega) = c := by
        rw [hat i hi] at h2
        exact UInt8.toNat_inj.1 (by omega)
      rw [← e, ← List.drop_eq_getElem_cons, List.take_append_drop]
    · obtain ⟨j, hj, e⟩ := List.getElem_of_mem hm
      rw [List.length_drop] at hj
      rw [List.getElem_drop] at e
      exact hne (i + 1 + j) (by omega) (h3 (i + 1 + j) (by omega) (by omega)) e

theorem clone_any (s : ByteArray) (w : World) (hs : s.size ≤ 5000) :
    Calls Try.prog 40 #[.string s] w fun e w' => e = .returned (.string s) ∧ Below w.heap.size w w' := by
  have hc : ∀ w, Calls Try.prog 53 #[.string s] w fun e w' => e = .returned (.string s) ∧ Below w.heap.size w w' := fun w => Any.stringslite_Clone laysM316 s w (by omega)
  go_enter Try.func40, Try.ntmps40
  go_wp2_with (go_at_call 53; refine (hc _).mono ?_; rintro e w' ⟨rfl, hb⟩)
  go_ret
  exact ⟨rfl, hb⟩
theorem last_any (s : ByteArray) (hs : s.size ≤ 5000) (w : World) :
    Calls Try.prog 52 #[.string s, .int .u8 47] w fun e w' => e = .returned (.int .i64 (Lib.lastIndexByte s 47)) ∧ w' = w := Any.strings_LastIndexByte lays149 s 47 (by omega) w
theorem dir_any (s : ByteArray) (w : World) (hs : s.size ≤ 4000) :
    Calls Try.prog 38 #[.string s] w fun e w' => e = .returned (.string (bs (dirL s.data.toList))) ∧ Below w.heap.size w w' := by
  rcases last_cases s 47 with ⟨h1, h2⟩ | ⟨i, hi, h1, h2, h3⟩
  · have h1 : Lib.lastIndexByte s 47 = -1 := h1
    rw [dirL_none _ h2]
    clear h2
    go_enter Try.func38, Try.ntmps38
    go_wp2_with (first
      | (go_at_call 52; refine (last_any s (by omega) _).mono ?_; rintro e w' ⟨rfl, rfl⟩)
      | (go_at_call 40; refine (clone_any _ _ (by simp)).mono ?_; rintro e w' ⟨rfl, hb⟩))
    go_ret
    exact ⟨ret_str (by apply ByteArray.ext; simp [bs]), hb⟩
  · have h1 : Lib.lastIndexByte s 47 = (i : Int) := h1
    have HD : Hid (s.extract 0 (i + 1) = bs (dirL s.data.toList)) := by
      show _ = _
      rw [← bs_self (s.extract 0 (i + 1)), upto_list]
      congr 1
      have hlen : (s.data.toList.take i).length = i := by simp; omega
      rw [h2, dirL_some _ _ h3, List.take_append, hlen, List.take_of_length_le (by omega)]
      simp
    clear h2 h3
    have hi2 : (i : Int) + 1 ≤ (s.size : Int) := by omega
    go_enter Try.func38, Try.ntmps38
    go_wp2_with (first
      | (go_at_call 52; refine (last_any s (by omega) _).mono ?_; rintro e w' ⟨rfl, rfl⟩)
      | (go_at_call 40; refine (clone_any _ _ (by simp; omega)).mono ?_; rintro e w' ⟨rfl, hb⟩))
    go_ret
    exact ⟨ret_str HD.out, hb⟩
theorem begins_iff (s p : ByteArray) : begins s p = true ↔ p.data.toList <+: s.data.toList := by
  have hl : p.data.toList.length = p.size := Array.length_toList
  have hl2 : s.data.toList.length = s.size := Array.length_toList
  unfold begins
  rw [Bool.and_eq_true, decide_eq_true_iff, beq_iff_eq, ByteArray.toList_eq, ByteArray.toList_eq, upto_list, List.prefix_iff_eq_take, hl]
  constructor
  · exact fun h => h.2.symm
  · intro h
    refine ⟨?_, h.symm⟩
    have := congrArg List.length h
    rw [List.length_take] at this
    omega
end Go.Proofs.Ytokiddikcaihmab
