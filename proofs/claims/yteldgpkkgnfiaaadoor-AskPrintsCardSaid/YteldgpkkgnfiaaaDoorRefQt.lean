/- A text between marks, by the document's own answer. -/
import Derived.Test.YteldgpkkgnfiaaaDoorQt
import Derived.Test.YteldgpkkgnfiaaaDoorVal
import Derived.Test.YteldgpkkgnfiaaaDoorTkRef
namespace Go.Proofs.YteldgpkkgnfiaaaDoor
open Go.RowKit

theorem refText_any (c : UInt8) (w : World) : Calls Tryd.prog 21 #[.int .u8 (c.toNat : Int)] w fun e w' => e = .returned (.bool (textB c)) ∧ w' = w := by
  by_cases h : (c.toNat : Int) = 9
  · rw [textB_9 c h]
    go_enter Tryd.func21, Tryd.ntmps21
    go_wp2
    go_ret
    exact ⟨rfl, rfl⟩
  · by_cases h2 : (31 : Int) < (c.toNat : Int)
    · by_cases h3 : (c.toNat : Int) = 127
      · rw [textB_127 c h3]
        go_enter Tryd.func21, Tryd.ntmps21
        go_wp2
        go_ret
        exact ⟨rfl, rfl⟩
      · rw [textB_yes c (by omega) h3]
        go_enter Tryd.func21, Tryd.ntmps21
        go_wp2
        go_ret
        exact ⟨ret_bool (by rw [bne_iff_ne.2 h3]; simp), rfl⟩
    · rw [textB_low c h (by omega)]
      go_enter Tryd.func21, Tryd.ntmps21
      go_wp2
      go_ret
      exact ⟨ret_bool (beq_eq_false_iff_ne.2 h), rfl⟩
theorem quoteO_part (s : ByteArray) (k : Nat) (hk : k < s.size) (c : UInt8) (e : s[k] = c) (hc : textB c = false) : quoteO s.data.toList = none := by
  unfold quoteO
  rw [if_neg]
  intro h
  have := List.all_eq_true.1 h c (by rw [← e]; exact List.getElem_mem (l := s.data.toList) (by simpa using hk))
  rw [hc] at this
  cases this
set_option maxHeartbeats 1000000 in
/-- Its answer: the text and OK, or nothing and ErrForm. -/
theorem refQuote_any (s : ByteArray) (hs : s.size ≤ 3000) (w : World) :
    Calls Tryd.prog 15 #[.string s] w fun e w' => w' = w ∧ ((e = .returned (.tuple #[.string (bs (quoteL s.data.toList)), .int .i64 0]) ∧ quoteO s.data.toList = some (quoteL s.data.toList)) ∨ (e = .returned (.tuple #[.string ⟨#[]⟩, .int .i64 3]) ∧ quoteO s.data.toList = none)) := by
  go_enter Tryd.func15, Tryd.ntmps15
  go_wp2
  go_loop [4, 8] (fun v i => ∃ (k : Nat) (o : ByteArray), k ≤ s.size ∧ i = .int .i64 k ∧ v = .string o ∧ o.size ≤ 2 * k ∧ Hid (o = bs (escL (s.data.toList.take k))) ∧ Hid ((s.data.toList.take k).all textB = true)) (fun _ i => s.size - (intOf i).toNat)
  case atStart => exact ⟨0, _, Nat.zero_le _, rfl, rfl, Nat.le_refl _, rfl, rfl⟩
  case round =>
    obtain ⟨k, o, hk, rfl, rfl, ho, HO, HK⟩ := hrel
    by_cases hlt : k < s.size
    · obtain ⟨c, hcd⟩ : ∃ c : UInt8, s[k] = c := ⟨_, rfl⟩
      have hcl : (c.toNat : Int) < 256 := by have := c.toNat_lt; omega
      cases hf : textB c
      · have HR : Hid (quoteO s.data.toList = none) := quoteO_part s k hlt c hcd hf
        go_wp2_with (go_at_call 21; refine (refText_any c _).mono ?_; rintro e w' ⟨rfl, rfl⟩; rw [hf])
        go_ret2
        exact ⟨rfl, .inr ⟨rfl, HR⟩⟩
      · have HS : Hid ((s.data.toList.take (k + 1)).all textB = true) := all_snoc textB s k hlt c hcd HK hf
        have HT : Hid (s.data.toList.take (k + 1) = s.data.toList.take k ++ [c]) := by rw [← hcd]; exact take_snoc s k hlt
        have HX : Hid (s.extract k (k + 1) = bs [c]) := by
          show _ = _
          apply ByteArray.ext
          apply Array.toList_inj.1
          rw [ByteArray.data_extract, Array.toList_extract, List.extract_eq_take_drop, Nat.add_sub_cancel_left, List.drop_eq_getElem_cons (by simpa using hlt), List.take_succ_cons, List.take_zero]
          show [s[k]] = [c]
          rw [hcd]
        have hxz : (s.extract k (k + 1)).size = 1 := by rw [HX.out]; rfl
        by_cases hq : c = 34 ∨ c = 92
        · have HE : Hid (bs (escL (s.data.toList.take (k + 1))) = o ++ bs [92] ++ bs [c]) := by show _ = _; rw [HT.out, escL_two _ _ hq, bs_append, bs_append, HO.out]
          have hqi : (((c.toNat : Int) == 34) = true) ∨ (((c.toNat : Int) == 34) = false ∧ ((c.toNat : Int) == 92) = true) := by
            rcases hq with rfl | rfl
            · exact .inl rfl
            · exact .inr ⟨rfl, rfl⟩
          clear hq
          rcases hqi with hqi | ⟨hqi, hqj⟩
          all_goals
            go_wp2_with (go_at_call 21; refine (refText_any c _).mono ?_; rintro e w' ⟨rfl, rfl⟩; rw [hf])
            go_round
            case rel => exact ⟨k + 1, o ++ ⟨#[92]⟩ ++ s.extract k (k + 1), by omega, by go_num, rfl, by rw [ByteArray.size_append, ByteArray.size_append, hxz]; have : (⟨#[92]⟩ : ByteArray).size = 1 := rfl; omega, by show _ = _; rw [HE.out, HX.out]; rfl, HS⟩
            case measure => simp [intOf]; omega
        · have HE : Hid (bs (escL (s.data.toList.take (k + 1))) = o ++ bs [c]) := by show _ = _; rw [HT.out, escL_one _ _ hq, bs_append, HO.out]
          have h34 : ((c.toNat : Int) == 34) = false := beq_eq_false_iff_ne.2 fun h => hq (.inl ((u8_is (n := 34) (by omega)).1 h))
          have h92 : ((c.toNat : Int) == 92) = false := beq_eq_false_iff_ne.2 fun h => hq (.inr ((u8_is (n := 92) (by omega)).1 h))
          clear hq
          go_wp2_with (go_at_call 21; refine (refText_any c _).mono ?_; rintro e w' ⟨rfl, rfl⟩; rw [hf])
          go_round
          case rel => exact ⟨k + 1, o ++ s.extract k (k + 1), by omega, by go_num, rfl, by rw [ByteArray.size_append, hxz]; omega, by show _ = _; rw [HE.out, HX.out], HS⟩
          case measure => simp [intOf]; omega
    · have HR : Hid (quoteO s.data.toList = some (quoteL s.data.toList)) := by
        show _ = _
        have h1 := HK.out
        rw [List.take_of_length_le (by simp; omega)] at h1
        unfold quoteO
        rw [if_pos h1]
      have HE : Hid (bs (quoteL s.data.toList) = bs [34] ++ o ++ bs [34]) := by
        show _ = _
        rw [HO.out, List.take_of_length_le (by simp; omega), ← bs_append, ← bs_append]
        rfl
      go_wp2
      go_ret2
      exact ⟨rfl, .inl ⟨by rw [HE.out]; rfl, HR⟩⟩
/-- A value, by the document's own answer. -/
theorem refValue_any (s : ByteArray) (hs : s.size ≤ 3000) (w : World) :
    Calls Tryd.prog 8 #[.string s] w fun e w' => w' = w ∧ ((e = .returned (.tuple #[.string s, .int .i64 0]) ∧ isL s.data.toList = true) ∨ (isL s.data.toList = false ∧ ((e = .returned (.tuple #[.string (bs (quoteL s.data.toList)), .int .i64 0]) ∧ quoteO s.data.toList = some (quoteL s.data.toList)) ∨ (e = .returned (.tuple #[.string ⟨#[]⟩, .int .i64 3]) ∧ quoteO s.data.toList = none)))) := by
  cases h : isL s.data.toList
  · have HI : Hid (isL s.data.toList = false) := h
    go_enter Tryd.func8, Tryd.ntmps8
    go_wp2_with (go_at_call 14; refine (refToken_any s (by omega) _).mono ?_; rintro e w' ⟨rfl, hw⟩; obtain rfl := hw.symm; rw [h])
    refine (refQuote_any s hs _).mono ?_
    rintro e w' ⟨hw, ⟨rfl, hq⟩ | ⟨rfl, hq⟩⟩
    · have HQ : Hid (quoteO s.data.toList = some (quoteL s.data.toList)) := hq
      clear hq h
      obtain rfl := hw.symm
      go_wp2
      go_ret2
      exact ⟨rfl, .inr ⟨(by trivial), .inl ⟨rfl, HQ⟩⟩⟩
    · have HQ : Hid (quoteO s.data.toList = none) := hq
      clear hq h
      obtain rfl := hw.symm
      go_wp2
      go_ret2
      exact ⟨rfl, .inr ⟨(by trivial), .inr ⟨rfl, HQ⟩⟩⟩
  · go_enter Tryd.func8, Tryd.ntmps8
    go_wp2_with (go_at_call 14; refine (refToken_any s (by omega) _).mono ?_; rintro e w' ⟨rfl, hw⟩; obtain rfl := hw.symm; rw [h])
    go_ret2
    exact ⟨rfl, .inl ⟨rfl, (by trivial)⟩⟩
end Go.Proofs.YteldgpkkgnfiaaaDoor
