/- A text between marks, by the program. -/
import Derived.Test.YtbhnaekkjpcafaaDoorQtT
namespace Go.Proofs.YtbhnaekkjpcafaaDoor
open Go.RowKit Go.Shelf

/-- What a text between marks is, by the program: nothing, and ErrForm, where a byte may not stand there. -/
theorem quoteO_no (s : ByteArray) (h : runL textB s.data.toList < s.size) : quoteO s.data.toList = none := by
  unfold quoteO
  have h2 := runL_all textB s.data.toList
  have h3 : s.data.toList.length = s.size := Array.length_toList
  rw [if_neg]
  intro h4
  have := h2.2 h4
  omega
theorem quoteO_yes (s : ByteArray) (h : ¬ runL textB s.data.toList < s.size) : quoteO s.data.toList = some (quoteL s.data.toList) := by
  unfold quoteO
  have h2 := runL_all textB s.data.toList
  have h3 : s.data.toList.length = s.size := Array.length_toList
  have h4 := runL_le textB s.data.toList
  rw [if_pos]
  exact h2.1 (by omega)
theorem quote_no (s : ByteArray) (hs : s.size ≤ 3000) (h : quoteO s.data.toList = none) (w : World) :
    Calls Tryd.prog 43 #[.string s] w fun e w' => e = .returned (.tuple #[.string ⟨#[]⟩, .iface 90 (.int .i64 3)]) ∧ w' = w := by
  have hlt : runL textB s.data.toList < s.size := by
    rcases Nat.lt_or_ge (runL textB s.data.toList) s.size with h1 | h1
    · exact h1
    · rw [quoteO_yes s (by omega)] at h
      cases h
  clear h
  obtain ⟨n, HN, hn⟩ : ∃ n : Nat, Hid (runL textB s.data.toList = n) ∧ n < s.size := ⟨_, rfl, hlt⟩
  clear hlt
  go_enter Tryd.func43, Tryd.ntmps43
  go_wp2_with (go_at_call 79; refine (run_any _ _ kind_text s (by omega) _).mono ?_; rintro e w' ⟨rfl, rfl⟩; rw [HN.out])
  go_ret2
  exact ⟨rfl, rfl⟩
theorem escL_two (l : List UInt8) (c : UInt8) (h : c = 34 ∨ c = 92) : escL (l ++ [c]) = escL l ++ [92] ++ [c] := by
  rw [escL_append, escL, if_pos h, escL, List.append_assoc]
  rfl
theorem escL_one (l : List UInt8) (c : UInt8) (h : ¬ (c = 34 ∨ c = 92)) : escL (l ++ [c]) = escL l ++ [c] := by
  rw [escL_append, escL, if_neg h, escL]
set_option maxRecDepth 100000 in
set_option maxHeartbeats 2000000 in
theorem quote_yes (s : ByteArray) (hs : s.size ≤ 3000) (h : quoteO s.data.toList = some (quoteL s.data.toList)) (w : World) :
    Calls Tryd.prog 43 #[.string s] w fun e w' => e = .returned (.tuple #[.string (bs (quoteL s.data.toList)), .nilIface]) ∧ Below w.heap.size w w' := by
  obtain ⟨i0, hi0, hz0, hz1, hz2⟩ := info_parts info5
  have hlt : runL textB s.data.toList = s.size := by
    have h2 := runL_le textB s.data.toList
    have h3 : s.data.toList.length = s.size := Array.length_toList
    rcases Nat.lt_or_ge (runL textB s.data.toList) s.size with h1 | h1
    · rw [quoteO_no s h1] at h
      cases h
    · omega
  clear h
  have HN : Hid (runL textB s.data.toList = s.size) := hlt
  clear hlt
  go_enter Tryd.func43, Tryd.ntmps43
  go_wp2_with (first | (go_at_call 79; refine (run_any _ _ kind_text s (by omega) _).mono ?_; rintro e w' ⟨rfl, hw⟩; obtain rfl := hw.symm; rw [HN.out]) | (at_make; refine wpList_make_own _ rfl _ _ 64 rfl w.heap.size 5 i0 (.int .u8 0) 1 Tryd.underlying64 hi0 hz0 hz1 .i64 .i64 _ (s.size + 2) rfl rfl (by omega) (by rw [hz2]; omega) (by unfold maxLen; omega) (Nat.le_refl _) ?_; intro w1 hown1 hgrow1; have hb1 : Below w.heap.size w w1 := (Below.refl _ _).grown hgrow1 (Nat.le_refl _) (by simp); have HO1 : Hid (Own w1 w.heap.size (.slice (some ⟨w.heap.size, 0, none⟩) 0 (s.size + 2)) []) := hown1; clear hown1 hgrow1) | (at_builtin; refine wp_app1 rfl _ _ rfl w.heap.size w w1 (.slice (some ⟨w.heap.size, 0, none⟩) 0 (s.size + 2)) [] 0 rfl HO1.out rfl (by omega) hb1 hb1.size 34 34 rfl rfl ?_; intro g0 cap0 w2 hown2 hb2 _ _; have HO2 : Hid (Own w2 w.heap.size (.slice (some ⟨g0, 0, none⟩) (0 + 1) cap0) ([] ++ [34])) := hown2; clear hown2))
  go_loopw [4, 21] (fun v i wr => ∃ (k g cap n : Nat), k ≤ s.size ∧ n ≤ 2 * k + 1 ∧ i = .int .i64 k ∧ v = .slice (some ⟨g, 0, none⟩) n cap ∧ Hid (Own wr w.heap.size v (34 :: escL (s.data.toList.take k)) ∧ (34 :: escL (s.data.toList.take k)).length = n) ∧ Below w.heap.size w wr) (fun _ i _ => s.size - (intOf i).toNat)
  case atStart => exact ⟨0, _, _, 1, Nat.zero_le _, by omega, rfl, rfl, ⟨HO2, rfl⟩, hb2⟩
  case round =>
    obtain ⟨k, g, cap, n, hk, hn, rfl, rfl, HO, hb⟩ := hrel
    clear HO1 HO2 hb1 hb2
    have hwz : w.heap.size ≤ wr.heap.size := hb.size
    by_cases hlt : k < s.size
    · obtain ⟨c, hcd⟩ : ∃ c : UInt8, s[k] = c := ⟨_, rfl⟩
      have hcl : (c.toNat : Int) < 256 := by have := c.toNat_lt; omega
      have HS : Hid (s.data.toList.take (k + 1) = s.data.toList.take k ++ [c]) := by rw [← hcd]; exact take_snoc s k hlt
      by_cases hq : c = 34 ∨ c = 92
      · have HE : Hid (34 :: escL (s.data.toList.take (k + 1)) = (34 :: escL (s.data.toList.take k)) ++ [92] ++ [c]) := by show _ = _; rw [HS.out, escL_two _ _ hq]; simp
        have hqi : (c.toNat : Int) = 34 ∨ (c.toNat : Int) = 92 := by
          rcases hq with rfl | rfl
          · exact .inl rfl
          · exact .inr rfl
        clear hq
        rcases hqi with hqi | hqi
        all_goals
          go_wp2_with (first | (at_builtin; refine wp_app1 rfl _ _ rfl w.heap.size w wr (.slice (some ⟨g, 0, none⟩) n cap) (34 :: escL (s.data.toList.take k)) n rfl HO.out.1 HO.out.2 (by omega) hb hwz 92 92 rfl rfl ?_; intro g3 cap3 w3 hown3 hb3 _ _; have HO3 : Hid (Own w3 w.heap.size (.slice (some ⟨g3, 0, none⟩) (n + 1) cap3) ((34 :: escL (s.data.toList.take k)) ++ [92])) := hown3; clear hown3) | (at_builtin; refine wp_app1 rfl _ _ rfl w.heap.size w w3 (.slice (some ⟨g3, 0, none⟩) (n + 1) cap3) ((34 :: escL (s.data.toList.take k)) ++ [92]) (n + 1) rfl HO3.out (by rw [List.length_append, HO.out.2]; rfl) (by omega) hb3 hb3.size c _ (by first | rfl | exact hqi.symm) rfl ?_; intro g4 cap4 w4 hown4 hb4 _ _; have HO4 : Hid (Own w4 w.heap.size (.slice (some ⟨g4, 0, none⟩) ((n + 1) + 1) cap4) (((34 :: escL (s.data.toList.take k)) ++ [92]) ++ [c])) := hown4; clear hown4))
          go_roundw
          case rel => exact ⟨k + 1, g4, cap4, n + 1 + 1, by omega, by omega, by go_num, rfl, ⟨by rw [HE.out]; exact HO4.out, by rw [HE.out, List.length_append, List.length_append, HO.out.2]; rfl⟩, hb4⟩
          case measure => simp [intOf]; omega
      · have HE : Hid (34 :: escL (s.data.toList.take (k + 1)) = (34 :: escL (s.data.toList.take k)) ++ [c]) := by show _ = _; rw [HS.out, escL_one _ _ hq]; simp
        have h34 : ((c.toNat : Int) == 34) = false := beq_eq_false_iff_ne.2 fun h => hq (.inl ((u8_is (n := 34) (by omega)).1 h))
        have h92 : ((c.toNat : Int) == 92) = false := beq_eq_false_iff_ne.2 fun h => hq (.inr ((u8_is (n := 92) (by omega)).1 h))
        clear hq
        go_wp2_with (at_builtin; refine wp_app1 rfl _ _ rfl w.heap.size w wr (.slice (some ⟨g, 0, none⟩) n cap) (34 :: escL (s.data.toList.take k)) n rfl HO.out.1 HO.out.2 (by omega) hb hwz c _ (by rfl) rfl ?_; intro g4 cap4 w4 hown4 hb4 _ _; have HO4 : Hid (Own w4 w.heap.size (.slice (some ⟨g4, 0, none⟩) (n + 1) cap4) ((34 :: escL (s.data.toList.take k)) ++ [c])) := hown4; clear hown4)
        go_roundw
        case rel => exact ⟨k + 1, g4, cap4, n + 1, by omega, by omega, by go_num, rfl, ⟨by rw [HE.out]; exact HO4.out, by rw [HE.out, List.length_append, HO.out.2]; rfl⟩, hb4⟩
        case measure => simp [intOf]; omega
    · have HE : Hid (quoteL s.data.toList = (34 :: escL (s.data.toList.take k)) ++ [34]) := by
        show _ = _
        rw [List.take_of_length_le (by simp; omega)]
        rfl
      go_wp2_with (at_builtin; refine wp_app1 rfl _ _ rfl w.heap.size w wr (.slice (some ⟨g, 0, none⟩) n cap) (34 :: escL (s.data.toList.take k)) n rfl HO.out.1 HO.out.2 (by omega) hb hwz 34 34 rfl rfl ?_; intro g4 cap4 w4 hown4 hb4 _ _; have HO4 : Hid (Own w4 w.heap.size (.slice (some ⟨g4, 0, none⟩) (n + 1) cap4) ((34 :: escL (s.data.toList.take k)) ++ [34])) := hown4; have hback := hown4.back (by rw [List.length_append, HO.out.2]; rfl); rw [← HE.out] at hback; clear hown4)
      go_ret2
      exact ⟨rfl, hb4⟩
theorem quoteO_cases (s : ByteArray) : quoteO s.data.toList = none ∨ quoteO s.data.toList = some (quoteL s.data.toList) := by
  unfold quoteO
  split
  · exact .inr rfl
  · exact .inl rfl
end Go.Proofs.YtbhnaekkjpcafaaDoor
