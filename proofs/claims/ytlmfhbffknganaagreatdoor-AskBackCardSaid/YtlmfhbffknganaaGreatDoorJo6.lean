/- Texts of one claim, joined: each begins with what it proves. -/
import Derived.Test.YtlmfhbffknganaaGreatDoorJo2
import Derived.Test.YtlmfhbffknganaaGreatDoorJo1
import Derived.Test.YtlmfhbffknganaaGreatDoorJo4
import Derived.Test.YtlmfhbffknganaaGreatDoorJo5
import Derived.Test.YtlmfhbffknganaaGreatDoorJo3
import Derived.Shelf.Slices.Equal
import Derived.Shelf.Strings.Builder1
import Derived.Shelf.Strings.BuilderK
import Derived.Lib.BufferKept
import Derived.Deep.Cut
import Derived.Deep.DeepCutAuto
/- A text between marks, by the program. -/
namespace Go.Proofs.YtlmfhbffknganaaGreatDoor
open Go.RowKit Go.Shelf

/-- What a text between marks is, by the program: nothing, and ErrForm, where a byte may not stand there. -/
theorem quoteO_no (s : ByteArray) (h : runL textB s.data.toList < s.size) : quoteO s.data.toList = none := by
  unfold quoteO
  have h2 := runL_all textB s.data.toList
  have h3 : s.data.toList.length = s.size := Array.length_toList
  rw [if_neg]
  intro h4
  have := h2.2 h4
  omega
theorem quoteO_yes (s : ByteArray) (h : ¬ runL textB s.data.toList < s.size) : quoteO s.data.toList = some (quoteL s.data.toList) := by
  unfold quoteO
  have h2 := runL_all textB s.data.toList
  have h3 : s.data.toList.length = s.size := Array.length_toList
  have h4 := runL_le textB s.data.toList
  rw [if_pos]
  exact h2.1 (by omega)
theorem quote_no (s : ByteArray) (hs : s.size ≤ 3000) (h : quoteO s.data.toList = none) (w : World) :
    Calls Tryz.prog 23 #[.string s] w fun e w' => e = .returned (.tuple #[.string ⟨#[]⟩, .iface 38 (.int .i64 3)]) ∧ w' = w := by
  have hlt : runL textB s.data.toList < s.size := by
    rcases Nat.lt_or_ge (runL textB s.data.toList) s.size with h1 | h1
    · exact h1
    · rw [quoteO_yes s (by omega)] at h
      cases h
  clear h
  obtain ⟨n, HN, hn⟩ : ∃ n : Nat, Hid (runL textB s.data.toList = n) ∧ n < s.size := ⟨_, rfl, hlt⟩
  clear hlt
  go_enter Tryz.func23, Tryz.ntmps23
  go_wp2_with (go_at_call 53; refine (run_any _ _ kind_text s (by omega) _).mono ?_; rintro e w' ⟨rfl, rfl⟩; rw [HN.out])
  go_ret2
  exact ⟨rfl, rfl⟩
theorem escL_two (l : List UInt8) (c : UInt8) (h : c = 34 ∨ c = 92) : escL (l ++ [c]) = escL l ++ [92] ++ [c] := by
  rw [escL_append, escL, if_pos h, escL, List.append_assoc]
  rfl
theorem escL_one (l : List UInt8) (c : UInt8) (h : ¬ (c = 34 ∨ c = 92)) : escL (l ++ [c]) = escL l ++ [c] := by
  rw [escL_append, escL, if_neg h, escL]
set_option maxRecDepth 100000 in
set_option maxHeartbeats 2000000 in
theorem quote_yes (s : ByteArray) (hs : s.size ≤ 3000) (h : quoteO s.data.toList = some (quoteL s.data.toList)) (w : World) :
    Calls Tryz.prog 23 #[.string s] w fun e w' => e = .returned (.tuple #[.string (bs (quoteL s.data.toList)), .nilIface]) ∧ Below w.heap.size w w' := by
  obtain ⟨i0, hi0, hz0, hz1, hz2⟩ := info_parts info5
  have hlt : runL textB s.data.toList = s.size := by
    have h2 := runL_le textB s.data.toList
    have h3 : s.data.toList.length = s.size := Array.length_toList
    rcases Nat.lt_or_ge (runL textB s.data.toList) s.size with h1 | h1
    · rw [quoteO_no s h1] at h
      cases h
    · omega
  clear h
  have HN : Hid (runL textB s.data.toList = s.size) := hlt
  clear hlt
  go_enter Tryz.func23, Tryz.ntmps23
  go_wp2_with (first | (go_at_call 53; refine (run_any _ _ kind_text s (by omega) _).mono ?_; rintro e w' ⟨rfl, hw⟩; obtain rfl := hw.symm; rw [HN.out]) | (at_make; refine wpList_make_own _ rfl _ _ 67 rfl w.heap.size 5 i0 (.int .u8 0) 1 Tryz.underlying67 hi0 hz0 hz1 .i64 .i64 _ (s.size + 2) rfl rfl (by omega) (by rw [hz2]; omega) (by unfold maxLen; omega) (Nat.le_refl _) ?_; intro w1 hown1 hgrow1; have hb1 : Below w.heap.size w w1 := (Below.refl _ _).grown hgrow1 (Nat.le_refl _) (by simp); have HO1 : Hid (Own w1 w.heap.size (.slice (some ⟨w.heap.size, 0, none⟩) 0 (s.size + 2)) []) := hown1; clear hown1 hgrow1) | (at_builtin; refine wp_app1 rfl _ _ rfl w.heap.size w w1 (.slice (some ⟨w.heap.size, 0, none⟩) 0 (s.size + 2)) [] 0 rfl HO1.out rfl (by omega) hb1 hb1.size 34 34 rfl rfl ?_; intro g0 cap0 w2 hown2 hb2 _ _; have HO2 : Hid (Own w2 w.heap.size (.slice (some ⟨g0, 0, none⟩) (0 + 1) cap0) ([] ++ [34])) := hown2; clear hown2))
  go_loopw [4, 21] (fun v i wr => ∃ (k g cap n : Nat), k ≤ s.size ∧ n ≤ 2 * k + 1 ∧ i = .int .i64 k ∧ v = .slice (some ⟨g, 0, none⟩) n cap ∧ Hid (Own wr w.heap.size v (34 :: escL (s.data.toList.take k)) ∧ (34 :: escL (s.data.toList.take k)).length = n) ∧ Below w.heap.size w wr) (fun _ i _ => s.size - (intOf i).toNat)
  case atStart => exact ⟨0, _, _, 1, Nat.zero_le _, by omega, rfl, rfl, ⟨HO2, rfl⟩, hb2⟩
  case round =>
    obtain ⟨k, g, cap, n, hk, hn, rfl, rfl, HO, hb⟩ := hrel
    clear HO1 HO2 hb1 hb2
    have hwz : w.heap.size ≤ wr.heap.size := hb.size
    by_cases hlt : k < s.size
    · obtain ⟨c, hcd⟩ : ∃ c : UInt8, s[k] = c := ⟨_, rfl⟩
      have hcl : (c.toNat : Int) < 256 := by have := c.toNat_lt; omega
      have HS : Hid (s.data.toList.take (k + 1) = s.data.toList.take k ++ [c]) := by rw [← hcd]; exact take_snoc s k hlt
      by_cases hq : c = 34 ∨ c = 92
      · have HE : Hid (34 :: escL (s.data.toList.take (k + 1)) = (34 :: escL (s.data.toList.take k)) ++ [92] ++ [c]) := by show _ = _; rw [HS.out, escL_two _ _ hq]; simp
        have hqi : (c.toNat : Int) = 34 ∨ (c.toNat : Int) = 92 := by
          rcases hq with rfl | rfl
          · exact .inl rfl
          · exact .inr rfl
        clear hq
        rcases hqi with hqi | hqi
        all_goals
          go_wp2_with (first | (at_builtin; refine wp_app1 rfl _ _ rfl w.heap.size w wr (.slice (some ⟨g, 0, none⟩) n cap) (34 :: escL (s.data.toList.take k)) n rfl HO.out.1 HO.out.2 (by omega) hb hwz 92 92 rfl rfl ?_; intro g3 cap3 w3 hown3 hb3 _ _; have HO3 : Hid (Own w3 w.heap.size (.slice (some ⟨g3, 0, none⟩) (n + 1) cap3) ((34 :: escL (s.data.toList.take k)) ++ [92])) := hown3; clear hown3) | (at_builtin; refine wp_app1 rfl _ _ rfl w.heap.size w w3 (.slice (some ⟨g3, 0, none⟩) (n + 1) cap3) ((34 :: escL (s.data.toList.take k)) ++ [92]) (n + 1) rfl HO3.out (by rw [List.length_append, HO.out.2]; rfl) (by omega) hb3 hb3.size c _ (by first | rfl | exact hqi.symm) rfl ?_; intro g4 cap4 w4 hown4 hb4 _ _; have HO4 : Hid (Own w4 w.heap.size (.slice (some ⟨g4, 0, none⟩) ((n + 1) + 1) cap4) (((34 :: escL (s.data.toList.take k)) ++ [92]) ++ [c])) := hown4; clear hown4))
          go_roundw
          case rel => exact ⟨k + 1, g4, cap4, n + 1 + 1, by omega, by omega, by go_num, rfl, ⟨by rw [HE.out]; exact HO4.out, by rw [HE.out, List.length_append, List.length_append, HO.out.2]; rfl⟩, hb4⟩
          case measure => simp [intOf]; omega
      · have HE : Hid (34 :: escL (s.data.toList.take (k + 1)) = (34 :: escL (s.data.toList.take k)) ++ [c]) := by show _ = _; rw [HS.out, escL_one _ _ hq]; simp
        have h34 : ((c.toNat : Int) == 34) = false := beq_eq_false_iff_ne.2 fun h => hq (.inl ((u8_is (n := 34) (by omega)).1 h))
        have h92 : ((c.toNat : Int) == 92) = false := beq_eq_false_iff_ne.2 fun h => hq (.inr ((u8_is (n := 92) (by omega)).1 h))
        clear hq
        go_wp2_with (at_builtin; refine wp_app1 rfl _ _ rfl w.heap.size w wr (.slice (some ⟨g, 0, none⟩) n cap) (34 :: escL (s.data.toList.take k)) n rfl HO.out.1 HO.out.2 (by omega) hb hwz c _ (by rfl) rfl ?_; intro g4 cap4 w4 hown4 hb4 _ _; have HO4 : Hid (Own w4 w.heap.size (.slice (some ⟨g4, 0, none⟩) (n + 1) cap4) ((34 :: escL (s.data.toList.take k)) ++ [c])) := hown4; clear hown4)
        go_roundw
        case rel => exact ⟨k + 1, g4, cap4, n + 1, by omega, by omega, by go_num, rfl, ⟨by rw [HE.out]; exact HO4.out, by rw [HE.out, List.length_append, HO.out.2]; rfl⟩, hb4⟩
        case measure => simp [intOf]; omega
    · have HE : Hid (quoteL s.data.toList = (34 :: escL (s.data.toList.take k)) ++ [34]) := by
        show _ = _
        rw [List.take_of_length_le (by simp; omega)]
        rfl
      go_wp2_with (at_builtin; refine wp_app1 rfl _ _ rfl w.heap.size w wr (.slice (some ⟨g, 0, none⟩) n cap) (34 :: escL (s.data.toList.take k)) n rfl HO.out.1 HO.out.2 (by omega) hb hwz 34 34 rfl rfl ?_; intro g4 cap4 w4 hown4 hb4 _ _; have HO4 : Hid (Own w4 w.heap.size (.slice (some ⟨g4, 0, none⟩) (n + 1) cap4) ((34 :: escL (s.data.toList.take k)) ++ [34])) := hown4; have hback := hown4.back (by rw [List.length_append, HO.out.2]; rfl); rw [← HE.out] at hback; clear hown4)
      go_ret2
      exact ⟨rfl, hb4⟩
theorem quoteO_cases (s : ByteArray) : quoteO s.data.toList = none ∨ quoteO s.data.toList = some (quoteL s.data.toList) := by
  unfold quoteO
  split
  · exact .inr rfl
  · exact .inl rfl
end Go.Proofs.YtlmfhbffknganaaGreatDoor

/- The library's contracts that are leant on, laid at this program's numbers. -/
namespace Go.Proofs.YtlmfhbffknganaaGreatDoor
open Go.Shelf Go.RowKit
def lays193_ren : Go.Shelf.Ren := ⟨fun | 193 => 20 | n => n, fun | 31 => 45 | 9 => 9 | 4 => 4 | 3 => 3 | 0 => 0 | n => n, fun | n => n⟩
theorem lays193 : Go.Proofs.Lays.n193 Tryz.prog lays193_ren := {
  mixed := by kernel_rfl
  f193 := Tryz.func20.trans (congrArg some (by kernel_rfl))
  t0 := Tryz.underlying0
  a0 := Tryz.isAgg0
  z0 := Tryz.sizeOf0
  v0 := Tryz.zeroValue0
  t3 := Tryz.underlying3
  a3 := Tryz.isAgg3
  z3 := Tryz.sizeOf3
  v3 := Tryz.zeroValue3
  t4 := Tryz.underlying4
  a4 := Tryz.isAgg4
  z4 := Tryz.sizeOf4
  v4 := Tryz.zeroValue4
  t9 := Tryz.underlying9
  a9 := Tryz.isAgg9
  z9 := Tryz.sizeOf9
  v9 := Tryz.zeroValue9
  t31 := Tryz.underlying45
  a31 := Tryz.isAgg45
  z31 := Tryz.sizeOf45
  v31 := Tryz.zeroValue45 }
end Go.Proofs.YtlmfhbffknganaaGreatDoor

/- Two rows of the same texts are equal, by the library's own function. -/
namespace Go.Proofs.YtlmfhbffknganaaGreatDoor
open Go.RowKit Go.Shelf

theorem equal_same (a1 a2 : Option Addr) (n c b1 o1 d b2 o2 : Nat) (xs : List ByteArray) (w : World) (hn : n ≤ 1000000) (h1 : Strs w a1 n b1 o1 xs) (h2 : Strs w a2 n b2 o2 xs) :
    Calls Tryz.prog 20 #[.slice a1 n c, .slice a2 n d] w fun e w' => e = .returned (.bool true) ∧ ∃ q, w' = w.drewN q := by
  by_cases h0 : n = 0
  · subst h0
    refine (Any.slices_Equal_string_empty lays193 a1 a2 c 0 d w (by omega)).mono ?_
    rintro e w' ⟨rfl, rfl⟩
    exact ⟨rfl, 0, rfl⟩
  · obtain ⟨rfl, _⟩ := h1.lies (by omega)
    obtain ⟨rfl, _⟩ := h2.lies (by omega)
    have hl := h1.len_eq
    have hc : ∀ (b o : Nat), (∀ (j : Nat) (x : ByteArray), xs[j]? = some x → w.cell? ⟨b, o + j, none⟩ = some (.string x)) → ∀ j, j < xs.length → w.cell? ⟨b, o + j, none⟩ = some (.string (xs.getD j ByteArray.empty)) := by
      intro b o h j hj
      have : xs[j]? = some xs[j] := List.getElem?_eq_getElem hj
      rw [h j _ this]
      simp [List.getD, this]
    refine (Any.slices_Equal_string lays193 b1 o1 n c b2 o2 n d xs xs w (by omega) (by omega) (by omega) (by omega) (hc b1 o1 h1.cells) (hc b2 o2 h2.cells)).mono ?_
    rintro e w' ⟨rfl, hq⟩
    exact ⟨by simp, hq⟩
end Go.Proofs.YtlmfhbffknganaaGreatDoor

/- The fact of words, lists and texts between marks, by the program. -/
namespace Go.Proofs.YtlmfhbffknganaaGreatDoor
open Go.RowKit Go.Shelf

theorem strs_two (w : World) (x y : ByteArray) : Strs (w.alloc (.cells #[.string x, .string y] 9)) (some ⟨w.heap.size, 0, none⟩) 2 w.heap.size 0 [x, y] := by
  refine ⟨rfl, fun _ => ⟨rfl, by simp⟩, fun j z hz => ?_⟩
  rw [cells_at]
  match j, hz with
  | 0, hz => cases hz; rfl
  | 1, hz => cases hz; rfl
  | j + 2, hz => simp at hz
theorem texts_ab {xs : List ByteArray} (h : texts xs = [[97], [98]]) : xs = [⟨#[97]⟩, ⟨#[98]⟩] := by
  unfold texts at h
  match xs, h with
  | [], h => simp at h
  | [x], h => simp at h
  | x :: y :: z :: r, h => simp at h
  | [x, y], h =>
    simp only [List.map_cons, List.map_nil, List.cons.injEq, and_true] at h
    have e1 : x = bs [97] := by rw [← h.1, bs_self]
    have e2 : y = bs [98] := by rw [← h.2, bs_self]
    rw [e1, e2]
    rfl
theorem list_ab : listP 0 (splitL 44 (⟨#[32, 97, 32, 44, 32, 44, 98, 9]⟩ : ByteArray).data.toList) = .ok [[97], [98]] := by rfl
theorem quote_ab : quoteO (⟨#[97, 34, 98]⟩ : ByteArray).data.toList = some (quoteL (⟨#[97, 34, 98]⟩ : ByteArray).data.toList) := by decide
theorem quote_ab2 : bs (quoteL (⟨#[97, 34, 98]⟩ : ByteArray).data.toList) = ⟨#[34, 97, 92, 34, 98, 34]⟩ := by rfl
theorem quoted_xy : quotedL ((⟨#[34, 120, 92, 121, 34, 122]⟩ : ByteArray).data.toList.drop 0) = some ([120, 121], 5) := by decide
theorem same_ab : sameL (⟨#[97, 66]⟩ : ByteArray).data.toList (⟨#[65, 98]⟩ : ByteArray).data.toList = true := by decide
theorem is_x1 : isL (⟨#[120, 45, 49]⟩ : ByteArray).data.toList = true := by decide
set_option maxRecDepth 100000 in
set_option maxHeartbeats 2000000 in
theorem worded_any (w : World) : Calls Tryz.prog 7 #[] w fun e w' => e = .returned (.bool true) ∧ Below w.heap.size w w' := by
  go_enter Tryz.func7, Tryz.ntmps7
  go_wp2_with fail
  refine (list_any ⟨#[32, 97, 32, 44, 32, 44, 98, 9]⟩ (by decide) _).mono ?_
  rintro e w1 ⟨⟨xs, v, hx, _, rfl, hown⟩ | ⟨xs, hx, hl, _⟩ | ⟨p, g, hx, _⟩, hb1⟩
  · rw [list_ab] at hx
    obtain rfl := texts_ab (Except.ok.inj hx).symm
    obtain ⟨a, cap, g, rfl, hs⟩ := hown.strs
    have HS : Hid (Strs w1 a 2 g 0 [⟨#[97]⟩, ⟨#[98]⟩]) := hs
    clear hs hx hown
    go_wp2_with fail
    refine (quote_yes ⟨#[97, 34, 98]⟩ (by decide) quote_ab _).mono ?_
    rintro e w2 ⟨rfl, hb2⟩
    rw [quote_ab2]
    go_wp2_with fail
    refine (on_any ⟨#[34, 120, 92, 121, 34, 122]⟩ _).mono ?_
    rintro e w3 ⟨rfl, hc3, hb3, hz3⟩
    have HC3 : Hid (Cur w3 w2.heap.size ⟨#[34, 120, 92, 121, 34, 122]⟩ 0) := hc3
    clear hc3
    go_wp2_with fail
    refine (quoted_any w2.heap.size ⟨#[34, 120, 92, 121, 34, 122]⟩ (by decide) 0 _ HC3.out).mono ?_
    rintro e w4 (⟨t, n, hq, rfl, hc4, hg4⟩ | ⟨hq, _⟩)
    · rw [quoted_xy] at hq
      cases hq
      have HC4 : Hid (Cur w4 w2.heap.size ⟨#[34, 120, 92, 121, 34, 122]⟩ 5) := hc4
      have s1 := hb1.size
      have s2 := hb2.size
      have s3 := hb3.size
      have hb4 : Below w.heap.size w w4 := ((hb1.trans (hb2.mono (by omega))).trans (hb3.mono (by omega))).grown hg4 (by omega) (fun i hi => by injection hi with hi; omega)
      have hs4 : Strs w4 a 2 g 0 [⟨#[97]⟩, ⟨#[98]⟩] := by
        have h3 := (HS.out.below hb2).below hb3
        refine ⟨h3.len_eq, fun h0 => ⟨(h3.lies h0).1, Nat.lt_of_lt_of_le (h3.lies h0).2 hg4.size⟩, fun j x hx => hg4.cell (h3.cells j x hx) ?_⟩
        intro e
        have e2 : g = w2.heap.size := Option.some.inj e
        have := ((HS.out.below hb2).lies (by omega)).2
        omega
      have HS4 : Hid (Strs w4 a 2 g 0 [⟨#[97]⟩, ⟨#[98]⟩]) := hs4
      clear hs4 hc4 hg4 HS HC3 hb1 hb2 hb3 s1 s2 s3 hz3
      have ht : bs [120, 121] = ⟨#[120, 121]⟩ := rfl
      rw [ht]
      go_wp2_with fail
      refine (equal_same a (some ⟨w4.heap.size, 0, none⟩) 2 _ g 0 2 w4.heap.size 0 [⟨#[97]⟩, ⟨#[98]⟩] _ (by omega) (HS4.out.below ((Below.refl _ _).alloc (Nat.le_refl _) _)) (strs_two w4 _ _)).mono ?_
      rintro e w5 ⟨rfl, q, rfl⟩
      go_wp2_with fail
      refine (at_any w2.heap.size ⟨#[34, 120, 92, 121, 34, 122]⟩ 5 _ ((HC4.out.below ((Below.refl _ _).alloc (Nat.le_refl _) _)).drewN q)).mono ?_
      rintro e w6 ⟨rfl, rfl⟩
      go_wp2_with fail
      refine (same_any ⟨#[97, 66]⟩ ⟨#[65, 98]⟩ (by decide) (by decide) _).mono ?_
      rintro e w7 ⟨rfl, hb7⟩
      rw [same_ab]
      go_wp2_with fail
      refine (is_any ⟨#[120, 45, 49]⟩ (by decide) _).mono ?_
      rintro e w8 ⟨rfl, rfl⟩
      rw [is_x1]
      go_wp2
      go_ret
      refine ⟨rfl, ?_⟩
      have z4 := hb4.size
      exact (drewN_at (hb4.alloc z4 _) q).trans (hb7.mono (by show w.heap.size ≤ (w4.alloc _).heap.size; simp; omega))
    · rw [quoted_xy] at hq
      cases hq
  · rw [list_ab] at hx
    have := congrArg List.length (Except.ok.inj hx)
    simp [texts] at this
    omega
  · rw [list_ab] at hx
    cases hx
end Go.Proofs.YtlmfhbffknganaaGreatDoor

/- How heavy challenges are. -/
namespace Go.Proofs.YtlmfhbffknganaaGreatDoor
open Go.RowKit

def parW : List Par → Nat
  | [] => 0
  | p :: r => p.1.size + p.2.size + parW r
theorem parW_app (a b : List Par) : parW (a ++ b) = parW a + parW b := by
  induction a with
  | nil => simp [parW]
  | cons p r ih => rw [List.cons_append, parW, parW, ih]; omega
theorem parW_snoc (ps : List Par) (k : Nat) (p : Par) (h : ps[k]? = some p) : parW (ps.take (k + 1)) = parW (ps.take k) + (p.1.size + p.2.size) := by
  obtain ⟨hk, e⟩ := List.getElem?_eq_some_iff.1 h
  rw [List.take_succ_eq_append_getElem hk, parW_app, e]
  simp [parW]
theorem parW_le (ps : List Par) (m : Nat) (h : ∀ p ∈ ps, p.1.size ≤ m ∧ p.2.size ≤ m) : parW ps ≤ ps.length * (2 * m) := by
  induction ps with
  | nil => simp [parW]
  | cons p r ih =>
    have h1 := h p (by simp)
    have h2 := ih (fun q hq => h q (by simp [hq]))
    rw [parW, List.length_cons, Nat.succ_mul]
    omega
theorem parW_mem (ps : List Par) (p : Par) (h : p ∈ ps) : p.1.size + p.2.size ≤ parW ps := by
  induction ps with
  | nil => cases h
  | cons q r ih =>
    rw [parW]
    rcases List.mem_cons.1 h with rfl | h'
    · omega
    · have := ih h'
      omega
def chW (c : Chal) : Nat := c.scheme.size + c.token.size + parW c.params
def lightB (c : Chal) : Bool := decide (c.params.length ≤ 20) && decide (chW c ≤ 600)
def lightL (cs : List ChV) : Bool := decide (cs.length ≤ 10) && cs.all (fun c => lightB c.x)
/-- Texts that a machine can hold. -/
def Held (c : Chal) : Prop := c.scheme.size ≤ 140737488355328 ∧ c.token.size ≤ 140737488355328 ∧ ∀ p ∈ c.params, p.1.size ≤ 140737488355328 ∧ p.2.size ≤ 140737488355328
/-- Its row is no longer than its room. -/
def Room (c : ChV) : Prop := c.len ≤ c.cap ∧ c.cap ≤ 9223372036854775807 ∧ c.len ≤ 9223372036854775807
theorem light_few {c : Chal} (h : lightB c = true) : c.params.length ≤ 20 ∧ c.scheme.size ≤ 600 ∧ c.token.size ≤ 600 ∧ ∀ p ∈ c.params, p.1.size ≤ 600 ∧ p.2.size ≤ 600 := by
  unfold lightB at h
  simp only [Bool.and_eq_true, decide_eq_true_eq] at h
  have h2 := h.2
  unfold chW at h2
  refine ⟨h.1, by omega, by omega, fun p hp => ?_⟩
  have := parW_mem _ _ hp
  omega
theorem all_step {cs : List ChV} {k : Nat} {c : ChV} (h : (cs.take k).all (fun c => lightB c.x) = true) (hc : cs[k]? = some c) (hl : lightB c.x = true) : (cs.take (k + 1)).all (fun c => lightB c.x) = true := by
  obtain ⟨hk, e⟩ := List.getElem?_eq_some_iff.1 hc
  rw [List.take_succ_eq_append_getElem hk, List.all_append, h, e]
  simp [hl]
theorem light_no {cs : List ChV} {c : ChV} (hc : c ∈ cs) (hl : lightB c.x = false) : lightL cs = false := by
  unfold lightL
  have : cs.all (fun c => lightB c.x) = false := by
    rw [List.all_eq_false]
    exact ⟨c, hc, by simp [hl]⟩
  rw [this, Bool.and_false]
end Go.Proofs.YtlmfhbffknganaaGreatDoor

/- Challenges written, as the document says, over lists of bytes. -/
namespace Go.Proofs.YtlmfhbffknganaaGreatDoor

/-- A parameter, a blank ahead. -/
def parT (p : Par) : Option (List UInt8) := (valueO p.2.data.toList).map fun v => 32 :: (p.1.data.toList ++ 61 :: v)
def sepP (first : Bool) : List UInt8 := if first then [] else [44]
def parsT : Bool → List Par → Option (List UInt8)
  | _, [] => some []
  | first, p :: r => match parT p with
    | none => none
    | some a => (parsT false r).map fun b => sepP first ++ a ++ b
def tokT (t : ByteArray) : List UInt8 := if t.size = 0 then [] else 32 :: t.data.toList
def chalT (x : Chal) : Option (List UInt8) := (parsT true x.params).map fun a => x.scheme.data.toList ++ tokT x.token ++ a
def sepC (i : Nat) : List UInt8 := if i = 0 then [] else [44, 32]
/-- Challenges as a header, or the number of the first one that can't be told. -/
def printL : Nat → List Chal → Except Nat (List UInt8)
  | _, [] => .ok []
  | i, x :: r => match chalT x with
    | none => .error i
    | some a => (printL (i + 1) r).map fun b => sepC i ++ a ++ b
theorem valueO_len (v t : List UInt8) (h : valueO v = some t) : t.length ≤ 2 * v.length + 2 := by
  unfold valueO at h
  split at h
  · cases h; omega
  · unfold quoteO at h
    split at h
    · cases h
      unfold quoteL
      have := escL_length v
      simp
      omega
    · cases h
theorem parT_len (p : Par) (a : List UInt8) (h : parT p = some a) : a.length ≤ 2 * (p.1.size + p.2.size) + 4 := by
  unfold parT at h
  obtain ⟨v, hv, rfl⟩ := Option.map_eq_some_iff.1 h
  have := valueO_len _ _ hv
  have e1 : p.1.data.toList.length = p.1.size := Array.length_toList
  have e2 : p.2.data.toList.length = p.2.size := Array.length_toList
  simp
  omega
theorem parsT_len : ∀ (ps : List Par) (f : Bool) (a : List UInt8), parsT f ps = some a → a.length ≤ 2 * parW ps + 5 * ps.length
  | [], f, a, h => by cases h; simp
  | p :: r, f, a, h => by
    unfold parsT at h
    rcases hp : parT p with _ | q
    · rw [hp] at h; cases h
    · rw [hp] at h
      obtain ⟨b, hb, rfl⟩ := Option.map_eq_some_iff.1 h
      have h1 := parsT_len r false b hb
      have h2 := parT_len p q hp
      have h3 : (sepP f).length ≤ 1 := by cases f <;> simp [sepP]
      rw [parW, List.length_append, List.length_append, List.length_cons]
      omega
theorem chalT_len (x : Chal) (a : List UInt8) (h : chalT x = some a) : a.length ≤ 2 * chW x + 5 * x.params.length + 1 := by
  unfold chalT at h
  obtain ⟨b, hb, rfl⟩ := Option.map_eq_some_iff.1 h
  have h1 := parsT_len _ _ _ hb
  have e1 : x.scheme.data.toList.length = x.scheme.size := Array.length_toList
  have e2 : x.token.data.toList.length = x.token.size := Array.length_toList
  have h2 : (tokT x.token).length ≤ x.token.size + 1 := by unfold tokT; split <;> simp
  unfold chW
  rw [List.length_append, List.length_append]
  omega
/-- What is known of the parameters behind the first k. -/
def ParsAt (ps : List Par) (o : List UInt8) (k : Nat) : Prop := parsT true ps = (parsT (k == 0) (ps.drop k)).map (o ++ ·)
theorem parsAt_start (ps : List Par) : ParsAt ps [] 0 := by
  unfold ParsAt
  rw [List.drop_zero]
  show parsT true ps = (parsT true ps).map _
  generalize parsT true ps = o
  cases o <;> simp
theorem parsAt_end {ps : List Par} {o : List UInt8} {k : Nat} (h : ParsAt ps o k) (hk : ps.length ≤ k) : parsT true ps = some o := by
  unfold ParsAt at h
  rw [h, List.drop_of_length_le hk]
  simp [parsT]
theorem parsAt_bad {ps : List Par} {o : List UInt8} {k : Nat} {p : Par} (h : ParsAt ps o k) (hk : ps[k]? = some p) (hp : parT p = none) : parsT true ps = none := by
  unfold ParsAt at h
  obtain ⟨hk1, e⟩ := List.getElem?_eq_some_iff.1 hk
  rw [h, List.drop_eq_getElem_cons hk1, e, parsT, hp]
  rfl
theorem parsAt_next {ps : List Par} {o a : List UInt8} {k : Nat} {p : Par} (h : ParsAt ps o k) (hk : ps[k]? = some p) (hp : parT p = some a) : ParsAt ps (o ++ (sepP (k == 0) ++ a)) (k + 1) := by
  unfold ParsAt at h ⊢
  obtain ⟨hk1, e⟩ := List.getElem?_eq_some_iff.1 hk
  rw [h, List.drop_eq_getElem_cons hk1, e, parsT, hp]
  simp only [Option.map_map]
  congr 1
  funext b
  simp
/-- What is known of the challenges behind the first k. -/
def PrintAt (xs : List Chal) (o : List UInt8) (k : Nat) : Prop := printL 0 xs = (printL k (xs.drop k)).map (o ++ ·)
theorem printAt_start (xs : List Chal) : PrintAt xs [] 0 := by
  unfold PrintAt
  rw [List.drop_zero]
  cases printL 0 xs <;> simp [Except.map]
theorem printAt_end {xs : List Chal} {o : List UInt8} {k : Nat} (h : PrintAt xs o k) (hk : xs.length ≤ k) : printL 0 xs = .ok o := by
  unfold PrintAt at h
  rw [h, List.drop_of_length_le hk]
  simp [printL, Except.map]
theorem printAt_bad {xs : List Chal} {o : List UInt8} {k : Nat} {x : Chal} (h : PrintAt xs o k) (hk : xs[k]? = some x) (hp : chalT x = none) : printL 0 xs = .error k := by
  unfold PrintAt at h
  obtain ⟨hk1, e⟩ := List.getElem?_eq_some_iff.1 hk
  rw [h, List.drop_eq_getElem_cons hk1, e, printL, hp]
  rfl
theorem printAt_next {xs : List Chal} {o a : List UInt8} {k : Nat} {x : Chal} (h : PrintAt xs o k) (hk : xs[k]? = some x) (hp : chalT x = some a) : PrintAt xs (o ++ (sepC k ++ a)) (k + 1) := by
  unfold PrintAt at h ⊢
  obtain ⟨hk1, e⟩ := List.getElem?_eq_some_iff.1 hk
  rw [h, List.drop_eq_getElem_cons hk1, e, printL, hp]
  cases printL (k + 1) (xs.drop (k + 1)) <;> simp [Except.map]
end Go.Proofs.YtlmfhbffknganaaGreatDoor

/- Cells of a block. -/
namespace Go.Proofs.YtlmfhbffknganaaGreatDoor
open Go.RowKit

theorem cells_of {w : World} {k : Nat} {cs : Array Value} {T : TypeId} {fz : Nat × Nat} (hk : w.heap[k]? = some (.cells cs T fz)) (j : Nat) (v : Value) (hj : cs[j]? = some v) : w.cell? ⟨k, j, none⟩ = some v := by
  simp [World.cell?, hk, hj]
theorem below_block {w w' : World} {k : Nat} {o : Obj} (hb : Below w.heap.size w w') (hk : w.heap[k]? = some o) : w'.heap[k]? = some o := by
  rw [hb.block k (Array.getElem?_eq_some_iff.1 hk).1]
  exact hk
end Go.Proofs.YtlmfhbffknganaaGreatDoor

/- strings.Builder: WriteString and String, laid at this program's numbers. -/
namespace Go.Proofs.YtlmfhbffknganaaGreatDoor
open Go.Shelf Go.RowKit
def bld_ren : Go.Shelf.Ren := ⟨fun | 166 => 32 | 169 => 34 | 240 => 65 | 276 => 95 | n => n, fun | 9 => 9 | 3 => 3 | 4 => 4 | 0 => 0 | 20 => 20 | 72 => 69 | 76 => 70 | 70 => 66 | 37 => 67 | 75 => 26 | 127 => 105 | 164 => 115 | 5 => 5 | 80 => 76 | n => n, fun | n => n⟩
theorem bld166 : Go.Proofs.Lays.n166 Tryz.prog bld_ren := {
  mixed := by kernel_rfl
  f166 := Tryz.func32.trans (congrArg some (by kernel_rfl))
  f240 := Tryz.func65.trans (congrArg some (by kernel_rfl))
  f276 := Tryz.func95.trans (congrArg some (by kernel_rfl))
  t0 := Tryz.underlying0
  a0 := Tryz.isAgg0
  z0 := Tryz.sizeOf0
  v0 := Tryz.zeroValue0
  t3 := Tryz.underlying3
  a3 := Tryz.isAgg3
  z3 := Tryz.sizeOf3
  v3 := Tryz.zeroValue3
  t4 := Tryz.underlying4
  a4 := Tryz.isAgg4
  z4 := Tryz.sizeOf4
  v4 := Tryz.zeroValue4
  t9 := Tryz.underlying9
  a9 := Tryz.isAgg9
  z9 := Tryz.sizeOf9
  v9 := Tryz.zeroValue9
  t20 := Tryz.underlying20
  a20 := Tryz.isAgg20
  z20 := Tryz.sizeOf20
  v20 := Tryz.zeroValue20
  t37 := Tryz.underlying67
  a37 := Tryz.isAgg67
  z37 := Tryz.sizeOf67
  v37 := Tryz.zeroValue67
  t70 := Tryz.underlying66
  a70 := Tryz.isAgg66
  z70 := Tryz.sizeOf66
  v70 := Tryz.zeroValue66
  t72 := Tryz.underlying69
  a72 := Tryz.isAgg69
  z72 := Tryz.sizeOf69
  v72 := Tryz.zeroValue69
  t75 := Tryz.underlying26
  a75 := Tryz.isAgg26
  z75 := Tryz.sizeOf26
  v75 := Tryz.zeroValue26
  t164 := Tryz.underlying115
  a164 := Tryz.isAgg115
  z164 := Tryz.sizeOf115
  v164 := Tryz.zeroValue115 }
theorem bld169 : Go.Proofs.Lays.n169 Tryz.prog bld_ren := {
  mixed := by kernel_rfl
  f169 := Tryz.func34.trans (congrArg some (by kernel_rfl))
  t0 := Tryz.underlying0
  a0 := Tryz.isAgg0
  z0 := Tryz.sizeOf0
  v0 := Tryz.zeroValue0
  t3 := Tryz.underlying3
  a3 := Tryz.isAgg3
  z3 := Tryz.sizeOf3
  v3 := Tryz.zeroValue3
  t9 := Tryz.underlying9
  a9 := Tryz.isAgg9
  z9 := Tryz.sizeOf9
  v9 := Tryz.zeroValue9
  t37 := Tryz.underlying67
  a37 := Tryz.isAgg67
  z37 := Tryz.sizeOf67
  v37 := Tryz.zeroValue67
  t70 := Tryz.underlying66
  a70 := Tryz.isAgg66
  z70 := Tryz.sizeOf66
  v70 := Tryz.zeroValue66
  t72 := Tryz.underlying69
  a72 := Tryz.isAgg69
  z72 := Tryz.sizeOf69
  v72 := Tryz.zeroValue69
  t127 := Tryz.underlying105
  a127 := Tryz.isAgg105
  z127 := Tryz.sizeOf105
  v127 := Tryz.zeroValue105 }
theorem bldX : Builder.Extra Tryz.prog bld_ren := {
  sizeBuilder := by kernel_rfl
  liesBuilder := by kernel_rfl
  t5 := Tryz.underlying5
  a5 := Tryz.isAgg5
  z5 := Tryz.sizeOf5
  v5 := Tryz.zeroValue5
  infoByte := by kernel_rfl
  cellsByte := by kernel_rfl
  sizeByte := by kernel_rfl
  neB5 := by decide }
theorem bytes_cells (l : List UInt8) (s : ByteArray) : Lib.byteCells l ++ Lib.strCells s = Lib.byteCells (l ++ s.data.toList) := by
  simp [Lib.byteCells, Lib.strCells]
/-- More bytes into a builder. -/
theorem bld_write (B b : Nat) (l : List UInt8) (s : ByteArray) (w : World) (h : Lib.IsBuilder 69 5 B b (Lib.byteCells l) w) (hl : l.length + s.size ≤ 100000) (hB : B ≤ w.heap.size) :
    Calls Tryz.prog 32 #[.pointer (some ⟨b, 0, none⟩), .string s] w fun e w' => e = .returned (.tuple #[.int .i64 s.size, .nilIface]) ∧ Lib.IsBuilder 69 5 B b (Lib.byteCells (l ++ s.data.toList)) w' ∧ Below B w w' := by
  refine (Any.Builder_WriteString bld166 bldX B b _ s w h (by simp [Lib.byteCells]; omega) hB).mono ?_
  rintro e w' ⟨rfl, h2, hb⟩
  refine ⟨rfl, .inr ?_, hb⟩
  rw [← bytes_cells]
  exact h2
/-- What a builder holds, as a text. -/
theorem bld_string (B b : Nat) (l : List UInt8) (w : World) (h : Lib.IsBuilder 69 5 B b (Lib.byteCells l) w) (hB : B ≤ w.heap.size) :
    Calls Tryz.prog 34 #[.pointer (some ⟨b, 0, none⟩)] w fun e w' => e = .returned (.string (bs l)) ∧ Below B w w' := Any.Builder_String_any bld169 bldX B b l w h hB
end Go.Proofs.YtlmfhbffknganaaGreatDoor

/- strings.Builder: texts that are written leave all else as it lay. -/
namespace Go.Proofs.YtlmfhbffknganaaGreatDoor
open Go.Shelf Go.RowKit
/-- A builder at block b, its bytes, all among the blocks from B on. -/
def Built (w : World) (B b : Nat) (l : List UInt8) : Prop := Lib.IsBuilderF 69 5 B b (Lib.byteCells l) w
theorem builtAt_below {T e : TypeId} {B b : Nat} {p : Value} {l : List Value} {w w' : World} (h : Lib.BuilderAtF T e B b p l w) (hb : Below w.heap.size w w') : Lib.BuilderAtF T e B b p l w' := by
  have old : ∀ (k : Nat) (o : Obj), w.heap[k]? = some o → w'.heap[k]? = some o := fun k o hk => by
    rw [hb.block k (Array.getElem?_eq_some_iff.1 hk).1]
    exact hk
  obtain ⟨hB, v, hv, ⟨h1, h2⟩, hne⟩ := h
  refine ⟨hB, v, old _ _ hv, ⟨h1, ?_⟩, hne⟩
  rcases h2 with h2 | ⟨g, cap, cur, fz, e1, e2, e3, e4⟩
  · exact .inl h2
  · exact .inr ⟨g, cap, cur, fz, e1, e2, old _ _ e3, e4⟩
theorem Built.below {w w' : World} {B b : Nat} {l : List UInt8} (h : Built w B b l) (hb : Below w.heap.size w w') : Built w' B b l :=
  h.elim (fun x => .inl (builtAt_below x hb)) (fun x => .inr (builtAt_below x hb))
theorem Built.lt {w : World} {B b : Nat} {l : List UInt8} (h : Built w B b l) : B ≤ b ∧ b < w.heap.size := h.elim (fun x => ⟨x.1, x.lt⟩) (fun x => ⟨x.1, x.lt⟩)
/-- More bytes into a builder. -/
theorem bdk_write (B b : Nat) (l : List UInt8) (s : ByteArray) (w : World) (h : Built w B b l) (hl : l.length + s.size ≤ 10000000) (hB : B ≤ w.heap.size) :
    Calls Tryz.prog 32 #[.pointer (some ⟨b, 0, none⟩), .string s] w fun e w' => e = .returned (.tuple #[.int .i64 s.size, .nilIface]) ∧ Built w' B b (l ++ s.data.toList) ∧ Below B w w' ∧ Lib.OthersKept 5 (some b) w w' := by
  refine (Any.Builder_WriteString_k bld166 bldX B b _ s w h (by simp [Lib.byteCells]; omega) hB).mono ?_
  rintro e w' ⟨rfl, h2, hb, ho⟩
  refine ⟨rfl, .inr ?_, hb, ho⟩
  rw [← bytes_cells]
  exact h2
/-- What a builder holds, as a text. -/
theorem bdk_string (B b : Nat) (l : List UInt8) (w : World) (h : Built w B b l) (hB : B ≤ w.heap.size) :
    Calls Tryz.prog 34 #[.pointer (some ⟨b, 0, none⟩)] w fun e w' => e = .returned (.string (bs l)) ∧ Below B w w' := by
  refine (Any.Builder_String_any_k bld169 bldX B b l w h hB).mono ?_
  rintro e w' ⟨rfl, _, hb, _⟩
  exact ⟨rfl, hb⟩
/-- A block that is neither the builder's nor a row of bytes. -/
theorem kept_cells {w w' : World} {b k : Nat} {cs : Array Value} {T : TypeId} {fz : Nat × Nat} (h : Lib.OthersKept 5 (some b) w w') (hk : w.heap[k]? = some (.cells cs T fz)) (hT : T ≠ 5) (hb : k ≠ b) : w'.heap[k]? = some (.cells cs T fz) :=
  h k _ hk (by simpa using hb) (fun c f e => hT (by injection e))
end Go.Proofs.YtlmfhbffknganaaGreatDoor

/- strings.Builder: a byte that is written leaves all else as it lay. -/
namespace Go.Proofs.YtlmfhbffknganaaGreatDoor
open Go.Shelf Go.RowKit
def bldk_ren : Go.Shelf.Ren := ⟨fun | 167 => 67 | 166 => 32 | 169 => 34 | 240 => 65 | 276 => 95 | n => n, fun | 9 => 9 | 3 => 3 | 4 => 4 | 0 => 0 | 20 => 20 | 72 => 69 | 76 => 70 | 70 => 66 | 37 => 67 | 75 => 26 | 127 => 105 | 164 => 115 | 5 => 5 | 80 => 76 | n => n, fun | n => n⟩
theorem bld167 : Go.Proofs.Lays.n167 Tryz.prog bldk_ren := {
  mixed := by kernel_rfl
  f167 := Tryz.func67.trans (congrArg some (by kernel_rfl))
  f240 := Tryz.func65.trans (congrArg some (by kernel_rfl))
  f276 := Tryz.func95.trans (congrArg some (by kernel_rfl))
  t0 := Tryz.underlying0
  a0 := Tryz.isAgg0
  z0 := Tryz.sizeOf0
  v0 := Tryz.zeroValue0
  t4 := Tryz.underlying4
  a4 := Tryz.isAgg4
  z4 := Tryz.sizeOf4
  v4 := Tryz.zeroValue4
  t5 := Tryz.underlying5
  a5 := Tryz.isAgg5
  z5 := Tryz.sizeOf5
  v5 := Tryz.zeroValue5
  t9 := Tryz.underlying9
  a9 := Tryz.isAgg9
  z9 := Tryz.sizeOf9
  v9 := Tryz.zeroValue9
  t20 := Tryz.underlying20
  a20 := Tryz.isAgg20
  z20 := Tryz.sizeOf20
  v20 := Tryz.zeroValue20
  t37 := Tryz.underlying67
  a37 := Tryz.isAgg67
  z37 := Tryz.sizeOf67
  v37 := Tryz.zeroValue67
  t70 := Tryz.underlying66
  a70 := Tryz.isAgg66
  z70 := Tryz.sizeOf66
  v70 := Tryz.zeroValue66
  t72 := Tryz.underlying69
  a72 := Tryz.isAgg69
  z72 := Tryz.sizeOf69
  v72 := Tryz.zeroValue69
  t75 := Tryz.underlying26
  a75 := Tryz.isAgg26
  z75 := Tryz.sizeOf26
  v75 := Tryz.zeroValue26
  t164 := Tryz.underlying115
  a164 := Tryz.isAgg115
  z164 := Tryz.sizeOf115
  v164 := Tryz.zeroValue115 }

theorem bldkX : Builder.Extra Tryz.prog bldk_ren := {
  sizeBuilder := by kernel_rfl
  liesBuilder := by kernel_rfl
  t5 := Tryz.underlying5
  a5 := Tryz.isAgg5
  z5 := Tryz.sizeOf5
  v5 := Tryz.zeroValue5
  infoByte := by kernel_rfl
  cellsByte := by kernel_rfl
  sizeByte := by kernel_rfl
  neB5 := by decide }
theorem bdk_byte (B b : Nat) (l : List UInt8) (c : UInt8) (w : World) (h : Built w B b l) (hl : l.length + 1 ≤ 10000000) (hB : B ≤ w.heap.size) :
    Calls Tryz.prog 67 #[.pointer (some ⟨b, 0, none⟩), .int .u8 (c.toNat : Int)] w fun e w' => e = .returned .nilIface ∧ Built w' B b (l ++ [c]) ∧ Below B w w' ∧ Lib.OthersKept 5 (some b) w w' := by
  refine (Any.Builder_WriteByte_k bld167 bldkX B b _ (c.toNat : Int) w h (by simp [Lib.byteCells]; omega) hB).mono ?_
  rintro e w' ⟨rfl, h2, hb, ho⟩
  refine ⟨rfl, .inr ?_, hb, ho⟩
  have e2 : Lib.byteCells (l ++ [c]) = Lib.byteCells l ++ [.int .u8 (c.toNat : Int)] := by simp [Lib.byteCells]
  rw [e2]
  exact h2
end Go.Proofs.YtlmfhbffknganaaGreatDoor

/- A value, by the program. -/
namespace Go.Proofs.YtlmfhbffknganaaGreatDoor
open Go.RowKit

theorem valueO_yes (s : ByteArray) (h : isL s.data.toList = true) : valueO s.data.toList = some s.data.toList := by
  unfold valueO
  rw [if_pos h]
theorem valueO_no (s : ByteArray) (h : isL s.data.toList = false) : valueO s.data.toList = quoteO s.data.toList := by
  unfold valueO
  rw [if_neg (by rw [h]; simp)]
/-- What a value is, by the program. -/
theorem value_word_any (s : ByteArray) (hs : s.size ≤ 3000) (h : isL s.data.toList = true) (w : World) :
    Calls Tryz.prog 66 #[.string s] w fun e w' => e = .returned (.tuple #[.string s, .nilIface]) ∧ Below w.heap.size w w' := by
  go_enter Tryz.func66, Tryz.ntmps66
  go_wp2_with (first | (go_at_call 28; refine (is_any s (by omega) _).mono ?_; rintro e w' ⟨rfl, hw⟩; obtain rfl := hw.symm; rw [h]) | (go_at_call 84; refine (clone_any s (by omega) _).mono ?_; rintro e w' ⟨rfl, hb⟩))
  go_ret2
  exact ⟨rfl, hb⟩
theorem value_no (s : ByteArray) (hs : s.size ≤ 3000) (h : isL s.data.toList = false) (hq : quoteO s.data.toList = none) (w : World) :
    Calls Tryz.prog 66 #[.string s] w fun e w' => e = .returned (.tuple #[.string ⟨#[]⟩, .iface 38 (.int .i64 3)]) ∧ w' = w := by
  go_enter Tryz.func66, Tryz.ntmps66
  go_wp2_with (first | (go_at_call 28; refine (is_any s (by omega) _).mono ?_; rintro e w' ⟨rfl, hw⟩; obtain rfl := hw.symm; rw [h]) | (go_at_call 23; refine (quote_no s hs hq _).mono ?_; rintro e w' ⟨rfl, hw⟩; obtain rfl := hw.symm))
  go_ret2
  exact ⟨rfl, rfl⟩
theorem value_yes (s : ByteArray) (hs : s.size ≤ 3000) (h : isL s.data.toList = false) (hq : quoteO s.data.toList = some (quoteL s.data.toList)) (w : World) :
    Calls Tryz.prog 66 #[.string s] w fun e w' => e = .returned (.tuple #[.string (bs (quoteL s.data.toList)), .nilIface]) ∧ Below w.heap.size w w' := by
  have HQ : Hid (quoteO s.data.toList = some (quoteL s.data.toList)) := hq
  clear hq
  go_enter Tryz.func66, Tryz.ntmps66
  go_wp2_with (first | (go_at_call 28; refine (is_any s (by omega) _).mono ?_; rintro e w' ⟨rfl, hw⟩; obtain rfl := hw.symm; rw [h]) | (go_at_call 23; refine (quote_yes s hs HQ.out _).mono ?_; rintro e w' ⟨rfl, hb⟩))
  go_ret2
  exact ⟨rfl, hb⟩
end Go.Proofs.YtlmfhbffknganaaGreatDoor

/- A value, by the program: told at once. -/
namespace Go.Proofs.YtlmfhbffknganaaGreatDoor
open Go.RowKit

theorem value_some (s : ByteArray) (hs : s.size ≤ 3000) (t : List UInt8) (h : valueO s.data.toList = some t) (w : World) :
    Calls Tryz.prog 66 #[.string s] w fun e w' => e = .returned (.tuple #[.string (bs t), .nilIface]) ∧ Below w.heap.size w w' := by
  cases hi : isL s.data.toList
  · rw [valueO_no s hi] at h
    have hq : quoteO s.data.toList = some (quoteL s.data.toList) := by
      unfold quoteO at h ⊢
      split at h
      · rename_i h1; rw [if_pos h1]
      · cases h
    rw [hq] at h
    cases h
    exact value_yes s hs hi hq w
  · rw [valueO_yes s hi] at h
    cases h
    rw [bs_self]
    exact value_word_any s hs hi w
theorem value_none (s : ByteArray) (hs : s.size ≤ 3000) (h : valueO s.data.toList = none) (w : World) :
    Calls Tryz.prog 66 #[.string s] w fun e w' => e = .returned (.tuple #[.string ⟨#[]⟩, .iface 38 (.int .i64 3)]) ∧ w' = w := by
  cases hi : isL s.data.toList
  · rw [valueO_no s hi] at h
    exact value_no s hs hi h w
  · rw [valueO_yes s hi] at h
    cases h
end Go.Proofs.YtlmfhbffknganaaGreatDoor

/- A challenge written, by the program. -/
namespace Go.Proofs.YtlmfhbffknganaaGreatDoor
open Go.RowKit

def WrtAns (c : ChV) (B b : Nat) (l : List UInt8) (e : Ending) (w' : World) : Prop :=
  (∃ t, chalT c.x = some t ∧ e = .returned (.bool true) ∧ Built w' B b (l ++ t)) ∨ (chalT c.x = none ∧ e = .returned (.bool false))
theorem parT_none {p : Par} (h : valueO p.2.data.toList = none) : parT p = none := by unfold parT; rw [h]; rfl
theorem parT_some {p : Par} {v : List UInt8} (h : valueO p.2.data.toList = some v) : parT p = some (32 :: (p.1.data.toList ++ 61 :: v)) := by unfold parT; rw [h]; rfl
theorem chalT_none {x : Chal} (h : parsT true x.params = none) : chalT x = none := by unfold chalT; rw [h]; rfl
theorem chalT_some {x : Chal} {a : List UInt8} (h : parsT true x.params = some a) : chalT x = some (x.scheme.data.toList ++ tokT x.token ++ a) := by unfold chalT; rw [h]; rfl
theorem drewN_belowB {B : Nat} {a w : World} (h : Below B a w) (n : Nat) : Below B a (w.drewN n) := h.trans ⟨rfl, rfl, rfl, Nat.le_refl _, fun _ _ => rfl⟩
theorem empty_yes {s : ByteArray} (h : s.size = 0) : s.toList.isEmpty = true := by
  rw [ByteArray.toList_eq]
  have : s.data.toList.length = 0 := by rw [Array.length_toList]; exact h
  rw [List.eq_nil_of_length_eq_zero this]
  rfl
theorem empty_no {s : ByteArray} (h : s.size ≠ 0) : s.toList.isEmpty = false := by
  rw [ByteArray.toList_eq]
  cases e : s.data.toList with
  | nil =>
    have : s.data.toList.length = s.size := Array.length_toList
    rw [e] at this
    exact absurd this.symm h
  | cons x r => rfl
theorem parW_take (ps : List Par) (k : Nat) : parW (ps.take k) ≤ parW ps := by
  conv => rhs; rw [← List.take_append_drop k ps, parW_app]
  omega
set_option maxRecDepth 100000 in
set_option maxHeartbeats 4000000 in
theorem write_any (c : ChV) (hf : c.x.params.length ≤ 1000 ∧ ∀ p ∈ c.x.params, p.1.size ≤ 3000 ∧ p.2.size ≤ 3000) (hst : c.x.scheme.size ≤ 3000 ∧ c.x.token.size ≤ 3000) (B b : Nat) (l : List UInt8) (hl : l.length + (2 * chW c.x + 5 * c.x.params.length + 1) ≤ 9000000)
    (w : World) (hw : Built w B b l) (hB : B ≤ w.heap.size) (hx : ChOk w c) (hxB : 0 < c.len → c.b < B) :
    Calls Tryz.prog 33 #[.pointer (some ⟨b, 0, none⟩), .agg #[.string c.x.scheme, .string c.x.token, .slice c.a c.len c.cap]] w fun e w' => WrtAns c B b l e w' ∧ Below B w w' := by
  obtain ⟨hBb, hbw⟩ := hw.lt
  have HF : Hid (∀ p ∈ c.x.params, p.1.size ≤ 3000 ∧ p.2.size ≤ 3000) := hf.2
  have hcl : c.len ≤ 1000 := hf.1
  have HL : Hid (l.length + (2 * chW c.x + 5 * c.x.params.length + 1) ≤ 9000000) := hl
  have HXB : Hid (0 < c.len → c.b < B) := hxB
  have hb1 : Below w.heap.size w (w.alloc (.cells #[.string c.x.scheme, .string c.x.token, .slice c.a c.len c.cap] 34)) := (Below.refl _ _).alloc (Nat.le_refl _) _
  have HX1 : Hid (ChOk (w.alloc (.cells #[.string c.x.scheme, .string c.x.token, .slice c.a c.len c.cap] 34)) c) := hx.below hb1
  have HW1 : Hid (Built (w.alloc (.cells #[.string c.x.scheme, .string c.x.token, .slice c.a c.len c.cap] 34)) B b l) := hw.below hb1
  have hbox1 : (w.alloc (.cells #[.string c.x.scheme, .string c.x.token, .slice c.a c.len c.cap] 34)).heap[w.heap.size]? = some (.cells #[.string c.x.scheme, .string c.x.token, .slice c.a c.len c.cap] 34 (0, 0)) := heap_alloc_new w _
  have HB1 : Hid (Below B w (w.alloc (.cells #[.string c.x.scheme, .string c.x.token, .slice c.a c.len c.cap] 34))) := hb1.mono hB
  have HBOX1 : Hid ((w.alloc (.cells #[.string c.x.scheme, .string c.x.token, .slice c.a c.len c.cap] 34)).heap[w.heap.size]? = some (.cells #[.string c.x.scheme, .string c.x.token, .slice c.a c.len c.cap] 34 (0, 0))) := hbox1
  have hne : w.heap.size ≠ b := by omega
  obtain ⟨hs1, hs2⟩ := hst
  have hes : c.x.scheme.data.toList.length = c.x.scheme.size := Array.length_toList
  have HES : Hid (c.x.scheme.data.toList.length = c.x.scheme.size) := hes
  have HET : Hid (c.x.token.data.toList.length = c.x.token.size) := Array.length_toList
  clear hf hl hx hw hxB hb1 hes hbox1
  go_enter Tryz.func33, Tryz.ntmps33
  go_wp2_with fail
  refine (bdk_write B b l _ _ HW1.out (by have := HL.out; unfold chW at this; omega) (by simp; omega)).mono ?_
  rintro e w2 ⟨rfl, hw2, hb2, ho2⟩
  have hbox2 := kept_cells ho2 HBOX1.out (by decide) hne
  have HX2 : Hid (ChOk w2 c) := HX1.out.belowB hb2 HXB.out
  have HW2 : Hid (Built w2 B b (l ++ c.x.scheme.data.toList)) := hw2
  have HB2 : Hid (Below B w w2) := HB1.out.trans hb2
  have hz2 : B ≤ w2.heap.size := Nat.le_trans hB (Nat.le_trans HB1.out.size hb2.size)
  have HBOX2 : Hid (w2.heap[w.heap.size]? = some (.cells #[.string c.x.scheme, .string c.x.token, .slice c.a c.len c.cap] 34 (0, 0))) := hbox2
  have hc1 := cells_of hbox2 1 _ rfl
  clear hw2 ho2 HW1 HX1 HBOX1 HB1 hbox2
  go_upto_if 15 with fail
  go_cut [] (fun wc => Hid (Built wc B b (l ++ c.x.scheme.data.toList ++ tokT c.x.token) ∧ ChOk wc c ∧ Below B w wc ∧ wc.heap[w.heap.size]? = some (.cells #[.string c.x.scheme, .string c.x.token, .slice c.a c.len c.cap] 34 (0, 0))) ∧ B ≤ wc.heap.size)
  case first =>
    by_cases ht : c.x.token.size = 0
    · have HT : Hid (tokT c.x.token = []) := by show _ = _; unfold tokT; rw [if_pos ht]
      have he : (!c.x.token.toList.isEmpty) = false := by rw [empty_yes ht]; rfl
      rw [he]
      go_wp2
      go_meet
      exact ⟨⟨by rw [HT.out, List.append_nil]; exact HW2.out, HX2.out, HB2.out, HBOX2.out⟩, hz2⟩
    · have HT : Hid (tokT c.x.token = (⟨#[32]⟩ ++ c.x.token : ByteArray).data.toList) := by show _ = _; unfold tokT; rw [if_neg ht]; simp
      have he : (!c.x.token.toList.isEmpty) = true := by rw [empty_no ht]; rfl
      rw [he]
      have hzt : (⟨#[32]⟩ ++ c.x.token : ByteArray).size = 1 + c.x.token.size := by rw [ByteArray.size_append]; rfl
      have HZT : Hid ((⟨#[32]⟩ ++ c.x.token : ByteArray).size = 1 + c.x.token.size) := hzt
      clear hzt
      go_wp2_with fail
      refine (bdk_write B b _ _ _ HW2.out (by rw [HZT.out, List.length_append, HES.out]; have := HL.out; unfold chW at this; omega) hz2).mono ?_
      rintro e w3 ⟨rfl, hw3, hb3, ho3⟩
      have HC3 : Hid (Built w3 B b (l ++ c.x.scheme.data.toList ++ tokT c.x.token) ∧ ChOk w3 c ∧ Below B w w3 ∧ w3.heap[w.heap.size]? = some (.cells #[.string c.x.scheme, .string c.x.token, .slice c.a c.len c.cap] 34 (0, 0))) :=
        ⟨by rw [HT.out]; exact hw3, HX2.out.belowB hb3 HXB.out, HB2.out.trans hb3, kept_cells ho3 HBOX2.out (by decide) hne⟩
      have hz3 : B ≤ w3.heap.size := Nat.le_trans hz2 hb3.size
      clear hw3 hb3 ho3
      go_wp2
      go_meet
      exact ⟨HC3, hz3⟩
  case rest =>
    obtain ⟨HC, hz3⟩ := hcut
    have hc2 := cells_of HC.out.2.2.2 2 _ rfl
    have HLT : Hid ((l ++ c.x.scheme.data.toList ++ tokT c.x.token).length + (2 * parW c.x.params + 5 * c.x.params.length) ≤ 9000000) := by
      show _ ≤ _
      have h1 := HL.out
      have h2 : (tokT c.x.token).length ≤ c.x.token.size + 1 := by unfold tokT; split <;> simp
      have := HES.out
      unfold chW at h1
      rw [List.length_append, List.length_append]
      omega
    clear HW2 HX2 HB2 HBOX2 HL
    obtain ⟨m, HM⟩ : ∃ m, Hid (l ++ c.x.scheme.data.toList ++ tokT c.x.token = m) := ⟨_, rfl⟩
    rw [HM.out] at HC HLT
    obtain ⟨a, hA⟩ : ∃ a, c.a = a := ⟨_, rfl⟩
    rw [hA] at hc2 ⊢
    have HA' : Hid (c.a = a) := hA
    clear hA
    go_wp2
    go_loopw [24] (fun i wr => ∃ (k : Nat) (o : List UInt8), k ≤ c.len ∧ i = .int .i64 k ∧ Hid (ParsAt c.x.params o k ∧ o.length ≤ 2 * parW (c.x.params.take k) + 5 * k ∧ Built wr B b (m ++ o) ∧ ChOk wr c ∧ Below B w wr) ∧ B ≤ wr.heap.size) (fun i _ => c.len - (intOf i).toNat)
    case atStart => exact ⟨0, [], Nat.zero_le _, rfl, ⟨parsAt_start _, by simp, by rw [List.append_nil]; exact HC.out.1, HC.out.2.1, HC.out.2.2.1⟩, hz3⟩
    case round =>
      obtain ⟨k, o, hk, rfl, HI, hzr⟩ := hrel
      by_cases hlt : k < c.len
      · obtain ⟨p, hpk⟩ : ∃ p, c.x.params[k]? = some p := ⟨c.x.params[k]'hlt, List.getElem?_eq_getElem hlt⟩
        have HP : Hid (c.x.params[k]? = some p) := hpk
        obtain ⟨hz4, hz5⟩ := HF.out p (List.mem_of_getElem? hpk)
        obtain ⟨ha, hbl⟩ := HI.out.2.2.2.1.lies (by omega)
        have hp1 := HI.out.2.2.2.1.one k p hpk
        have hp2 := HI.out.2.2.2.1.two k p hpk
        obtain rfl : a = some ⟨c.b, c.off, none⟩ := HA'.out.symm.trans ha
        clear hpk ha
        rcases hv : valueO p.2.data.toList with _ | v
        · have HA : Hid (chalT c.x = none) := chalT_none (parsAt_bad HI.out.1 HP.out (parT_none hv))
          go_wp2_with fail
          refine (value_none p.2 hz5 hv _).mono ?_
          rintro e w4 ⟨rfl, hw4⟩
          obtain rfl := hw4.symm
          go_wp2
          go_ret
          exact ⟨.inr ⟨HA, rfl⟩, HI.out.2.2.2.2.alloc hzr _⟩
        · have HV : Hid (parT p = some (32 :: (p.1.data.toList ++ 61 :: v))) := parT_some hv
          have HN : Hid (ParsAt c.x.params (o ++ (sepP (k == 0) ++ 32 :: (p.1.data.toList ++ 61 :: v))) (k + 1)) := parsAt_next HI.out.1 HP.out HV.out
          have HNL : Hid ((o ++ (sepP (k == 0) ++ 32 :: (p.1.data.toList ++ 61 :: v))).length ≤ 2 * parW (c.x.params.take (k + 1)) + 5 * (k + 1) ∧ (m ++ (o ++ (sepP (k == 0) ++ 32 :: (p.1.data.toList ++ 61 :: v)))).length ≤ 9000000) := by
            have h1 := HI.out.2.1
            have h2 := parW_snoc _ _ _ HP.out
            have h3 := parT_len _ _ HV.out
            have h4 : (sepP (k == 0)).length ≤ 1 := by cases (k == 0) <;> simp [sepP]
            have h5 := HLT.out
            have h6 := parW_take c.x.params (k + 1)
            have h7 : c.len = c.x.params.length := rfl
            have h8 : (o ++ (sepP (k == 0) ++ 32 :: (p.1.data.toList ++ 61 :: v))).length ≤ 2 * parW (c.x.params.take (k + 1)) + 5 * (k + 1) := by
              rw [List.length_append, List.length_append]
              omega
            refine ⟨h8, ?_⟩
            rw [List.length_append]
            omega
          obtain ⟨tv, HTV⟩ : ∃ tv, Hid (bs v = tv) := ⟨_, rfl⟩
          have hval : ∀ w, Calls Tryz.prog 66 #[.string p.2] w fun e w' => e = .returned (.tuple #[.string tv, .nilIface]) ∧ Below w.heap.size w w' := fun w => by rw [← HTV.out]; exact value_some p.2 hz5 v hv w
          have htz : tv.size ≤ 9000000 := by
            have h1 := HNL.out.2
            have h2 : tv.size = v.length := by rw [← HTV.out, bs_size]
            simp only [List.length_append, List.length_cons] at h1
            omega
          have HTX : Hid ((⟨#[32]⟩ ++ p.1 ++ ⟨#[61]⟩ ++ tv : ByteArray).data.toList = 32 :: (p.1.data.toList ++ 61 :: v)) := by
            show _ = _
            rw [← HTV.out]
            simp [bs]
          clear hv
          have hb4 : Below wr.heap.size wr (wr.alloc (.cells #[.string p.1, .string p.2] 44)) := (Below.refl _ _).alloc (Nat.le_refl _) _
          have hx4 : (wr.alloc (.cells #[.string p.1, .string p.2] 44)).heap[wr.heap.size]? = some (.cells #[.string p.1, .string p.2] 44 (0, 0)) := heap_alloc_new wr _
          have hbr : b ≠ wr.heap.size := by have := HI.out.2.2.1.lt.2; omega
          go_wp2_with fail
          refine (hval _).mono ?_
          rintro e w5 ⟨rfl, hb5⟩
          have HX5 : Hid (w5.heap[wr.heap.size]? = some (.cells #[.string p.1, .string p.2] 44 (0, 0))) := below_block hb5 hx4
          have HI5 : Hid (Built w5 B b (m ++ o) ∧ ChOk w5 c ∧ Below B w w5) := ⟨(HI.out.2.2.1.below hb4).below hb5, (HI.out.2.2.2.1.below hb4).below hb5, (HI.out.2.2.2.2.alloc hzr _).trans (hb5.mono (by simp; omega))⟩
          have hz6 : B ≤ w5.heap.size := Nat.le_trans hzr (Nat.le_trans hb4.size hb5.size)
          clear hb4 hx4 hb5
          by_cases h0 : k = 0
          · have HSP : Hid (sepP (k == 0) = []) := by show _ = _; rw [h0]; rfl
            have hk0 : ¬ (0 : Int) < (k : Int) := by omega
            have hcn := cells_of HX5.out 0 _ rfl
            rw [HSP.out, List.nil_append] at HN HNL
            clear h0
            go_wp2_with fail
            refine (bdk_write B b _ _ _ HI5.out.1 (by
              have h1 := HNL.out.2
              have h2 := congrArg List.length HTX.out
              rw [Array.length_toList] at h2
              have h3 : (⟨#[32]⟩ ++ p.1 ++ ⟨#[61]⟩ ++ tv : ByteArray).data.size = (⟨#[32]⟩ ++ p.1 ++ ⟨#[61]⟩ ++ tv : ByteArray).size := rfl
              rw [List.length_append, List.length_append] at h1
              rw [List.length_append]
              omega) hz6).mono ?_
            rintro e w7 ⟨rfl, hw7, hb7, ho7⟩
            have HI7 : Hid (Built w7 B b (m ++ (o ++ 32 :: (p.1.data.toList ++ 61 :: v))) ∧ ChOk w7 c ∧ Below B w w7) := ⟨by rw [← List.append_assoc, ← HTX.out]; exact hw7, HI5.out.2.1.belowB hb7 HXB.out, HI5.out.2.2.trans hb7⟩
            have hz7 : B ≤ w7.heap.size := Nat.le_trans hz6 hb7.size
            clear hw7 hb7 ho7
            go_wp2
            go_roundw
            case rel => exact ⟨k + 1, _, by omega, by go_num, ⟨HN.out, HNL.out.1, HI7.out.1, HI7.out.2.1, HI7.out.2.2⟩, hz7⟩
            case measure => simp [intOf]; omega
          · have HSP : Hid (sepP (k == 0) = [44]) := by show _ = _; rw [beq_eq_false_iff_ne.2 h0]; rfl
            have hk0 : (0 : Int) < (k : Int) := by omega
            rw [HSP.out] at HN HNL
            go_wp2_with fail
            refine (bdk_byte B b _ 44 _ HI5.out.1 (by
              have h1 := HNL.out.2
              simp only [List.length_append, List.length_cons] at h1
              rw [List.length_append]
              omega) hz6).mono ?_
            rintro e w6 ⟨rfl, hw6, hb6, ho6⟩
            have HX6 : Hid (w6.heap[wr.heap.size]? = some (.cells #[.string p.1, .string p.2] 44 (0, 0))) := kept_cells ho6 HX5.out (by decide) hbr.symm
            have HI6 : Hid (Built w6 B b (m ++ o ++ [44]) ∧ ChOk w6 c ∧ Below B w w6) := ⟨hw6, HI5.out.2.1.belowB hb6 HXB.out, HI5.out.2.2.trans hb6⟩
            have hz66 : B ≤ w6.heap.size := Nat.le_trans hz6 hb6.size
            clear hw6 hb6 ho6
            have hcn := cells_of HX6.out 0 _ rfl
            go_wp2_with fail
            refine (bdk_write B b _ _ _ HI6.out.1 (by
              have h1 := HNL.out.2
              have h2 := congrArg List.length HTX.out
              rw [Array.length_toList] at h2
              have h3 : (⟨#[32]⟩ ++ p.1 ++ ⟨#[61]⟩ ++ tv : ByteArray).data.size = (⟨#[32]⟩ ++ p.1 ++ ⟨#[61]⟩ ++ tv : ByteArray).size := rfl
              rw [List.length_append, List.length_append, List.length_append] at h1
              rw [List.length_append, List.length_append]
              omega) hz66).mono ?_
            rintro e w7 ⟨rfl, hw7, hb7, ho7⟩
            have HI7 : Hid (Built w7 B b (m ++ (o ++ ([44] ++ 32 :: (p.1.data.toList ++ 61 :: v)))) ∧ ChOk w7 c ∧ Below B w w7) := ⟨by rw [← List.append_assoc, ← List.append_assoc, ← HTX.out]; exact hw7, HI6.out.2.1.belowB hb7 HXB.out, HI6.out.2.2.trans hb7⟩
            have hz7 : B ≤ w7.heap.size := Nat.le_trans hz66 hb7.size
            clear hw7 hb7 ho7
            go_wp2
            go_roundw
            case rel => exact ⟨k + 1, _, by omega, by go_num, ⟨HN.out, HNL.out.1, HI7.out.1, HI7.out.2.1, HI7.out.2.2⟩, hz7⟩
            case measure => simp [intOf]; omega
      · have HA : Hid (chalT c.x = some (c.x.scheme.data.toList ++ tokT c.x.token ++ o)) := chalT_some (parsAt_end HI.out.1 (by unfold ChV.len at hlt; omega))
        go_wp2
        go_ret
        exact ⟨.inl ⟨_, HA, rfl, by rw [← List.append_assoc, ← List.append_assoc, HM.out]; exact HI.out.2.2.1⟩, HI.out.2.2.2.2⟩
end Go.Proofs.YtlmfhbffknganaaGreatDoor

/- Challenges as a header, by the program. -/
namespace Go.Proofs.YtlmfhbffknganaaGreatDoor
open Go.RowKit

/-- A bound on how much is written. -/
def prtW : List Chal → Nat
  | [] => 0
  | x :: r => 2 * chW x + 5 * x.params.length + 3 + prtW r
theorem prtW_app (a b : List Chal) : prtW (a ++ b) = prtW a + prtW b := by
  induction a with
  | nil => simp [prtW]
  | cons p r ih => rw [List.cons_append, prtW, prtW, ih]; omega
theorem prtW_snoc (xs : List Chal) (k : Nat) (x : Chal) (h : xs[k]? = some x) : prtW (xs.take (k + 1)) = prtW (xs.take k) + (2 * chW x + 5 * x.params.length + 3) := by
  obtain ⟨hk, e⟩ := List.getElem?_eq_some_iff.1 h
  rw [List.take_succ_eq_append_getElem hk, prtW_app, e]
  simp [prtW]
theorem prtW_take (xs : List Chal) (k : Nat) : prtW (xs.take k) ≤ prtW xs := by
  conv => rhs; rw [← List.take_append_drop k xs, prtW_app]
  omega
/-- Challenges that are not too long. -/
def Slim (cs : List ChV) : Prop := cs.length ≤ 1000 ∧ (∀ c ∈ cs, (c.x.params.length ≤ 1000 ∧ ∀ p ∈ c.x.params, p.1.size ≤ 3000 ∧ p.2.size ≤ 3000) ∧ c.x.scheme.size ≤ 3000 ∧ c.x.token.size ≤ 3000) ∧ prtW (xsOf cs) ≤ 8000000
/-- What Print answers. -/
def PrtAns (xs : List Chal) (B : Nat) (e : Ending) (w' : World) : Prop :=
  (∃ t, printL 0 xs = .ok t ∧ t.length ≤ prtW xs ∧ e = .returned (.tuple #[.string (bs t), .nilIface])) ∨
  (∃ k g : Nat, printL 0 xs = .error k ∧ e = .returned (.tuple #[.string ⟨#[]⟩, .iface 73 (.pointer (some ⟨g, 0, none⟩))]) ∧ w'.cell? ⟨g, 0, none⟩ = some (.int .i64 3) ∧ w'.cell? ⟨g, 1, none⟩ = some (.int .i64 (k : Int)) ∧ B ≤ g ∧ g < w'.heap.size)
theorem Chals.belowB {w w' : World} {a0 : Option Addr} {len b off B : Nat} {cs : List ChV} (h : Chals w a0 len b off cs) (hB : w.heap.size ≤ B) {w1 : World} (h1 : Below w.heap.size w w1) (hb : Below B w1 w') : Chals w' a0 len b off cs :=
  h.below (h1.trans (hb.mono hB))
set_option maxRecDepth 100000 in
set_option maxHeartbeats 4000000 in
theorem print_any (cs : List ChV) (hs : Slim cs) (a0 : Option Addr) (len cap b off : Nat) (w : World) (hx : Chals w a0 len b off cs) :
    Calls Tryz.prog 9 #[.slice a0 len cap] w fun e w' => PrtAns (xsOf cs) w.heap.size e w' ∧ Below w.heap.size w w' := by
  have HX : Hid (Chals w a0 len b off cs) := hx
  have HS : Hid (Slim cs) := hs
  have hl := hx.len_eq
  have hlen : len ≤ 1000 := by have := hs.1; omega
  have hB0 : Below w.heap.size w (w.alloc (.cells #[.pointer none, .slice none 0 0] 69)) := (Below.refl _ _).alloc (Nat.le_refl _) _
  have HB0 : Hid (Built (w.alloc (.cells #[.pointer none, .slice none 0 0] 69)) w.heap.size w.heap.size [] ∧ Below w.heap.size w (w.alloc (.cells #[.pointer none, .slice none 0 0] 69))) := ⟨Lib.IsBuilderF.of (Lib.fresh_isBuilder _ _ _), hB0⟩
  clear hx hs hB0
  go_enter Tryz.func9, Tryz.ntmps9
  go_wp2
  go_loopw [9] (fun i wr => ∃ (k : Nat) (o : List UInt8), k ≤ len ∧ i = .int .i64 k ∧ Hid (PrintAt (xsOf cs) o k ∧ o.length ≤ prtW ((xsOf cs).take k) ∧ Built wr w.heap.size w.heap.size o ∧ Below w.heap.size w wr)) (fun i _ => len - (intOf i).toNat)
  case atStart => exact ⟨0, [], Nat.zero_le _, rfl, ⟨printAt_start _, by simp, HB0.out.1, HB0.out.2⟩⟩
  case round =>
    obtain ⟨k, o, hk, rfl, HI⟩ := hrel
    have hwz : w.heap.size < wr.heap.size := HI.out.2.2.1.lt.2
    by_cases hlt : k < len
    · obtain ⟨c, hck⟩ : ∃ c, cs[k]? = some c := ⟨cs[k]'(by omega), List.getElem?_eq_getElem (by omega)⟩
      have HC : Hid (cs[k]? = some c) := hck
      have hX := HX.out.below HI.out.2.2.2
      obtain ⟨ha0, hbl⟩ := hX.lies (by omega)
      have hc1 := hX.one k c hck
      have hc2 := hX.two k c hck
      have hc3 := hX.three k c hck
      obtain ⟨hcs1, hcs2⟩ := HS.out.2.1 c (List.mem_of_getElem? hck)
      have HSC : Hid ((c.x.params.length ≤ 1000 ∧ ∀ p ∈ c.x.params, p.1.size ≤ 3000 ∧ p.2.size ≤ 3000) ∧ c.x.scheme.size ≤ 3000 ∧ c.x.token.size ≤ 3000) := ⟨hcs1, hcs2⟩
      have HXC : Hid (ChOk w c ∧ (0 < c.len → c.b < w.heap.size)) := ⟨HX.out.pars c (List.mem_of_getElem? hck), fun h => ((HX.out.pars c (List.mem_of_getElem? hck)).lies h).2⟩
      have HW : Hid (o.length + (2 * chW c.x + 5 * c.x.params.length + 3) ≤ 8000000) := by
        have h1 := HI.out.2.1
        have h2 := prtW_snoc _ _ _ (xsOf_at hck)
        have h3 := prtW_take (xsOf cs) (k + 1)
        have h4 := HS.out.2.2
        show _ ≤ _
        omega
      subst ha0
      clear hck hX hcs1 hcs2
      have hb1 : Below wr.heap.size wr (wr.alloc (.cells #[.string c.x.scheme, .string c.x.token, .slice c.a c.len c.cap] 34)) := (Below.refl _ _).alloc (Nat.le_refl _) _
      have HBOX1 : Hid ((wr.alloc (.cells #[.string c.x.scheme, .string c.x.token, .slice c.a c.len c.cap] 34)).heap[wr.heap.size]? = some (.cells #[.string c.x.scheme, .string c.x.token, .slice c.a c.len c.cap] 34 (0, 0))) := heap_alloc_new wr _
      have HI1 : Hid (Built (wr.alloc (.cells #[.string c.x.scheme, .string c.x.token, .slice c.a c.len c.cap] 34)) w.heap.size w.heap.size o ∧ Below w.heap.size w (wr.alloc (.cells #[.string c.x.scheme, .string c.x.token, .slice c.a c.len c.cap] 34))) := ⟨HI.out.2.2.1.below hb1, HI.out.2.2.2.trans (hb1.mono (Nat.le_of_lt hwz))⟩
      have HZ1 : Hid (w.heap.size ≤ (wr.alloc (.cells #[.string c.x.scheme, .string c.x.token, .slice c.a c.len c.cap] 34)).heap.size) := by show _ ≤ _; simp; omega
      clear hb1
      go_upto_if 15 with fail
      go_cut [] (fun wc => Hid (Built wc w.heap.size w.heap.size (o ++ sepC k) ∧ Below w.heap.size w wc) ∧ wc.heap[wr.heap.size]? = some (.cells #[.string c.x.scheme, .string c.x.token, .slice c.a c.len c.cap] 34 (0, 0)) ∧ w.heap.size ≤ wc.heap.size)
      case first =>
        by_cases h0 : k = 0
        · have HSP : Hid (sepC k = []) := by show _ = _; rw [h0]; rfl
          have hk0 : decide (0 < k) = false := by simp; omega
          rw [hk0]
          go_wp2
          go_meet
          exact ⟨⟨by rw [HSP.out, List.append_nil]; exact HI1.out.1, HI1.out.2⟩, HBOX1.out, HZ1.out⟩
        · have HSP : Hid (sepC k = [44, 32]) := by show _ = _; unfold sepC; rw [if_neg h0]
          have hk0 : decide (0 < k) = true := by simp; omega
          rw [hk0]
          go_wp2_with fail
          refine (bdk_write _ _ _ ⟨#[44, 32]⟩ _ HI1.out.1 (by have := HW.out; have : (⟨#[44, 32]⟩ : ByteArray).size = 2 := rfl; omega) HZ1.out).mono ?_
          rintro e w2 ⟨rfl, hw2, hb2, ho2⟩
          have HI2 : Hid (Built w2 w.heap.size w.heap.size (o ++ sepC k) ∧ Below w.heap.size w w2) := ⟨by rw [HSP.out]; exact hw2, HI1.out.2.trans hb2⟩
          have HBX2 : Hid (w2.heap[wr.heap.size]? = some (.cells #[.string c.x.scheme, .string c.x.token, .slice c.a c.len c.cap] 34 (0, 0))) := kept_cells ho2 HBOX1.out (by decide) (by omega)
          have HZ2 : Hid (w.heap.size ≤ w2.heap.size) := Nat.le_trans HZ1.out hb2.size
          clear hw2 hb2 ho2
          go_wp2
          go_meet
          exact ⟨HI2, HBX2.out, HZ2.out⟩
      case rest =>
        obtain ⟨HI3, hbox3, hz3⟩ := hcut
        have hd0 := cells_of hbox3 0 _ rfl
        have hd1 := cells_of hbox3 1 _ rfl
        have hd2 := cells_of hbox3 2 _ rfl
        clear hbox3
        have hwr : Calls Tryz.prog 33 #[.pointer (some ⟨w.heap.size, 0, none⟩), .agg #[.string c.x.scheme, .string c.x.token, .slice c.a c.len c.cap]] wc fun e w' => WrtAns c w.heap.size w.heap.size (o ++ sepC k) e w' ∧ Below w.heap.size wc w' :=
          write_any c HSC.out.1 HSC.out.2 _ _ _ (by
            have h1 := HW.out
            have h2 : (sepC k).length ≤ 2 := by unfold sepC; split <;> simp
            rw [List.length_append]
            omega) _ HI3.out.1 hz3 (HXC.out.1.below HI3.out.2) HXC.out.2
        go_wp2_with fail
        refine hwr.mono ?_
        rintro e w4 ⟨⟨t, ht, rfl, hw4⟩ | ⟨ht, rfl⟩, hb4⟩
        · have HN : Hid (PrintAt (xsOf cs) (o ++ (sepC k ++ t)) (k + 1)) := printAt_next HI.out.1 (xsOf_at HC.out) ht
          have HNL : Hid ((o ++ (sepC k ++ t)).length ≤ prtW ((xsOf cs).take (k + 1))) := by
            show _ ≤ _
            have h1 := HI.out.2.1
            have h2 := prtW_snoc _ _ _ (xsOf_at HC.out)
            have h3 := chalT_len _ _ ht
            have h4 : (sepC k).length ≤ 2 := by unfold sepC; split <;> simp
            rw [List.length_append, List.length_append]
            omega
          have HI4 : Hid (Built w4 w.heap.size w.heap.size (o ++ (sepC k ++ t)) ∧ Below w.heap.size w w4) := ⟨by rw [← List.append_assoc]; exact hw4, HI3.out.2.trans hb4⟩
          clear ht hw4 hb4 hwr
          go_wp2
          go_roundw
          case rel => exact ⟨k + 1, _, by omega, by go_num, ⟨HN.out, HNL.out, HI4.out.1, HI4.out.2⟩⟩
          case measure => simp [intOf]; omega
        · have HA : Hid (printL 0 (xsOf cs) = .error k) := printAt_bad HI.out.1 (xsOf_at HC.out) ht
          have HB4 : Hid (Below w.heap.size w w4) := HI3.out.2.trans hb4
          clear ht hb4 hwr
          go_wp2
          go_ret2
          exact ⟨.inr ⟨k, _, HA, rfl, cells_new _ _ _ 0, cells_new _ _ _ 1, HB4.out.size, by simp⟩, HB4.out.alloc HB4.out.size _⟩
    · have HA : Hid (printL 0 (xsOf cs) = .ok o) := printAt_end HI.out.1 (by unfold xsOf; simp; omega)
      have HAL : Hid (o.length ≤ prtW (xsOf cs)) := Nat.le_trans HI.out.2.1 (prtW_take _ _)
      go_wp2_with fail
      refine (bdk_string _ _ _ _ HI.out.2.2.1 (Nat.le_of_lt hwz)).mono ?_
      rintro e w2 ⟨rfl, hb2⟩
      have HB2 : Hid (Below w.heap.size w w2) := HI.out.2.2.2.trans hb2
      obtain ⟨so, HSO⟩ : ∃ so, Hid (bs o = so) := ⟨_, rfl⟩
      rw [HSO.out]
      go_wp2
      go_ret2
      exact ⟨.inl ⟨o, HA, HAL, by rw [HSO.out]; rfl⟩, HB2⟩
end Go.Proofs.YtlmfhbffknganaaGreatDoor
