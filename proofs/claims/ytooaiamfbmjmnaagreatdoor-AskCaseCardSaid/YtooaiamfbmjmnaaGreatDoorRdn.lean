/- The reader's names, values and tokens, by the program. -/
import Derived.Test.YtooaiamfbmjmnaaGreatDoorRdr
namespace Go.Proofs.YtooaiamfbmjmnaaGreatDoor
open Go.RowKit

theorem markL_cons (t : List UInt8) : markL (61 :: t) = some t := rfl
theorem markL_no (r : List UInt8) (h : ∀ t, r ≠ 61 :: t) : markL r = none := by
  cases r with
  | nil => rfl
  | cons c t =>
    rw [markL, if_neg]
    intro e
    exact h t (by rw [e])
/-- What the reader's name answers. -/
def NmAns (b : Nat) (s : ByteArray) (r : List UInt8) (e : Ending) (w' : World) : Prop :=
  (∃ (n : ByteArray) (t : List UInt8), nameL r = some (n, t) ∧ n.size ≤ 3000 ∧ e = .returned (.tuple #[.string n, .bool true]) ∧ CurR w' b s t) ∨
  (nameL r = none ∧ (∃ n : ByteArray, e = .returned (.tuple #[.string n, .bool false])) ∧ CurR w' b s (nameE r))
set_option maxRecDepth 100000 in
set_option maxHeartbeats 2000000 in
theorem name_any (b : Nat) (s : ByteArray) (hs : s.size ≤ 3000) (r : List UInt8) (w : World) (hc : CurR w b s r) :
    Calls Tryz.prog 141 #[.agg #[.pointer (some ⟨b, 0, none⟩), .string s]] w fun e w' => NmAns b s r e w' ∧ w.grownBy w' (some b) := by
  have hbl := hc.lt
  have hrl := hc.len
  have hrun := runL_le tokB r
  have HC1 : Hid (CurR (w.alloc (.cells #[.pointer (some ⟨b, 0, none⟩), .string s] 79)) b s r) := hc.below ((Below.refl _ _).alloc (Nat.le_refl _) _)
  have HG1 : Hid (w.grownBy (w.alloc (.cells #[.pointer (some ⟨b, 0, none⟩), .string s] 79)) (some b)) := grown_alloc _ _ _
  have hne : some w.heap.size ≠ some b := by intro e; injection e with e; omega
  clear hc
  go_enter Tryz.func141, Tryz.ntmps141
  go_wp2_with fail
  refine (rd_word b s hs r _ HC1.out).mono ?_
  rintro e w2 ⟨t, rfl, htz, HT, hc2, hg2⟩
  obtain ⟨hx0, hx1⟩ := box_reader hg2 hne
  have HC2 : Hid (CurR w2 b s (r.dropWhile tokB) ∧ (w.alloc (.cells #[.pointer (some ⟨b, 0, none⟩), .string s] 79)).grownBy w2 (some b)) := ⟨hc2, hg2⟩
  have ht3 : t.size ≤ 3000 := by omega
  clear hc2 hg2 HC1
  by_cases h0 : r.takeWhile tokB = []
  · have HN : Hid (nameL r = none ∧ nameE r = r) := by unfold nameL nameE; rw [if_pos h0, if_pos h0]; exact ⟨rfl, rfl⟩
    have HD : Hid (r.dropWhile tokB = r) := run_zero r tokB (by unfold runL; rw [h0]; simp)
    have ht0 : t.size = 0 := by rw [htz]; unfold runL; rw [h0]; rfl
    obtain rfl : t = ⟨#[]⟩ := ByteArray.ext (Array.eq_empty_of_size_eq_zero ht0)
    clear h0 htz
    go_wp2
    go_ret2
    exact ⟨.inr ⟨HN.out.1, ⟨_, rfl⟩, by rw [HN.out.2, ← HD.out]; exact HC2.out.1⟩, grown_trans HG1.out HC2.out.2⟩
  · have HN0 : Hid (r.takeWhile tokB ≠ []) := h0
    have hte : t.toList.isEmpty = false := by
      rw [HT.out, ByteArray.toList_eq, bs_data]
      cases h : r.takeWhile tokB with
      | nil => exact absurd h h0
      | cons x y => rfl
    clear h0 htz
    go_wp2_with fail
    refine (rd_blanks b s hs _ _ HC2.out.1).mono ?_
    rintro e w3 ⟨rfl, hc3, hg3⟩
    have HC3 : Hid (CurR w3 b s ((r.dropWhile tokB).dropWhile blankB) ∧ (w.alloc (.cells #[.pointer (some ⟨b, 0, none⟩), .string s] 79)).grownBy w3 (some b)) := ⟨hc3, grown_trans HC2.out.2 hg3⟩
    obtain ⟨hy0, hy1⟩ := box_reader HC3.out.2 hne
    clear hc3 hg3 hx0 hx1 HC2
    by_cases hm : ∃ u, (r.dropWhile tokB).dropWhile blankB = 61 :: u
    · obtain ⟨u, hu⟩ := hm
      have HN : Hid (nameL r = some (t, u)) := by show _ = _; unfold nameL; rw [if_neg HN0.out, hu, markL_cons, HT.out]; rfl
      rw [hu] at HC3
      clear hu
      go_wp2_with fail
      refine (rd_mark_yes b s hs 61 u _ HC3.out.1).mono ?_
      rintro e w4 ⟨rfl, hc4, hg4⟩
      have HC4 : Hid (CurR w4 b s u ∧ w.grownBy w4 (some b)) := ⟨hc4, grown_trans HG1.out (grown_trans HC3.out.2 hg4)⟩
      clear hc4 hg4
      go_wp2
      go_ret2
      exact ⟨.inl ⟨t, u, HN, ht3, rfl, HC4.out.1⟩, HC4.out.2⟩
    · have HN : Hid (nameL r = none ∧ nameE r = (r.dropWhile tokB).dropWhile blankB) := by unfold nameL nameE; rw [if_neg HN0.out, if_neg HN0.out, markL_no _ (fun u e => hm ⟨u, e⟩)]; exact ⟨rfl, rfl⟩
      go_wp2_with fail
      refine (rd_mark_no b s 61 _ (fun u e => hm ⟨u, e⟩) _ HC3.out.1).mono ?_
      rintro e w4 ⟨rfl, q, rfl⟩
      go_wp2
      go_ret2
      exact ⟨.inr ⟨HN.out.1, ⟨t, rfl⟩, by rw [HN.out.2]; exact HC3.out.1.drewN _⟩, grown_trans HG1.out (grown_trans HC3.out.2 (grown_drewN _ _ _))⟩
set_option maxRecDepth 100000 in
set_option maxHeartbeats 2000000 in
theorem nameAhead_any (b : Nat) (s : ByteArray) (hs : s.size ≤ 3000) (r : List UInt8) (w : World) (hc : CurR w b s r) :
    Calls Tryz.prog 121 #[.agg #[.pointer (some ⟨b, 0, none⟩), .string s]] w fun e w' => e = .returned (.bool (nameL r).isSome) ∧ CurR w' b s r ∧ w.grownBy w' (some b) := by
  have hbl := hc.lt
  have HSF : Hid (r <:+ s.data.toList) := hc.2
  have HC1 : Hid (CurR (w.alloc (.cells #[.pointer (some ⟨b, 0, none⟩), .string s] 79)) b s r) := hc.below ((Below.refl _ _).alloc (Nat.le_refl _) _)
  have HG1 : Hid (w.grownBy (w.alloc (.cells #[.pointer (some ⟨b, 0, none⟩), .string s] 79)) (some b)) := grown_alloc _ _ _
  have hne : some w.heap.size ≠ some b := by intro e; injection e with e; omega
  obtain ⟨k, HK⟩ : ∃ k, Hid (s.size - r.length = k) := ⟨_, rfl⟩
  have hat := rd_at b s r _ HC1.out
  rw [HK.out] at hat
  clear hc
  go_enter Tryz.func121, Tryz.ntmps121
  go_wp2_with (go_at_call 88; refine hat.mono ?_; rintro e w1 ⟨rfl, hw1⟩; obtain rfl := hw1.symm; clear hw1 hat)
  refine (name_any b s hs r _ HC1.out).mono ?_
  rintro e w2 ⟨hn, hg2⟩
  obtain ⟨hx0, hx1⟩ := box_reader hg2 hne
  have HG2 : Hid (w.grownBy w2 (some b)) := grown_trans HG1.out hg2
  clear hg2
  rcases hn with ⟨n, t, h1, _, rfl, hc2⟩ | ⟨h1, ⟨n, rfl⟩, hc2⟩
  · have HN : Hid ((nameL r).isSome = true) := by show _ = _; rw [h1]; rfl
    have HC2 : Hid (CurR w2 b s t) := hc2
    clear h1 hc2
    go_wp2_with fail
    refine (rd_go b s t r HSF.out _ (by rw [HK.out]) _ HC2.out).mono ?_
    rintro e w3 ⟨rfl, hc3, hg3⟩
    go_wp2
    go_ret
    exact ⟨ret_bool HN.out.symm, hc3, grown_trans HG2.out hg3⟩
  · have HN : Hid ((nameL r).isSome = false) := by show _ = _; rw [h1]; rfl
    have HC2 : Hid (CurR w2 b s (nameE r)) := hc2
    clear h1 hc2
    go_wp2_with fail
    refine (rd_go b s _ r HSF.out _ (by rw [HK.out]) _ HC2.out).mono ?_
    rintro e w3 ⟨rfl, hc3, hg3⟩
    go_wp2
    go_ret
    exact ⟨ret_bool HN.out.symm, hc3, grown_trans HG2.out hg3⟩
/-- What the reader's value answers. -/
def VlAns (b : Nat) (s : ByteArray) (r : List UInt8) (e : Ending) (w' : World) : Prop :=
  (∃ (v : ByteArray) (t : List UInt8), valueL r = some (v, t) ∧ v.size ≤ 3000 ∧ e = .returned (.tuple #[.string v, .bool true]) ∧ CurR w' b s t) ∨
  (valueL r = none ∧ e = .returned (.tuple #[.string ⟨#[]⟩, .bool false]) ∧ CurR w' b s r)
set_option maxRecDepth 100000 in
set_option maxHeartbeats 2000000 in
theorem val_any (b : Nat) (s : ByteArray) (hs : s.size ≤ 3000) (r : List UInt8) (w : World) (hc : CurR w b s r) :
    Calls Tryz.prog 142 #[.agg #[.pointer (some ⟨b, 0, none⟩), .string s]] w fun e w' => VlAns b s r e w' ∧ w.grownBy w' (some b) := by
  have hbl := hc.lt
  have hrl := hc.len
  have hrun := runL_le tokB r
  have HC1 : Hid (CurR (w.alloc (.cells #[.pointer (some ⟨b, 0, none⟩), .string s] 79)) b s r) := hc.below ((Below.refl _ _).alloc (Nat.le_refl _) _)
  have HG1 : Hid (w.grownBy (w.alloc (.cells #[.pointer (some ⟨b, 0, none⟩), .string s] 79)) (some b)) := grown_alloc _ _ _
  have hne : some w.heap.size ≠ some b := by intro e; injection e with e; omega
  clear hc
  go_enter Tryz.func142, Tryz.ntmps142
  go_wp2_with fail
  refine (rd_word b s hs r _ HC1.out).mono ?_
  rintro e w2 ⟨t, rfl, htz, HT, hc2, hg2⟩
  obtain ⟨hx0, hx1⟩ := box_reader hg2 hne
  have HC2 : Hid (CurR w2 b s (r.dropWhile tokB) ∧ w.grownBy w2 (some b)) := ⟨hc2, grown_trans HG1.out hg2⟩
  have ht3 : t.size ≤ 3000 := by omega
  clear hc2 hg2 HC1
  by_cases h0 : r.takeWhile tokB = []
  · have HN : Hid (valueL r = (quotedL r).map fun x => (bs x.1, r.drop x.2)) := by show _ = _; unfold valueL; rw [if_pos h0]
    have HD : Hid (r.dropWhile tokB = r) := run_zero r tokB (by unfold runL; rw [h0]; simp)
    have ht0 : t.size = 0 := by rw [htz]; unfold runL; rw [h0]; rfl
    obtain rfl : t = ⟨#[]⟩ := ByteArray.ext (Array.eq_empty_of_size_eq_zero ht0)
    rw [HD.out] at HC2
    clear h0 htz
    go_wp2_with fail
    refine (rd_quoted b s hs r _ HC2.out.1).mono ?_
    rintro e w3 ⟨⟨v, n, hq, rfl, hc3⟩ | ⟨hq, rfl, hc3⟩, hg3⟩
    · have HV : Hid (valueL r = some (bs v, r.drop n)) := by show _ = _; rw [HN.out, hq]; rfl
      have hvz : (bs v).size ≤ 3000 := by
        have := quoted_size _ _ _ hq
        rw [bs_size]
        omega
      have HC3 : Hid (CurR w3 b s (r.drop n) ∧ w.grownBy w3 (some b)) := ⟨hc3, grown_trans HC2.out.2 hg3⟩
      have HVZ : Hid ((bs v).size ≤ 3000) := hvz
      obtain ⟨x, HX⟩ : ∃ x, Hid (bs v = x) := ⟨_, rfl⟩
      rw [HX.out] at HV HVZ ⊢
      clear hq hc3 hg3 hvz HN
      go_wp2
      go_ret2
      exact ⟨.inl ⟨x, _, HV, HVZ, rfl, HC3.out.1⟩, HC3.out.2⟩
    · have HV : Hid (valueL r = none) := by show _ = _; rw [HN.out, hq]; rfl
      have HC3 : Hid (CurR w3 b s r ∧ w.grownBy w3 (some b)) := ⟨hc3, grown_trans HC2.out.2 hg3⟩
      clear hq hc3 hg3 HN
      go_wp2
      go_ret2
      exact ⟨.inr ⟨HV, rfl, HC3.out.1⟩, HC3.out.2⟩
  · have HN : Hid (valueL r = some (t, r.dropWhile tokB)) := by show _ = _; unfold valueL; rw [if_neg h0, HT.out]
    have hte : t.toList.isEmpty = false := by
      rw [HT.out, ByteArray.toList_eq, bs_data]
      cases h : r.takeWhile tokB with
      | nil => exact absurd h h0
      | cons x y => rfl
    clear h0 htz
    go_wp2
    go_ret2
    exact ⟨.inl ⟨t, _, HN, ht3, rfl, HC2.out.1⟩, HC2.out.2⟩
end Go.Proofs.YtooaiamfbmjmnaaGreatDoor
