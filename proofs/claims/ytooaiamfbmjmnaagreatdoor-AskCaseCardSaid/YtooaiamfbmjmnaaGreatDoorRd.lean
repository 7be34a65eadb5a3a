/- A cursor by what stands behind it. -/
import Derived.Test.YtooaiamfbmjmnaaGreatDoorCurGo
import Derived.Test.YtooaiamfbmjmnaaGreatDoorQtd
import Derived.Test.YtooaiamfbmjmnaaGreatDoorTkQ
namespace Go.Proofs.YtooaiamfbmjmnaaGreatDoor
open Go.RowKit

/-- A cursor at block b, and what stands behind it. -/
def CurR (w : World) (b : Nat) (s : ByteArray) (r : List UInt8) : Prop := Cur w b s (s.size - r.length) ∧ r <:+ s.data.toList
theorem suff_drop {r l : List UInt8} (h : r <:+ l) : l.drop (l.length - r.length) = r := by
  obtain ⟨p, rfl⟩ := h
  rw [List.length_append, Nat.add_sub_cancel, List.drop_left]
theorem suff_len {r l : List UInt8} (h : r <:+ l) : r.length ≤ l.length := h.length_le
theorem CurR.rest {w : World} {b : Nat} {s : ByteArray} {r : List UInt8} (h : CurR w b s r) : s.data.toList.drop (s.size - r.length) = r := by
  have := suff_drop h.2
  rw [len_data] at this
  exact this
theorem CurR.len {w : World} {b : Nat} {s : ByteArray} {r : List UInt8} (h : CurR w b s r) : r.length ≤ s.size := by
  have := suff_len h.2
  rw [len_data] at this
  exact this
theorem CurR.mk' {w : World} {b k : Nat} {s : ByteArray} {r r' : List UInt8} (h : r <:+ s.data.toList) (hr : r' <:+ r) (hc : Cur w b s k) (hk : k + r'.length = s.size) : CurR w b s r' := by
  refine ⟨?_, hr.trans h⟩
  rw [show s.size - r'.length = k by omega]
  exact hc
theorem CurR.grown {w w' : World} {b : Nat} {s : ByteArray} {r : List UInt8} {row : Option Nat} (h : CurR w b s r) (hg : w.grownBy w' row) (hr : some b ≠ row) : CurR w' b s r := ⟨h.1.grown hg hr, h.2⟩
theorem CurR.below {w w' : World} {b : Nat} {s : ByteArray} {r : List UInt8} (h : CurR w b s r) (hb : Below w.heap.size w w') : CurR w' b s r := ⟨h.1.below hb, h.2⟩
theorem CurR.drewN {w : World} {b : Nat} {s : ByteArray} {r : List UInt8} (h : CurR w b s r) (n : Nat) : CurR (w.drewN n) b s r := ⟨h.1.drewN n, h.2⟩
theorem CurR.lt {w : World} {b : Nat} {s : ByteArray} {r : List UInt8} (h : CurR w b s r) : b < w.heap.size := h.1.lt
theorem dw_suff (f : UInt8 → Bool) (l : List UInt8) : l.dropWhile f <:+ l := List.dropWhile_suffix f
theorem run_dw (f : UInt8 → Bool) (l : List UInt8) : runL f l + (l.dropWhile f).length = l.length := by
  have := congrArg List.length (List.takeWhile_append_dropWhile (p := f) (l := l))
  rw [List.length_append] at this
  exact this
theorem run_pos (f : UInt8 → Bool) (l : List UInt8) : 0 < runL f l ↔ l.takeWhile f ≠ [] := by
  unfold runL
  rw [List.length_pos_iff]
theorem rd_blanks (b : Nat) (s : ByteArray) (hs : s.size ≤ 3000) (r : List UInt8) (w : World) (hc : CurR w b s r) :
    Calls Tryz.prog 86 #[.pointer (some ⟨b, 0, none⟩)] w fun e w' => e = .returned (.bool (decide (0 < runL blankB r))) ∧ CurR w' b s (r.dropWhile blankB) ∧ w.grownBy w' (some b) := by
  refine (blanks_any b s (by omega) _ w hc.1).mono ?_
  rintro e w' ⟨rfl, h, hg⟩
  rw [hc.rest] at h ⊢
  refine ⟨rfl, CurR.mk' hc.2 (dw_suff _ _) h ?_, hg⟩
  have := run_dw blankB r
  have := hc.len
  omega
theorem rd_word (b : Nat) (s : ByteArray) (hs : s.size ≤ 3000) (r : List UInt8) (w : World) (hc : CurR w b s r) :
    Calls Tryz.prog 89 #[.pointer (some ⟨b, 0, none⟩)] w fun e w' => ∃ t : ByteArray, e = .returned (.string t) ∧ t.size = runL tokB r ∧ Hid (t = bs (r.takeWhile tokB)) ∧ CurR w' b s (r.dropWhile tokB) ∧ w.grownBy w' (some b) := by
  refine (word_any b s hs _ w hc.1).mono ?_
  rintro e w' ⟨t, rfl, ht, HT, h, hg⟩
  rw [hc.rest] at h ht HT
  refine ⟨t, rfl, ht, bs_of HT.out, CurR.mk' hc.2 (dw_suff _ _) h ?_, hg⟩
  have := run_dw tokB r
  have := hc.len
  omega
theorem curR_cons {w : World} {b : Nat} {s : ByteArray} {c : UInt8} {t : List UInt8} (h : CurR w b s (c :: t)) : ∃ hk : s.size - (c :: t).length < s.size, s[s.size - (c :: t).length] = c := by
  have hl := h.len
  have hk : s.size - (c :: t).length < s.size := by rw [List.length_cons] at hl ⊢; omega
  refine ⟨hk, ?_⟩
  have := h.rest
  rw [List.drop_eq_getElem_cons (by rw [len_data]; exact hk)] at this
  exact (List.cons.inj this).1
theorem rd_mark_yes (b : Nat) (s : ByteArray) (hs : s.size ≤ 3000) (c : UInt8) (t : List UInt8) (w : World) (hc : CurR w b s (c :: t)) :
    Calls Tryz.prog 87 #[.pointer (some ⟨b, 0, none⟩), .int .u8 (c.toNat : Int)] w fun e w' => e = .returned (.bool true) ∧ CurR w' b s t ∧ w.grownBy w' (some b) := by
  obtain ⟨hk, he⟩ := curR_cons hc
  refine (mark_yes b s (by omega) _ hk c he w hc.1).mono ?_
  rintro e w' ⟨rfl, h, hg⟩
  refine ⟨rfl, CurR.mk' hc.2 (List.suffix_cons c t) h ?_, hg⟩
  have := hc.len
  rw [List.length_cons] at this ⊢
  omega
theorem rd_mark_no (b : Nat) (s : ByteArray) (c : UInt8) (r : List UInt8) (hr : ∀ t, r ≠ c :: t) (w : World) (hc : CurR w b s r) :
    Calls Tryz.prog 87 #[.pointer (some ⟨b, 0, none⟩), .int .u8 (c.toNat : Int)] w fun e w' => e = .returned (.bool false) ∧ ∃ n, w' = w.drewN n := by
  cases r with
  | nil =>
    have h := hc.1
    rw [List.length_nil, Nat.sub_zero] at h
    exact mark_end b s c w h
  | cons d t =>
    obtain ⟨hk, he⟩ := curR_cons hc
    exact mark_other b s _ hk c (by rw [he]; intro e; exact hr t (by rw [e])) w hc.1
theorem rd_at (b : Nat) (s : ByteArray) (r : List UInt8) (w : World) (hc : CurR w b s r) :
    Calls Tryz.prog 88 #[.pointer (some ⟨b, 0, none⟩)] w fun e w' => e = .returned (.int .i64 ((s.size - r.length : Nat) : Int)) ∧ w' = w := at_any b s _ w hc.1
theorem rd_end (b : Nat) (s : ByteArray) (r : List UInt8) (w : World) (hc : CurR w b s r) :
    Calls Tryz.prog 52 #[.pointer (some ⟨b, 0, none⟩)] w fun e w' => e = .returned (.bool r.isEmpty) ∧ ∃ n, w' = w.drewN n := by
  refine (end_any b s _ w hc.1).mono ?_
  rintro e w' ⟨rfl, h⟩
  refine ⟨ret_bool ?_, h⟩
  have hl := hc.len
  cases r with
  | nil => simp
  | cons c t =>
    rw [List.length_cons] at hl ⊢
    rw [List.isEmpty_cons, beq_eq_false_iff_ne]
    omega
theorem rd_go (b : Nat) (s : ByteArray) (r r' : List UInt8) (hr : r' <:+ s.data.toList) (m : Int) (hm : m = ((s.size - r'.length : Nat) : Int)) (w : World) (hc : CurR w b s r) :
    Calls Tryz.prog 120 #[.pointer (some ⟨b, 0, none⟩), .int .i64 m] w fun e w' => e = .returned (.tuple #[]) ∧ CurR w' b s r' ∧ w.grownBy w' (some b) := by
  subst hm
  refine (go_any b s _ _ w hc.1).mono ?_
  rintro e w' ⟨rfl, h, hg⟩
  have hl := suff_len hr
  rw [len_data] at hl
  refine ⟨rfl, ⟨?_, hr⟩, hg⟩
  have : clampK s.size ((s.size - r'.length : Nat) : Int) = s.size - r'.length := by unfold clampK; omega
  rw [this] at h
  exact h
theorem rd_quoted (b : Nat) (s : ByteArray) (hs : s.size ≤ 3000) (r : List UInt8) (w : World) (hc : CurR w b s r) :
    Calls Tryz.prog 154 #[.pointer (some ⟨b, 0, none⟩)] w fun e w' =>
      ((∃ (t : List UInt8) (n : Nat), quotedL r = some (t, n) ∧ e = .returned (.tuple #[.string (bs t), .bool true]) ∧ CurR w' b s (r.drop n)) ∨ (quotedL r = none ∧ e = .returned (.tuple #[.string ⟨#[]⟩, .bool false]) ∧ CurR w' b s r)) ∧ w.grownBy w' (some b) := by
  refine (quoted_any b s (by omega) _ w hc.1).mono ?_
  intro e w' h
  unfold QtdAns at h
  rw [hc.rest] at h
  rcases h with ⟨t, n, h1, h2, h3, h4⟩ | ⟨h1, h2, h3, h4⟩
  · refine ⟨.inl ⟨t, n, h1, h2, CurR.mk' hc.2 (List.drop_suffix _ _) h3 ?_⟩, h4⟩
    have := (quoted_size _ _ _ h1).2
    have := hc.len
    rw [List.length_drop]
    omega
  · exact ⟨.inr ⟨h1, h2, ⟨h3, hc.2⟩⟩, h4⟩
end Go.Proofs.YtooaiamfbmjmnaaGreatDoor
