/- The text between marks at the document's cursor. -/
import Derived.Test.YtapgbckpiffgnaaDoorRCur
namespace Go.Proofs.YtapgbckpiffgnaaDoor
open Go.RowKit

/-- What is known of the whole behind i bytes: o stands there, and no stroke is ahead. -/
theorem unq_two {s : ByteArray} {o : List UInt8} {k : Nat} (h : UnqAt s.data.toList false o k) (hk : k < s.size) (e : s[k] = 92) (hk2 : k + 1 < s.size) (c : UInt8) (e2 : s[k + 1] = c) (hc : textB c = true) : UnqAt s.data.toList false (o ++ [c]) (k + 1 + 1) :=
  unq_esc1 (unq_stroke h hk e) hk2 c e2 hc
theorem quotedL_at {s : ByteArray} (h : 0 < s.size) (e : s[0] = 34) (r : ByteArray) (hr : s.extract 1 s.size = r) : quotedL s.data.toList = (unqL false r.data.toList).map fun x => (x.1, x.2 + 1) := by
  have := quotedL_mark s 0 h e
  rw [List.drop_zero] at this
  rw [this, ← hr, from_data]
theorem quotedL_no {s : ByteArray} (h : ∀ h : 0 < s.size, s[0] ≠ 34) : quotedL s.data.toList = none := by
  by_cases h0 : 0 < s.size
  · have := quotedL_other s 0 h0 (h h0)
    rw [List.drop_zero] at this
    exact this
  · have e : s.data.toList = [] := List.eq_nil_of_length_eq_zero (by rw [len_data]; omega)
    rw [e]
    rfl
def RQAns (s : ByteArray) (e : Ending) : Prop :=
  (∃ (t : List UInt8) (n : Nat), quotedL s.data.toList = some (t, n) ∧ e = .returned (.tuple #[.string (bs t), .int .i64 (n : Int)])) ∨ (quotedL s.data.toList = none ∧ e = .returned (.tuple #[.string ⟨#[]⟩, .int .i64 0]))
/-- The whole text, its first mark ahead. -/
def QAt (s : ByteArray) (o : List UInt8) (i : Nat) : Prop := ∃ h : 0 < s.size, s[0] = 34 ∧ UnqAt (s.extract 1 s.size).data.toList false o (i - 1)
theorem rest_get (s : ByteArray) (i : Nat) (hi : 1 ≤ i) (h : i < s.size) (h2 : i - 1 < (s.extract 1 s.size).size) : (s.extract 1 s.size)[i - 1] = s[i] := by
  have e : (s.extract 1 s.size).data.toList[i - 1]? = s.data.toList[i]? := by
    rw [from_data, List.getElem?_drop]
    congr 1
    omega
  have e1 : (s.extract 1 s.size).data.toList[i - 1]? = some ((s.extract 1 s.size)[i - 1]) := List.getElem?_eq_getElem (l := (s.extract 1 s.size).data.toList) (by rw [len_data]; exact h2)
  have e2 : s.data.toList[i]? = some s[i] := List.getElem?_eq_getElem (l := s.data.toList) (by rw [len_data]; exact h)
  rw [e1, e2] at e
  exact Option.some.inj e
theorem qat_rest {s : ByteArray} {o : List UInt8} {i : Nat} (h : QAt s o i) : quotedL s.data.toList = (unqL false (s.extract 1 s.size).data.toList).map fun x => (x.1, x.2 + 1) := quotedL_at h.1 h.2.1 _ rfl
theorem qat_mark {s : ByteArray} {o : List UInt8} {i : Nat} (h : QAt s o i) (hi : 1 ≤ i) (hk : i < s.size) (e : s[i] = 34) : quotedL s.data.toList = some (o, i + 1) := by
  have h2 : i - 1 < (s.extract 1 s.size).size := by rw [rest_size]; omega
  rw [qat_rest h, unq_mark h.2.2 h2 (by rw [rest_get s i hi hk h2]; exact e)]
  show some (o, i - 1 + 1 + 1) = _
  rw [show i - 1 + 1 + 1 = i + 1 by omega]
theorem qat_bad {s : ByteArray} {o : List UInt8} {i : Nat} (h : QAt s o i) (hi : 1 ≤ i) (hk : i < s.size) (c : UInt8) (e : s[i] = c) (hc : textB c = false) : quotedL s.data.toList = none := by
  have h2 : i - 1 < (s.extract 1 s.size).size := by rw [rest_size]; omega
  rw [qat_rest h, unq_bad h.2.2 h2 c (by rw [rest_get s i hi hk h2]; exact e) hc]
  rfl
theorem qat_byte {s : ByteArray} {o : List UInt8} {i : Nat} (h : QAt s o i) (hi : 1 ≤ i) (hk : i < s.size) (c : UInt8) (e : s[i] = c) (hc : textB c = true) (h1 : c ≠ 34) (h3 : c ≠ 92) : QAt s (o ++ [c]) (i + 1) := by
  have h2 : i - 1 < (s.extract 1 s.size).size := by rw [rest_size]; omega
  refine ⟨h.1, h.2.1, ?_⟩
  have := unq_byte h.2.2 h2 c (by rw [rest_get s i hi hk h2]; exact e) hc h1 h3
  rw [show i + 1 - 1 = i - 1 + 1 by omega]
  exact this
theorem qat_end {s : ByteArray} {o : List UInt8} {i : Nat} (h : QAt s o i) (hk : s.size ≤ i) : quotedL s.data.toList = none := by
  rw [qat_rest h, unq_over h.2.2 (by rw [rest_size]; omega)]
  rfl
theorem qat_strokeEnd {s : ByteArray} {o : List UInt8} {i : Nat} (h : QAt s o i) (hi : 1 ≤ i) (hk : i < s.size) (e : s[i] = 92) (hk2 : s.size ≤ i + 1) : quotedL s.data.toList = none := by
  have h2 : i - 1 < (s.extract 1 s.size).size := by rw [rest_size]; omega
  have := unq_stroke h.2.2 h2 (by rw [rest_get s i hi hk h2]; exact e)
  rw [qat_rest h, unq_over this (by rw [rest_size]; omega)]
  rfl
theorem qat_strokeBad {s : ByteArray} {o : List UInt8} {i : Nat} (h : QAt s o i) (hi : 1 ≤ i) (hk : i < s.size) (e : s[i] = 92) (hk2 : i + 1 < s.size) (c : UInt8) (e2 : s[i + 1] = c) (hc : textB c = false) : quotedL s.data.toList = none := by
  have h2 : i - 1 < (s.extract 1 s.size).size := by rw [rest_size]; omega
  have h3 : i - 1 + 1 < (s.extract 1 s.size).size := by rw [rest_size]; omega
  have := unq_stroke h.2.2 h2 (by rw [rest_get s i hi hk h2]; exact e)
  have e3 : (s.extract 1 s.size)[i - 1 + 1] = c := by
    have := rest_get s (i + 1) (by omega) hk2 (by rw [rest_size]; omega)
    rw [e2] at this
    simp only [Nat.add_sub_cancel] at this
    simp only [show i - 1 + 1 = i by omega]
    exact this
  rw [qat_rest h, unq_bad this h3 c e3 hc]
  rfl
theorem qat_two {s : ByteArray} {o : List UInt8} {i : Nat} (h : QAt s o i) (hi : 1 ≤ i) (hk : i < s.size) (e : s[i] = 92) (hk2 : i + 1 < s.size) (c : UInt8) (e2 : s[i + 1] = c) (hc : textB c = true) : QAt s (o ++ [c]) (i + 1 + 1) := by
  have h2 : i - 1 < (s.extract 1 s.size).size := by rw [rest_size]; omega
  have h3 : i - 1 + 1 < (s.extract 1 s.size).size := by rw [rest_size]; omega
  have e3 : (s.extract 1 s.size)[i - 1 + 1] = c := by
    have := rest_get s (i + 1) (by omega) hk2 (by rw [rest_size]; omega)
    rw [e2] at this
    simp only [Nat.add_sub_cancel] at this
    simp only [show i - 1 + 1 = i by omega]
    exact this
  refine ⟨h.1, h.2.1, ?_⟩
  have := unq_two h.2.2 h2 (by rw [rest_get s i hi hk h2]; exact e) h3 c e3 hc
  rw [show i + 1 + 1 - 1 = i - 1 + 1 + 1 by omega]
  exact this
theorem qat_start {s : ByteArray} (h : 0 < s.size) (e : s[0] = 34) : QAt s [] 1 := ⟨h, e, by unfold UnqAt; simp⟩
theorem one_data (s : ByteArray) (k : Nat) (h : k < s.size) (c : UInt8) (e : s[k] = c) : s.extract k (k + 1) = bs [c] := by
  rw [← bs_self (s.extract k (k + 1)), extract_data, drop_at s k h c e, Nat.add_sub_cancel_left]
  rfl
set_option maxRecDepth 100000 in
set_option maxHeartbeats 2000000 in
theorem refQuoted_any (s : ByteArray) (hs : s.size ≤ 5000) (w : World) :
    Calls Tryd.prog 36 #[.string s] w fun e w' => RQAns s e ∧ w' = w := by
  by_cases h0 : s.size = 0
  · obtain rfl : s = ⟨#[]⟩ := ByteArray.ext (Array.eq_empty_of_size_eq_zero h0)
    go_enter Tryd.func36, Tryd.ntmps36
    go_wp2
    go_ret2
    exact ⟨.inr ⟨rfl, rfl⟩, rfl⟩
  · have hpos : 0 < s.size := by omega
    have hne : s.toList.isEmpty = false := by
      rw [ByteArray.toList_eq]
      cases e : s.data.toList with
      | nil => have := len_data s; rw [e] at this; exact absurd this.symm h0
      | cons x r => rfl
    have hne2 : (s.toList == ([] : List UInt8)) = false := by
      rw [ByteArray.toList_eq]
      cases e : s.data.toList with
      | nil => have := len_data s; rw [e] at this; exact absurd this.symm h0
      | cons x r => rfl
    obtain ⟨c0, hc0⟩ : ∃ c : UInt8, s[0] = c := ⟨_, rfl⟩
    by_cases hq : c0 = 34
    · subst hq
      have HS : Hid (QAt s [] 1) := qat_start hpos hc0
      go_enter Tryd.func36, Tryd.ntmps36
      go_wp2
      go_loop [4, 5] (fun v u => ∃ (i : Nat) (o : ByteArray), 1 ≤ i ∧ i ≤ s.size ∧ u = .int .i64 i ∧ v = .string o ∧ o.size ≤ i ∧ Hid (QAt s o.data.toList i)) (fun _ u => s.size - (intOf u).toNat)
      case atStart => exact ⟨1, _, Nat.le_refl _, hpos, rfl, rfl, by decide, HS⟩
      case round =>
        obtain ⟨i, o, hi1, hiS, rfl, rfl, ho, HQ⟩ := hrel
        by_cases hlt : i < s.size
        · obtain ⟨c, hcd⟩ : ∃ c : UInt8, s[i] = c := ⟨_, rfl⟩
          have hcl : (c.toNat : Int) < 256 := by have := c.toNat_lt; omega
          by_cases h34 : c = 34
          · subst h34
            have HA : Hid (quotedL s.data.toList = some (o.data.toList, i + 1)) := qat_mark HQ hi1 hlt hcd
            go_wp2
            go_ret2
            exact ⟨.inl ⟨_, _, HA, by rw [bs_self]; push_cast; rfl⟩, rfl⟩
          · have q34 : ((c.toNat : Int) == 34) = false := beq_eq_false_iff_ne.2 fun h => h34 ((u8_is (n := 34) (by omega)).1 h)
            by_cases h92 : c = 92
            · have q92 : ((c.toNat : Int) == 92) = true := by rw [h92]; rfl
              by_cases hlt2 : i + 1 < s.size
              · obtain ⟨d, hdd⟩ : ∃ d : UInt8, s[i + 1] = d := ⟨_, rfl⟩
                have hdl : (d.toNat : Int) < 256 := by have := d.toNat_lt; omega
                have hnq : (((i : Int) + 1) == (s.size : Int)) = false := beq_eq_false_iff_ne.2 (by omega)
                have hdd' : s[i + 1] = d := hdd
                cases hf : textB d
                · have HA : Hid (quotedL s.data.toList = none) := qat_strokeBad HQ hi1 hlt (by rw [hcd, h92]) hlt2 d hdd hf
                  clear h34 h92 HQ
                  go_wp2_with (go_at_call 39; refine (refText_any d _).mono ?_; rintro e w' ⟨rfl, hw⟩; obtain rfl := hw.symm; rw [hf])
                  go_ret2
                  exact ⟨.inr ⟨HA, rfl⟩, rfl⟩
                · have HA : Hid (QAt s (o.data.toList ++ [d]) (i + 1 + 1)) := qat_two HQ hi1 hlt (by rw [hcd, h92]) hlt2 d hdd hf
                  have HX : Hid (s.extract (i + 1) (i + 1 + 1) = bs [d]) := one_data s (i + 1) hlt2 d hdd
                  clear h34 h92 HQ
                  go_wp2_with (go_at_call 39; refine (refText_any d _).mono ?_; rintro e w' ⟨rfl, hw⟩; obtain rfl := hw.symm; rw [hf])
                  go_round
                  case rel => exact ⟨i + 1 + 1, o ++ s.extract (i + 1) (i + 1 + 1), by omega, by omega, by go_num, rfl, by rw [HX.out, ByteArray.size_append]; have : (bs [d]).size = 1 := rfl; omega, by show QAt _ _ _; rw [HX.out]; simp only [ByteArray.data_append, Array.toList_append, bs_data]; exact HA⟩
                  case measure => simp [intOf]; omega
              · have hnq : (((i : Int) + 1) == (s.size : Int)) = true := by rw [beq_iff_eq]; omega
                have HA : Hid (quotedL s.data.toList = none) := qat_strokeEnd HQ hi1 hlt (by rw [hcd, h92]) (by omega)
                clear h34 h92 HQ
                go_wp2
                go_ret2
                exact ⟨.inr ⟨HA, rfl⟩, rfl⟩
            · have q92 : ((c.toNat : Int) == 92) = false := beq_eq_false_iff_ne.2 fun h => h92 ((u8_is (n := 92) (by omega)).1 h)
              cases hf : textB c
              · have HA : Hid (quotedL s.data.toList = none) := qat_bad HQ hi1 hlt c hcd hf
                clear h34 h92 HQ
                go_wp2_with (go_at_call 39; refine (refText_any c _).mono ?_; rintro e w' ⟨rfl, hw⟩; obtain rfl := hw.symm; rw [hf])
                go_ret2
                exact ⟨.inr ⟨HA, rfl⟩, rfl⟩
              · have HA : Hid (QAt s (o.data.toList ++ [c]) (i + 1)) := qat_byte HQ hi1 hlt c hcd hf h34 h92
                have HX : Hid (s.extract i (i + 1) = bs [c]) := one_data s i hlt c hcd
                clear h34 h92 HQ
                go_wp2_with (go_at_call 39; refine (refText_any c _).mono ?_; rintro e w' ⟨rfl, hw⟩; obtain rfl := hw.symm; rw [hf])
                go_round
                case rel => exact ⟨i + 1, o ++ s.extract i (i + 1), by omega, by omega, by go_num, rfl, by rw [HX.out, ByteArray.size_append]; have : (bs [c]).size = 1 := rfl; omega, by show QAt _ _ _; rw [HX.out]; simp only [ByteArray.data_append, Array.toList_append, bs_data]; exact HA⟩
                case measure => simp [intOf]; omega
        · have HA : Hid (quotedL s.data.toList = none) := qat_end HQ (by omega)
          clear HQ
          go_wp2
          go_ret2
          exact ⟨.inr ⟨HA, rfl⟩, rfl⟩
    · have q34 : ((c0.toNat : Int) == 34) = false := beq_eq_false_iff_ne.2 fun h => hq ((u8_is (n := 34) (by omega)).1 h)
      have q34' : ((c0.toNat : Int) != 34) = true := by rw [bne, q34]; rfl
      have HA : Hid (quotedL s.data.toList = none) := quotedL_no (fun _ => by rw [hc0]; exact hq)
      have hcl : (c0.toNat : Int) < 256 := by have := c0.toNat_lt; omega
      clear hq
      go_enter Tryd.func36, Tryd.ntmps36
      go_wp2
      go_ret2
      exact ⟨.inr ⟨HA, rfl⟩, rfl⟩
end Go.Proofs.YtapgbckpiffgnaaDoor
