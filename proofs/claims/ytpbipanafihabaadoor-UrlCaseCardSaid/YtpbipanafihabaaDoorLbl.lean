/- Whether a label, a host, an origin may be one, by the program. -/
import Derived.Test.YtpbipanafihabaaDoorLab
import Derived.Test.YtpbipanafihabaaDoorPcs
namespace Go.Proofs.YtpbipanafihabaaDoor
open Go.RowKit Go.Shelf

theorem tailB_eq (was : UInt8) (l : List UInt8) : tailB was l = (l.all okc && ((was :: l).getLast (by simp) != 45)) := by
  induction l generalizing was with
  | nil => simp [tailB]
  | cons c t ih =>
    rw [tailB, ih c, List.all_cons, Bool.and_assoc]
    rfl
theorem labelB_eq (l : List UInt8) (h : l ≠ []) : labelB l = (l.all okc && l.head h != 45 && l.getLast h != 45) := by
  cases l with
  | nil => exact absurd rfl h
  | cons c t =>
    rw [labelB, tailB_eq, List.all_cons, List.head_cons]
    cases okc c <;> cases c != 45 <;> cases t.all okc <;> simp
theorem data_len (s : ByteArray) : s.data.toList.length = s.size := Array.length_toList
theorem ne_nil (s : ByteArray) (h : 0 < s.size) : s.data.toList ≠ [] := by
  intro e
  have := congrArg List.length e
  rw [data_len] at this
  simp only [List.length_nil] at this
  omega
theorem labelB_empty (s : ByteArray) (h : s.size = 0) : labelB s.data.toList = false := by
  have : s.data.toList = [] := by
    apply List.eq_nil_of_length_eq_zero
    simpa using h
  rw [this]
  rfl
theorem labelB_first (s : ByteArray) (h : 0 < s.size) (e : s[0] = 45) : labelB s.data.toList = false := by
  have hne := ne_nil s h
  have : s.data.toList.head hne = 45 := by rw [← e, List.head_eq_getElem]; rfl
  rw [labelB_eq _ hne, this]
  simp
theorem labelB_last (s : ByteArray) (h : 0 < s.size) (e : s[s.size - 1] = 45) : labelB s.data.toList = false := by
  have hne := ne_nil s h
  have : s.data.toList.getLast hne = 45 := by rw [← e, List.getLast_eq_getElem]; simp; rfl
  rw [labelB_eq _ hne, this]
  simp
theorem labelB_mid (s : ByteArray) (h : 0 < s.size) (k : Nat) (hk : k < s.size) (c : UInt8) (e : s[k] = c) (hc : okc c = false) : labelB s.data.toList = false := by
  have hne := ne_nil s h
  have hm : c ∈ s.data.toList := by
    rw [← e]
    exact List.getElem_mem (l := s.data.toList) (by simpa using hk)
  have : s.data.toList.all okc = false := by
    rw [List.all_eq_false]
    exact ⟨c, hm, by rw [hc]; simp⟩
  rw [labelB_eq _ hne, this]
  simp
theorem labelB_yes (s : ByteArray) (h : 0 < s.size) (e1 : s[0] ≠ 45) (e2 : s[s.size - 1] ≠ 45) (e3 : (s.data.toList.take s.size).all okc = true) : labelB s.data.toList = true := by
  have hne := ne_nil s h
  have h1 : s.data.toList.head hne ≠ 45 := by rw [List.head_eq_getElem]; exact e1
  have h2 : s.data.toList.getLast hne ≠ 45 := by rw [List.getLast_eq_getElem]; simp only [Array.length_toList]; exact e2
  rw [List.take_of_length_le (by simp)] at e3
  rw [labelB_eq _ hne, e3, bne_iff_ne.2 h1, bne_iff_ne.2 h2]
  rfl
theorem okc_snoc (s : ByteArray) (k : Nat) (hk : k < s.size) (h : (s.data.toList.take k).all okc = true) (hc : okc s[k] = true) : (s.data.toList.take (k + 1)).all okc = true := by
  rw [take_snoc s k hk, List.all_append, h]
  simp [hc]
theorem okc_small (c : UInt8) (h1 : 97 ≤ (c.toNat : Int)) (h2 : (c.toNat : Int) ≤ 122) : okc c = true := by
  unfold okc alnum
  rw [decide_eq_true (show 97 ≤ c.toNat ∧ c.toNat ≤ 122 by omega)]
  rfl
theorem okc_digit (c : UInt8) (h1 : 48 ≤ (c.toNat : Int)) (h2 : (c.toNat : Int) ≤ 57) : okc c = true := by
  unfold okc alnum
  rw [decide_eq_true (show 48 ≤ c.toNat ∧ c.toNat ≤ 57 by omega)]
  simp
theorem okc_no (c : UInt8) (h1 : ¬ (97 ≤ (c.toNat : Int) ∧ (c.toNat : Int) ≤ 122)) (h2 : ¬ (48 ≤ (c.toNat : Int) ∧ (c.toNat : Int) ≤ 57)) (h3 : c ≠ 45) : okc c = false := by
  unfold okc alnum
  rw [decide_eq_false (show ¬ (97 ≤ c.toNat ∧ c.toNat ≤ 122) by omega), decide_eq_false (show ¬ (48 ≤ c.toNat ∧ c.toNat ≤ 57) by omega), beq_eq_false_iff_ne.2 h3]
  rfl

def isIn (a b c : Int) : Bool := decide (a ≤ c ∧ c ≤ b)
theorem isIn_yes {a b c : Int} (h1 : a ≤ c) (h2 : c ≤ b) : isIn a b c = true := decide_eq_true ⟨h1, h2⟩
theorem isIn_no {a b c : Int} (h : ¬ (a ≤ c ∧ c ≤ b)) : isIn a b c = false := decide_eq_false h
theorem small_any (c : Int) (w : World) : Calls Tryd.prog 51 #[.int .u8 c] w fun e w' => e = .returned (.bool (isIn 97 122 c)) ∧ w' = w := by
  by_cases h : 97 ≤ c
  · by_cases h2 : c ≤ 122
    · rw [isIn_yes h h2]
      go_enter Tryd.func51, Tryd.ntmps51
      go_wp2
      go_ret
      exact ⟨rfl, rfl⟩
    · rw [isIn_no (by omega)]
      go_enter Tryd.func51, Tryd.ntmps51
      go_wp2
      go_ret
      exact ⟨rfl, rfl⟩
  · rw [isIn_no (by omega)]
    go_enter Tryd.func51, Tryd.ntmps51
    go_wp2
    go_ret
    exact ⟨rfl, rfl⟩
theorem digit_any (c : Int) (w : World) : Calls Tryd.prog 53 #[.int .u8 c] w fun e w' => e = .returned (.bool (isIn 48 57 c)) ∧ w' = w := by
  by_cases h : 48 ≤ c
  · by_cases h2 : c ≤ 57
    · rw [isIn_yes h h2]
      go_enter Tryd.func53, Tryd.ntmps53
      go_wp2
      go_ret
      exact ⟨rfl, rfl⟩
    · rw [isIn_no (by omega)]
      go_enter Tryd.func53, Tryd.ntmps53
      go_wp2
      go_ret
      exact ⟨rfl, rfl⟩
  · rw [isIn_no (by omega)]
    go_enter Tryd.func53, Tryd.ntmps53
    go_wp2
    go_ret
    exact ⟨rfl, rfl⟩

theorem ne_num {c d : UInt8} (h : c ≠ d) : ((c.toNat : Int) == (d.toNat : Int)) = false :=
  beq_eq_false_iff_ne.2 (fun e => h (UInt8.toNat_inj.1 (by omega)))
theorem str_full (s : ByteArray) (h : 0 < s.size) : s.toList.isEmpty = false := by
  rw [ByteArray.toList_eq]
  cases e : s.data.toList with
  | nil => exact absurd e (ne_nil s h)
  | cons c t => rfl

set_option maxHeartbeats 1000000 in
set_option maxRecDepth 100000 in
theorem label_any (s : ByteArray) (hs : s.size ≤ 4000) (w : World) :
    Calls Tryd.prog 86 #[.string s] w fun e w' => e = .returned (.bool (labelB s.data.toList)) ∧ w' = w := by
  by_cases h0 : s.size = 0
  · rw [labelB_empty s h0]
    obtain rfl : s = ⟨#[]⟩ := by
      apply ByteArray.ext
      exact Array.eq_empty_of_size_eq_zero h0
    go_enter Tryd.func86, Tryd.ntmps86
    go_wp2
    go_ret
    exact ⟨rfl, rfl⟩
  · have hpos : 0 < s.size := by omega
    have hie := str_full s hpos
    obtain ⟨a, ha⟩ : ∃ a : UInt8, s[0] = a := ⟨_, rfl⟩
    obtain ⟨b, hb⟩ : ∃ b : UInt8, s[s.size - 1] = b := ⟨_, rfl⟩
    by_cases ha45 : a = 45
    · subst ha45
      rw [labelB_first s hpos ha]
      go_enter Tryd.func86, Tryd.ntmps86
      go_wp2
      go_ret
      exact ⟨rfl, rfl⟩
    · have ha4 : ((a.toNat : Int) == 45) = false := ne_num ha45
      have hwr : IntKind.i64.wrap ((s.size : Int) - 1) = ((s.size - 1 : Nat) : Int) := by rw [IntWalk.i64_in _ ⟨by omega, by omega⟩]; omega
      by_cases hb45 : b = 45
      · subst hb45
        rw [labelB_last s hpos hb]
        go_enter Tryd.func86, Tryd.ntmps86
        go_wp2
        go_ret
        exact ⟨rfl, rfl⟩
      · have hb4 : ((b.toNat : Int) == 45) = false := ne_num hb45
        have HA : Hid (s[0] ≠ 45) := by show ¬ _; rw [ha]; exact ha45
        have HB : Hid (s[s.size - 1] ≠ 45) := by show ¬ _; rw [hb]; exact hb45
        clear ha45 hb45
        go_enter Tryd.func86, Tryd.ntmps86
        go_wp2
        go_loop [22] (fun i => ∃ (k : Nat), k ≤ s.size ∧ i = .int .i64 k ∧ Hid ((s.data.toList.take k).all okc = true)) (fun i => s.size - (intOf i).toNat)
        case atStart => exact ⟨0, Nat.zero_le _, rfl, rfl⟩
        case round =>
          obtain ⟨k, hk, rfl, HK⟩ := hrel
          clear ha hb ha4 hb4 hwr hie
          by_cases hlt : k < s.size
          · obtain ⟨c, hcd⟩ : ∃ c : UInt8, s[k] = c := ⟨_, rfl⟩
            have hcl : (c.toNat : Int) < 256 := by have := c.toNat_lt; omega
            have HC : Hid (s[k] = c) := hcd
            by_cases h1 : 97 ≤ (c.toNat : Int) ∧ (c.toNat : Int) ≤ 122
            · have hi1 := isIn_yes h1.1 h1.2
              have HO : Hid (okc c = true) := okc_small c h1.1 h1.2
              clear h1
              go_wp2_with (first | (go_at_call 51; refine (small_any _ _).mono ?_; rintro e w' ⟨rfl, rfl⟩) | (go_at_call 53; refine (digit_any _ _).mono ?_; rintro e w' ⟨rfl, rfl⟩))
              go_round
              case rel => exact ⟨k + 1, by omega, by go_num, okc_snoc s k hlt HK (by rw [HC.out]; exact HO)⟩
              case measure => simp [intOf]; omega
            · have hi1 := isIn_no h1
              by_cases h2 : 48 ≤ (c.toNat : Int) ∧ (c.toNat : Int) ≤ 57
              · have hi2 := isIn_yes h2.1 h2.2
                have HO : Hid (okc c = true) := okc_digit c h2.1 h2.2
                clear h1 h2
                go_wp2_with (first | (go_at_call 51; refine (small_any _ _).mono ?_; rintro e w' ⟨rfl, rfl⟩) | (go_at_call 53; refine (digit_any _ _).mono ?_; rintro e w' ⟨rfl, rfl⟩))
                go_round
                case rel => exact ⟨k + 1, by omega, by go_num, okc_snoc s k hlt HK (by rw [HC.out]; exact HO)⟩
                case measure => simp [intOf]; omega
              · have hi2 := isIn_no h2
                by_cases h3 : c = 45
                · have HO : Hid (okc c = true) := by rw [h3]; rfl
                  have h4 : ((c.toNat : Int) == 45) = true := by rw [h3]; rfl
                  clear h1 h2 h3
                  go_wp2_with (first | (go_at_call 51; refine (small_any _ _).mono ?_; rintro e w' ⟨rfl, rfl⟩) | (go_at_call 53; refine (digit_any _ _).mono ?_; rintro e w' ⟨rfl, rfl⟩))
                  go_round
                  case rel => exact ⟨k + 1, by omega, by go_num, okc_snoc s k hlt HK (by rw [HC.out]; exact HO)⟩
                  case measure => simp [intOf]; omega
                · have HO : Hid (okc c = false) := okc_no c h1 h2 h3
                  have h4 : ((c.toNat : Int) == 45) = false := ne_num h3
                  clear h1 h2 h3
                  go_wp2_with (first | (go_at_call 51; refine (small_any _ _).mono ?_; rintro e w' ⟨rfl, rfl⟩) | (go_at_call 53; refine (digit_any _ _).mono ?_; rintro e w' ⟨rfl, rfl⟩))
                  go_ret
                  exact ⟨by rw [labelB_mid s hpos k hlt c HC.out HO.out]; rfl, rfl⟩
          · go_wp2
            go_ret
            exact ⟨by rw [labelB_yes s hpos HA.out HB.out (by have := HK.out; rwa [show k = s.size by omega] at this)]; rfl, rfl⟩
end Go.Proofs.YtpbipanafihabaaDoor
