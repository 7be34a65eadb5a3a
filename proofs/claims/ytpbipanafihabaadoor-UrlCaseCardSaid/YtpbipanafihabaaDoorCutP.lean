/- What stands ahead of a text's first mark, and behind it; the number that digits are; what may be sent: by the program. -/
import Derived.Test.YtpbipanafihabaaDoorShIdx
import Derived.Test.YtpbipanafihabaaDoorLbl
namespace Go.Proofs.YtpbipanafihabaaDoor
open Go.RowKit Go.Shelf

/-- A text ahead of its first mark, and behind it; whether there is one. -/
def cutL (c : UInt8) : List UInt8 → List UInt8 × List UInt8 × Bool
  | [] => ([], [], false)
  | b :: t => if b = c then ([], t, true) else (b :: (cutL c t).1, (cutL c t).2.1, (cutL c t).2.2)
theorem cutL_none (c : UInt8) : ∀ l, c ∉ l → cutL c l = (l, [], false)
  | [], _ => rfl
  | b :: t, h => by
    have h1 : b ≠ c := fun e => h (by simp [e])
    rw [cutL, if_neg h1, cutL_none c t (fun e => h (by simp [e]))]
theorem cutL_some (c : UInt8) (b : List UInt8) : ∀ a, c ∉ a → cutL c (a ++ c :: b) = (a, b, true)
  | [], _ => by simp [cutL]
  | x :: a, h => by
    have h1 : x ≠ c := fun e => h (by simp [e])
    rw [List.cons_append, cutL, if_neg h1, cutL_some c b a (fun e => h (by simp [e]))]
theorem cutBelow {B : Nat} {a w : World} (h : Below B a w) (n : Nat) : Below B a (w.drewN n) := h.trans ⟨rfl, rfl, rfl, Nat.le_refl _, fun _ _ => rfl⟩
theorem index_at (s : ByteArray) (c : UInt8) (w : World) :
    Calls Tryd.prog 35 #[.string s, .string ⟨#[c]⟩] w fun e w' => e = .returned (.int .i64 (ixOf s.data.toList c)) ∧ w' = w := Any.stringslite_Index_one lays219 s c w
set_option maxHeartbeats 1000000 in
theorem cut_any (s : ByteArray) (c : UInt8) (hs : s.size ≤ 5000) (w : World) :
    Calls Tryd.prog 26 #[.string s, .string ⟨#[c]⟩] w fun e w' => ∃ (a b : ByteArray) (f : Bool), e = .returned (.tuple #[.string a, .string b, .bool f]) ∧ a.size ≤ s.size ∧ b.size ≤ s.size ∧ Hid (cutL c s.data.toList = (a.data.toList, b.data.toList, f)) ∧ Below w.heap.size w w' := by
  rcases ixOf_first s.data.toList c with ⟨hi, hno⟩ | ⟨k, hk, hi, hno, hsp⟩
  · have HE : Hid (cutL c s.data.toList = (s.data.toList, [], false)) := cutL_none c _ hno
    clear hno
    have hin : ∀ w, Calls Tryd.prog 50 #[.string s, .string ⟨#[c]⟩] w fun e w' => e = .returned (.tuple #[.string s, .string ⟨#[]⟩, .bool false]) ∧ w' = w := by
      intro w
      go_enter Tryd.func50, Tryd.ntmps50
      go_wp2_with (go_at_call 35; refine (index_at s c _).mono ?_; rintro e w' ⟨rfl, rfl⟩)
      (try simp only [Exit.inBlock, Exit.then])
      refine bodyPost_ret (results_tmp3 rfl _ _ _) rfl ⟨rfl, rfl⟩
    go_enter Tryd.func26, Tryd.ntmps26
    go_wp2_with (go_at_call 50; refine (hin _).mono ?_; rintro e w' ⟨rfl, rfl⟩)
    (try simp only [Exit.inBlock, Exit.then])
    refine bodyPost_ret (results_tmp3 rfl _ _ _) rfl ⟨s, ⟨#[]⟩, false, rfl, Nat.le_refl _, Nat.zero_le _, HE, Below.refl _ _⟩
  · have hk' : k < s.size := by simpa using hk
    have HE : Hid (cutL c s.data.toList = ((s.extract 0 k).data.toList, (s.extract (k + 1) s.size).data.toList, true)) := by
      show _ = _
      rw [upto_data, from_data]
      conv => lhs; rw [hsp]
      exact cutL_some c _ _ hno
    clear hno hsp hk
    have hin : ∀ w, Calls Tryd.prog 50 #[.string s, .string ⟨#[c]⟩] w fun e w' => e = .returned (.tuple #[.string (s.extract 0 k), .string (s.extract (k + 1) s.size), .bool true]) ∧ Below w.heap.size w w' := by
      intro w
      have b1 : (0 : Int) ≤ (k : Int) := by omega
      have b2 : (k : Int) ≤ (s.size : Int) := by omega
      have b3 : (k : Int) + 1 ≤ (s.size : Int) := by omega
      have b4 : (0 : Int) ≤ (k : Int) + 1 := by omega
      have b5 : IntKind.i64.wrap ((k : Int) + 1) = (k : Int) + 1 := IntWalk.i64_in _ ⟨by omega, by omega⟩
      go_enter Tryd.func50, Tryd.ntmps50
      go_wp2_with (go_at_call 35; refine (index_at s c _).mono ?_; rintro e w' ⟨rfl, rfl⟩)
      go_quiet (fail)
      go_wp2
      (try simp only [Exit.inBlock, Exit.then])
      refine bodyPost_ret (results_tmp3 rfl _ _ _) rfl ⟨rfl, cutBelow (Below.refl _ _) _⟩
    go_enter Tryd.func26, Tryd.ntmps26
    go_wp2_with (go_at_call 50; refine (hin _).mono ?_; rintro e w' ⟨rfl, hb⟩)
    (try simp only [Exit.inBlock, Exit.then])
    refine bodyPost_ret (results_tmp3 rfl _ _ _) rfl ⟨_, _, true, rfl, by simp; omega, by simp, HE, hb⟩

/-- The number that digits are; 0: they are none, or too many. -/
def digB (c : UInt8) : Bool := decide (48 ≤ c.toNat ∧ c.toNat ≤ 57)
def valL (l : List UInt8) : Nat := l.foldl (fun n c => 10 * n + (c.toNat - 48)) 0
def numL (l : List UInt8) : Nat := if l.length ≤ 5 ∧ l.all digB then valL l else 0
theorem valL_snoc (l : List UInt8) (c : UInt8) : valL (l ++ [c]) = 10 * valL l + (c.toNat - 48) := by simp [valL]
theorem valL_lt : ∀ (n : Nat) (l : List UInt8), l.length = n → l.all digB = true → valL l < 10 ^ n := by
  intro n
  induction n with
  | zero =>
    intro l hl _
    rw [List.eq_nil_of_length_eq_zero hl]
    decide
  | succ n ih =>
    intro l hl hd
    rcases List.eq_nil_or_concat l with rfl | ⟨a, x, rfl⟩
    · simp at hl
    · rw [List.concat_eq_append] at hl hd ⊢
      have h1 := ih a (by simpa using hl) (by simp at hd; simpa using hd.1)
      have h2 : digB x = true := by simp at hd; exact hd.2
      have h3 : x.toNat ≤ 57 := (of_decide_eq_true h2).2
      rw [valL_snoc, Nat.pow_succ]
      omega
set_option maxHeartbeats 1000000 in
set_option maxRecDepth 100000 in
theorem number_any (s : ByteArray) (hs : s.size ≤ 5000) (w : World) :
    Calls Tryd.prog 45 #[.string s] w fun e w' => e = .returned (.int .i64 (numL s.data.toList : Int)) ∧ w' = w := by
  have hsl : s.data.toList.length = s.size := Array.length_toList
  by_cases h5 : s.size ≤ 5
  · go_enter Tryd.func45, Tryd.ntmps45
    go_wp2
    go_loop [3, 10] (fun v i => ∃ (k n : Nat), k ≤ s.size ∧ i = .int .i64 k ∧ v = .int .i64 (n : Int) ∧ n < 100000 ∧ (k < 5 → n < 10000) ∧ Hid (n = valL (s.data.toList.take k) ∧ (s.data.toList.take k).all digB = true)) (fun _ i => s.size - (intOf i).toNat)
    case atStart => exact ⟨0, 0, Nat.zero_le _, rfl, rfl, by omega, fun _ => by omega, ⟨rfl, rfl⟩⟩
    case round =>
      obtain ⟨k, n, hk, rfl, rfl, hn, hn5, HK⟩ := hrel
      by_cases hlt : k < s.size
      · have hn4 := hn5 (by omega)
        obtain ⟨c, hcd⟩ : ∃ c : UInt8, s[k] = c := ⟨_, rfl⟩
        have hcl : (c.toNat : Int) < 256 := by have := c.toNat_lt; omega
        have HS : Hid (s.data.toList.take (k + 1) = s.data.toList.take k ++ [c]) := by rw [← hcd]; exact take_snoc s k hlt
        by_cases h2 : 48 ≤ (c.toNat : Int) ∧ (c.toNat : Int) ≤ 57
        · have hi2 := isIn_yes h2.1 h2.2
          have hu : IntKind.u8.wrap ((c.toNat : Int) - 48) = (c.toNat : Int) - 48 := by rw [IntKind.wrap_u8]; omega
          have HN : Hid (10 * n + (c.toNat - 48) = valL (s.data.toList.take (k + 1)) ∧ (s.data.toList.take (k + 1)).all digB = true) := by
            rw [HS.out]
            refine ⟨by rw [valL_snoc, ← HK.out.1], ?_⟩
            rw [List.all_append, HK.out.2]
            simp [digB]
            omega
          have HB : Hid (k + 1 < 5 → 10 * n + (c.toNat - 48) < 10000) := by
            intro h
            have h1 := valL_lt (k + 1) _ (by simp; omega) HN.out.2
            rw [← HN.out.1] at h1
            have h3 : 10 ^ (k + 1) ≤ 10 ^ 4 := Nat.pow_le_pow_right (by decide) (by omega)
            have h4 : (10 : Nat) ^ 4 = 10000 := by decide
            omega
          have hc1 := h2.1
          have hc2 := h2.2
          clear h2
          go_wp2_with (go_at_call 53; refine (digit_any _ _).mono ?_; rintro e w' ⟨rfl, rfl⟩)
          go_round
          case rel => exact ⟨k + 1, 10 * n + (c.toNat - 48), by omega, by go_num, by congr 1; omega, by omega, HB.out, HN⟩
          case measure => simp [intOf]; omega
        · have hi2 := isIn_no h2
          have HN : Hid (numL s.data.toList = 0) := by
            show _ = _
            unfold numL
            rw [if_neg]
            rintro ⟨_, h⟩
            rw [List.all_eq_true] at h
            have h1 := h c (by rw [← hcd]; exact List.getElem_mem (l := s.data.toList) (by omega))
            have := of_decide_eq_true h1
            omega
          clear h2
          go_wp2_with (go_at_call 53; refine (digit_any _ _).mono ?_; rintro e w' ⟨rfl, rfl⟩)
          go_ret
          exact ⟨by rw [HN.out]; rfl, rfl⟩
      · have hke : k = s.size := by omega
        have HN : Hid (numL s.data.toList = n) := by
          show _ = _
          have h1 := HK.out
          rw [hke, List.take_of_length_le (by omega)] at h1
          unfold numL
          rw [if_pos ⟨by omega, h1.2⟩, h1.1]
        go_wp2
        go_ret
        exact ⟨by rw [HN.out]; rfl, rfl⟩
  · have HN : Hid (numL s.data.toList = 0) := by
      show _ = _
      unfold numL
      rw [if_neg (by omega)]
    go_enter Tryd.func45, Tryd.ntmps45
    go_wp2
    go_ret
    exact ⟨by rw [HN.out]; rfl, rfl⟩
end Go.Proofs.YtpbipanafihabaaDoor
