/- What stands ahead of a text's first mark, and behind it, by the library. -/
import Derived.Test.YtoblpjknnchlmabGreatDoorIxo
import Derived.Deep.QuietTactic
import Derived.BigQuiet
namespace Go.Proofs.YtoblpjknnchlmabGreatDoor
open Go.RowKit Go.Shelf

/-- A text ahead of its first mark, and behind it; whether there is one. -/
def cutL (c : UInt8) : List UInt8 → List UInt8 × List UInt8 × Bool
  | [] => ([], [], false)
  | b :: t => if b = c then ([], t, true) else (b :: (cutL c t).1, (cutL c t).2.1, (cutL c t).2.2)
theorem cutL_none (c : UInt8) : ∀ l, c ∉ l → cutL c l = (l, [], false)
  | [], _ => rfl
  | b :: t, h => by
    have h1 : b ≠ c := fun e => h (by simp [e])
    rw [cutL, if_neg h1, cutL_none c t (fun e => h (by simp [e]))]
theorem cutL_some (c : UInt8) (b : List UInt8) : ∀ a, c ∉ a → cutL c (a ++ c :: b) = (a, b, true)
  | [], _ => by simp [cutL]
  | x :: a, h => by
    have h1 : x ≠ c := fun e => h (by simp [e])
    rw [List.cons_append, cutL, if_neg h1, cutL_some c b a (fun e => h (by simp [e]))]
theorem cutBelow {B : Nat} {a w : World} (h : Below B a w) (n : Nat) : Below B a (w.drewN n) := h.trans ⟨rfl, rfl, rfl, Nat.le_refl _, fun _ _ => rfl⟩
set_option maxHeartbeats 1000000 in
theorem cut_any (s : ByteArray) (c : UInt8) (hs : s.size ≤ 5000) (w : World) :
    Calls Tryz.prog 29 #[.string s, .string ⟨#[c]⟩] w fun e w' => ∃ (a b : ByteArray) (f : Bool), e = .returned (.tuple #[.string a, .string b, .bool f]) ∧ a.size ≤ s.size ∧ b.size ≤ s.size ∧ Hid (cutL c s.data.toList = (a.data.toList, b.data.toList, f)) ∧ Below w.heap.size w w' := by
  rcases ixOf_first s.data.toList c with ⟨hi, hno⟩ | ⟨k, hk, hi, hno, hsp⟩
  · have HE : Hid (cutL c s.data.toList = (s.data.toList, [], false)) := cutL_none c _ hno
    clear hno
    have hin : ∀ w, Calls Tryz.prog 55 #[.string s, .string ⟨#[c]⟩] w fun e w' => e = .returned (.tuple #[.string s, .string ⟨#[]⟩, .bool false]) ∧ w' = w := by
      intro w
      go_enter Tryz.func55, Tryz.ntmps55
      go_wp2_with (go_at_call 89; refine (index_at s c _).mono ?_; rintro e w' ⟨rfl, rfl⟩)
      (try simp only [Exit.inBlock, Exit.then])
      refine bodyPost_ret (results_tmp3 rfl _ _ _) rfl ⟨rfl, rfl⟩
    go_enter Tryz.func29, Tryz.ntmps29
    go_wp2_with (go_at_call 55; refine (hin _).mono ?_; rintro e w' ⟨rfl, rfl⟩)
    (try simp only [Exit.inBlock, Exit.then])
    refine bodyPost_ret (results_tmp3 rfl _ _ _) rfl ⟨s, ⟨#[]⟩, false, rfl, Nat.le_refl _, Nat.zero_le _, HE, Below.refl _ _⟩
  · have hk' : k < s.size := by simpa using hk
    have HE : Hid (cutL c s.data.toList = ((s.extract 0 k).data.toList, (s.extract (k + 1) s.size).data.toList, true)) := by
      show _ = _
      rw [upto_data, from_data]
      conv => lhs; rw [hsp]
      exact cutL_some c _ _ hno
    clear hno hsp hk
    have hin : ∀ w, Calls Tryz.prog 55 #[.string s, .string ⟨#[c]⟩] w fun e w' => e = .returned (.tuple #[.string (s.extract 0 k), .string (s.extract (k + 1) s.size), .bool true]) ∧ Below w.heap.size w w' := by
      intro w
      have b1 : (0 : Int) ≤ (k : Int) := by omega
      have b2 : (k : Int) ≤ (s.size : Int) := by omega
      have b3 : (k : Int) + 1 ≤ (s.size : Int) := by omega
      have b4 : (0 : Int) ≤ (k : Int) + 1 := by omega
      have b5 : IntKind.i64.wrap ((k : Int) + 1) = (k : Int) + 1 := IntWalk.i64_in _ ⟨by omega, by omega⟩
      go_enter Tryz.func55, Tryz.ntmps55
      go_wp2_with (go_at_call 89; refine (index_at s c _).mono ?_; rintro e w' ⟨rfl, rfl⟩)
      go_quiet (fail)
      go_wp2
      (try simp only [Exit.inBlock, Exit.then])
      refine bodyPost_ret (results_tmp3 rfl _ _ _) rfl ⟨rfl, cutBelow (Below.refl _ _) _⟩
    go_enter Tryz.func29, Tryz.ntmps29
    go_wp2_with (go_at_call 55; refine (hin _).mono ?_; rintro e w' ⟨rfl, hb⟩)
    (try simp only [Exit.inBlock, Exit.then])
    refine bodyPost_ret (results_tmp3 rfl _ _ _) rfl ⟨_, _, true, rfl, by simp; omega, by simp, HE, hb⟩

end Go.Proofs.YtoblpjknnchlmabGreatDoor
