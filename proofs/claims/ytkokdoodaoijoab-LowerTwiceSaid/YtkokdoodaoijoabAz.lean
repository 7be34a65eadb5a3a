/- No rune but a great letter of ASCII is found among the 26 great letters, by the library's own search. -/
import Derived.Test.YtkokdoodaoijoabIx
import Derived.Test.YtkokdoodaoijoabShelf
import Derived.Lib.OthersKept
import Derived.Laws.RangeAny
import Derived.Laws.Runes
import Derived.Deep.QuietTactic
import Derived.BigQuiet
import Derived.WalkMore
import Derived.WalkSmall
import Derived.Deep.LoopGhost
namespace Go.Proofs.Ytkokdoodaoijoab
open Go.RowKit

def azL : List UInt8 := [65, 66, 67, 68, 69, 70, 71, 72, 73, 74, 75, 76, 77, 78, 79, 80, 81, 82, 83, 84, 85, 86, 87, 88, 89, 90]
theorem azL_iff (c : UInt8) : c ∈ azL ↔ 65 ≤ c.toNat ∧ c.toNat ≤ 90 := by
  have : ∀ c : Fin 256, (UInt8.ofNat c.val) ∈ azL ↔ 65 ≤ c.val ∧ c.val ≤ 90 := by decide +kernel
  have h := this ⟨c.toNat, c.toNat_lt⟩
  simpa using h
/-- Where a byte isn't in a text it is not found. -/
theorem ix_no (s : ByteArray) (n : Int) (h0 : 0 ≤ n) (h1 : n < 256) (hn : UInt8.ofNat n.toNat ∉ s.data.toList) (w : World) :
    Calls Try.prog 15 #[.string s, .int .u8 n] w fun e w' => e = .returned (.int .i64 (-1)) ∧ w' = w := by
  refine (ix_of s (UInt8.ofNat n.toNat) n (ofNat_back n h0 h1).symm w).mono ?_
  rintro e w' ⟨rfl, rfl⟩
  rcases ixOf_cases s.data.toList (UInt8.ofNat n.toNat) with ⟨h, _⟩ | ⟨k, hk, _, he⟩
  · rw [h]; exact ⟨rfl, rfl⟩
  · refine absurd ?_ hn
    rw [← he, List.getD_eq_getElem?_getD, List.getElem?_eq_getElem hk]
    exact List.getElem_mem hk
theorem az_no (n : Int) (h0 : 0 ≤ n) (h1 : n < 256) (hn : ¬ (65 ≤ n ∧ n ≤ 90)) (w : World) :
    Calls Try.prog 15 #[.string { data := #[65, 66, 67, 68, 69, 70, 71, 72, 73, 74, 75, 76, 77, 78, 79, 80, 81, 82, 83, 84, 85, 86, 87, 88, 89, 90] }, .int .u8 n] w fun e w' => e = .returned (.int .i64 (-1)) ∧ w' = w := by
  refine ix_no _ n h0 h1 ?_ w
  show _ ∉ azL
  rw [azL_iff]
  have := ofNat_back n h0 h1
  omega

set_option maxHeartbeats 800000 in
set_option maxRecDepth 100000 in
theorem irune_small (r : Int) (h0 : 0 ≤ r) (h1 : r < 128) (hn : ¬ (65 ≤ r ∧ r ≤ 90)) (w : World) :
    Calls Try.prog 20 #[.string { data := #[65, 66, 67, 68, 69, 70, 71, 72, 73, 74, 75, 76, 77, 78, 79, 80, 81, 82, 83, 84, 85, 86, 87, 88, 89, 90] }, .int .i32 r] w fun e w' => e = .returned (.int .i64 (-1)) ∧ Below w.heap.size w w' := by
  have HN : Hid (¬ (65 ≤ r ∧ r ≤ 90)) := hn
  clear hn
  go_enter Try.func20, Try.ntmps20
  go_wp2_with (go_at_call 15; refine (az_no _ h0 (by omega) HN.out _).mono ?_; rintro e w1 ⟨rfl, rfl⟩)
  go_ret
  exact ⟨rfl, Below.refl _ _⟩

set_option maxHeartbeats 800000 in
set_option maxRecDepth 100000 in
theorem irune_wrong (r : Int) (h0 : 128 ≤ r) (h1 : r ≤ 2147483647) (hn : (55296 ≤ r ∧ r ≤ 57343) ∨ 1114111 < r) (w : World) :
    Calls Try.prog 20 #[.string { data := #[65, 66, 67, 68, 69, 70, 71, 72, 73, 74, 75, 76, 77, 78, 79, 80, 81, 82, 83, 84, 85, 86, 87, 88, 89, 90] }, .int .i32 r] w fun e w' => e = .returned (.int .i64 (-1)) ∧ Below w.heap.size w w' := by
  have h3 : (r == 65533) = false := by simp; omega
  rcases hn with ⟨h4, h5⟩ | h4
  · go_enter Try.func20, Try.ntmps20
    go_wp2
    go_ret
    exact ⟨rfl, Below.refl _ _⟩
  · go_enter Try.func20, Try.ntmps20
    go_wp2
    go_ret
    exact ⟨rfl, Below.refl _ _⟩

theorem quiet_more {P : Program} {f : FuncId} {args : Array Value} {w : World} {m n : Nat} {v : Value} (h : Calls P f args (w.drewN (m + n)) fun e w' => e = .returned v ∧ w' = w.drewN (m + n)) : Calls P f args (w.drewN (m + n)) fun e w'' => e = .returned v ∧ ∃ k, w'' = w.drewN (m + k) :=
  h.mono fun _ _ ⟨he, hm⟩ => ⟨he, n, hm⟩
theorem ext_no (a b : Nat) (d : UInt8) (h : 128 ≤ d.toNat) : UInt8.ofNat ((d.toNat : Int)).toNat ∉ (({ data := #[65, 66, 67, 68, 69, 70, 71, 72, 73, 74, 75, 76, 77, 78, 79, 80, 81, 82, 83, 84, 85, 86, 87, 88, 89, 90] } : ByteArray).extract a b).data.toList := by
  rw [Lib.extract_data]
  intro hm
  have h1 : UInt8.ofNat ((d.toNat : Int)).toNat ∈ azL := List.mem_of_mem_drop (List.mem_of_mem_take hm)
  rw [azL_iff] at h1
  have : (UInt8.ofNat ((d.toNat : Int)).toNat).toNat = d.toNat := by simp
  omega

set_option maxHeartbeats 1600000 in
set_option maxRecDepth 100000 in
theorem irune_great (r : Int) (h0 : 128 ≤ r) (h1 : r < 55296 ∨ (57343 < r ∧ r ≤ 1114111)) (hne : ¬ r = 65533) (w : World) :
    Calls Try.prog 20 #[.string { data := #[65, 66, 67, 68, 69, 70, 71, 72, 73, 74, 75, 76, 77, 78, 79, 80, 81, 82, 83, 84, 85, 86, 87, 88, 89, 90] }, .int .i32 r] w fun e w' => e = .returned (.int .i64 (-1)) ∧ Below w.heap.size w w' := by
  have h3 : (r == 65533) = false := by simpa using hne
  have hv : Utf8.valid r = true := by
    unfold Utf8.valid
    simp
    omega
  obtain ⟨e1, e2, e3⟩ := encode_facts r hv h0
  obtain ⟨t, ht⟩ : ∃ t : ByteArray, Utf8.encode r = t := ⟨_, rfl⟩
  rw [ht] at e1 e2 e3
  clear hv hne
  obtain ⟨d, hd, hd2⟩ : ∃ d : UInt8, t[t.size - 1]'(by omega) = d ∧ 128 ≤ d.toNat := ⟨_, rfl, e3 (by omega)⟩
  clear e3
  have hd3 : (128 : Int) ≤ (d.toNat : Int) := by omega
  have hd4 : (d.toNat : Int) < 256 := by have := d.toNat_lt; omega
  have HX : Hid (∀ a b : Nat, UInt8.ofNat ((d.toNat : Int)).toNat ∉ (({ data := #[65, 66, 67, 68, 69, 70, 71, 72, 73, 74, 75, 76, 77, 78, 79, 80, 81, 82, 83, 84, 85, 86, 87, 88, 89, 90] } : ByteArray).extract a b).data.toList) := fun a b => ext_no a b d hd2
  obtain hz | hz | hz : t.size = 2 ∨ t.size = 3 ∨ t.size = 4 := by omega
  · have hz2 : (t.size : Int) = 2 := by omega
    have hd' : t[1]'(by omega) = d := by rw [← hd]; congr 1; omega
    have hA : (({ data := #[65, 66, 67, 68, 69, 70, 71, 72, 73, 74, 75, 76, 77, 78, 79, 80, 81, 82, 83, 84, 85, 86, 87, 88, 89, 90] } : ByteArray)[1]'(by decide)).toNat = 66 := rfl
    have hneq : ((66 : Int) != (d.toNat : Int)) = true := by simp; omega
    clear hd e1 e2 hd2
    rcases h1 with h1 | ⟨h1, h1'⟩
    all_goals
      go_enter Try.func20, Try.ntmps20
      go_wp2
      go_step3
      go_wp2
      refine wp_loop_rounds 1 ?_
      rw [rounds_succ]
      go_wp2
      go_step3
      go_wp2
      go_quiet (fail)
      go_wp2
      go_quiet ((go_at_call 15; exact quiet_more (ix_no _ _ (by omega) hd4 (HX.out _ _) _)))
      go_wp2
      rw [Exit.noGoto_ret]
      go_wp2
      rw [Exit.noGoto_ret]
      go_ret
      exact ⟨rfl, below_drewN (Below.refl _ _) _⟩
  · have hz2 : (t.size : Int) = 3 := by omega
    have hd' : t[2]'(by omega) = d := by rw [← hd]; congr 1; omega
    have hA : (({ data := #[65, 66, 67, 68, 69, 70, 71, 72, 73, 74, 75, 76, 77, 78, 79, 80, 81, 82, 83, 84, 85, 86, 87, 88, 89, 90] } : ByteArray)[2]'(by decide)).toNat = 67 := rfl
    have hneq : ((67 : Int) != (d.toNat : Int)) = true := by simp; omega
    clear hd e1 e2 hd2
    rcases h1 with h1 | ⟨h1, h1'⟩
    all_goals
      go_enter Try.func20, Try.ntmps20
      go_wp2
      go_step3
      go_wp2
      refine wp_loop_rounds 1 ?_
      rw [rounds_succ]
      go_wp2
      go_step3
      go_wp2
      go_quiet (fail)
      go_wp2
      go_quiet ((go_at_call 15; exact quiet_more (ix_no _ _ (by omega) hd4 (HX.out _ _) _)))
      go_wp2
      rw [Exit.noGoto_ret]
      go_wp2
      rw [Exit.noGoto_ret]
      go_ret
      exact ⟨rfl, below_drewN (Below.refl _ _) _⟩
  · have hz2 : (t.size : Int) = 4 := by omega
    have hd' : t[3]'(by omega) = d := by rw [← hd]; congr 1; omega
    have hA : (({ data := #[65, 66, 67, 68, 69, 70, 71, 72, 73, 74, 75, 76, 77, 78, 79, 80, 81, 82, 83, 84, 85, 86, 87, 88, 89, 90] } : ByteArray)[3]'(by decide)).toNat = 68 := rfl
    have hneq : ((68 : Int) != (d.toNat : Int)) = true := by simp; omega
    clear hd e1 e2 hd2
    rcases h1 with h1 | ⟨h1, h1'⟩
    all_goals
      go_enter Try.func20, Try.ntmps20
      go_wp2
      go_step3
      go_wp2
      refine wp_loop_rounds 1 ?_
      rw [rounds_succ]
      go_wp2
      go_step3
      go_wp2
      go_quiet (fail)
      go_wp2
      go_quiet ((go_at_call 15; exact quiet_more (ix_no _ _ (by omega) hd4 (HX.out _ _) _)))
      go_wp2
      rw [Exit.noGoto_ret]
      go_wp2
      rw [Exit.noGoto_ret]
      go_ret
      exact ⟨rfl, below_drewN (Below.refl _ _) _⟩

theorem az_at (i : Nat) (h : i < 26) : (({ data := #[65, 66, 67, 68, 69, 70, 71, 72, 73, 74, 75, 76, 77, 78, 79, 80, 81, 82, 83, 84, 85, 86, 87, 88, 89, 90] } : ByteArray)[i]'h).toNat ≤ 90 := by
  have : ∀ i : Fin 26, (({ data := #[65, 66, 67, 68, 69, 70, 71, 72, 73, 74, 75, 76, 77, 78, 79, 80, 81, 82, 83, 84, 85, 86, 87, 88, 89, 90] } : ByteArray)[i.val]'i.isLt).toNat ≤ 90 := by decide
  exact this ⟨i, h⟩

set_option maxHeartbeats 800000 in
set_option maxRecDepth 100000 in
theorem irune_err (w : World) :
    Calls Try.prog 20 #[.string ({ data := #[65, 66, 67, 68, 69, 70, 71, 72, 73, 74, 75, 76, 77, 78, 79, 80, 81, 82, 83, 84, 85, 86, 87, 88, 89, 90] } : ByteArray), .int .i32 65533] w fun e w' => e = .returned (.int .i64 (-1)) ∧ Below w.heap.size w w' := by
  go_enter Try.func20, Try.ntmps20
  go_wp2
  go_loopg [5, 6] 26 (fun g _ _ wx => ∃ i : Nat, i + g = 26 ∧ wx = w.iter ({ data := #[65, 66, 67, 68, 69, 70, 71, 72, 73, 74, 75, 76, 77, 78, 79, 80, 81, 82, 83, 84, 85, 86, 87, 88, 89, 90] } : ByteArray) i)
  case atStart => exact ⟨0, by omega, rfl⟩
  case round =>
    obtain ⟨i, hig, rfl⟩ := hrel
    cases gk with
    | zero =>
      obtain rfl : i = 26 := by omega
      have hnx := fun ty => run_next_end (P := Try.prog) w ({ data := #[65, 66, 67, 68, 69, 70, 71, 72, 73, 74, 75, 76, 77, 78, 79, 80, 81, 82, 83, 84, 85, 86, 87, 88, 89, 90] } : ByteArray) 26 ty (by decide)
      go_wp2
      go_ret
      exact ⟨rfl, (Below.refl _ _).alloc (Nat.le_refl _) _⟩
    | succ g =>
      have hi : i < 26 := by omega
      obtain ⟨x, hx⟩ : ∃ x : UInt8, ({ data := #[65, 66, 67, 68, 69, 70, 71, 72, 73, 74, 75, 76, 77, 78, 79, 80, 81, 82, 83, 84, 85, 86, 87, 88, 89, 90] } : ByteArray)[i]'hi = x := ⟨_, rfl⟩
      have hx90 : x.toNat ≤ 90 := by rw [← hx]; exact az_at i hi
      have hnx := fun ty => run_next_ascii (P := Try.prog) w ({ data := #[65, 66, 67, 68, 69, 70, 71, 72, 73, 74, 75, 76, 77, 78, 79, 80, 81, 82, 83, 84, 85, 86, 87, 88, 89, 90] } : ByteArray) i ty hi (by rw [hx]; omega)
      rw [hx] at hnx
      have hne : ((x.toNat : Int) == 65533) = false := by simp; omega
      clear hx hx90
      go_wp2
      go_roundg g
      case measure => omega
      case rel => exact ⟨i + 1, by omega, rfl⟩

theorem irune_none (r : Int) (h0 : 0 ≤ r) (hr : r ≤ 2147483647) (hn : ¬ (65 ≤ r ∧ r ≤ 90)) (w : World) :
    Calls Try.prog 20 #[.string ({ data := #[65, 66, 67, 68, 69, 70, 71, 72, 73, 74, 75, 76, 77, 78, 79, 80, 81, 82, 83, 84, 85, 86, 87, 88, 89, 90] } : ByteArray), .int .i32 r] w fun e w' => e = .returned (.int .i64 (-1)) ∧ Below w.heap.size w w' := by
  by_cases h1 : r < 128
  · exact irune_small r h0 h1 hn w
  · by_cases h2 : r = 65533
    · subst h2
      exact irune_err w
    · by_cases h3 : r < 55296 ∨ (57343 < r ∧ r ≤ 1114111)
      · exact irune_great r (by omega) h3 h2 w
      · exact irune_wrong r (by omega) hr (by omega) w
end Go.Proofs.Ytkokdoodaoijoab
