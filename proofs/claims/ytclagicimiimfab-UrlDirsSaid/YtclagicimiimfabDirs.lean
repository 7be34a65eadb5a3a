/- A path's directory by the document; both are one. -/
import Derived.Test.YtclagicimiimfabDirP
namespace Go.Proofs.Ytclagicimiimfab
open Go.RowKit

theorem split_last (r : ByteArray) (h : 0 < r.size) (c : UInt8) (hc : r[r.size - 1] = c) : r.data.toList = (r.extract 0 (r.size - 1)).data.toList ++ [c] := by
  have hl : r.data.toList.length = r.size := Array.length_toList
  rw [upto_list]
  have e := take_snoc r (r.size - 1) (by omega)
  rw [hc, show r.size - 1 + 1 = r.size by omega, List.take_of_length_le (by omega)] at e
  exact e
theorem str_some (s : ByteArray) (h : 0 < s.size) : s.toList.isEmpty = false := by
  rw [ByteArray.toList_eq]
  cases e : s.data.toList with
  | nil =>
    exfalso
    have := congrArg List.length e
    rw [Array.length_toList] at this
    simp only [List.length_nil] at this
    have e2 : s.size = s.data.size := rfl
    omega
  | cons c t => rfl
set_option maxHeartbeats 1000000 in
set_option maxRecDepth 100000 in
theorem refDir_any (s : ByteArray) (hs : s.size ≤ 4000) (w : World) :
    Calls Try.prog 5 #[.string s] w fun e w' => e = .returned (.string (bs (dirL s.data.toList))) ∧ w' = w := by
  go_enter Try.func5, Try.ntmps5
  go_wp2
  go_loop [0] (fun v => ∃ r : ByteArray, v = .string r ∧ r.size ≤ s.size ∧ Hid (dirL s.data.toList = dirL r.data.toList)) (fun v => match v with | .string r => r.size | _ => 0)
  case atStart => exact ⟨s, rfl, Nat.le_refl _, rfl⟩
  case round =>
    obtain ⟨r, rfl, hr, HD⟩ := hrel
    by_cases h0 : r.size = 0
    · obtain rfl : r = ⟨#[]⟩ := by
        apply ByteArray.ext
        exact Array.eq_empty_of_size_eq_zero h0
      go_wp2
      go_ret
      exact ⟨ret_str (by rw [HD.out]; rfl), rfl⟩
    · have hpos : 0 < r.size := by omega
      have hie := str_some r hpos
      obtain ⟨c, hc⟩ : ∃ c : UInt8, r[r.size - 1] = c := ⟨_, rfl⟩
      have HS : Hid (r.data.toList = (r.extract 0 (r.size - 1)).data.toList ++ [c]) := split_last r hpos c hc
      have hwr : IntKind.i64.wrap ((r.size : Int) - 1) = ((r.size - 1 : Nat) : Int) := by rw [IntWalk.i64_in _ ⟨by omega, by omega⟩]; omega
      by_cases h47 : c = 47
      · subst h47
        have hd : bs (dirL s.data.toList) = r := by rw [HD.out, HS.out, dirL_end, ← HS.out, bs_self]
        have HB : Hid (bs (dirL s.data.toList) = r) := hd
        clear hd
        go_wp2
        go_ret
        exact ⟨ret_str HB.out.symm, rfl⟩
      · have q : ((c.toNat : Int) == 47) = false := beq_eq_false_iff_ne.2 (fun e => h47 (UInt8.toNat_inj.1 (by have : (47 : UInt8).toNat = 47 := rfl; omega)))
        have q2 : ((c.toNat : Int) != 47) = true := by rw [bne, q]; rfl
        have HN : Hid (dirL s.data.toList = dirL (r.extract 0 (r.size - 1)).data.toList) := by
          show _ = _
          rw [HD.out, HS.out, dirL_drop _ _ h47]
        clear h47
        go_wp2
        go_round
        case rel => exact ⟨_, rfl, by simp; omega, HN⟩
        case measure => simp; omega

set_option maxHeartbeats 1000000 in
set_option maxRecDepth 100000 in
theorem urlDirs_walk (s : ByteArray) (hs : s.size ≤ 140737488355328) (p : ByteArray) (hp : p.size ≤ 140737488355328) (w : World) :
    Calls Try.prog 3 #[.string s, .string p] w fun e w' => e = .returned (.bool true) ∧ Below w.heap.size w w' := by
  by_cases h1 : (300 : Int) < (s.size : Int)
  · have hd : decide ((300 : Int) < (s.size : Int)) = true := decide_eq_true h1
    go_enter Try.func3, Try.ntmps3
    go_wp2
    go_ret
    exact ⟨rfl, Below.refl _ _⟩
  · by_cases h2 : (300 : Int) < (p.size : Int)
    · go_enter Try.func3, Try.ntmps3
      go_wp2
      go_ret
      exact ⟨rfl, Below.refl _ _⟩
    · have hs' : s.size ≤ 4000 := by omega
      have hp' : p.size ≤ 4000 := by omega
      by_cases h : p.size ≤ s.size
      · have HB : Hid (begins s p = ((s.extract 0 p.size).toList == p.toList)) := by show _ = _; unfold begins; rw [decide_eq_true h]; rfl
        go_enter Try.func3, Try.ntmps3
        go_wp2_with (first
          | (go_at_call 4; refine (dir_any s _ hs').mono ?_; rintro e w1 ⟨rfl, hb1⟩)
          | (go_at_call 5; refine (refDir_any s hs' _).mono ?_; rintro e w2 ⟨rfl, rfl⟩)
          | (go_at_call 6; refine (within_p s p _).mono ?_; rintro e w3 ⟨rfl, rfl⟩; rw [HB.out]))
        go_ret
        exact ⟨by simp, hb1⟩
      · have HB : Hid (begins s p = false) := by show _ = _; unfold begins; rw [decide_eq_false h]; rfl
        go_enter Try.func3, Try.ntmps3
        go_wp2_with (first
          | (go_at_call 4; refine (dir_any s _ hs').mono ?_; rintro e w1 ⟨rfl, hb1⟩)
          | (go_at_call 5; refine (refDir_any s hs' _).mono ?_; rintro e w2 ⟨rfl, rfl⟩)
          | (go_at_call 6; refine (within_p s p _).mono ?_; rintro e w3 ⟨rfl, rfl⟩; rw [HB.out]))
        go_ret
        exact ⟨by simp, hb1⟩
end Go.Proofs.Ytclagicimiimfab
