/- gatepostkeep.held: what it says of grants (from the texts up). -/
import Derived.Test.YtdnnlfklanaliabBkC
import Derived.Test.YtdnnlfklanaliabFshA
namespace Go.Proofs.Ytdnnlfklanaliab
open Go.RowKit
set_option linter.unusedVariables false

theorem heldLen (x : ByteArray) (w : World) : Calls Try.prog 28 #[.string x] w fun e w' => e = .returned (.bool (decide ((100 : Int) < (x.size : Int)))) ∧ w' = w := by
  by_cases h : (100 : Int) < (x.size : Int)
  · rw [decide_eq_true h]
    go_enter Try.func28, Try.ntmps28
    go_wp2
    go_ret
    exact ⟨rfl, rfl⟩
  · rw [decide_eq_false h]
    go_enter Try.func28, Try.ntmps28
    go_wp2
    go_ret
    exact ⟨rfl, rfl⟩
set_option maxRecDepth 100000 in
set_option maxHeartbeats 4000000 in
theorem heldIdx (p : Option Addr) (n c b off : Nat) (xs : List ByteArray) (w : World) (h : Strs w p n b off xs) (hn : n ≤ 1000) :
    Calls Try.prog 49 #[.slice p n c, .func (.func 28) #[] #[]] w fun e w' => (∃ i : Int, e = .returned (.int .i64 i) ∧ -1 ≤ i) ∧ w' = w := by
  have HS : Hid (Strs w p n b off xs) := h
  clear h
  go_enter Try.func49, Try.ntmps49
  go_wp2
  go_loopw [8] (fun i wr => ∃ k : Nat, k ≤ n ∧ i = .int .i64 k ∧ wr = w) (fun i _ => n - (intOf i).toNat)
  case atStart => exact ⟨0, Nat.zero_le _, rfl, rfl⟩
  case round =>
    obtain ⟨k, hk, rfl, hwr⟩ := hrel
    obtain rfl := hwr.symm
    by_cases hlt : k < n
    · have hkL : (k : Int) < (n : Int) := by omega
      obtain ⟨s, hs⟩ : ∃ s, xs[k]? = some s := ⟨xs[k]'(by have := HS.out.len_eq; omega), List.getElem?_eq_getElem _⟩
      obtain ⟨ha0, hbl⟩ := HS.out.lies (by omega)
      have hc1 := HS.out.cells k s hs
      have hcall := heldLen s w
      subst ha0
      by_cases hg : (100 : Int) < (s.size : Int)
      · rw [decide_eq_true hg] at hcall
        clear hs hg
        go_wp2_with fail
        refine hcall.mono ?_
        rintro e w1 ⟨rfl, hw⟩
        obtain rfl := hw.symm
        go_wp2
        go_ret
        exact ⟨⟨_, rfl, by omega⟩, rfl⟩
      · rw [decide_eq_false hg] at hcall
        clear hs hg
        go_wp2_with fail
        refine hcall.mono ?_
        rintro e w1 ⟨rfl, hw⟩
        obtain rfl := hw.symm
        go_wp2
        go_roundw
        case rel => exact ⟨k + 1, by omega, by go_num, trivial⟩
        case measure => simp [intOf]; omega
    · have hkL : ¬ (k : Int) < (n : Int) := by omega
      go_wp2
      go_ret
      exact ⟨⟨_, rfl, by omega⟩, rfl⟩
theorem heldCtn (p : Option Addr) (n c b off : Nat) (xs : List ByteArray) (w : World) (h : Strs w p n b off xs) (hn : n ≤ 1000) :
    Calls Try.prog 27 #[.slice p n c, .func (.func 28) #[] #[]] w fun e w' => (∃ t : Bool, e = .returned (.bool t)) ∧ w' = w := by
  have hi := heldIdx p n c b off xs w h hn
  clear h
  go_enter Try.func27, Try.ntmps27
  go_wp2_with fail
  refine hi.mono ?_
  rintro e w1 ⟨⟨i, rfl, hi0⟩, hw⟩
  obtain rfl := hw.symm
  by_cases h0 : 0 ≤ i
  · go_wp2
    go_ret
    exact ⟨⟨_, rfl⟩, rfl⟩
  · go_wp2
    go_ret
    exact ⟨⟨_, rfl⟩, rfl⟩
end Go.Proofs.Ytdnnlfklanaliab
