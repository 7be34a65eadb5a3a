/- A row of texts, each cloned. -/
import Derived.Test.YtdnnlfklanaliabCln2
import Derived.Test.YtdnnlfklanaliabSrs
import Derived.Test.YtdnnlfklanaliabEnt
namespace Go.Proofs.Ytdnnlfklanaliab
open Go.RowKit
set_option linter.unusedVariables false

theorem clones_enter : ∀ (args : Array Value) (w : World), (callFunc 51 args).run Try.prog w = .ok (.enter 51 args) w := enters_at Try.func51 (by kernel_rfl) rfl
set_option maxRecDepth 100000 in
set_option maxHeartbeats 2000000 in
theorem eachS_any (xs : List ByteArray) (hxs : ∀ x ∈ xs, x.size ≤ 140737488355328) (a0 : Option Addr) (len cap b off : Nat) (hlen : len ≤ 1000) (w : World) (hx : Strs w a0 len b off xs) :
    Calls Try.prog 53 #[.slice a0 len cap, .func (.func 51) #[] #[]] w fun e w' => (∃ v, e = .returned v ∧ OwnS w' w.heap.size v xs) ∧ Below w.heap.size w w' := by
  have HX : Hid (Strs w a0 len b off xs) := hx
  have HS : Hid (∀ x ∈ xs, x.size ≤ 140737488355328) := hxs
  have HL : Hid (xs.length = len) := hx.len_eq
  have hce := clones_enter
  clear hx hxs
  go_enter Try.func53, Try.ntmps53
  go_wp2
  go_loopw [5, 10] (fun o i wr => ∃ (k cap : Nat) (a : Option Addr), k ≤ len ∧ i = .int .i64 k ∧ o = .slice a k cap ∧ Hid (OwnS wr w.heap.size (.slice a k cap) (xs.take k) ∧ Below w.heap.size w wr)) (fun _ i _ => len - (intOf i).toNat)
  case atStart => exact ⟨0, 0, none, Nat.zero_le _, rfl, rfl, ⟨ownS_nil _ _, Below.refl _ _⟩⟩
  case round =>
    obtain ⟨k, cap2, a, hk, rfl, rfl, HK⟩ := hrel
    by_cases hlt : k < len
    · obtain ⟨x, hxk⟩ : ∃ x, xs[k]? = some x := ⟨xs[k]'(by have := HL.out; omega), List.getElem?_eq_getElem _⟩
      have HXK : Hid (xs[k]? = some x) := hxk
      have hX := HX.out.below HK.out.2
      obtain ⟨ha0, hbl⟩ := hX.lies (by omega)
      have hc1 := hX.cells k x hxk
      have hxs := HS.out x (List.mem_of_getElem? hxk)
      have HN : Hid ((xs.take k).length = k) := by show _ = _; rw [List.length_take]; have := HL.out; omega
      have hkL : (k : Int) < (len : Int) := by omega
      subst ha0
      clear hxk hX
      go_wp2_with (first | (go_at_call 51; refine (cloneS_any x hxs _).mono ?_; rintro e w2 ⟨rfl, hb2⟩; have HO2 : Hid (OwnS w2 w.heap.size (.slice a k cap2) (xs.take k) ∧ Below w.heap.size w w2) := ⟨HK.out.1.below hb2, HK.out.2.trans (hb2.mono HK.out.2.size)⟩; clear hb2) | (at_builtin; refine wp_apps rfl _ _ rfl w.heap.size w2 (.slice a k cap2) (xs.take k) k rfl HO2.out.1 HN.out (by omega) HO2.out.2.size x rfl ?_; intro g4 cap4 w4 hown4 hg4 hlt4; have HO4 : Hid (OwnS w4 w.heap.size (.slice (some ⟨g4, 0, none⟩) (k + 1) cap4) (xs.take (k + 1)) ∧ Below w.heap.size w w4) := ⟨(by obtain ⟨hk1, e⟩ := List.getElem?_eq_some_iff.1 HXK.out; rw [List.take_succ_eq_append_getElem hk1, e]; exact hown4), (HO2.out.2.alloc HO2.out.2.size _).grown hg4 (by have := HO2.out.2.size; simp; omega) (fun i hi => (HO2.out.1.lt _ hi).1)⟩; clear hown4 hg4 hlt4))
      go_roundw
      case rel => exact ⟨k + 1, _, _, by omega, by go_num, rfl, HO4⟩
      case measure => simp [intOf]; omega
    · have hkL : ¬ (k : Int) < (len : Int) := by omega
      have HE : Hid (OwnS wr w.heap.size (.slice a k cap2) xs ∧ Below w.heap.size w wr) := by
        have := HK.out
        rw [List.take_of_length_le (by have := HL.out; omega)] at this
        exact this
      go_wp2
      go_ret
      exact ⟨⟨_, rfl, HE.out.1⟩, HE.out.2⟩
/-- The same of a row that a call owns. -/
theorem eachS_own (xs : List ByteArray) (hxs : ∀ x ∈ xs, x.size ≤ 140737488355328) (hlen : xs.length ≤ 1000) (B : Nat) (v : Value) (w : World) (hv : OwnS w B v xs) :
    Calls Try.prog 53 #[v, .func (.func 51) #[] #[]] w fun e w' => (∃ v, e = .returned v ∧ OwnS w' w.heap.size v xs) ∧ Below w.heap.size w w' := by
  obtain ⟨a, cap, g, rfl, hs⟩ := hv.strs
  exact eachS_any xs hxs a _ cap g 0 hlen w hs
end Go.Proofs.Ytdnnlfklanaliab
