/- Whether a text of a row is such a one, by the library's own functions. -/
import Derived.Test.YtapgbckpiffgnacJn
import Derived.Test.YtapgbckpiffgnacTkB
namespace Go.Proofs.Ytapgbckpiffgnac
open Go.RowKit

/-- A function that says whether a text is of a kind, at these texts. -/
structure KindS (K : Nat) (f : ByteArray → Bool) (xs : List ByteArray) : Prop where
  says : ∀ x ∈ xs, ∀ w : World, Calls Try.prog K #[.string x] w fun e w' => e = .returned (.bool (f x)) ∧ w' = w
  enters : ∀ (args : Array Value) (w : World), (callFunc K args).run Try.prog w = .ok (.enter K args) w
set_option maxRecDepth 100000 in
set_option maxHeartbeats 2000000 in
theorem indexFunc_any (K : Nat) (f : ByteArray → Bool) (xs : List ByteArray) (hK : KindS K f xs) (a0 : Option Addr) (len cap b off : Nat) (hlen : len ≤ 1000000) (w : World) (hx : Strs w a0 len b off xs) :
    Calls Try.prog 30 #[.slice a0 len cap, .func (.func K) #[] #[]] w fun e w' => (∃ r : Int, e = .returned (.int .i64 r) ∧ decide (0 ≤ r) = xs.any f) ∧ w' = w := by
  have HX : Hid (Strs w a0 len b off xs) := hx
  have hl := hx.len_eq
  have HK0 : Hid (KindS K f xs) := hK
  have hen := hK.enters
  clear hK hx
  go_enter Try.func30, Try.ntmps30
  go_wp2
  go_loop [8] (fun i => ∃ (k : Nat), k ≤ len ∧ i = .int .i64 k ∧ Hid ((xs.take k).any f = false)) (fun i => len - (intOf i).toNat)
  case atStart => exact ⟨0, Nat.zero_le _, rfl, rfl⟩
  case round =>
    obtain ⟨k, hk, rfl, HK⟩ := hrel
    by_cases hlt : k < len
    · obtain ⟨x, hxk⟩ : ∃ x, xs[k]? = some x := ⟨xs[k]'(by omega), List.getElem?_eq_getElem (by omega)⟩
      have hmem := List.mem_of_getElem? hxk
      have HXK : Hid (xs[k]? = some x) := hxk
      have HM : Hid (x ∈ xs) := hmem
      obtain ⟨ha0, hbl⟩ := HX.out.lies (by omega)
      subst ha0
      have hcell : w.cell? ⟨b, off + k, none⟩ = some (.string x) := HX.out.cells k x hxk
      clear hxk hmem
      cases hf : f x
      · have HS : Hid ((xs.take (k + 1)).any f = false) := by
          show _ = _
          obtain ⟨hk1, e⟩ := List.getElem?_eq_some_iff.1 HXK.out
          rw [List.take_succ_eq_append_getElem hk1, List.any_append, HK.out, e]
          simp [hf]
        go_wp2_with fail
        refine (HK0.out.says x HM.out _).mono ?_
        rintro e w' ⟨rfl, hw⟩
        obtain rfl := hw.symm
        rw [hf]
        go_wp2
        go_round
        case rel => exact ⟨k + 1, by omega, by go_num, HS⟩
        case measure => simp [intOf]; omega
      · have HS : Hid (xs.any f = true) := List.any_eq_true.2 ⟨x, HM.out, hf⟩
        go_wp2_with fail
        refine (HK0.out.says x HM.out _).mono ?_
        rintro e w' ⟨rfl, hw⟩
        obtain rfl := hw.symm
        rw [hf]
        go_wp2
        go_ret
        exact ⟨⟨_, rfl, by rw [HS.out]; exact decide_eq_true (Int.natCast_nonneg _)⟩, rfl⟩
    · have HS : Hid (xs.any f = false) := by
        have := HK.out
        rw [List.take_of_length_le (by omega)] at this
        exact this
      go_wp2
      go_ret
      exact ⟨⟨_, rfl, by rw [HS.out]; rfl⟩, rfl⟩
set_option maxHeartbeats 1000000 in
theorem containsFunc_any (K : Nat) (f : ByteArray → Bool) (xs : List ByteArray) (hK : KindS K f xs) (a0 : Option Addr) (len cap b off : Nat) (hlen : len ≤ 1000000) (w : World) (hx : Strs w a0 len b off xs) :
    Calls Try.prog 11 #[.slice a0 len cap, .func (.func K) #[] #[]] w fun e w' => e = .returned (.bool (xs.any f)) ∧ w' = w := by
  go_enter Try.func11, Try.ntmps11
  go_wp2_with (go_at_call 30; refine (indexFunc_any K f xs hK a0 len cap b off hlen _ hx).mono ?_; rintro e w' ⟨⟨r, rfl, hr⟩, hw⟩; obtain rfl := hw.symm)
  go_ret
  exact ⟨rfl, rfl⟩
end Go.Proofs.Ytapgbckpiffgnac
