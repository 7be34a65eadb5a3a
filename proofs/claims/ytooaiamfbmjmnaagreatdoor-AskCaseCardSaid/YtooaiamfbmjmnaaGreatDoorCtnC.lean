/- Whether a text of a row is such a one, by the library's own functions, with a closure that asks. -/
import Derived.Test.YtooaiamfbmjmnaaGreatDoorSrs
import Derived.Deep.LoopGhost
namespace Go.Proofs.YtooaiamfbmjmnaaGreatDoor
open Go.RowKit

set_option maxRecDepth 100000 in
set_option maxHeartbeats 2000000 in
theorem indexS_any (K : Nat) (c : Value) (f : ByteArray → Bool) (xs : List ByteArray) (a0 : Option Addr) (len cap b off : Nat) (hlen : len ≤ 1000000) (w : World) (hx : Strs w a0 len b off xs)
    (says : ∀ w', Below w.heap.size w w' → ∀ x ∈ xs, Calls Tryz.prog K #[.string x, c] w' fun e w'' => e = .returned (.bool (f x)) ∧ Below w'.heap.size w' w'')
    (hen : ∀ (args : Array Value) (w : World), (callFunc K args).run Tryz.prog w = .ok (.enter K args) w) :
    Calls Tryz.prog 128 #[.slice a0 len cap, .func (.func K) #[] #[c]] w fun e w' => (∃ r : Int, e = .returned (.int .i64 r) ∧ decide (0 ≤ r) = xs.any f) ∧ Below w.heap.size w w' := by
  have HX : Hid (Strs w a0 len b off xs) := hx
  have hl := hx.len_eq
  clear hx
  go_enter Tryz.func128, Tryz.ntmps128
  go_wp2
  go_loopw [8] (fun i wr => ∃ (k : Nat), k ≤ len ∧ i = .int .i64 k ∧ Hid ((xs.take k).any f = false) ∧ Below w.heap.size w wr) (fun i _ => len - (intOf i).toNat)
  case atStart => exact ⟨0, Nat.zero_le _, rfl, rfl, Below.refl _ _⟩
  case round =>
    obtain ⟨k, hk, rfl, HK, hb⟩ := hrel
    by_cases hlt : k < len
    · obtain ⟨x, hxk⟩ : ∃ x, xs[k]? = some x := ⟨xs[k]'(by omega), List.getElem?_eq_getElem (by omega)⟩
      have HXK : Hid (xs[k]? = some x) := hxk
      have HM : Hid (x ∈ xs) := List.mem_of_getElem? hxk
      have hs := says wr hb x HM.out
      obtain ⟨ha0, hbl⟩ := HX.out.lies (by omega)
      subst ha0
      have hcell : wr.cell? ⟨b, off + k, none⟩ = some (.string x) := (hb.cell (p := ⟨b, off + k, none⟩) hbl).trans (HX.out.cells k x hxk)
      have hbs : w.heap.size ≤ wr.heap.size := hb.size
      clear hxk
      cases hf : f x
      · have HS : Hid ((xs.take (k + 1)).any f = false) := by
          show _ = _
          obtain ⟨hk1, e⟩ := List.getElem?_eq_some_iff.1 HXK.out
          rw [List.take_succ_eq_append_getElem hk1, List.any_append, HK.out, e]
          simp [hf]
        go_wp2_with fail
        refine hs.mono ?_
        rintro e w2 ⟨rfl, hb2⟩
        rw [hf]
        go_wp2
        go_roundw
        case rel => exact ⟨k + 1, by omega, by go_num, HS, hb.trans (hb2.mono hbs)⟩
        case measure => simp [intOf]; omega
      · have HS : Hid (xs.any f = true) := List.any_eq_true.2 ⟨x, HM.out, hf⟩
        go_wp2_with fail
        refine hs.mono ?_
        rintro e w2 ⟨rfl, hb2⟩
        rw [hf]
        go_wp2
        go_ret
        exact ⟨⟨_, rfl, by rw [HS.out]; exact decide_eq_true (Int.natCast_nonneg _)⟩, hb.trans (hb2.mono hbs)⟩
    · have HS : Hid (xs.any f = false) := by
        have := HK.out
        rw [List.take_of_length_le (by omega)] at this
        exact this
      go_wp2
      go_ret
      exact ⟨⟨_, rfl, by rw [HS.out]; rfl⟩, hb⟩
set_option maxHeartbeats 1000000 in
theorem containsS_any (K : Nat) (c : Value) (f : ByteArray → Bool) (xs : List ByteArray) (a0 : Option Addr) (len cap b off : Nat) (hlen : len ≤ 1000000) (w : World) (hx : Strs w a0 len b off xs)
    (says : ∀ w', Below w.heap.size w w' → ∀ x ∈ xs, Calls Tryz.prog K #[.string x, c] w' fun e w'' => e = .returned (.bool (f x)) ∧ Below w'.heap.size w' w'')
    (hen : ∀ (args : Array Value) (w : World), (callFunc K args).run Tryz.prog w = .ok (.enter K args) w) :
    Calls Tryz.prog 107 #[.slice a0 len cap, .func (.func K) #[] #[c]] w fun e w' => e = .returned (.bool (xs.any f)) ∧ Below w.heap.size w w' := by
  go_enter Tryz.func107, Tryz.ntmps107
  go_wp2_with (go_at_call 128; refine (indexS_any K c f xs a0 len cap b off hlen _ hx says hen).mono ?_; rintro e w' ⟨⟨r, rfl, hr⟩, hb⟩)
  go_ret
  exact ⟨by first | rfl | (rw [hr]; rfl), hb⟩
end Go.Proofs.YtooaiamfbmjmnaaGreatDoor
