/- The law TokenJoins, walked. -/
import Derived.Test.YtapgbckpiffgnabJn
import Derived.Test.YtapgbckpiffgnabTkD
namespace Go.Proofs.Ytapgbckpiffgnab
open Go.RowKit

theorem bs_cat (l : List UInt8) (x : ByteArray) : bs (l ++ x.data.toList) = bs l ++ x := by rw [bs_append, bs_self]
theorem mem_take_snoc {xs : List ByteArray} {k : Nat} {x : ByteArray} {m : Nat} (h : ∀ y ∈ xs.take k, y.size ≤ m) (hk : xs[k]? = some x) (hx : x.size ≤ m) : ∀ y ∈ xs.take (k + 1), y.size ≤ m := by
  obtain ⟨hl, e⟩ := List.getElem?_eq_some_iff.1 hk
  intro y hy
  rw [List.take_succ_eq_append_getElem hl, List.mem_append] at hy
  rcases hy with hy | hy
  · exact h y hy
  · rw [List.mem_singleton.1 hy, e]
    exact hx
set_option maxRecDepth 100000 in
set_option maxHeartbeats 2000000 in
theorem tokenJoins_walk (a0 : Option Addr) (len cap b off : Nat) (hlen : len ≤ 9223372036854775807) (xs : List ByteArray) (hbig : ∀ x ∈ xs, x.size ≤ 9223372036854775807) (w : World) (hx : Strs w a0 len b off xs) :
    Calls Try.prog 3 #[.slice a0 len cap] w fun e w' => e = .returned (.bool true) ∧ Below w.heap.size w w' := by
  have HX : Hid (Strs w a0 len b off xs) := hx
  have hl := hx.len_eq
  clear hx
  by_cases h : (60 : Int) < (len : Int)
  · clear hl hbig
    go_enter Try.func3, Try.ntmps3
    go_wp2
    go_ret
    exact ⟨rfl, Below.refl _ _⟩
  · have h60 : len ≤ 60 := by omega
    have HBig : Hid (∀ x ∈ xs, x.size ≤ 9223372036854775807) := hbig
    clear hlen hbig h
    go_enter Try.func3, Try.ntmps3
    go_wp2
    go_loop [3, 4] (fun v i => ∃ (k : Nat) (o : ByteArray), k ≤ len ∧ i = .int .i64 k ∧ v = .string o ∧ o.size ≤ k * 62 ∧ Hid (o = bs (joinC (datas (xs.take k)))) ∧ Hid (∀ y ∈ xs.take k, y.size ≤ 60)) (fun _ i => len - (intOf i).toNat)
    case atStart => exact ⟨0, _, Nat.zero_le _, rfl, rfl, Nat.le_refl _, rfl, fun y hy => by simp at hy⟩
    case round =>
      obtain ⟨k, o, hk, rfl, rfl, ho, HO, HK⟩ := hrel
      by_cases hlt : k < len
      · obtain ⟨x, hxk⟩ : ∃ x, xs[k]? = some x := ⟨xs[k]'(by omega), List.getElem?_eq_getElem (by omega)⟩
        have hxb := HBig.out x (List.mem_of_getElem? hxk)
        have HXK : Hid (xs[k]? = some x) := hxk
        obtain ⟨ha0, hbl⟩ := HX.out.lies (by omega)
        subst ha0
        have hcell : w.cell? ⟨b, off + k, none⟩ = some (.string x) := HX.out.cells k x hxk
        clear hxk
        by_cases hx60 : (60 : Int) < (x.size : Int)
        · clear hxb
          go_wp2
          go_ret
          exact ⟨rfl, Below.refl _ _⟩
        · have hx6 : x.size ≤ 60 := by omega
          have HM : Hid (∀ y ∈ xs.take (k + 1), y.size ≤ 60) := mem_take_snoc HK.out HXK.out hx6
          clear hxb hx60
          have hx60 : ¬ (60 : Int) < (x.size : Int) := by omega
          by_cases h0 : k = 0
          · have HE : Hid (bs (joinC (datas (xs.take (k + 1)))) = o ++ x) := by show _ = _; rw [joinC_one xs x k HXK h0, bs_cat, HO.out]
            have hk0 : ¬ (0 : Int) < (k : Int) := by omega
            clear h0
            go_wp2
            go_round
            case rel => exact ⟨k + 1, o ++ x, by omega, by go_num, rfl, by rw [ByteArray.size_append]; omega, HE.out.symm, HM⟩
            case measure => simp [intOf]; omega
          · have HE : Hid (bs (joinC (datas (xs.take (k + 1)))) = o ++ bs [44, 32] ++ x) := by show _ = _; rw [joinC_more xs x k HXK (by omega), bs_cat, bs_append, HO.out]
            have hkp : (0 : Int) < (k : Int) := by omega
            go_wp2
            go_round
            case rel => exact ⟨k + 1, o ++ (⟨#[44, 32]⟩ : ByteArray) ++ x, by omega, by go_num, rfl, by rw [ByteArray.size_append, ByteArray.size_append]; have : (⟨#[44, 32]⟩ : ByteArray).size = 2 := rfl; omega, HE.out.symm, HM⟩
            case measure => simp [intOf]; omega
      · have hk2 : k = len := by omega
        have HA : Hid (∀ y ∈ xs, y.size ≤ 60) := by
          have := HK.out
          rw [List.take_of_length_le (by omega)] at this
          exact this
        have HE : Hid (bs (joinC (datas xs)) = o) := by show _ = _; rw [HO.out, List.take_of_length_le (by omega)]
        clear HK HO
        go_wp2_with (go_at_call 8; refine (join_any a0 len cap b off xs 60 HA.out (by omega) (by omega) _ HX.out).mono ?_; rintro e w2 ⟨rfl, hb2⟩; rw [HE.out])
        go_ret
        exact ⟨by simp, hb2⟩
end Go.Proofs.Ytapgbckpiffgnab
