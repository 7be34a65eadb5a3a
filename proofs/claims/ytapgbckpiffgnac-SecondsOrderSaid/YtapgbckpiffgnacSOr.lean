/- The law SecondsOrder, walked. -/
import Derived.Test.YtapgbckpiffgnacWrd
import Derived.Test.YtapgbckpiffgnacPick
import Derived.Test.YtapgbckpiffgnacSec
import Derived.Test.YtapgbckpiffgnacShRep
namespace Go.Proofs.Ytapgbckpiffgnac
open Go.RowKit Go.Shelf

theorem repeat_rep (c : UInt8) : ∀ z : Nat, Lib.repeatL [c] z = List.replicate z c
  | 0 => rfl
  | z + 1 => by rw [Lib.repeatL, repeat_rep c z]; rfl
theorem digit_at (p : Nat) (h : p < 10) : (⟨#[48, 49, 50, 51, 52, 53, 54, 55, 56, 57]⟩ : ByteArray).extract p (p + 1) = bs [UInt8.ofNat (48 + p)] := by
  have : ∀ p : Fin 10, (⟨#[48, 49, 50, 51, 52, 53, 54, 55, 56, 57]⟩ : ByteArray).extract p.1 (p.1 + 1) = bs [UInt8.ofNat (48 + p.1)] := by decide
  exact this ⟨p, h⟩
theorem digit_is (p : Nat) (h : p < 10) : digB (UInt8.ofNat (48 + p)) = true ∧ (UInt8.ofNat (48 + p)).toNat - 48 = p := by
  have : ∀ p : Fin 10, digB (UInt8.ofNat (48 + p.1)) = true ∧ (UInt8.ofNat (48 + p.1)).toNat - 48 = p.1 := by decide
  exact this ⟨p, h⟩
theorem seconds_some (s : ByteArray) (hs : s.size ≤ 3000) (n : Nat) (h : secL s.data.toList = some n) (w : World) :
    Calls Try.prog 17 #[.string s] w fun e w' => e = .returned (.tuple #[.int .i64 (n : Int), .nilIface]) ∧ w' = w := by
  refine (seconds_any s hs w).mono ?_
  rintro e w' ⟨⟨m, hm, _, rfl⟩ | ⟨hm, rfl⟩, rfl⟩
  · rw [h] at hm
    cases hm
    exact ⟨rfl, rfl⟩
  · rw [h] at hm
    cases hm
set_option maxRecDepth 100000 in
set_option maxHeartbeats 2000000 in
theorem secondsOrder_walk (s : ByteArray) (_hs : s.size ≤ 140737488355328) (d : Int) (d0 : -9223372036854775808 ≤ d) (d1 : d ≤ 9223372036854775807) (z : Int) (z0 : -9223372036854775808 ≤ z) (z1 : z ≤ 9223372036854775807) (w : World) :
    Calls Try.prog 5 #[.string s, .int .i64 d, .int .i64 z] w fun e w' => e = .returned (.bool true) ∧ Below w.heap.size w w' := by
  by_cases h : (100 : Int) < (s.size : Int)
  · clear d0 d1 z0 z1
    go_enter Try.func5, Try.ntmps5
    go_wp2_with (go_at_call 6; refine (worded_any _).mono ?_; rintro e w1 ⟨rfl, hb1⟩)
    go_ret
    exact ⟨rfl, hb1⟩
  · have h3 : s.size ≤ 100 := by omega
    clear _hs
    have hpd := pickI_in d 10 (by omega)
    have hpz := pickI_in z 9 (by omega)
    have kd : ∀ w, Calls Try.prog 15 #[.int .i64 d, .int .i64 10] w fun e w' => e = .returned (.int .i64 (pickI d 10)) ∧ w' = w := fun w => pick_any d _ d0 d1 (by omega) (by omega) w
    have kz : ∀ w, Calls Try.prog 15 #[.int .i64 z, .int .i64 9] w fun e w' => e = .returned (.int .i64 (pickI z 9)) ∧ w' = w := fun w => pick_any z _ z0 z1 (by omega) (by omega) w
    obtain ⟨p, HP⟩ : ∃ p : Nat, Hid (pickI d 10 = (p : Int)) := ⟨(pickI d 10).toNat, by show _ = _; omega⟩
    obtain ⟨q, HQ⟩ : ∃ q : Nat, Hid (pickI z 9 = (q : Int)) := ⟨(pickI z 9).toNat, by show _ = _; omega⟩
    rw [HP.out] at hpd kd
    rw [HQ.out] at hpz kz
    have hp : p < 10 := by omega
    have hq : q < 9 := by omega
    clear d0 d1 z0 z1 hpd hpz
    rcases hsec : secL s.data.toList with _ | n
    · have HN : Hid (secL s.data.toList = none) := hsec
      have hse : ∀ w, Calls Try.prog 17 #[.string s] w fun e w' => e = .returned (.tuple #[.int .i64 0, .iface 52 (.int .i64 3)]) ∧ w' = w := fun w => by
        refine (seconds_any s (by omega) w).mono ?_
        rintro e w' ⟨⟨m, hm, _, rfl⟩ | ⟨hm, rfl⟩, rfl⟩
        · rw [HN.out] at hm; cases hm
        · exact ⟨rfl, rfl⟩
      clear hsec
      go_enter Try.func5, Try.ntmps5
      go_wp2_with (first | (go_at_call 6; refine (worded_any _).mono ?_; rintro e w1 ⟨rfl, hb1⟩) | (go_at_call 17; refine (hse _).mono ?_; rintro e w2 ⟨rfl, hw⟩; obtain rfl := hw.symm))
      go_ret
      exact ⟨rfl, hb1⟩
    · have HN : Hid (secL s.data.toList = some n) := hsec
      have hn2 : n ≤ 2147483648 := by
        have := HN.out
        unfold secL at this
        split at this
        · cases this
        · cases this
          exact secN_le 0 _ (by omega)
      have hse := fun w => seconds_some s (by omega) n hsec w
      obtain ⟨c, HC⟩ : ∃ c : ByteArray, Hid ((⟨#[48, 49, 50, 51, 52, 53, 54, 55, 56, 57]⟩ : ByteArray).extract p (p + 1) = c) := ⟨_, rfl⟩
      have hcz : c.size = 1 := by rw [← HC.out, digit_at p hp]; rfl
      have HM : Hid (secL (s ++ c).data.toList = some (min (10 * n + p) 2147483648)) := by
        show _ = _
        have e : (s ++ c).data.toList = s.data.toList ++ [UInt8.ofNat (48 + p)] := by rw [← HC.out, digit_at p hp]; simp [bs]
        rw [e, sec_digit _ n _ (digit_is p hp).1 hsec, (digit_is p hp).2]
      have hsc : (s ++ c).size ≤ 1000 := by rw [ByteArray.size_append]; omega
      have hsd := fun w => seconds_some (s ++ c) (by omega) _ HM.out w
      obtain ⟨o, HO⟩ : ∃ o : ByteArray, Hid ((⟨(Lib.repeatL (⟨#[48]⟩ : ByteArray).data.toList q).toArray⟩ : ByteArray) = o) := ⟨_, rfl⟩
      have HOd : Hid (o.data.toList = List.replicate q 48) := by show _ = _; rw [← HO.out]; show Lib.repeatL [48] q = _; exact repeat_rep 48 q
      have hoz : o.size = q := by rw [← len_data, HOd.out, List.length_replicate]
      have HK : Hid (secL (o ++ s).data.toList = some n) := by
        show _ = _
        have e : (o ++ s).data.toList = List.replicate q 48 ++ s.data.toList := by rw [← HOd.out]; simp
        rw [e, sec_noughts _ n q hsec]
      have hos : (o ++ s).size ≤ 1000 := by rw [ByteArray.size_append]; omega
      have hsk := fun w => seconds_some (o ++ s) (by omega) _ HK.out w
      have hrep : ∀ w, Calls Try.prog 14 #[.string ⟨#[48]⟩, .int .i64 (q : Int)] w fun e w' => e = .returned (.string o) ∧ Below w.heap.size w w' := fun w => by
        rw [← HO.out]
        exact Any.strings_Repeat lays105 Builder_Extra_105 ⟨#[48]⟩ q w (by omega) (by rw [show (⟨#[48]⟩ : ByteArray).size = 1 from rfl, Nat.one_mul]; omega)
      have hmin : ((min (10 * n + p) 2147483648 : Nat) : Int) = min ((n : Int) * 10 + (p : Int)) 2147483648 := by omega
      have HMin : Hid (((min (10 * n + p) 2147483648 : Nat) : Int) = min ((n : Int) * 10 + (p : Int)) 2147483648) := hmin
      obtain ⟨x, HX⟩ : ∃ x : Int, Hid (((min (10 * n + p) 2147483648 : Nat) : Int) = x) := ⟨_, rfl⟩
      have HX2 : Hid (x = min ((n : Int) * 10 + (p : Int)) 2147483648) := by show _ = _; rw [← HX.out, HMin.out]
      have hx2 : ((x : Int) == min ((n : Int) * 10 + (p : Int)) 2147483648) = true := by rw [HX2.out]; simp
      rw [HX.out] at hsd
      clear hmin HMin hsec
      have hpi : (p : Int) + 1 ≤ 10 := by omega
      have hn2i : (n : Int) ≤ 2147483648 := by omega
      go_enter Try.func5, Try.ntmps5
      go_wp2_with (first | (go_at_call 6; refine (worded_any _).mono ?_; rintro e w1 ⟨rfl, hb1⟩) | (go_at_call 17; refine (hse _).mono ?_; rintro e w2 ⟨rfl, hw⟩; obtain rfl := hw.symm))
      refine (kd _).mono ?_
      rintro e w2 ⟨rfl, hw⟩
      obtain rfl := hw.symm
      go_wp2_with fail
      rw [HC.out]
      refine (hsd _).mono ?_
      rintro e w3 ⟨rfl, hw⟩
      obtain rfl := hw.symm
      go_wp2_with fail
      refine (kz _).mono ?_
      rintro e w4 ⟨rfl, hw⟩
      obtain rfl := hw.symm
      go_wp2_with fail
      refine (hrep _).mono ?_
      rintro e w5 ⟨rfl, hb5⟩
      go_wp2_with fail
      refine (hsk _).mono ?_
      rintro e w6 ⟨rfl, hw⟩
      obtain rfl := hw.symm
      go_wp2
      go_ret
      exact ⟨by simp, hb1.trans (hb5.mono hb1.size)⟩
end Go.Proofs.Ytapgbckpiffgnac
