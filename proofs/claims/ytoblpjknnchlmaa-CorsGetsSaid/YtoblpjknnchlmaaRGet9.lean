/- The document's FieldGet: the values of a field. -/
import Derived.Test.YtoblpjknnchlmaaCorsD
import Derived.Test.YtoblpjknnchlmaaRSam
import Derived.Test.YtoblpjknnchlmaaPrmA
import Derived.Test.YtoblpjknnchlmaaBdw
import Derived.Deep.QuietTactic
import Derived.BigQuiet
namespace Go.Proofs.Ytoblpjknnchlmaa
open Go.RowKit

set_option maxRecDepth 100000 in
set_option maxHeartbeats 4000000 in
theorem refGet9_any (ps : List Par) (hf : Few9 ps) (n : ByteArray) (hn : n.size ≤ 4000) (a0 : Option Addr) (len cap b off : Nat) (w : World) (hx : Pars w a0 len b off ps) :
    Calls Try.prog 6 #[.slice a0 len cap, .string n] w fun e w' => e = .returned (.tuple #[.string (bs (fieldT n.data.toList ps)), .bool (fieldL n.data.toList ps).isSome]) ∧ Below w.heap.size w w' := by
  have HX : Hid (Pars w a0 len b off ps) := hx
  have HF : Hid (Few9 ps) := hf
  have hl := hx.len_eq
  have hlen : len ≤ 45 := by have := hf.1; omega
  have HL : Hid (ps.length = len) := hl
  clear hx hf hl
  go_enter Try.func6, Try.ntmps6
  go_wp2
  go_loopw [6, 7, 12] (fun t v i wr => ∃ (k : Nat) (s : Option (List UInt8)) (x : ByteArray), k ≤ len ∧ i = .int .i64 k ∧ v = .bool s.isSome ∧ t = .string x ∧ x.size ≤ 302 * 45 ∧ Hid (x = bs (s.getD [])) ∧ Hid (fieldL n.data.toList (ps.take k) = s) ∧ Hid (Below w.heap.size w wr)) (fun _ _ i _ => len - (intOf i).toNat)
  case atStart => exact ⟨0, none, ⟨#[]⟩, Nat.zero_le _, rfl, rfl, rfl, by decide, rfl, rfl, Below.refl _ _⟩
  case round =>
    obtain ⟨k, s, x, hk, rfl, rfl, rfl, hxz, HXS, HK, HI⟩ := hrel
    by_cases hlt : k < len
    · have hltz : (k : Int) < (len : Int) := by omega
      obtain ⟨p, hp⟩ : ∃ p, ps[k]? = some p := ⟨ps[k]'(by have := HL.out; omega), List.getElem?_eq_getElem _⟩
      obtain ⟨pn, pv⟩ := p
      have HPK : Hid (ps[k]? = some (pn, pv)) := hp
      have hpz := HF.out.2 _ (List.mem_of_getElem? hp)
      have hz1 : pn.size ≤ 300 := hpz.1
      have hz2 : pv.size ≤ 300 := hpz.2
      obtain ⟨ha0, _⟩ := (HX.out.below HI.out).lies (by omega)
      subst ha0
      have c1 := (HX.out.below HI.out).one k _ hp
      have c2 := (HX.out.below HI.out).two k _ hp
      have HSZ : Hid ((fieldT n.data.toList (ps.take (k + 1))).length ≤ 302 * 45) := by
        have h1 := fieldT_take_len n.data.toList ps 300 (fun p hp => (HF.out.2 p hp).2) (k + 1)
        have h3 : (300 + 2) * (k + 1) ≤ 302 * 45 := Nat.mul_le_mul_left _ (by omega)
        exact Nat.le_trans h1 h3
      have HB1 : Hid (Below wr.heap.size wr (wr.alloc (.cells #[.string pn, .string pv] 36))) := (Below.refl _ _).alloc (Nat.le_refl _) _
      have HBOX : Hid ((wr.alloc (.cells #[.string pn, .string pv] 36)).heap[wr.heap.size]? = some (.cells #[.string pn, .string pv] 36 (0, 0))) := heap_alloc_new wr _
      clear hp hpz
      obtain ⟨q, HQ⟩ : ∃ q, Hid (sameL pn.data.toList n.data.toList = q) := ⟨_, rfl⟩
      have hsm := fun w => refSame_any pn n (by omega) hn w
      rw [HQ.out] at hsm
      cases q
      · have HN : Hid (fieldL n.data.toList (ps.take (k + 1)) = s) := (fieldL_other HPK.out HQ.out).trans HK.out
        go_wp2_with fail
        refine (hsm _).mono ?_
        rintro e w2 ⟨rfl, hb2⟩
        have HI2 : Hid (Below w.heap.size w w2) := HI.out.trans ((HB1.out.trans (hb2.mono HB1.out.size)).mono HI.out.size)
        clear hb2
        go_wp2
        go_roundw
        case rel => exact ⟨k + 1, s, x, by omega, by go_num, rfl, rfl, hxz, HXS, HN, HI2⟩
        case measure => simp [intOf]; omega
      · have HN : Hid (fieldL n.data.toList (ps.take (k + 1)) = some (joinV s pv.data.toList)) := by
          have := fieldL_same HPK.out HQ.out
          rw [HK.out] at this
          exact this
        have HT : Hid (fieldT n.data.toList (ps.take (k + 1)) = joinV s pv.data.toList) := fieldT_some HN.out
        cases s with
        | none =>
          obtain rfl : x = ⟨#[]⟩ := HXS.out
          obtain ⟨y, HY⟩ : ∃ y : ByteArray, Hid ((⟨#[]⟩ : ByteArray) ++ pv = y) := ⟨_, rfl⟩
          have HYS : Hid (y = bs pv.data.toList) := by show _ = _; rw [← HY.out]; apply ByteArray.ext; simp [bs]
          have hyz : y.size ≤ 302 * 45 := by rw [← HY.out, ByteArray.size_append]; exact Nat.le_trans (by rw [show (⟨#[]⟩ : ByteArray).size = 0 from rfl, Nat.zero_add]; exact hz2) (show 300 ≤ 302 * 45 by decide)
          go_wp2_with fail
          refine (hsm _).mono ?_
          rintro e w2 ⟨rfl, hb2⟩
          have HI2 : Hid (Below w.heap.size w w2) := HI.out.trans ((HB1.out.trans (hb2.mono HB1.out.size)).mono HI.out.size)
          have hd1 := cells_of (below_block hb2 HBOX.out) 1 _ rfl
          clear hb2
          go_wp2
          go_roundw
          case rel => exact ⟨k + 1, some pv.data.toList, _, by omega, by go_num, rfl, rfl, by rw [HY.out]; exact hyz, by rw [HY.out]; exact HYS, HN, HI2⟩
          case measure => simp [intOf]; omega
        | some o =>
          have HYS : Hid (x ++ ⟨#[44, 32]⟩ ++ pv = bs (o ++ 44 :: 32 :: pv.data.toList)) := by
            show _ = _
            rw [HXS.out]
            apply ByteArray.ext
            apply Array.ext'
            simp [bs]
          have HYZ : Hid ((x ++ ⟨#[44, 32]⟩ ++ pv : ByteArray).size ≤ 302 * 45) := by
            show _ ≤ _
            have := HSZ.out
            rw [HT.out] at this
            rw [HYS.out]
            rw [bs_size]
            exact this
          go_wp2_with fail
          refine (hsm _).mono ?_
          rintro e w2 ⟨rfl, hb2⟩
          have HI2 : Hid (Below w.heap.size w w2) := HI.out.trans ((HB1.out.trans (hb2.mono HB1.out.size)).mono HI.out.size)
          have hd1 := cells_of (below_block hb2 HBOX.out) 1 _ rfl
          clear hb2
          go_wp2
          go_roundw
          case rel => exact ⟨k + 1, some (o ++ 44 :: 32 :: pv.data.toList), _, by omega, by go_num, rfl, rfl, HYZ.out, HYS, HN, HI2⟩
          case measure => simp [intOf]; omega
    · have hltz : ¬ (k : Int) < (len : Int) := by omega
      have HE : Hid (fieldL n.data.toList ps = s) := by
        have := HK.out
        rw [List.take_of_length_le (by have := HL.out; omega)] at this
        exact this
      have HT : Hid (fieldT n.data.toList ps = s.getD []) := by show _ = _; unfold fieldT; rw [HE.out]
      go_wp2
      go_ret2
      exact ⟨by rw [HE.out, HT.out, HXS.out]; rfl, HI.out⟩
end Go.Proofs.Ytoblpjknnchlmaa
