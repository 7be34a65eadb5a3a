/- cors.Get: the values of a field, by the program. -/
import Derived.Test.YtoblpjknnchlmabGreatDoorCorsD
import Derived.Test.YtoblpjknnchlmabGreatDoorBdw
import Derived.Test.YtoblpjknnchlmabGreatDoorPrmA
namespace Go.Proofs.YtoblpjknnchlmabGreatDoor
open Go.RowKit

theorem built_fresh (w : World) : Built (w.alloc (.cells #[.pointer none, .slice none 0 0] 72)) w.heap.size w.heap.size [] := Lib.IsBuilderF.of (Lib.fresh_isBuilder _ _ _)
set_option maxRecDepth 100000 in
set_option maxHeartbeats 4000000 in
theorem get9_any (ps : List Par) (hf : Few9 ps) (n : ByteArray) (hn : n.size ≤ 4000) (a0 : Option Addr) (len cap b off : Nat) (w : World) (hx : Pars w a0 len b off ps) :
    Calls Tryz.prog 16 #[.slice a0 len cap, .string n] w fun e w' => e = .returned (.tuple #[.string (bs (fieldT n.data.toList ps)), .bool (fieldL n.data.toList ps).isSome]) ∧ Below w.heap.size w w' := by
  have HX : Hid (Pars w a0 len b off ps) := hx
  have HF : Hid (Few9 ps) := hf
  have hl := hx.len_eq
  have hlen : len ≤ 45 := by have := hf.1; omega
  have HL : Hid (ps.length = len) := hl
  have HB0 : Hid (Built (w.alloc (.cells #[.pointer none, .slice none 0 0] 72)) w.heap.size w.heap.size [] ∧ Below w.heap.size w (w.alloc (.cells #[.pointer none, .slice none 0 0] 72))) := ⟨built_fresh w, (Below.refl _ _).alloc (Nat.le_refl _) _⟩
  clear hx hf hl
  go_enter Tryz.func16, Tryz.ntmps16
  go_wp2
  go_loopw [7, 12] (fun v i wr => ∃ (k : Nat) (s : Option (List UInt8)), k ≤ len ∧ i = .int .i64 k ∧ v = .bool s.isSome ∧ Hid (fieldL n.data.toList (ps.take k) = s) ∧ Hid (Built wr w.heap.size w.heap.size (s.getD []) ∧ Below w.heap.size w wr)) (fun _ i _ => len - (intOf i).toNat)
  case atStart => exact ⟨0, none, Nat.zero_le _, rfl, rfl, rfl, HB0.out⟩
  case round =>
    obtain ⟨k, s, hk, rfl, rfl, HK, HI⟩ := hrel
    have hwz : w.heap.size < wr.heap.size := HI.out.1.lt.2
    by_cases hlt : k < len
    · have hltz : (k : Int) < (len : Int) := by omega
      obtain ⟨p, hp⟩ : ∃ p, ps[k]? = some p := ⟨ps[k]'(by have := HL.out; omega), List.getElem?_eq_getElem _⟩
      obtain ⟨pn, pv⟩ := p
      have HPK : Hid (ps[k]? = some (pn, pv)) := hp
      have hpz := HF.out.2 _ (List.mem_of_getElem? hp)
      have hz1 : pn.size ≤ 300 := hpz.1
      have hz2 : pv.size ≤ 300 := hpz.2
      obtain ⟨ha0, _⟩ := (HX.out.below HI.out.2).lies (by omega)
      subst ha0
      have c1 := (HX.out.below HI.out.2).one k _ hp
      have c2 := (HX.out.below HI.out.2).two k _ hp
      have HSZ : Hid ((s.getD []).length ≤ 302 * 45) := by
        have h1 := fieldT_take_len n.data.toList ps 300 (fun p hp => (HF.out.2 p hp).2) k
        unfold fieldT at h1
        rw [HK.out] at h1
        have h3 : (300 + 2) * k ≤ 302 * 45 := Nat.mul_le_mul_left _ (by omega)
        exact Nat.le_trans h1 h3
      have HB1 : Hid (Below wr.heap.size wr (wr.alloc (.cells #[.string pn, .string pv] 37))) := (Below.refl _ _).alloc (Nat.le_refl _) _
      have HBOX : Hid ((wr.alloc (.cells #[.string pn, .string pv] 37)).heap[wr.heap.size]? = some (.cells #[.string pn, .string pv] 37 (0, 0))) := heap_alloc_new wr _
      clear hp hpz
      obtain ⟨q, HQ⟩ : ∃ q, Hid (sameL pn.data.toList n.data.toList = q) := ⟨_, rfl⟩
      have hsm := fun w => same_any pn n (by omega) hn w
      rw [HQ.out] at hsm
      cases q
      · have HN : Hid (fieldL n.data.toList (ps.take (k + 1)) = s) := (fieldL_other HPK.out HQ.out).trans HK.out
        go_wp2_with fail
        refine (hsm _).mono ?_
        rintro e w2 ⟨rfl, hb2⟩
        have HB2 : Hid (Below wr.heap.size wr w2) := HB1.out.trans (hb2.mono HB1.out.size)
        have HI2 : Hid (Built w2 w.heap.size w.heap.size (s.getD []) ∧ Below w.heap.size w w2) := ⟨HI.out.1.below HB2.out, HI.out.2.trans (HB2.out.mono HI.out.2.size)⟩
        clear hb2
        go_wp2
        go_roundw
        case rel => exact ⟨k + 1, s, by omega, by go_num, rfl, HN, HI2⟩
        case measure => simp [intOf]; omega
      · have HN : Hid (fieldL n.data.toList (ps.take (k + 1)) = some (joinV s pv.data.toList)) := by
          have := fieldL_same HPK.out HQ.out
          rw [HK.out] at this
          exact this
        have HZV : Hid (pv.data.toList.length = pv.size) := Array.length_toList
        cases s with
        | none =>
          go_wp2_with fail
          refine (hsm _).mono ?_
          rintro e w2 ⟨rfl, hb2⟩
          have HB2 : Hid (Below wr.heap.size wr w2) := HB1.out.trans (hb2.mono HB1.out.size)
          have HI2 : Hid (Built w2 w.heap.size w.heap.size [] ∧ Below w.heap.size w w2) := ⟨HI.out.1.below HB2.out, HI.out.2.trans (HB2.out.mono HI.out.2.size)⟩
          have hd1 := cells_of (below_block hb2 HBOX.out) 1 _ rfl
          have hzr : w.heap.size ≤ w2.heap.size := HI2.out.2.size
          clear hb2
          go_wp2_with fail
          refine (bdk_write _ _ _ pv _ HI2.out.1 (by simp; omega) hzr).mono ?_
          rintro e w3 ⟨rfl, hw3, hb3, ho3⟩
          have HI3 : Hid (Built w3 w.heap.size w.heap.size pv.data.toList ∧ Below w.heap.size w w3) := ⟨by simpa using hw3, HI2.out.2.trans hb3⟩
          clear hw3 hb3 ho3
          go_wp2
          go_roundw
          case rel => exact ⟨k + 1, some (pv.data.toList), by omega, by go_num, rfl, HN, HI3⟩
          case measure => simp [intOf]; omega
        | some o =>
          go_wp2_with fail
          refine (hsm _).mono ?_
          rintro e w2 ⟨rfl, hb2⟩
          have HB2 : Hid (Below wr.heap.size wr w2) := HB1.out.trans (hb2.mono HB1.out.size)
          have HI2 : Hid (Built w2 w.heap.size w.heap.size o ∧ Below w.heap.size w w2) := ⟨HI.out.1.below HB2.out, HI.out.2.trans (HB2.out.mono HI.out.2.size)⟩
          have HBX2 : Hid (w2.heap[wr.heap.size]? = some (.cells #[.string pn, .string pv] 37 (0, 0))) := below_block hb2 HBOX.out
          have hzr : w.heap.size ≤ w2.heap.size := HI2.out.2.size
          have hol : o.length ≤ 302 * 45 := HSZ.out
          clear hb2
          go_wp2_with fail
          refine (bdk_write _ _ _ ⟨#[44, 32]⟩ _ HI2.out.1 (by have : (⟨#[44, 32]⟩ : ByteArray).size = 2 := rfl; omega) hzr).mono ?_
          rintro e w3 ⟨rfl, hw3, hb3, ho3⟩
          have HI3 : Hid (Built w3 w.heap.size w.heap.size (o ++ [44, 32]) ∧ Below w.heap.size w w3) := ⟨hw3, HI2.out.2.trans hb3⟩
          have hd1 := cells_of (kept_cells ho3 HBX2.out (by decide) (by omega)) 1 _ rfl
          have hzs : w.heap.size ≤ w3.heap.size := HI3.out.2.size
          clear hw3 hb3 ho3
          go_wp2_with fail
          refine (bdk_write _ _ _ pv _ HI3.out.1 (by simp; omega) hzs).mono ?_
          rintro e w4 ⟨rfl, hw4, hb4, ho4⟩
          have HI4 : Hid (Built w4 w.heap.size w.heap.size (o ++ 44 :: 32 :: pv.data.toList) ∧ Below w.heap.size w w4) := ⟨by simpa using hw4, HI3.out.2.trans hb4⟩
          clear hw4 hb4 ho4
          go_wp2
          go_roundw
          case rel => exact ⟨k + 1, some (o ++ 44 :: 32 :: pv.data.toList), by omega, by go_num, rfl, HN, HI4⟩
          case measure => simp [intOf]; omega
    · have hltz : ¬ (k : Int) < (len : Int) := by omega
      have HE : Hid (fieldL n.data.toList ps = s) := by
        have := HK.out
        rw [List.take_of_length_le (by have := HL.out; omega)] at this
        exact this
      have HT : Hid (fieldT n.data.toList ps = s.getD []) := by show _ = _; unfold fieldT; rw [HE.out]
      go_wp2_with fail
      refine (bdk_string _ _ _ _ HI.out.1 (Nat.le_of_lt hwz)).mono ?_
      rintro e w2 ⟨rfl, hb2⟩
      have HB2 : Hid (Below w.heap.size w w2) := HI.out.2.trans hb2
      obtain ⟨so, HSO⟩ : ∃ so, Hid (bs (s.getD []) = so) := ⟨_, rfl⟩
      rw [HSO.out]
      go_wp2
      go_ret2
      exact ⟨by rw [HE.out, HT.out, HSO.out]; rfl, HB2.out⟩
end Go.Proofs.YtoblpjknnchlmabGreatDoor
