/- Whether a pass stands in a row of passes that differ by method and header alone, by the library's own functions. -/
import Derived.Test.YtoblpjknnchlmabGreatDoorEqP9
import Derived.Test.YtoblpjknnchlmabGreatDoorRq9
import Derived.Test.YtoblpjknnchlmabGreatDoorBxa
import Derived.Deep.LoopGhost
import Derived.Deep.QuietTactic
import Derived.BigQuiet
namespace Go.Proofs.YtoblpjknnchlmabGreatDoor
open Go.RowKit

/-- A pass with this method and this header. -/
def PsV.of (p : PsV) (x : ByteArray × ByteArray) : PsV := ⟨p.fs, p.fh, p.fp, p.us, p.uh, p.up, p.pa, p.qu, p.wi, x.1, x.2, p.un⟩
def sameX (x y : ByteArray × ByteArray) : Bool := x.1.toList == y.1.toList && x.2.toList == y.2.toList
set_option maxRecDepth 100000 in
set_option maxHeartbeats 4000000 in
theorem indexX_any (p : PsV) (x : ByteArray × ByteArray) (l : List (ByteArray × ByteArray)) (a0 : Option Addr) (len cap b off : Nat) (hlen : len ≤ 1000000) (w : World) (hx : Pss w a0 len b off (l.map p.of)) :
    Calls Tryz.prog 103 #[.slice a0 len cap, .agg #[.bool p.fs, .string p.fh, .int .i64 p.fp, .bool p.us, .string p.uh, .int .i64 p.up, .string p.pa, .string p.qu, .bool p.wi, .string x.1, .string x.2, .int .i64 p.un]] w fun e w' => (∃ r : Int, e = .returned (.int .i64 r) ∧ Hid (decide (0 ≤ r) = l.any (sameX x))) ∧ Below w.heap.size w w' := by
  have hl : l.length = len := by have := hx.len_eq; simpa using this
  have HL : Hid (l.length = len) := hl
  have HQ : Hid (BoxQ 50 w #[.bool p.fs, .string p.fh, .int .i64 p.fp, .bool p.us, .string p.uh, .int .i64 p.up, .string p.pa, .string p.qu, .bool p.wi, .string x.1, .string x.2, .int .i64 p.un] (w.alloc (.cells #[.bool p.fs, .string p.fh, .int .i64 p.fp, .bool p.us, .string p.uh, .int .i64 p.up, .string p.pa, .string p.qu, .bool p.wi, .string x.1, .string x.2, .int .i64 p.un] 50))) := BoxQ.new _ _ _
  have HX : Hid (Pss (w.alloc (.cells #[.bool p.fs, .string p.fh, .int .i64 p.fp, .bool p.us, .string p.uh, .int .i64 p.up, .string p.pa, .string p.qu, .bool p.wi, .string x.1, .string x.2, .int .i64 p.un] 50)) a0 len b off (l.map p.of)) := hx.below HQ.out.bel
  have HB : Hid (Below w.heap.size w (w.alloc (.cells #[.bool p.fs, .string p.fh, .int .i64 p.fp, .bool p.us, .string p.uh, .int .i64 p.up, .string p.pa, .string p.qu, .bool p.wi, .string x.1, .string x.2, .int .i64 p.un] 50))) := HQ.out.bel
  clear hx hl
  obtain ⟨fs, fh, fp, us, uh, up, pa, qu, wi, me, he, un⟩ := p
  obtain ⟨xm, xh⟩ := x
  simp only at HQ HX HB ⊢
  go_enter Tryz.func103, Tryz.ntmps103
  go_wp2
  generalize hW0 : w.alloc (.cells #[.bool fs, .string fh, .int .i64 fp, .bool us, .string uh, .int .i64 up, .string pa, .string qu, .bool wi, .string xm, .string xh, .int .i64 un] 50) = W0 at HQ HX HB ⊢
  clear hW0
  have b0 := HQ.out.at 0 _ rfl
  have b1 := HQ.out.at 1 _ rfl
  have b2 := HQ.out.at 2 _ rfl
  have b3 := HQ.out.at 3 _ rfl
  have b4 := HQ.out.at 4 _ rfl
  have b5 := HQ.out.at 5 _ rfl
  have b6 := HQ.out.at 6 _ rfl
  have b7 := HQ.out.at 7 _ rfl
  have b8 := HQ.out.at 8 _ rfl
  have b9 := HQ.out.at 9 _ rfl
  have b10 := HQ.out.at 10 _ rfl
  have b11 := HQ.out.at 11 _ rfl
  go_loopw [8] (fun i wr => ∃ (k q : Nat), k ≤ len ∧ i = .int .i64 k ∧ wr = W0.drewN q ∧ Hid ((l.take k).any (sameX (xm, xh)) = false)) (fun i _ => len - (intOf i).toNat)
  case atStart => exact ⟨0, 0, Nat.zero_le _, rfl, rfl, rfl⟩
  case round =>
    obtain ⟨k, q, hk, rfl, rfl, HK⟩ := hrel
    by_cases hlt : k < len
    · have hltz : (k : Int) < (len : Int) := by omega
      obtain ⟨y, hy⟩ : ∃ y, l[k]? = some y := ⟨l[k]'(by have := HL.out; omega), List.getElem?_eq_getElem (by have := HL.out; omega)⟩
      have HYK : Hid (l[k]? = some y) := hy
      obtain ⟨ha0, _⟩ := HX.out.lies (by omega)
      subst ha0
      obtain ⟨c0, c1, c2, c3, c4, c5, c6, c7, c8, c9, c10, c11⟩ := HX.out.all (j := k) (v := PsV.of ⟨fs, fh, fp, us, uh, up, pa, qu, wi, me, he, un⟩ y) (by rw [List.getElem?_map, hy]; rfl)
      obtain ⟨ym, yh⟩ := y
      simp only [PsV.of] at c0 c1 c2 c3 c4 c5 c6 c7 c8 c9 c10 c11
      obtain ⟨t, HT⟩ : ∃ t, Hid (sameX (xm, xh) (ym, yh) = t) := ⟨_, rfl⟩
      have ep := fun W => eqP9 fs fh fp us uh up pa qu wi un xm xh ym yh t HT.out W
      clear hy
      cases t
      · have HS : Hid ((l.take (k + 1)).any (sameX (xm, xh)) = false) := take_any HK.out HYK.out HT.out
        go_wp2
        go_quiet (fail)
        go_wp2
        go_roundw
        case rel => exact ⟨k + 1, _, by omega, by go_num, rfl, HS⟩
        case measure => simp [intOf]; omega
      · have HS : Hid (l.any (sameX (xm, xh)) = true) := List.any_eq_true.2 ⟨_, List.mem_of_getElem? HYK.out, HT.out⟩
        go_wp2
        go_quiet (fail)
        go_wp2
        go_ret
        exact ⟨⟨_, rfl, by show _ = _; rw [HS.out]; exact decide_eq_true (Int.natCast_nonneg _)⟩, drewN_below (drewN_below HB.out _) _⟩
    · have hltz : ¬ (k : Int) < (len : Int) := by omega
      have HS : Hid (l.any (sameX (xm, xh)) = false) := by
        have := HK.out
        rw [List.take_of_length_le (by have := HL.out; omega)] at this
        exact this
      go_wp2
      go_ret
      exact ⟨⟨_, rfl, by show _ = _; rw [HS.out]; rfl⟩, drewN_below HB.out _⟩
set_option maxRecDepth 100000 in
set_option maxHeartbeats 4000000 in
theorem containsX_any (p : PsV) (x : ByteArray × ByteArray) (l : List (ByteArray × ByteArray)) (a0 : Option Addr) (len cap b off : Nat) (hlen : len ≤ 1000000) (w : World) (hx : Pss w a0 len b off (l.map p.of)) :
    Calls Tryz.prog 76 #[.slice a0 len cap, .agg #[.bool p.fs, .string p.fh, .int .i64 p.fp, .bool p.us, .string p.uh, .int .i64 p.up, .string p.pa, .string p.qu, .bool p.wi, .string x.1, .string x.2, .int .i64 p.un]] w fun e w' => e = .returned (.bool (l.any (sameX x))) ∧ Below w.heap.size w w' := by
  have HQ : Hid (BoxQ 50 w #[.bool p.fs, .string p.fh, .int .i64 p.fp, .bool p.us, .string p.uh, .int .i64 p.up, .string p.pa, .string p.qu, .bool p.wi, .string x.1, .string x.2, .int .i64 p.un] (w.alloc (.cells #[.bool p.fs, .string p.fh, .int .i64 p.fp, .bool p.us, .string p.uh, .int .i64 p.up, .string p.pa, .string p.qu, .bool p.wi, .string x.1, .string x.2, .int .i64 p.un] 50))) := BoxQ.new _ _ _
  have HI : Hid (Calls Tryz.prog 103 #[.slice a0 len cap, .agg #[.bool p.fs, .string p.fh, .int .i64 p.fp, .bool p.us, .string p.uh, .int .i64 p.up, .string p.pa, .string p.qu, .bool p.wi, .string x.1, .string x.2, .int .i64 p.un]] (w.alloc (.cells #[.bool p.fs, .string p.fh, .int .i64 p.fp, .bool p.us, .string p.uh, .int .i64 p.up, .string p.pa, .string p.qu, .bool p.wi, .string x.1, .string x.2, .int .i64 p.un] 50)) fun e w' => (∃ r : Int, e = .returned (.int .i64 r) ∧ Hid (decide (0 ≤ r) = l.any (sameX x))) ∧ Below (w.alloc (.cells #[.bool p.fs, .string p.fh, .int .i64 p.fp, .bool p.us, .string p.uh, .int .i64 p.up, .string p.pa, .string p.qu, .bool p.wi, .string x.1, .string x.2, .int .i64 p.un] 50)).heap.size (w.alloc (.cells #[.bool p.fs, .string p.fh, .int .i64 p.fp, .bool p.us, .string p.uh, .int .i64 p.up, .string p.pa, .string p.qu, .bool p.wi, .string x.1, .string x.2, .int .i64 p.un] 50)) w') :=
    indexX_any p x l a0 len cap b off hlen _ (hx.below HQ.out.bel)
  have b0 := HQ.out.at 0 _ rfl
  have b1 := HQ.out.at 1 _ rfl
  have b2 := HQ.out.at 2 _ rfl
  have b3 := HQ.out.at 3 _ rfl
  have b4 := HQ.out.at 4 _ rfl
  have b5 := HQ.out.at 5 _ rfl
  have b6 := HQ.out.at 6 _ rfl
  have b7 := HQ.out.at 7 _ rfl
  have b8 := HQ.out.at 8 _ rfl
  have b9 := HQ.out.at 9 _ rfl
  have b10 := HQ.out.at 10 _ rfl
  have b11 := HQ.out.at 11 _ rfl
  clear hx
  go_enter Tryz.func76, Tryz.ntmps76
  go_wp2_with fail
  refine HI.out.mono ?_
  rintro e w1 ⟨⟨r, rfl, HR⟩, hb⟩
  have HB1 : Hid (Below w.heap.size w w1) := HQ.out.inB hb
  clear hb HI
  go_wp2
  go_ret
  exact ⟨ret_bool HR.out, HB1.out⟩
end Go.Proofs.YtoblpjknnchlmabGreatDoor
