/- The library's functions over a row of passes that lies somewhere. -/
import Derived.Test.YtoblpjknnchlmabGreatDoorPsD
import Derived.Deep.LoopGhost
import Derived.Deep.QuietTactic
import Derived.BigQuiet
namespace Go.Proofs.YtoblpjknnchlmabGreatDoor
open Go.RowKit

/-- A function that says whether a pass is of a kind, at these, and what it holds. -/
structure KindQ (K : Nat) (lb : Array Value) (f : PsV → Bool) (ps : List PsV) (w : World) : Prop where
  says : ∀ p ∈ ps, ∀ W : World, Below w.heap.size w W → Calls Tryz.prog K (#[.agg #[.bool p.fs, .string p.fh, .int .i64 p.fp, .bool p.us, .string p.uh, .int .i64 p.up, .string p.pa, .string p.qu, .bool p.wi, .string p.me, .string p.he, .int .i64 p.un]] ++ lb) W fun e w' => e = .returned (.bool (f p)) ∧ Below W.heap.size W w'
  enters : ∀ (args : Array Value) (W : World), (callFunc K args).run Tryz.prog W = .ok (.enter K args) W
set_option maxRecDepth 100000 in
set_option maxHeartbeats 4000000 in
theorem indexQ_any (K : Nat) (lb : Array Value) (f : PsV → Bool) (ps : List PsV) (w : World) (hK : KindQ K lb f ps w) (a0 : Option Addr) (len cap b off : Nat) (hlen : len ≤ 1000000) (hx : Pss w a0 len b off ps) :
    Calls Tryz.prog 77 #[.slice a0 len cap, .func (.func K) #[] lb] w fun e w' => (∃ r : Int, e = .returned (.int .i64 r) ∧ Hid (decide (0 ≤ r) = ps.any f)) ∧ Below w.heap.size w w' := by
  have HX : Hid (Pss w a0 len b off ps) := hx
  have hl := hx.len_eq
  have HL : Hid (ps.length = len) := hl
  have HK0 : Hid (KindQ K lb f ps w) := hK
  have hen := hK.enters
  clear hK hx hl
  go_enter Tryz.func77, Tryz.ntmps77
  go_wp2
  go_loopw [8] (fun i wr => ∃ (k : Nat), k ≤ len ∧ i = .int .i64 k ∧ Hid ((ps.take k).any f = false) ∧ Hid (Below w.heap.size w wr)) (fun i _ => len - (intOf i).toNat)
  case atStart => exact ⟨0, Nat.zero_le _, rfl, rfl, Below.refl _ _⟩
  case round =>
    obtain ⟨k, hk, rfl, HK, HB⟩ := hrel
    by_cases hlt : k < len
    · have hltz : (k : Int) < (len : Int) := by omega
      obtain ⟨p, hp⟩ : ∃ p, ps[k]? = some p := ⟨ps[k]'(by have := HL.out; omega), List.getElem?_eq_getElem (by have := HL.out; omega)⟩
      have HPK : Hid (ps[k]? = some p) := hp
      have HM : Hid (p ∈ ps) := List.mem_of_getElem? hp
      obtain ⟨ha0, _⟩ := HX.out.lies (by omega)
      subst ha0
      obtain ⟨c0, c1, c2, c3, c4, c5, c6, c7, c8, c9, c10, c11⟩ := (HX.out.below HB.out).all hp
      have hsay := HK0.out.says p HM.out wr HB.out
      clear hp
      obtain ⟨q, HF⟩ : ∃ q, Hid (f p = q) := ⟨_, rfl⟩
      rw [HF.out] at hsay
      obtain ⟨xfs, xfh, xfp, xus, xuh, xup, xpa, xqu, xwi, xme, xhe, xun⟩ := p
      have HSAY : Hid (Calls Tryz.prog K (#[.agg #[.bool xfs, .string xfh, .int .i64 xfp, .bool xus, .string xuh, .int .i64 xup, .string xpa, .string xqu, .bool xwi, .string xme, .string xhe, .int .i64 xun]] ++ lb) wr fun e w' => e = .returned (.bool q) ∧ Below wr.heap.size wr w') := hsay
      clear hsay
      simp only at c0 c1 c2 c3 c4 c5 c6 c7 c8 c9 c10 c11
      cases q
      · have HS : Hid ((ps.take (k + 1)).any f = false) := take_any HK.out HPK.out HF.out
        go_wp2_with fail
        refine HSAY.out.mono ?_
        rintro e w' ⟨rfl, hb'⟩
        have HB2 : Hid (Below w.heap.size w w') := HB.out.trans (hb'.mono HB.out.size)
        clear hb'
        go_wp2
        go_roundw
        case rel => exact ⟨k + 1, by omega, by go_num, HS, HB2⟩
        case measure => simp [intOf]; omega
      · have HS : Hid (ps.any f = true) := List.any_eq_true.2 ⟨_, HM.out, HF.out⟩
        go_wp2_with fail
        refine HSAY.out.mono ?_
        rintro e w' ⟨rfl, hb'⟩
        have HB2 : Hid (Below w.heap.size w w') := HB.out.trans (hb'.mono HB.out.size)
        clear hb'
        go_wp2
        go_ret
        exact ⟨⟨_, rfl, by show _ = _; rw [HS.out]; exact decide_eq_true (Int.natCast_nonneg _)⟩, HB2.out⟩
    · have hltz : ¬ (k : Int) < (len : Int) := by omega
      have HS : Hid (ps.any f = false) := by
        have := HK.out
        rw [List.take_of_length_le (by have := HL.out; omega)] at this
        exact this
      go_wp2
      go_ret
      exact ⟨⟨_, rfl, by show _ = _; rw [HS.out]; rfl⟩, HB.out⟩
theorem containsQ_any (K : Nat) (lb : Array Value) (f : PsV → Bool) (ps : List PsV) (w : World) (hK : KindQ K lb f ps w) (a0 : Option Addr) (len cap b off : Nat) (hlen : len ≤ 1000000) (hx : Pss w a0 len b off ps) :
    Calls Tryz.prog 46 #[.slice a0 len cap, .func (.func K) #[] lb] w fun e w' => e = .returned (.bool (ps.any f)) ∧ Below w.heap.size w w' := by
  go_enter Tryz.func46, Tryz.ntmps46
  go_wp2_with (go_at_call 77; refine (indexQ_any K lb f ps w hK a0 len cap b off hlen hx).mono ?_; rintro e w'' ⟨⟨r, rfl, HR⟩, hb⟩)
  go_ret
  exact ⟨ret_bool HR.out, hb⟩
end Go.Proofs.YtoblpjknnchlmabGreatDoor
