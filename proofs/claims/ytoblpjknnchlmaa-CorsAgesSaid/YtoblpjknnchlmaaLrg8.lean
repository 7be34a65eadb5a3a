/- Whether a request is too large to be held, by the law's own words. -/
import Derived.Test.YtoblpjknnchlmaaOvr8
import Derived.Test.YtoblpjknnchlmaaEnt
import Derived.Test.YtoblpjknnchlmaaBxa
import Derived.Deep.LoopGhost
namespace Go.Proofs.Ytoblpjknnchlmaa
open Go.RowKit

theorem req_at {w : World} {g : Nat} {v0 v1 v2 v3 v4 v5 v6 v7 v8 v9 v10 v11 v12 : Value} {T : TypeId} (h : w.heap[g]? = some (.cells #[v0, v1, v2, v3, v4, v5, v6, v7, v8, v9, v10, v11, v12] T (0, 0))) :
    w.cell? ⟨g, 0, none⟩ = some v0 ∧ w.cell? ⟨g, 2, none⟩ = some v2 ∧ w.cell? ⟨g, 5, none⟩ = some v5 ∧ w.cell? ⟨g, 7, none⟩ = some v7 ∧ w.cell? ⟨g, 8, none⟩ = some v8 ∧ w.cell? ⟨g, 9, none⟩ = some v9 ∧ w.cell? ⟨g, 10, none⟩ = some v10 ∧ w.cell? ⟨g, 12, none⟩ = some v12 :=
  ⟨by simp [World.cell?, h], by simp [World.cell?, h], by simp [World.cell?, h], by simp [World.cell?, h], by simp [World.cell?, h], by simp [World.cell?, h], by simp [World.cell?, h], by simp [World.cell?, h]⟩
set_option maxRecDepth 100000 in
set_option maxHeartbeats 4000000 in
theorem large_any (ps : List Par) (hz : ∀ p ∈ ps, p.1.size ≤ 140737488355328 ∧ p.2.size ≤ 140737488355328) (a0 : Option Addr) (len cap b off : Nat) (hlb : len ≤ 9223372036854775807)
    (pt fp up : Int) (fs us wi : Bool) (fh uh pa qu me bo : ByteArray) (h1 : fh.size ≤ 140737488355328) (h2 : uh.size ≤ 140737488355328) (h3 : pa.size ≤ 140737488355328) (h4 : qu.size ≤ 140737488355328) (h5 : me.size ≤ 140737488355328) (h6 : bo.size ≤ 140737488355328) (w : World) (hx : Pars w a0 len b off ps) :
    Calls Try.prog 5 #[.agg #[.int .i64 pt, .bool fs, .string fh, .int .i64 fp, .bool us, .string uh, .int .i64 up, .string pa, .string qu, .string me, .slice a0 len cap, .bool wi, .string bo]] w fun e w' => e = .returned (.bool (largeL ps (me.size + pa.size + qu.size + uh.size + fh.size + bo.size))) ∧ Below w.heap.size w w' := by
  have hb0 : Below w.heap.size w (w.alloc (.cells #[.int .i64 pt, .bool fs, .string fh, .int .i64 fp, .bool us, .string uh, .int .i64 up, .string pa, .string qu, .string me, .slice a0 len cap, .bool wi, .string bo] 29)) := (Below.refl _ _).alloc (Nat.le_refl _) _
  have HX : Hid (Pars (w.alloc (.cells #[.int .i64 pt, .bool fs, .string fh, .int .i64 fp, .bool us, .string uh, .int .i64 up, .string pa, .string qu, .string me, .slice a0 len cap, .bool wi, .string bo] 29)) a0 len b off ps) := hx.below hb0
  have HL : Hid (ps.length = len) := hx.len_eq
  have HZ : Hid (∀ p ∈ ps, p.1.size ≤ 140737488355328 ∧ p.2.size ≤ 140737488355328) := hz
  have HB0 : Hid (Below w.heap.size w (w.alloc (.cells #[.int .i64 pt, .bool fs, .string fh, .int .i64 fp, .bool us, .string uh, .int .i64 up, .string pa, .string qu, .string me, .slice a0 len cap, .bool wi, .string bo] 29)) ∧ (w.alloc (.cells #[.int .i64 pt, .bool fs, .string fh, .int .i64 fp, .bool us, .string uh, .int .i64 up, .string pa, .string qu, .string me, .slice a0 len cap, .bool wi, .string bo] 29)).heap[w.heap.size]? = some (.cells #[.int .i64 pt, .bool fs, .string fh, .int .i64 fp, .bool us, .string uh, .int .i64 up, .string pa, .string qu, .string me, .slice a0 len cap, .bool wi, .string bo] 29 (0, 0))) := ⟨hb0, heap_alloc_new w _⟩
  clear hb0 hx hz
  by_cases h45 : (45 : Int) < (len : Int)
  · have HA : Hid (largeL ps (me.size + pa.size + qu.size + uh.size + fh.size + bo.size) = true) := by
      show _ = _
      unfold largeL
      rw [decide_eq_true (by have := HL.out; omega), Bool.true_or]
    go_enter Try.func5, Try.ntmps5
    go_wp2
    go_ret
    exact ⟨ret_bool (by rw [HA.out]), HB0.out.1⟩
  by_cases h900 : (900 : Int) < (me.size : Int) + (pa.size : Int) + (qu.size : Int) + (uh.size : Int) + (fh.size : Int) + (bo.size : Int)
  · have HA : Hid (largeL ps (me.size + pa.size + qu.size + uh.size + fh.size + bo.size) = true) := by
      show _ = _
      unfold largeL
      rw [decide_eq_true (show 900 < me.size + pa.size + qu.size + uh.size + fh.size + bo.size by omega), Bool.true_or, Bool.or_true]
    go_enter Try.func5, Try.ntmps5
    go_wp2
    go_ret
    exact ⟨ret_bool (by rw [HA.out]), HB0.out.1⟩
  have HAA : Hid (largeL ps (me.size + pa.size + qu.size + uh.size + fh.size + bo.size) = ps.any overP) := by
    show _ = _
    unfold largeL
    rw [decide_eq_false (by have := HL.out; omega), decide_eq_false (show ¬ 900 < me.size + pa.size + qu.size + uh.size + fh.size + bo.size by omega), Bool.false_or, Bool.false_or]
  go_enter Try.func5, Try.ntmps5
  go_wp2
  generalize hW0 : w.alloc (.cells #[.int .i64 pt, .bool fs, .string fh, .int .i64 fp, .bool us, .string uh, .int .i64 up, .string pa, .string qu, .string me, .slice a0 len cap, .bool wi, .string bo] 29) = W0 at HB0 HX ⊢
  clear hW0
  obtain ⟨_, c2, c5, c7, c8, c9, c10, c12⟩ := req_at HB0.out.2
  go_loopw [4] (fun i wr => ∃ (k q : Nat), k ≤ len ∧ i = .int .i64 k ∧ wr = W0.drewN q ∧ Hid ((ps.take k).any overP = false)) (fun i _ => len - (intOf i).toNat)
  case atStart => exact ⟨0, 0, Nat.zero_le _, rfl, rfl, rfl⟩
  case round =>
    obtain ⟨k, q, hk, rfl, rfl, HK⟩ := hrel
    have c10' : (W0.drewN q).cell? ⟨w.heap.size, 10, none⟩ = some (.slice a0 len cap) := c10
    by_cases hlt : k < len
    · have hltz : (k : Int) < (len : Int) := by omega
      obtain ⟨p, hp⟩ : ∃ p, ps[k]? = some p := ⟨ps[k]'(by have := HL.out; omega), List.getElem?_eq_getElem _⟩
      have hpz := HZ.out p (List.mem_of_getElem? hp)
      obtain ⟨pn, pv⟩ := p
      have HPK : Hid (ps[k]? = some (pn, pv)) := hp
      have hp1 : pn.size ≤ 140737488355328 := hpz.1
      have hp2 : pv.size ≤ 140737488355328 := hpz.2
      obtain ⟨ha0, _⟩ := HX.out.lies (by omega)
      subst ha0
      have d1 : W0.cell? ⟨b, off + k * 2, none⟩ = some (.string pn) := HX.out.one k _ hp
      have d2 : W0.cell? ⟨b, off + k * 2 + 1, none⟩ = some (.string pv) := HX.out.two k _ hp
      clear hp hpz
      by_cases h300 : (300 : Int) < (pn.size : Int) + (pv.size : Int)
      · have HE : Hid (ps.any overP = true) := List.any_eq_true.2 ⟨_, List.mem_of_getElem? HPK.out, by unfold overP; exact decide_eq_true (by show 300 < pn.size + pv.size; omega)⟩
        go_wp2
        go_quiet (fail)
        go_wp2
        go_ret
        exact ⟨ret_bool (by rw [HAA.out, HE.out]), drewN_below (drewN_below HB0.out.1 _) _⟩
      · have HS : Hid ((ps.take (k + 1)).any overP = false) := over_snoc HK.out HPK.out (by show ¬ 300 < pn.size + pv.size; omega)
        go_wp2
        go_quiet (fail)
        go_wp2
        go_roundw
        case rel => exact ⟨k + 1, _, by omega, by go_num, rfl, HS⟩
        case measure => simp [intOf]; omega
    · have hltz : ¬ (k : Int) < (len : Int) := by omega
      have HE : Hid (ps.any overP = false) := by
        have := HK.out
        rw [List.take_of_length_le (by have := HL.out; omega)] at this
        exact this
      go_wp2
      go_ret
      exact ⟨ret_bool (by rw [HAA.out, HE.out]), drewN_below HB0.out.1 _⟩
end Go.Proofs.Ytoblpjknnchlmaa
