/- Whether a request may be, by the program and by the document. -/
import Derived.Test.YtbhnaekkjpcafaaLrg8
import Derived.Test.YtbhnaekkjpcafaaTkB
import Derived.Test.YtbhnaekkjpcafaaTkRef
import Derived.Deep.Cut
import Derived.Deep.CutRange
import Derived.Deep.DeepCutAuto
namespace Go.Proofs.Ytbhnaekkjpcafaa
open Go.RowKit

/-- A request that may be. -/
def rightL (pt : Int) (me : List UInt8) (ps : List Par) : Bool := decide (0 ≤ pt ∧ pt ≤ 3) && (isL me && (decide (ps.length ≤ 40) && ps.all fun p => isL p.1.data.toList))
theorem all_next (ps : List Par) (k : Nat) (p : Par) (h : ps[k]? = some p) (f : Par → Bool) (q : Bool) (hq : (ps.take k).all f = q) : (ps.take (k + 1)).all f = (q && f p) := by
  obtain ⟨hk1, e⟩ := List.getElem?_eq_some_iff.1 h
  rw [List.take_succ_eq_append_getElem hk1, List.all_append, hq, e]
  simp
theorem two_cells {w : World} {g : Nat} {v0 v1 : Value} {T : TypeId} (h : w.heap[g]? = some (.cells #[v0, v1] T (0, 0))) : w.cell? ⟨g, 0, none⟩ = some v0 ∧ w.cell? ⟨g, 1, none⟩ = some v1 :=
  ⟨by simp [World.cell?, h], by simp [World.cell?, h]⟩
set_option maxRecDepth 100000 in
set_option maxHeartbeats 4000000 in
theorem right8_any (ps : List Par) (hz : ∀ p ∈ ps, p.1.size ≤ 3000) (a0 : Option Addr) (len cap b off : Nat) (hlen : len ≤ 60) (pt fp up : Int) (fs us wi : Bool) (fh uh pa qu me bo : ByteArray) (hme : me.size ≤ 3000) (hpt : -9223372036854775808 ≤ pt ∧ pt ≤ 9223372036854775807) (w : World) (hx : Pars w a0 len b off ps) :
    Calls Try.prog 5 #[.agg #[.int .i64 pt, .bool fs, .string fh, .int .i64 fp, .bool us, .string uh, .int .i64 up, .string pa, .string qu, .string me, .slice a0 len cap, .bool wi, .string bo]] w fun e w' => e = .returned (.bool (rightL pt me.data.toList ps)) ∧ Below w.heap.size w w' := by
  have HN : Hid (∀ w', Below (w.alloc (.cells #[.int .i64 pt, .bool fs, .string fh, .int .i64 fp, .bool us, .string uh, .int .i64 up, .string pa, .string qu, .string me, .slice a0 len cap, .bool wi, .string bo] 28)).heap.size (w.alloc (.cells #[.int .i64 pt, .bool fs, .string fh, .int .i64 fp, .bool us, .string uh, .int .i64 up, .string pa, .string qu, .string me, .slice a0 len cap, .bool wi, .string bo] 28)) w' → Below w.heap.size w w' ∧ Pars w' a0 len b off ps ∧ w'.heap[w.heap.size]? = some (.cells #[.int .i64 pt, .bool fs, .string fh, .int .i64 fp, .bool us, .string uh, .int .i64 up, .string pa, .string qu, .string me, .slice a0 len cap, .bool wi, .string bo] 28 (0, 0))) := fun w' hb => by
    have hb0 : Below w.heap.size w (w.alloc (.cells #[.int .i64 pt, .bool fs, .string fh, .int .i64 fp, .bool us, .string uh, .int .i64 up, .string pa, .string qu, .string me, .slice a0 len cap, .bool wi, .string bo] 28)) := (Below.refl _ _).alloc (Nat.le_refl _) _
    have hb1 := hb0.trans (hb.mono (by simp))
    exact ⟨hb1, hx.below hb1, (hb.block _ (by simp)).trans (heap_alloc_new w _)⟩
  have HX : Hid (Pars w a0 len b off ps) := hx
  have HL : Hid (ps.length = len) := hx.len_eq
  have HZ : Hid (∀ p ∈ ps, p.1.size ≤ 3000) := hz
  clear hx hz
  by_cases h0 : pt < 0
  · have HF : Hid (rightL pt me.data.toList ps = false) := by
      show _ = _
      unfold rightL
      rw [decide_eq_false (by omega), Bool.false_and]
    go_enter Try.func5, Try.ntmps5
    go_wp2
    go_ret
    exact ⟨ret_bool (by rw [HF.out]), (HN.out _ (Below.refl _ _)).1⟩
  by_cases h4 : 4 ≤ pt
  · have HF : Hid (rightL pt me.data.toList ps = false) := by
      show _ = _
      unfold rightL
      rw [decide_eq_false (by omega), Bool.false_and]
    go_enter Try.func5, Try.ntmps5
    go_wp2
    go_ret
    exact ⟨ret_bool (by rw [HF.out]), (HN.out _ (Below.refl _ _)).1⟩
  by_cases h40 : (40 : Int) < (len : Int)
  · have HF : Hid (rightL pt me.data.toList ps = false) := by
      show _ = _
      unfold rightL
      rw [decide_eq_false (show ¬ ps.length ≤ 40 by have := HL.out; omega), Bool.false_and, Bool.and_false, Bool.and_false]
    go_enter Try.func5, Try.ntmps5
    go_wp2
    go_ret
    exact ⟨ret_bool (by rw [HF.out]), (HN.out _ (Below.refl _ _)).1⟩
  have HR : Hid (rightL pt me.data.toList ps = (isL me.data.toList && ps.all fun p => isL p.1.data.toList)) := by
    show _ = _
    unfold rightL
    rw [decide_eq_true (by omega), decide_eq_true (show ps.length ≤ 40 by have := HL.out; omega), Bool.true_and, Bool.true_and]
  go_enter Try.func5, Try.ntmps5
  go_wp2
  generalize hW0 : w.alloc (.cells #[.int .i64 pt, .bool fs, .string fh, .int .i64 fp, .bool us, .string uh, .int .i64 up, .string pa, .string qu, .string me, .slice a0 len cap, .bool wi, .string bo] 28) = W0 at HN ⊢
  clear hW0
  go_loopw [22] (fun i wr => ∃ k : Nat, k ≤ len ∧ i = .int .i64 k ∧ Hid (Below W0.heap.size W0 wr ∧ (ps.take k).all (fun p => isL p.1.data.toList) = true)) (fun i _ => len - (intOf i).toNat)
  case atStart => exact ⟨0, Nat.zero_le _, rfl, Below.refl _ _, rfl⟩
  case round =>
    obtain ⟨k, hk, rfl, HI⟩ := hrel
    by_cases hlt : k < len
    · have hltz : (k : Int) < (len : Int) := by omega
      obtain ⟨p, hp⟩ : ∃ p, ps[k]? = some p := ⟨ps[k]'(by have := HL.out; omega), List.getElem?_eq_getElem _⟩
      have hpz := HZ.out p (List.mem_of_getElem? hp)
      obtain ⟨pn, pv⟩ := p
      have HPK : Hid (ps[k]? = some (pn, pv)) := hp
      have hpz1 : pn.size ≤ 3000 := hpz
      obtain ⟨ha0, _⟩ := HX.out.lies (by omega)
      subst ha0
      have hXr := (HN.out _ HI.out.1).2.1
      have c1 : wr.cell? ⟨b, off + k * 2, none⟩ = some (.string pn) := hXr.one k _ hp
      have c2 : wr.cell? ⟨b, off + k * 2 + 1, none⟩ = some (.string pv) := hXr.two k _ hp
      have HB : Hid (Below W0.heap.size W0 (wr.alloc (.cells #[.string pn, .string pv] 31))) := HI.out.1.alloc HI.out.1.size _
      obtain ⟨q, HQ⟩ : ∃ q, Hid (isL pn.data.toList = q) := ⟨_, rfl⟩
      clear hp hpz hXr
      go_wp2_with fail
      refine (is_any pn (by omega) _).mono ?_
      rintro e w' ⟨rfl, hw⟩
      obtain rfl := hw.symm
      rw [HQ.out]
      cases q
      · have HE : Hid (ps.all (fun p => isL p.1.data.toList) = false) := by
          show _ = _
          rw [List.all_eq_false]
          exact ⟨_, List.mem_of_getElem? HPK.out, by rw [HQ.out]; simp⟩
        go_wp2
        go_ret
        exact ⟨ret_bool (by rw [HR.out, HE.out, Bool.and_false]), (HN.out _ HB.out).1⟩
      · have HS : Hid ((ps.take (k + 1)).all (fun p => isL p.1.data.toList) = true) := by
          show _ = _
          rw [all_next ps k _ HPK.out _ _ HI.out.2, HQ.out]
          rfl
        go_wp2
        go_roundw
        case rel => exact ⟨k + 1, by omega, by go_num, HB.out, HS.out⟩
        case measure => simp [intOf]; omega
    · have hltz : ¬ (k : Int) < (len : Int) := by omega
      have HE : Hid (ps.all (fun p => isL p.1.data.toList) = true) := by
        have := HI.out.2
        rw [List.take_of_length_le (by have := HL.out; omega)] at this
        exact this
      obtain ⟨_, _, _, _, _, c9, _, _⟩ := req_at (HN.out _ HI.out.1).2.2
      obtain ⟨q, HQ⟩ : ∃ q, Hid (isL me.data.toList = q) := ⟨_, rfl⟩
      go_wp2_with fail
      refine (is_any me (by omega) _).mono ?_
      rintro e w' ⟨rfl, hw⟩
      obtain rfl := hw.symm
      rw [HQ.out]
      go_wp2
      go_ret
      exact ⟨ret_bool (by rw [HR.out, HE.out, HQ.out, Bool.and_true]), (HN.out _ HI.out.1).1⟩
set_option maxRecDepth 100000 in
set_option maxHeartbeats 4000000 in
theorem refRight8_any (ps : List Par) (hz : ∀ p ∈ ps, p.1.size ≤ 3000) (a0 : Option Addr) (len cap b off : Nat) (hlen : len ≤ 60) (pt fp up : Int) (fs us wi : Bool) (fh uh pa qu me bo : ByteArray) (hme : me.size ≤ 3000) (_hpt : -9223372036854775808 ≤ pt ∧ pt ≤ 9223372036854775807) (w : World) (hx : Pars w a0 len b off ps) :
    Calls Try.prog 6 #[.agg #[.int .i64 pt, .bool fs, .string fh, .int .i64 fp, .bool us, .string uh, .int .i64 up, .string pa, .string qu, .string me, .slice a0 len cap, .bool wi, .string bo]] w fun e w' => e = .returned (.bool (rightL pt me.data.toList ps)) ∧ Below w.heap.size w w' := by
  have HN : Hid (∀ w', Below (w.alloc (.cells #[.int .i64 pt, .bool fs, .string fh, .int .i64 fp, .bool us, .string uh, .int .i64 up, .string pa, .string qu, .string me, .slice a0 len cap, .bool wi, .string bo] 28)).heap.size (w.alloc (.cells #[.int .i64 pt, .bool fs, .string fh, .int .i64 fp, .bool us, .string uh, .int .i64 up, .string pa, .string qu, .string me, .slice a0 len cap, .bool wi, .string bo] 28)) w' → Below w.heap.size w w' ∧ Pars w' a0 len b off ps ∧ w'.heap[w.heap.size]? = some (.cells #[.int .i64 pt, .bool fs, .string fh, .int .i64 fp, .bool us, .string uh, .int .i64 up, .string pa, .string qu, .string me, .slice a0 len cap, .bool wi, .string bo] 28 (0, 0))) := fun w' hb => by
    have hb0 : Below w.heap.size w (w.alloc (.cells #[.int .i64 pt, .bool fs, .string fh, .int .i64 fp, .bool us, .string uh, .int .i64 up, .string pa, .string qu, .string me, .slice a0 len cap, .bool wi, .string bo] 28)) := (Below.refl _ _).alloc (Nat.le_refl _) _
    have hb1 := hb0.trans (hb.mono (by simp))
    exact ⟨hb1, hx.below hb1, (hb.block _ (by simp)).trans (heap_alloc_new w _)⟩
  have HX : Hid (Pars w a0 len b off ps) := hx
  have HL : Hid (ps.length = len) := hx.len_eq
  have HZ : Hid (∀ p ∈ ps, p.1.size ≤ 3000) := hz
  clear hx hz
  obtain ⟨d, HD⟩ : ∃ d, Hid (decide (0 ≤ pt ∧ pt ≤ 3) = d) := ⟨_, rfl⟩
  obtain ⟨q, HQ⟩ : ∃ q, Hid (isL me.data.toList = q) := ⟨_, rfl⟩
  obtain ⟨g, HG⟩ : ∃ g, Hid (decide (ps.length ≤ 40) = g) := ⟨_, rfl⟩
  have HR : Hid (rightL pt me.data.toList ps = ((d && (q && g)) && ps.all fun p => isL p.1.data.toList)) := by
    show _ = _
    unfold rightL
    rw [HD.out, HQ.out, HG.out, Bool.and_assoc, Bool.and_assoc]
  have hg : decide ((len : Int) ≤ 40) = g := by
    rw [← HG.out, HL.out]
    simp only [← Int.ofNat_le]
    rfl
  go_enter Try.func6, Try.ntmps6
  go_upto_region 1 with fail
  generalize hW0 : w.alloc (.cells #[.int .i64 pt, .bool fs, .string fh, .int .i64 fp, .bool us, .string uh, .int .i64 up, .string pa, .string qu, .string me, .slice a0 len cap, .bool wi, .string bo] 28) = W0 at HN ⊢
  clear hW0
  obtain ⟨_, _, _, _, _, c9, c10, _⟩ := req_at (HN.out _ (Below.refl _ _)).2.2
  go_cut [3] (fun s3 wc => ∃ z : Bool, s3 = .bool z ∧ Hid (z = (d && (q && g))) ∧ wc = W0)
  case first =>
    go_wp2_with fail
    refine (within_any pt 0 3 _).mono ?_
    rintro e w' ⟨rfl, hw⟩
    obtain rfl := hw.symm
    rw [HD.out]
    cases d
    · go_wp2
      go_meet
      exact ⟨false, rfl, rfl, rfl⟩
    go_wp2_with fail
    refine (refToken_any me (by omega) _).mono ?_
    rintro e w' ⟨rfl, hw⟩
    obtain rfl := hw.symm
    rw [HQ.out]
    cases q
    · go_wp2
      go_meet
      exact ⟨false, rfl, rfl, rfl⟩
    go_wp2
    go_meet
    exact ⟨g, rfl, by cases g <;> rfl, rfl⟩
  case rest =>
  obtain ⟨z, rfl, HZZ, hw⟩ := hcut
  obtain rfl := hw.symm
  clear hw
  go_wp2
  go_loopw [3, 23] (fun s3 i wr => ∃ (k : Nat) (y : Bool), k ≤ len ∧ s3 = .bool y ∧ i = .int .i64 k ∧ Hid (Below W0.heap.size W0 wr ∧ y = (z && (ps.take k).all (fun p => isL p.1.data.toList)))) (fun _ i _ => len - (intOf i).toNat)
  case atStart => exact ⟨0, z, Nat.zero_le _, rfl, rfl, Below.refl _ _, by simp⟩
  case round =>
    obtain ⟨k, y, hk, rfl, rfl, HI⟩ := hrel
    by_cases hlt : k < len
    · have hltz : (k : Int) < (len : Int) := by omega
      obtain ⟨p, hp⟩ : ∃ p, ps[k]? = some p := ⟨ps[k]'(by have := HL.out; omega), List.getElem?_eq_getElem _⟩
      have hpz := HZ.out p (List.mem_of_getElem? hp)
      obtain ⟨pn, pv⟩ := p
      have HPK : Hid (ps[k]? = some (pn, pv)) := hp
      have hpz1 : pn.size ≤ 3000 := hpz
      obtain ⟨ha0, _⟩ := HX.out.lies (by omega)
      subst ha0
      have hXr := (HN.out _ HI.out.1).2.1
      have c1 : wr.cell? ⟨b, off + k * 2, none⟩ = some (.string pn) := hXr.one k _ hp
      have c2 : wr.cell? ⟨b, off + k * 2 + 1, none⟩ = some (.string pv) := hXr.two k _ hp
      have HB : Hid (Below W0.heap.size W0 (wr.alloc (.cells #[.string pn, .string pv] 31))) := HI.out.1.alloc HI.out.1.size _
      obtain ⟨x, HXX⟩ : ∃ x, Hid (isL pn.data.toList = x) := ⟨_, rfl⟩
      have HS : Hid ((z && (ps.take (k + 1)).all (fun p => isL p.1.data.toList)) = (y && x)) := by
        show _ = _
        rw [all_next ps k _ HPK.out _ _ rfl, HXX.out, HI.out.2, Bool.and_assoc]
      clear hp hpz hXr
      cases y
      · go_wp2
        go_roundw
        case rel => exact ⟨k + 1, false, by omega, rfl, by go_num, HB.out, by rw [HS.out]; rfl⟩
        case measure => simp [intOf]; omega
      · go_wp2_with fail
        refine (refToken_any pn (by omega) _).mono ?_
        rintro e w' ⟨rfl, hw⟩
        obtain rfl := hw.symm
        rw [HXX.out]
        go_wp2
        go_roundw
        case rel => exact ⟨k + 1, x, by omega, rfl, by go_num, HB.out, by rw [HS.out, Bool.true_and]⟩
        case measure => simp [intOf]; omega
    · have hltz : ¬ (k : Int) < (len : Int) := by omega
      have HE : Hid (y = (z && ps.all fun p => isL p.1.data.toList)) := by
        have := HI.out.2
        rw [List.take_of_length_le (by have := HL.out; omega)] at this
        exact this
      go_wp2
      go_ret
      exact ⟨ret_bool (by rw [HR.out, HE.out, HZZ.out]), (HN.out _ HI.out.1).1⟩
end Go.Proofs.Ytbhnaekkjpcafaa
