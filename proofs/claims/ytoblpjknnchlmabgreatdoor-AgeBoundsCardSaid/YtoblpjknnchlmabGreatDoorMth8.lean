/- A method as it is sent, by the program. -/
import Derived.Test.YtoblpjknnchlmabGreatDoorSam
import Derived.Test.YtoblpjknnchlmabGreatDoorClo
import Derived.Lib.LaidTab
import Derived.Lib.LaidU8
namespace Go.Proofs.YtoblpjknnchlmabGreatDoor
open Go.RowKit Go.Shelf

def mth0 : ByteArray := ⟨#[68, 69, 76, 69, 84, 69]⟩
def mth1 : ByteArray := ⟨#[71, 69, 84]⟩
def mth2 : ByteArray := ⟨#[72, 69, 65, 68]⟩
def mth3 : ByteArray := ⟨#[79, 80, 84, 73, 79, 78, 83]⟩
def mth4 : ByteArray := ⟨#[80, 79, 83, 84]⟩
def mth5 : ByteArray := ⟨#[80, 85, 84]⟩
/-- A method as it is sent: some in great letters. -/
def methodB (s : ByteArray) : ByteArray :=
  if sameL s.data.toList mth0.data.toList then mth0 else if sameL s.data.toList mth1.data.toList then mth1 else if sameL s.data.toList mth2.data.toList then mth2 else if sameL s.data.toList mth3.data.toList then mth3 else if sameL s.data.toList mth4.data.toList then mth4 else if sameL s.data.toList mth5.data.toList then mth5 else s
structure Methods (w : World) : Prop where
  lt : 0 < w.heap.size
  c0 : w.cell? ⟨0, 0, none⟩ = some (.string ⟨#[68, 69, 76, 69, 84, 69]⟩)
  c1 : w.cell? ⟨0, 1, none⟩ = some (.string ⟨#[71, 69, 84]⟩)
  c2 : w.cell? ⟨0, 2, none⟩ = some (.string ⟨#[72, 69, 65, 68]⟩)
  c3 : w.cell? ⟨0, 3, none⟩ = some (.string ⟨#[79, 80, 84, 73, 79, 78, 83]⟩)
  c4 : w.cell? ⟨0, 4, none⟩ = some (.string ⟨#[80, 79, 83, 84]⟩)
  c5 : w.cell? ⟨0, 5, none⟩ = some (.string ⟨#[80, 85, 84]⟩)
theorem Methods.below {w w' : World} (h : Methods w) {H : Nat} (hb : Below H w w') (hH : w.heap.size ≤ H) : Methods w' := by
  have k : ∀ i, w'.cell? ⟨0, i, none⟩ = w.cell? ⟨0, i, none⟩ := fun i => hb.cell (p := ⟨0, i, none⟩) (Nat.lt_of_lt_of_le h.lt hH)
  exact ⟨Nat.lt_of_lt_of_le h.lt hb.size, (k 0).trans h.c0, (k 1).trans h.c1, (k 2).trans h.c2, (k 3).trans h.c3, (k 4).trans h.c4, (k 5).trans h.c5⟩
theorem str_of_trod {br : Bool} {H : Type} {enc : TypeId × Value → H} {P : Program} {W : World} {fuel : Nat} {cs : List Value} {d : List UInt8} {q : List MemPlace} (ht : P.underlying 9 = some .string) (h : DataW.trod enc P W 0 (fun _ => true) br fuel 9 cs = some (.lit (.string d), q)) : cs = [.string ⟨d.toArray⟩] := by
  obtain ⟨s, e, x, _⟩ := DataW.trod_string ht h
  simp only [Prod.mk.injEq, DataW.lit.injEq, Lit.string.injEq] at x
  rw [e, x.1]
set_option maxRecDepth 100000 in
theorem methods_laid {W : World} (h : Lib.VarReads Tryz.prog W "gatepost/fetch.methods" Rows.laid_gatepost_fetch_methods) : Methods W := by
  obtain ⟨g', t', cs, fuel, p, hg, hty, hvar, hd⟩ := h
  have hn : Tryz.prog.globalNamed "gatepost/fetch.methods" = some 0 := by kernel_rfl
  have ht : (Tryz.prog.globals[0]?).map (·.type) = some 108 := by kernel_rfl
  obtain rfl := Option.some.inj (hn.symm.trans hg)
  obtain rfl := Option.some.inj (ht.symm.trans hty)
  have hv := fun i => World.var?_cell hg hvar i
  have k1 : Tryz.prog.cellsOf 9 = 1 := by kernel_rfl
  have a0 : cs[0]? = some (.string ⟨#[68, 69, 76, 69, 84, 69]⟩) := by
    obtain ⟨f, d, q, hd0, he⟩ := Lib.array_elem Tryz.underlying108 hd 0 (by omega)
    simp only [List.getElem?_cons_zero, Option.some.injEq] at hd0
    subst hd0
    have e := str_of_trod Tryz.underlying9 he
    rw [k1] at e
    have e2 := congrArg (fun l => l[0]?) e
    simpa [List.getElem?_take, List.getElem?_drop] using e2
  have a1 : cs[1]? = some (.string ⟨#[71, 69, 84]⟩) := by
    obtain ⟨f, d, q, hd0, he⟩ := Lib.array_elem Tryz.underlying108 hd 1 (by omega)
    simp only [List.getElem?_cons_zero, List.getElem?_cons_succ, Option.some.injEq] at hd0
    subst hd0
    have e := str_of_trod Tryz.underlying9 he
    rw [k1] at e
    have e2 := congrArg (fun l => l[0]?) e
    simpa [List.getElem?_take, List.getElem?_drop] using e2
  have a2 : cs[2]? = some (.string ⟨#[72, 69, 65, 68]⟩) := by
    obtain ⟨f, d, q, hd0, he⟩ := Lib.array_elem Tryz.underlying108 hd 2 (by omega)
    simp only [List.getElem?_cons_zero, List.getElem?_cons_succ, Option.some.injEq] at hd0
    subst hd0
    have e := str_of_trod Tryz.underlying9 he
    rw [k1] at e
    have e2 := congrArg (fun l => l[0]?) e
    simpa [List.getElem?_take, List.getElem?_drop] using e2
  have a3 : cs[3]? = some (.string ⟨#[79, 80, 84, 73, 79, 78, 83]⟩) := by
    obtain ⟨f, d, q, hd0, he⟩ := Lib.array_elem Tryz.underlying108 hd 3 (by omega)
    simp only [List.getElem?_cons_zero, List.getElem?_cons_succ, Option.some.injEq] at hd0
    subst hd0
    have e := str_of_trod Tryz.underlying9 he
    rw [k1] at e
    have e2 := congrArg (fun l => l[0]?) e
    simpa [List.getElem?_take, List.getElem?_drop] using e2
  have a4 : cs[4]? = some (.string ⟨#[80, 79, 83, 84]⟩) := by
    obtain ⟨f, d, q, hd0, he⟩ := Lib.array_elem Tryz.underlying108 hd 4 (by omega)
    simp only [List.getElem?_cons_zero, List.getElem?_cons_succ, Option.some.injEq] at hd0
    subst hd0
    have e := str_of_trod Tryz.underlying9 he
    rw [k1] at e
    have e2 := congrArg (fun l => l[0]?) e
    simpa [List.getElem?_take, List.getElem?_drop] using e2
  have a5 : cs[5]? = some (.string ⟨#[80, 85, 84]⟩) := by
    obtain ⟨f, d, q, hd0, he⟩ := Lib.array_elem Tryz.underlying108 hd 5 (by omega)
    simp only [List.getElem?_cons_zero, List.getElem?_cons_succ, Option.some.injEq] at hd0
    subst hd0
    have e := str_of_trod Tryz.underlying9 he
    rw [k1] at e
    have e2 := congrArg (fun l => l[0]?) e
    simpa [List.getElem?_take, List.getElem?_drop] using e2
  have c0 : W.cell? ⟨0, 0, none⟩ = some (.string ⟨#[68, 69, 76, 69, 84, 69]⟩) := by rw [hv 0]; exact a0
  have hlt : 0 < W.heap.size := by
    rcases Nat.lt_or_ge 0 W.heap.size with hl | hl
    · exact hl
    · simp [World.cell?, Array.getElem?_eq_none hl] at c0
  exact ⟨hlt, c0, by rw [hv 1]; exact a1, by rw [hv 2]; exact a2, by rw [hv 3]; exact a3, by rw [hv 4]; exact a4, by rw [hv 5]; exact a5⟩
theorem methods_at0 (W : World) : (Instr.index 108 (.agg #[.string ⟨#[68, 69, 76, 69, 84, 69]⟩, .string ⟨#[71, 69, 84]⟩, .string ⟨#[72, 69, 65, 68]⟩, .string ⟨#[79, 80, 84, 73, 79, 78, 83]⟩, .string ⟨#[80, 79, 83, 84]⟩, .string ⟨#[80, 85, 84]⟩]) (.int .i64 0)).run Tryz.prog W = .ok (.string ⟨#[68, 69, 76, 69, 84, 69]⟩) W := by kernel_rfl
theorem methods_at1 (W : World) : (Instr.index 108 (.agg #[.string ⟨#[68, 69, 76, 69, 84, 69]⟩, .string ⟨#[71, 69, 84]⟩, .string ⟨#[72, 69, 65, 68]⟩, .string ⟨#[79, 80, 84, 73, 79, 78, 83]⟩, .string ⟨#[80, 79, 83, 84]⟩, .string ⟨#[80, 85, 84]⟩]) (.int .i64 1)).run Tryz.prog W = .ok (.string ⟨#[71, 69, 84]⟩) W := by kernel_rfl
theorem methods_at2 (W : World) : (Instr.index 108 (.agg #[.string ⟨#[68, 69, 76, 69, 84, 69]⟩, .string ⟨#[71, 69, 84]⟩, .string ⟨#[72, 69, 65, 68]⟩, .string ⟨#[79, 80, 84, 73, 79, 78, 83]⟩, .string ⟨#[80, 79, 83, 84]⟩, .string ⟨#[80, 85, 84]⟩]) (.int .i64 2)).run Tryz.prog W = .ok (.string ⟨#[72, 69, 65, 68]⟩) W := by kernel_rfl
theorem methods_at3 (W : World) : (Instr.index 108 (.agg #[.string ⟨#[68, 69, 76, 69, 84, 69]⟩, .string ⟨#[71, 69, 84]⟩, .string ⟨#[72, 69, 65, 68]⟩, .string ⟨#[79, 80, 84, 73, 79, 78, 83]⟩, .string ⟨#[80, 79, 83, 84]⟩, .string ⟨#[80, 85, 84]⟩]) (.int .i64 3)).run Tryz.prog W = .ok (.string ⟨#[79, 80, 84, 73, 79, 78, 83]⟩) W := by kernel_rfl
theorem methods_at4 (W : World) : (Instr.index 108 (.agg #[.string ⟨#[68, 69, 76, 69, 84, 69]⟩, .string ⟨#[71, 69, 84]⟩, .string ⟨#[72, 69, 65, 68]⟩, .string ⟨#[79, 80, 84, 73, 79, 78, 83]⟩, .string ⟨#[80, 79, 83, 84]⟩, .string ⟨#[80, 85, 84]⟩]) (.int .i64 4)).run Tryz.prog W = .ok (.string ⟨#[80, 79, 83, 84]⟩) W := by kernel_rfl
theorem methods_at5 (W : World) : (Instr.index 108 (.agg #[.string ⟨#[68, 69, 76, 69, 84, 69]⟩, .string ⟨#[71, 69, 84]⟩, .string ⟨#[72, 69, 65, 68]⟩, .string ⟨#[79, 80, 84, 73, 79, 78, 83]⟩, .string ⟨#[80, 79, 83, 84]⟩, .string ⟨#[80, 85, 84]⟩]) (.int .i64 5)).run Tryz.prog W = .ok (.string ⟨#[80, 85, 84]⟩) W := by kernel_rfl
set_option maxRecDepth 100000 in
set_option maxHeartbeats 4000000 in
theorem method_any (s : ByteArray) (hs : s.size ≤ 3000) (w : World) (hm : Methods w) :
    Calls Tryz.prog 42 #[.string s] w fun e w' => e = .returned (.string (methodB s)) ∧ Below w.heap.size w w' := by
  obtain ⟨hlt, h0, h1, h2, h3, h4, h5⟩ := hm
  have q0 := methods_at0
  have q1 := methods_at1
  have q2 := methods_at2
  have q3 := methods_at3
  have q4 := methods_at4
  have q5 := methods_at5
  obtain ⟨x, HX⟩ : ∃ x, Hid (methodB s = x) := ⟨_, rfl⟩
  rw [HX.out]
  obtain ⟨b0, HB0⟩ : ∃ b, Hid (sameL s.data.toList mth0.data.toList = b) := ⟨_, rfl⟩
  obtain ⟨b1, HB1⟩ : ∃ b, Hid (sameL s.data.toList mth1.data.toList = b) := ⟨_, rfl⟩
  obtain ⟨b2, HB2⟩ : ∃ b, Hid (sameL s.data.toList mth2.data.toList = b) := ⟨_, rfl⟩
  obtain ⟨b3, HB3⟩ : ∃ b, Hid (sameL s.data.toList mth3.data.toList = b) := ⟨_, rfl⟩
  obtain ⟨b4, HB4⟩ : ∃ b, Hid (sameL s.data.toList mth4.data.toList = b) := ⟨_, rfl⟩
  obtain ⟨b5, HB5⟩ : ∃ b, Hid (sameL s.data.toList mth5.data.toList = b) := ⟨_, rfl⟩
  go_enter Tryz.func42, Tryz.ntmps42
  go_wp2
  have HW0 : Hid (Below w.heap.size w w) := Below.refl _ _
  refine wp_loop_rounds 7 ?_
  rw [rounds_succ]
  go_wp2_with fail
  refine (same_any s ⟨#[68, 69, 76, 69, 84, 69]⟩ (by omega) (by decide) _).mono ?_
  rintro e w1 ⟨rfl, hb⟩
  have HW1 : Hid (Below w.heap.size w w1) := HW0.out.trans (hb.mono HW0.out.size)
  clear hb
  rw [show sameL s.data.toList (⟨#[68, 69, 76, 69, 84, 69]⟩ : ByteArray).data.toList = b0 from HB0.out]
  cases b0
  rotate_left
  · have HE : Hid (x = mth0) := by
      show _ = _
      rw [← HX.out]
      unfold methodB
      simp only [HB0.out, if_true]
    go_wp2
    go_ret
    exact ⟨by rw [HE.out]; rfl, HW1.out⟩
  go_wp2_with fail
  rw [rounds_succ]
  go_wp2_with fail
  refine (same_any s ⟨#[71, 69, 84]⟩ (by omega) (by decide) _).mono ?_
  rintro e w2 ⟨rfl, hb⟩
  have HW2 : Hid (Below w.heap.size w w2) := HW1.out.trans (hb.mono HW1.out.size)
  clear hb
  rw [show sameL s.data.toList (⟨#[71, 69, 84]⟩ : ByteArray).data.toList = b1 from HB1.out]
  cases b1
  rotate_left
  · have HE : Hid (x = mth1) := by
      show _ = _
      rw [← HX.out]
      unfold methodB
      simp only [HB0.out, HB1.out, if_true, Bool.false_eq_true, if_false]
    go_wp2
    go_ret
    exact ⟨by rw [HE.out]; rfl, HW2.out⟩
  go_wp2_with fail
  rw [rounds_succ]
  go_wp2_with fail
  refine (same_any s ⟨#[72, 69, 65, 68]⟩ (by omega) (by decide) _).mono ?_
  rintro e w3 ⟨rfl, hb⟩
  have HW3 : Hid (Below w.heap.size w w3) := HW2.out.trans (hb.mono HW2.out.size)
  clear hb
  rw [show sameL s.data.toList (⟨#[72, 69, 65, 68]⟩ : ByteArray).data.toList = b2 from HB2.out]
  cases b2
  rotate_left
  · have HE : Hid (x = mth2) := by
      show _ = _
      rw [← HX.out]
      unfold methodB
      simp only [HB0.out, HB1.out, HB2.out, if_true, Bool.false_eq_true, if_false]
    go_wp2
    go_ret
    exact ⟨by rw [HE.out]; rfl, HW3.out⟩
  go_wp2_with fail
  rw [rounds_succ]
  go_wp2_with fail
  refine (same_any s ⟨#[79, 80, 84, 73, 79, 78, 83]⟩ (by omega) (by decide) _).mono ?_
  rintro e w4 ⟨rfl, hb⟩
  have HW4 : Hid (Below w.heap.size w w4) := HW3.out.trans (hb.mono HW3.out.size)
  clear hb
  rw [show sameL s.data.toList (⟨#[79, 80, 84, 73, 79, 78, 83]⟩ : ByteArray).data.toList = b3 from HB3.out]
  cases b3
  rotate_left
  · have HE : Hid (x = mth3) := by
      show _ = _
      rw [← HX.out]
      unfold methodB
      simp only [HB0.out, HB1.out, HB2.out, HB3.out, if_true, Bool.false_eq_true, if_false]
    go_wp2
    go_ret
    exact ⟨by rw [HE.out]; rfl, HW4.out⟩
  go_wp2_with fail
  rw [rounds_succ]
  go_wp2_with fail
  refine (same_any s ⟨#[80, 79, 83, 84]⟩ (by omega) (by decide) _).mono ?_
  rintro e w5 ⟨rfl, hb⟩
  have HW5 : Hid (Below w.heap.size w w5) := HW4.out.trans (hb.mono HW4.out.size)
  clear hb
  rw [show sameL s.data.toList (⟨#[80, 79, 83, 84]⟩ : ByteArray).data.toList = b4 from HB4.out]
  cases b4
  rotate_left
  · have HE : Hid (x = mth4) := by
      show _ = _
      rw [← HX.out]
      unfold methodB
      simp only [HB0.out, HB1.out, HB2.out, HB3.out, HB4.out, if_true, Bool.false_eq_true, if_false]
    go_wp2
    go_ret
    exact ⟨by rw [HE.out]; rfl, HW5.out⟩
  go_wp2_with fail
  rw [rounds_succ]
  go_wp2_with fail
  refine (same_any s ⟨#[80, 85, 84]⟩ (by omega) (by decide) _).mono ?_
  rintro e w6 ⟨rfl, hb⟩
  have HW6 : Hid (Below w.heap.size w w6) := HW5.out.trans (hb.mono HW5.out.size)
  clear hb
  rw [show sameL s.data.toList (⟨#[80, 85, 84]⟩ : ByteArray).data.toList = b5 from HB5.out]
  cases b5
  rotate_left
  · have HE : Hid (x = mth5) := by
      show _ = _
      rw [← HX.out]
      unfold methodB
      simp only [HB0.out, HB1.out, HB2.out, HB3.out, HB4.out, HB5.out, if_true, Bool.false_eq_true, if_false]
    go_wp2
    go_ret
    exact ⟨by rw [HE.out]; rfl, HW6.out⟩
  go_wp2_with fail
  rw [rounds_succ]
  have HE : Hid (x = s) := by
    show _ = _
    rw [← HX.out]
    unfold methodB
    simp only [HB0.out, HB1.out, HB2.out, HB3.out, HB4.out, HB5.out, Bool.false_eq_true, if_false]
  go_wp2_with fail
  refine (clone_any s (by omega) _).mono ?_
  rintro e w7 ⟨rfl, hb⟩
  go_wp2
  go_ret
  exact ⟨by rw [HE.out]; rfl, HW6.out.trans (hb.mono HW6.out.size)⟩
end Go.Proofs.YtoblpjknnchlmabGreatDoor
