/- An origin's text is its own, by the program. -/
import Derived.Test.YtclagicimiimfabDoorBackQ
import Derived.Test.YtclagicimiimfabDoorNmd
namespace Go.Proofs.YtclagicimiimfabDoor
open Go.RowKit

theorem host_longer (s : ByteArray) (hs : 60 < s.size) (h2 : s.size ≤ 140737488355328) (w : World) :
    Calls Tryd.prog 27 #[.string s] w fun e w' => e = .returned (.bool false) ∧ Below w.heap.size w w' := by
  go_enter Tryd.func27, Tryd.ntmps27
  go_wp2
  have c0 := cell_new w (.bool false) 4
  (try simp only [Exit.inBlock, Exit.then])
  refine bodyPost_ret (v := .bool false) ?_ rfl ⟨rfl, (Below.refl _ _).alloc (Nat.le_refl _) _⟩
  simp [results, Tryd.f27, go_sem, c0.1]
set_option maxHeartbeats 1000000 in
theorem right_all (sec : Bool) (host : ByteArray) (port : Int) (hs : host.size ≤ 140737488355328) (w : World) :
    Calls Tryd.prog 11 #[.agg #[.bool sec, .string host, .int .i64 port]] w fun e w' => e = .returned (.bool (rightL host.data.toList port)) ∧ Below w.heap.size w w' := by
  by_cases h : host.size ≤ 4000
  · exact right_any sec host port h w
  · have HQ : Hid (rightL host.data.toList port = false) := by
      show _ = _
      unfold rightL
      rw [data_len, decide_eq_false (show ¬ host.size ≤ 60 by omega)]
      rfl
    go_enter Tryd.func11, Tryd.ntmps11
    go_wp2_with (go_at_call 27; refine (host_longer host (by omega) hs _).mono ?_; rintro e w' ⟨rfl, hb⟩)
    go_ret
    exact ⟨by rw [HQ.out]; rfl, ((Below.refl _ _).alloc (Nat.le_refl _) _).trans (hb.mono (by simp))⟩
/-- Three cells of one block. -/
structure C3 (W : World) (b : Nat) (v0 v1 v2 : Value) : Prop where
  c0 : W.cell? ⟨b, 0, none⟩ = some v0
  c1 : W.cell? ⟨b, 1, none⟩ = some v1
  c2 : W.cell? ⟨b, 2, none⟩ = some v2
theorem C3.step {W W' : World} {b : Nat} {v0 v1 v2 : Value} (h : C3 W b v0 v1 v2) (hb : Below W.heap.size W W') : C3 W' b v0 v1 v2 :=
  ⟨(hb.cell (p := ⟨b, 0, none⟩) (lt_of_cell h.c0)).trans h.c0, (hb.cell (p := ⟨b, 1, none⟩) (lt_of_cell h.c1)).trans h.c1, (hb.cell (p := ⟨b, 2, none⟩) (lt_of_cell h.c2)).trans h.c2⟩
theorem c3_new (W : World) (v0 v1 v2 : Value) (t : TypeId) : C3 (W.alloc (.cells #[v0, v1, v2] t)) W.heap.size v0 v1 v2 := ⟨cells_new _ _ _ 0, cells_new _ _ _ 1, cells_new _ _ _ 2⟩
theorem eqO (a c : Bool) (x y : ByteArray) (n m : Int) (E : Bool) (hE : (a == c && (x.toList == y.toList && n == m)) = E) (w : World) :
    (Op.equalIn 10000 24 (.agg #[.bool a, .string x, .int .i64 n]) (.agg #[.bool c, .string y, .int .i64 m])).run Tryd.prog w = .ok E w := by
  have u3 := Tryd.underlying3
  have u4 := Tryd.underlying4
  have u9 := Tryd.underlying9
  have a3 := Tryd.isAgg3
  have z3 := Tryd.sizeOf3
  have hS : Tryd.prog.underlying 24 = some (.struct (Tryd.prog.fieldsOf 24)) := by kernel_rfl
  have hp : Tryd.prog.stoodInHeld 24 = false := by kernel_rfl
  rw [show (10000 : Nat) = 9999 + 1 from rfl, run_equalIn_agg w 9999 24 _ _ hS hp, ← hE]
  simp only [Program.fieldsOf, Tryd.underlying24]
  go_simp
  rw [← hE]
  by_cases h1 : a = c <;> by_cases h2 : x.toList = y.toList <;> by_cases h3 : n = m <;> simp [h1, h2, h3]
theorem text_len (s : Bool) (x : List UInt8) (n : Int) (h1 : 1 ≤ n) (h2 : n ≤ 65535) : (textL s x n).length ≤ x.length + 30 := by
  have e1 := Lib.itoa_length_le n (by omega) (by omega)
  have hm : (markOf s).data.toList.length ≤ 8 := by cases s <;> decide
  have ht : (tailT s n).length ≤ 22 := by
    unfold tailT
    split
    · simp
    · simp; omega
  unfold textL
  rw [List.length_append, List.length_append]
  omega
/-- What an origin's text is. -/
structure TextIs (s : Bool) (x : ByteArray) (n : Int) (t : ByteArray) : Prop where
  eq : bs (textL s x.data.toList n) = t
  hx : x.size ≤ 4000
  h0 : -9223372036854775808 ≤ n
  h1 : n ≤ 9223372036854775807
theorem text_is (s : Bool) (x : ByteArray) (n : Int) (t : ByteArray) (h : TextIs s x n t) (w : World) (hw : Env w) :
    Calls Tryd.prog 16 #[.agg #[.bool s, .string x, .int .i64 n]] w fun e w' => e = .returned (.string t) ∧ Below w.heap.size w w' := by
  rw [← h.eq]
  exact text_any s x n h.hx h.h0 h.h1 w hw
theorem keep9 {w W W' : World} {a b c : Nat} {u0 u1 u2 v0 v1 v2 x0 x1 x2 : Value} (h : W.cell? ⟨a, 0, none⟩ = some u0 ∧ W.cell? ⟨a, 1, none⟩ = some u1 ∧ W.cell? ⟨a, 2, none⟩ = some u2 ∧ W.cell? ⟨b, 0, none⟩ = some v0 ∧ W.cell? ⟨b, 1, none⟩ = some v1 ∧ W.cell? ⟨b, 2, none⟩ = some v2 ∧ W.cell? ⟨c, 0, none⟩ = some x0 ∧ W.cell? ⟨c, 1, none⟩ = some x1 ∧ W.cell? ⟨c, 2, none⟩ = some x2 ∧ TKeep w W) (hb : Below W.heap.size W W') :
    W'.cell? ⟨a, 0, none⟩ = some u0 ∧ W'.cell? ⟨a, 1, none⟩ = some u1 ∧ W'.cell? ⟨a, 2, none⟩ = some u2 ∧ W'.cell? ⟨b, 0, none⟩ = some v0 ∧ W'.cell? ⟨b, 1, none⟩ = some v1 ∧ W'.cell? ⟨b, 2, none⟩ = some v2 ∧ W'.cell? ⟨c, 0, none⟩ = some x0 ∧ W'.cell? ⟨c, 1, none⟩ = some x1 ∧ W'.cell? ⟨c, 2, none⟩ = some x2 ∧ TKeep w W' := by
  obtain ⟨a0, a1, a2, b0, b1, b2, c0, c1, c2, k⟩ := h
  have A := C3.step ⟨a0, a1, a2⟩ hb
  have B := C3.step ⟨b0, b1, b2⟩ hb
  have C := C3.step ⟨c0, c1, c2⟩ hb
  exact ⟨A.c0, A.c1, A.c2, B.c0, B.c1, B.c2, C.c0, C.c1, C.c2, k.step hb⟩

set_option maxRecDepth 100000 in
set_option maxHeartbeats 1000000 in
theorem originBack_walk (sa : Bool) (xa : ByteArray) (na : Int) (hza : xa.size ≤ 140737488355328) (sb : Bool) (xb : ByteArray) (nb : Int) (hzb : xb.size ≤ 140737488355328) (w : World) (h : Env w) :
    Calls Tryd.prog 6 #[.agg #[.bool sa, .string xa, .int .i64 na], .agg #[.bool sb, .string xb, .int .i64 nb]] w fun e w' => e = .returned (.bool true) ∧ Below w.heap.size w w' := by
  obtain ⟨W0, hW0⟩ : ∃ W0, W0 = (w.alloc (.cells #[.bool sa, .string xa, .int .i64 na] 24)).alloc (.cells #[.bool sb, .string xb, .int .i64 nb] 24) := ⟨_, rfl⟩
  have hB0 : Below w.heap.size w W0 := by
    rw [hW0]
    exact ((Below.refl _ _).alloc (Nat.le_refl _) _).alloc (by simp) _
  have A0 : C3 W0 w.heap.size (.bool sa) (.string xa) (.int .i64 na) := by
    rw [hW0]
    exact (c3_new w _ _ _ _).step ((Below.refl _ _).alloc (Nat.le_refl _) _)
  have D0 : C3 W0 (w.heap.size + 1) (.bool sb) (.string xb) (.int .i64 nb) := by
    rw [hW0]
    have := c3_new (w.alloc (.cells #[.bool sa, .string xa, .int .i64 na] 24)) (.bool sb) (.string xb) (.int .i64 nb) 24
    rw [World.size_alloc] at this
    exact this
  have E0 := h.below hB0 (Nat.le_refl _)
  have cra := fun W => right_all sa xa na hza W
  have crb := fun W => right_all sb xb nb hzb W
  by_cases ra : rightL xa.data.toList na = true
  · rw [ra] at cra
    by_cases rb : rightL xb.data.toList nb = true
    · rw [rb] at crb
      obtain ⟨la, a1, a2, _⟩ := rightL_parts ra
      obtain ⟨lb, b1, b2, _⟩ := rightL_parts rb
      rw [data_len] at la lb
      have hta := text_back sa xa.data.toList na ra
      have hinj := @text_inj sa sb xa.data.toList xb.data.toList na nb ra rb
      obtain ⟨ta, HTA⟩ : ∃ ta, Hid (bs (textL sa xa.data.toList na) = ta) := ⟨_, rfl⟩
      obtain ⟨tb, HTB⟩ : ∃ tb, Hid (bs (textL sb xb.data.toList nb) = tb) := ⟨_, rfl⟩
      have lta : ta.size ≤ 900 := by
        rw [← HTA.out, bs_size]
        have e3 := text_len sa xa.data.toList na a1 a2
        have e2 := data_len xa
        omega
      have ITA : TextIs sa xa na ta := ⟨HTA.out, by omega, by omega, by omega⟩
      have ITB : TextIs sb xb nb tb := ⟨HTB.out, by omega, by omega, by omega⟩
      have hta2 : originP ta.data.toList = some (sa, xa.data.toList, na) := by rw [← HTA.out]; exact hta
      have co := fun W hW => origin_of ta xa sa na lta W hW hta2
      obtain ⟨E, hE⟩ : ∃ E, (sa == sb && (xa.toList == xb.toList && na == nb)) = E := ⟨_, rfl⟩
      have HE : (ta.toList == tb.toList) = E := by
        rw [← hE, Bool.eq_iff_iff, Bool.and_eq_true, Bool.and_eq_true, beq_iff_eq, beq_iff_eq, beq_iff_eq, beq_iff_eq, ByteArray.toList_eq, ByteArray.toList_eq, ByteArray.toList_eq, ByteArray.toList_eq]
        constructor
        · intro e
          rw [← HTA.out, ← HTB.out] at e
          exact hinj e
        · rintro ⟨rfl, e, rfl⟩
          rw [← HTA.out, ← HTB.out]
          show textL _ _ _ = textL _ _ _
          rw [e]
      have eo := fun W => eqO sa sb xa xb na nb E hE W
      clear hE
      clear hta hta2 hinj ra rb la a1 a2 lb b1 b2 lta
      go_enter Tryd.func6, Tryd.ntmps6
      go_wp2_with fail
      rw [← hW0]
      refine (named_any _ E0).mono ?_
      rintro e w1 ⟨rfl, hb1⟩
      have A1 := A0.step hb1
      have i0 := A1.c0
      have i1 := A1.c1
      have i2 := A1.c2
      go_wp2_with fail
      refine (cra _).mono ?_
      rintro e w2 ⟨rfl, hb2⟩
      have D2 := (D0.step hb1).step hb2
      have j0 := D2.c0
      have j1 := D2.c1
      have j2 := D2.c2
      go_wp2_with fail
      refine (crb _).mono ?_
      rintro e w3 ⟨rfl, hb3⟩
      have q1 := hB0.trans (hb1.mono hB0.size)
      have q2 := q1.trans (hb2.mono q1.size)
      have q3 := q2.trans (hb3.mono q2.size)
      have A3 := (A1.step hb2).step hb3
      have D3 := D2.step hb3
      have E3 := ((E0.below hb1 (Nat.le_refl _)).below hb2 (Nat.le_refl _)).below hb3 (Nat.le_refl _)
      clear i0 i1 i2 j0 j1 j2 cra crb hb1 hb2 hb3 q1 q2 A0 A1 D0 D2 E0 hB0
      have i0 := A3.c0
      have i1 := A3.c1
      have i2 := A3.c2
      go_wp2_with fail
      refine (text_is _ _ _ _ ITA _ E3).mono ?_
      rintro e w4 ⟨rfl, hb4⟩
      have E4 := E3.below hb4 (Nat.le_refl _)
      go_wp2_with fail
      refine (co _ E4.sch).mono ?_
      rintro e w5 ⟨rfl, hb5⟩
      have q4 := q3.trans (hb4.mono q3.size)
      have q5 := q4.trans (hb5.mono q4.size)
      have A5 := (A3.step hb4).step hb5
      have D5 := (D3.step hb4).step hb5
      have E5 := E4.below hb5 (Nat.le_refl _)
      have hQ : ∀ W, W = (w5.alloc (.cells #[.bool sa, .string xa, .int .i64 na] 24)).drew → (W.cell? ⟨w.heap.size, 0, none⟩ = some (.bool sa) ∧ W.cell? ⟨w.heap.size, 1, none⟩ = some (.string xa) ∧ W.cell? ⟨w.heap.size, 2, none⟩ = some (.int .i64 na) ∧ W.cell? ⟨w.heap.size + 1, 0, none⟩ = some (.bool sb) ∧ W.cell? ⟨w.heap.size + 1, 1, none⟩ = some (.string xb) ∧ W.cell? ⟨w.heap.size + 1, 2, none⟩ = some (.int .i64 nb) ∧ W.cell? ⟨w5.heap.size, 0, none⟩ = some (.bool sa) ∧ W.cell? ⟨w5.heap.size, 1, none⟩ = some (.string xa) ∧ W.cell? ⟨w5.heap.size, 2, none⟩ = some (.int .i64 na) ∧ TKeep w5 W) := by
        rintro W rfl
        have hb : Below w5.heap.size w5 (w5.alloc (.cells #[.bool sa, .string xa, .int .i64 na] 24)).drew := ((Below.refl _ _).alloc (Nat.le_refl _) _).drew
        have A6 := A5.step hb
        have D6 := D5.step hb
        exact ⟨A6.c0, A6.c1, A6.c2, D6.c0, D6.c1, D6.c2, cells_new _ _ _ 0, cells_new _ _ _ 1, cells_new _ _ _ 2, E5.below hb (Nat.le_refl _), hb, by simp⟩
      have hQ := hQ _ rfl
      clear i0 i1 i2 A3 D3 E3 E4 E5 A5 D5 hb4 hb5 q3 q4
      go_wp2_with fail
      go_region_held3 (fun W => W.cell? ⟨w.heap.size, 0, none⟩ = some (.bool sa) ∧ W.cell? ⟨w.heap.size, 1, none⟩ = some (.string xa) ∧ W.cell? ⟨w.heap.size, 2, none⟩ = some (.int .i64 na) ∧ W.cell? ⟨w.heap.size + 1, 0, none⟩ = some (.bool sb) ∧ W.cell? ⟨w.heap.size + 1, 1, none⟩ = some (.string xb) ∧ W.cell? ⟨w.heap.size + 1, 2, none⟩ = some (.int .i64 nb) ∧ W.cell? ⟨w5.heap.size, 0, none⟩ = some (.bool sa) ∧ W.cell? ⟨w5.heap.size, 1, none⟩ = some (.string xa) ∧ W.cell? ⟨w5.heap.size, 2, none⟩ = some (.int .i64 na) ∧ TKeep w5 W) (first | assumption | exact hQ) ((go_at_call 16; refine (text_is _ _ _ _ (by assumption) _ (TKeep.env (And.right (And.right (And.right (And.right (And.right (And.right (And.right (And.right (And.right (by assumption)))))))))))).mono ?_; rintro e w6 ⟨rfl, hb6⟩; have hQ6 := keep9 (by assumption) hb6))
      go_wp2
      go_ret
      exact ⟨by simp, q5.trans (Below.mono (TKeep.bel (And.right (And.right (And.right (And.right (And.right (And.right (And.right (And.right (And.right (by assumption))))))))))) q5.size)⟩
    · have rb' : rightL xb.data.toList nb = false := by simpa using rb
      rw [rb'] at crb
      clear ra rb rb'
      go_enter Tryd.func6, Tryd.ntmps6
      go_wp2_with fail
      rw [← hW0]
      refine (named_any _ E0).mono ?_
      rintro e w1 ⟨rfl, hb1⟩
      have A1 := A0.step hb1
      have i0 := A1.c0
      have i1 := A1.c1
      have i2 := A1.c2
      go_wp2_with fail
      refine (cra _).mono ?_
      rintro e w2 ⟨rfl, hb2⟩
      have D2 := (D0.step hb1).step hb2
      have j0 := D2.c0
      have j1 := D2.c1
      have j2 := D2.c2
      go_wp2_with fail
      refine (crb _).mono ?_
      rintro e w3 ⟨rfl, hb3⟩
      go_wp2
      go_ret
      have q1 := hB0.trans (hb1.mono hB0.size)
      have q2 := q1.trans (hb2.mono q1.size)
      exact ⟨rfl, q2.trans (hb3.mono q2.size)⟩
  · have ra' : rightL xa.data.toList na = false := by simpa using ra
    rw [ra'] at cra
    clear ra ra'
    go_enter Tryd.func6, Tryd.ntmps6
    go_wp2_with fail
    rw [← hW0]
    refine (named_any _ E0).mono ?_
    rintro e w1 ⟨rfl, hb1⟩
    have A1 := A0.step hb1
    have i0 := A1.c0
    have i1 := A1.c1
    have i2 := A1.c2
    go_wp2_with fail
    refine (cra _).mono ?_
    rintro e w2 ⟨rfl, hb2⟩
    go_wp2
    go_ret
    have q1 := hB0.trans (hb1.mono hB0.size)
    exact ⟨rfl, q1.trans (hb2.mono q1.size)⟩
end Go.Proofs.YtclagicimiimfabDoor
