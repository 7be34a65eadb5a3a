/- A URL that was read is written and read again, by the program. -/
import Derived.Test.YtclagicimiimfabDoorBackP
import Derived.Test.YtclagicimiimfabDoorNmd
namespace Go.Proofs.YtclagicimiimfabDoor
open Go.RowKit

theorem slash_list {p : ByteArray} {r : List UInt8} (h : p.data.toList = 47 :: r) : 1 ≤ p.size ∧ (p.extract 0 1).toList = [47] := by
  have hl : p.data.toList.length = p.size := Array.length_toList
  refine ⟨by rw [h] at hl; simp at hl; omega, ?_⟩
  rw [ByteArray.toList_eq, ByteArray.data_extract, Array.toList_extract, h]
  rfl
set_option maxHeartbeats 1000000 in
theorem slash_any {p : ByteArray} {r : List UInt8} (h : p.data.toList = 47 :: r) (w : World) :
    Calls Tryd.prog 12 #[.string p, .string ⟨#[47]⟩] w fun e w' => e = .returned (.bool true) ∧ w' = w := by
  obtain ⟨h1, h2⟩ := slash_list h
  clear h
  go_enter Tryd.func12, Tryd.ntmps12
  go_wp2
  go_ret
  exact ⟨rfl, rfl⟩
/-- Five cells of one block, and what the world keeps. -/
structure U5 (w W : World) (b : Nat) (v0 v1 v2 v3 v4 : Value) : Prop where
  env : Env W
  bel : Below w.heap.size w W
  c0 : W.cell? ⟨b, 0, none⟩ = some v0
  c1 : W.cell? ⟨b, 1, none⟩ = some v1
  c2 : W.cell? ⟨b, 2, none⟩ = some v2
  c3 : W.cell? ⟨b, 3, none⟩ = some v3
  c4 : W.cell? ⟨b, 4, none⟩ = some v4
theorem U5.step {w W W' : World} {b : Nat} {v0 v1 v2 v3 v4 : Value} (h : U5 w W b v0 v1 v2 v3 v4) (hb : Below W.heap.size W W') : U5 w W' b v0 v1 v2 v3 v4 :=
  ⟨h.env.below hb (Nat.le_refl _), h.bel.trans (hb.mono h.bel.size), (hb.cell (p := ⟨b, 0, none⟩) (lt_of_cell h.c0)).trans h.c0, (hb.cell (p := ⟨b, 1, none⟩) (lt_of_cell h.c1)).trans h.c1, (hb.cell (p := ⟨b, 2, none⟩) (lt_of_cell h.c2)).trans h.c2, (hb.cell (p := ⟨b, 3, none⟩) (lt_of_cell h.c3)).trans h.c3, (hb.cell (p := ⟨b, 4, none⟩) (lt_of_cell h.c4)).trans h.c4⟩
theorem U5.alloc {w W : World} {b : Nat} {v0 v1 v2 v3 v4 : Value} (h : U5 w W b v0 v1 v2 v3 v4) (o : Obj) : U5 w (W.alloc o) b v0 v1 v2 v3 v4 := h.step ((Below.refl _ _).alloc (Nat.le_refl _) _)
theorem u5_new {w W : World} (h : Env W) (hb : Below w.heap.size w W) (v0 v1 v2 v3 v4 : Value) (t : TypeId) : U5 w (W.alloc (.cells #[v0, v1, v2, v3, v4] t)) W.heap.size v0 v1 v2 v3 v4 := by
  have hx : Below W.heap.size W (W.alloc (.cells #[v0, v1, v2, v3, v4] t)) := (Below.refl _ _).alloc (Nat.le_refl _) _
  exact ⟨h.below hx (Nat.le_refl _), hb.trans (hx.mono hb.size), cells_new _ _ _ 0, cells_new _ _ _ 1, cells_new _ _ _ 2, cells_new _ _ _ 3, cells_new _ _ _ 4⟩

set_option maxRecDepth 100000 in
set_option maxHeartbeats 1000000 in
theorem urlBack_walk (s : ByteArray) (hs : s.size ≤ 140737488355328) (w : World) (h : Env w) :
    Calls Tryd.prog 3 #[.string s] w fun e w' => e = .returned (.bool true) ∧ Below w.heap.size w w' := by
  by_cases h1 : (500 : Int) < (s.size : Int)
  · go_enter Tryd.func3, Tryd.ntmps3
    go_wp2_with fail
    refine (named_any _ h).mono ?_
    rintro e w1 ⟨rfl, hb1⟩
    go_wp2
    go_ret
    exact ⟨rfl, hb1⟩
  · have hs' : s.size ≤ 900 := by omega
    have hs5 : s.size ≤ 500 := by omega
    go_enter Tryd.func3, Tryd.ntmps3
    go_wp2_with fail
    refine (named_any _ h).mono ?_
    rintro e w1 ⟨rfl, hb1⟩
    have h1 := h.below hb1 (Nat.le_refl _)
    go_wp2_with fail
    refine (parse_any s hs' _ h1.sch).mono ?_
    rintro e w2 ⟨hb2, ⟨sec, x, p, q, n, rfl, hp⟩ | ⟨c, rfl, hp⟩⟩
    · have h2 := h1.below hb2 (Nat.le_refl _)
      have hb12 := hb1.trans (hb2.mono hb1.size)
      obtain ⟨hr, hsp, hsq, h63, ⟨r, hpr⟩, hcl, hlen, hql⟩ := parse_parts hp
      obtain ⟨hxl, hn1, hn2, hh⟩ := rightL_parts hr
      have hback := parse_back hp
      rw [← print_list] at hback
      have ex : x.data.toList.length = x.size := Array.length_toList
      have ep : p.data.toList.length = p.size := Array.length_toList
      have eq : q.data.toList.length = q.size := Array.length_toList
      have es : s.data.toList.length = s.size := Array.length_toList
      have hps : p.size ≤ 200 := by omega
      obtain ⟨y, hy⟩ : ∃ y, printB sec x n p q = y := ⟨_, rfl⟩
      have hys : y.size ≤ 900 := by
        rw [← hy]
        unfold printB
        have t1 := tgt_size p q
        have t2 := textL_length sec x.data.toList n (by omega) (by omega)
        rw [ByteArray.size_append, bs_size]
        omega
      have U0 := u5_new h2 hb12 (.bool sec) (.string x) (.int .i64 n) (.string p) (.string q) 26
      have cp := fun W hW => print_any sec x n p q (by omega) (by omega) (by omega) (by omega) W hW
      rw [hy] at hback
      rw [hy] at cp
      have cr := fun W => right_any sec x n (by omega) W
      rw [hr] at cr
      have cs := fun W => slash_any hpr W
      have cb := fun W hW => parse_of y x p q sec n hys W hW hback
      clear hp hr hsp hsq h63 hpr hcl hlen hql hxl hn1 hn2 hh hback ex ep eq es hys hy h1 h hb1 hb2 hb12 h2
      have i0 := U0.c0
      have i1 := U0.c1
      have i2 := U0.c2
      have i3 := U0.c3
      have i4 := U0.c4
      go_wp2_with fail
      refine (cp _ U0.env).mono ?_
      rintro e w3 ⟨rfl, hb3⟩
      have U1 := U0.step hb3
      go_wp2_with fail
      refine (cb _ U1.env.sch).mono ?_
      rintro e w4 ⟨rfl, hb4⟩
      have U2 := (U1.step hb4).alloc (.cells #[.bool sec, .string x, .int .i64 n, .string p, .string q] 26)
      have j0 := U2.c0
      have j1 := U2.c1
      have j2 := U2.c2
      have j3 := U2.c3
      have j4 := U2.c4
      go_wp2_with fail
      refine (cr _).mono ?_
      rintro e w5 ⟨rfl, hb5⟩
      have U3 := U2.step hb5
      have k3 := U3.c3
      go_wp2_with (go_at_call 12; refine (cs _).mono ?_; rintro e w' ⟨rfl, rfl⟩)
      go_ret
      exact ⟨congrArg (fun b => Ending.returned (.bool b)) (decide_eq_true (by omega)), U3.bel⟩
    · have hbb := (hb1.trans (hb2.mono hb1.size)).alloc (hb1.trans (hb2.mono hb1.size)).size (.cells #[.bool false, .string ⟨#[]⟩, .int .i64 0, .string ⟨#[]⟩, .string ⟨#[]⟩] 26)
      clear hp
      go_wp2
      go_ret
      exact ⟨rfl, hbb⟩
end Go.Proofs.YtclagicimiimfabDoor
