/- The number of the grant that reaches farthest; whatever the program. -/
import Derived.Test.YtdnnlfklanaliabBkD
import Derived.Test.YtdnnlfklanaliabEchG
import Derived.Test.YtdnnlfklanaliabRch7
namespace Go.Proofs.Ytdnnlfklanaliab
open Go.RowKit
set_option linter.unusedVariables false

def farGo : List Int → Nat → Int × Int → Int × Int
  | [], _, s => s
  | r :: t, i, s => farGo t (i + 1) (if s.2 ≤ r then ((i : Int), r) else s)
/-- The number of the last one of the greatest, from 0 on; below 0: none. -/
def farI (rs : List Int) : Int := (farGo rs 0 (-1, 0)).1
theorem farGo_snoc (r : Int) : ∀ (l : List Int) (i : Nat) (s : Int × Int), farGo (l ++ [r]) i s = if (farGo l i s).2 ≤ r then (((i + l.length : Nat) : Int), r) else farGo l i s
  | [], i, s => rfl
  | x :: t, i, s => by
    show farGo (t ++ [r]) (i + 1) _ = _
    rw [farGo_snoc r t (i + 1)]
    show (if (farGo t (i + 1) _).2 ≤ r then _ else _) = _
    simp only [farGo, List.length_cons]
    congr 3
    push_cast
    omega
theorem farGo_take {rs : List Int} {k : Nat} {r : Int} (h : rs[k]? = some r) : farGo (rs.take (k + 1)) 0 (-1, 0) = if (farGo (rs.take k) 0 (-1, 0)).2 ≤ r then ((k : Int), r) else farGo (rs.take k) 0 (-1, 0) := by
  obtain ⟨hk, e⟩ := List.getElem?_eq_some_iff.1 h
  rw [List.take_succ_eq_append_getElem hk, farGo_snoc, e, List.length_take]
  rw [show 0 + min k rs.length = k by omega]
set_option maxRecDepth 100000 in
set_option maxHeartbeats 4000000 in
theorem far_of (P : Program) (hf : P.funcs[33]? = some Try.f33)
    (tS : P.underlying 22 = some (TypeDesc.slice 36)) (aS : ∀ w, (isAgg 22).run P w = .ok false w) (zS : ∀ w, (Go.sizeOf 22).run P w = .ok 1 w)
    (t3 : P.underlying 3 = some (TypeDesc.int IntKind.i64)) (a3 : ∀ w, (isAgg 3).run P w = .ok false w) (z3 : ∀ w, (Go.sizeOf 3).run P w = .ok 1 w) (v3 : ∀ w, (zeroValue 3).run P w = .ok (Value.int IntKind.i64 0) w)
    (t4 : P.underlying 4 = some TypeDesc.bool) (a4 : ∀ w, (isAgg 4).run P w = .ok false w) (z4 : ∀ w, (Go.sizeOf 4).run P w = .ok 1 w)
    (k : Nat) (hk0 : 0 < k) (aE : ∀ w, (isAgg 36).run P w = .ok true w) (zE : ∀ w, (Go.sizeOf 36).run P w = .ok k w) (zc : Array Value) (vE : ∀ w, (zeroValue 36).run P w = .ok (.agg zc) w) (hzc : zc.size = k)
    {α : Type} (cl : α → List Value) (R : α → Int)
    (g n cap B : Nat) (vs : List α) (hn : vs.length = n) (hbig : n ≤ 1000) (w : World) (hown : OwnK k 36 w B (.slice (some ⟨g, 0, none⟩) n cap) (vs.map cl))
    (fn : Nat) (lb : Array Value) (eg : ∀ args w, (callFunc fn args).run P w = .ok (.enter fn args) w)
    (hm : ∀ W v, v ∈ vs → Below w.heap.size w W → Calls P fn (#[.agg (cl v).toArray] ++ lb) W fun e w' => e = .returned (.int .i64 (R v)) ∧ Below W.heap.size W w') :
    Calls P 33 #[.slice (some ⟨g, 0, none⟩) n cap, .func (.func fn) #[] lb] w fun e w' => e = .returned (.int .i64 (farI (vs.map R))) ∧ Below w.heap.size w w' := by
  have HO : Hid (OwnK k 36 w B (.slice (some ⟨g, 0, none⟩) n cap) (vs.map cl)) := hown
  have HN : Hid (vs.length = n) := hn
  have HM : Hid (∀ W v, v ∈ vs → Below w.heap.size w W → Calls P fn (#[.agg (cl v).toArray] ++ lb) W fun e w' => e = .returned (.int .i64 (R v)) ∧ Below W.heap.size W w') := hm
  have HZ : Hid (zc.size = k) := hzc
  clear hown hn hm hzc
  go_enter hf, Try.ntmps33
  go_wp2
  go_loopw [5, 6, 12] (fun b m i wr => ∃ (kk : Nat) (bi mi : Int), kk ≤ n ∧ i = .int .i64 kk ∧ b = .int .i64 bi ∧ m = .int .i64 mi ∧ Hid (Below w.heap.size w wr ∧ farGo ((vs.map R).take kk) 0 (-1, 0) = (bi, mi))) (fun _ _ i _ => n - (intOf i).toNat)
  case atStart => exact ⟨0, -1, 0, Nat.zero_le _, rfl, rfl, rfl, ⟨Below.refl _ _, rfl⟩⟩
  case round =>
    obtain ⟨kk, bi, mi, hkk, rfl, rfl, rfl, HI⟩ := hrel
    by_cases hlt : kk < n
    · have hltz : (kk : Int) < (n : Int) := by omega
      obtain ⟨v, hv⟩ : ∃ v, vs[kk]? = some v := ⟨vs[kk]'(by have := HN.out; omega), List.getElem?_eq_getElem _⟩
      have hvm : (vs.map cl)[kk]? = some (cl v) := by rw [List.getElem?_map, hv]; rfl
      have hvr : (vs.map R)[kk]? = some (R v) := by rw [List.getElem?_map, hv]; rfl
      have HST : Hid (farGo ((vs.map R).take (kk + 1)) 0 (-1, 0) = if mi ≤ R v then ((kk : Int), R v) else (bi, mi)) := by
        show _ = _
        rw [farGo_take hvr, HI.out.2]
      obtain ⟨x, hx⟩ : ∃ x, cl v = x := ⟨_, rfl⟩
      rw [hx] at hvm
      have hxm : x ∈ vs.map cl := List.mem_of_getElem? hvm
      have hxl : x.length = k := HO.out.len x hxm
      have hx1 : ∀ u ∈ x, u.oneCell' = true := HO.out.one x hxm
      have l1 := (HO.out.below HI.out.1).load P hvm
      have hb1 : Below wr.heap.size wr (wr.alloc (.cells x.toArray 36)) := (Below.refl _ _).alloc (Nat.le_refl _) _
      have s1 := run_boxed P wr zc 36 x (by rw [HZ.out, hxl]) hx1
      have l2 := run_unboxed P (w := wr.alloc (.cells x.toArray 36)) (w' := wr.alloc (.cells x.toArray 36)) (b := wr.heap.size) hxl (heap_alloc_new wr _) (Below.refl _ _)
      have HB1 : Hid (Below w.heap.size w (wr.alloc (.cells x.toArray 36))) := HI.out.1.trans (hb1.mono HI.out.1.size)
      have hcall := HM.out _ v (List.mem_of_getElem? hv) HB1.out
      rw [hx] at hcall
      have hxa : x.toArray.size = k := by simp [hxl]
      obtain ⟨r, hr⟩ : ∃ r, R v = r := ⟨_, rfl⟩
      rw [hr] at hcall HST
      clear hv hvm hvr hxm hx hb1 hx1 hr
      generalize hWX : wr.alloc (.cells x.toArray 36) = WX at s1 l2 HB1 hcall
      by_cases hge : mi ≤ r
      · have HS2 : Hid (farGo ((vs.map R).take (kk + 1)) 0 (-1, 0) = ((kk : Int), r)) := by show _ = _; rw [HST.out, if_pos hge]
        go_wp2_with (go_at_fn fn; refine hcall.mono ?_; rintro e w2 ⟨rfl, hb2⟩)
        go_roundw
        case rel => exact ⟨kk + 1, _, _, by omega, by go_num, rfl, rfl, ⟨HB1.out.trans (hb2.mono HB1.out.size), HS2.out⟩⟩
        case measure => simp [intOf]; omega
      · have HS2 : Hid (farGo ((vs.map R).take (kk + 1)) 0 (-1, 0) = (bi, mi)) := by show _ = _; rw [HST.out, if_neg hge]
        go_wp2_with (go_at_fn fn; refine hcall.mono ?_; rintro e w2 ⟨rfl, hb2⟩)
        go_roundw
        case rel => exact ⟨kk + 1, _, _, by omega, by go_num, rfl, rfl, ⟨HB1.out.trans (hb2.mono HB1.out.size), HS2.out⟩⟩
        case measure => simp [intOf]; omega
    · have hltz : ¬ (kk : Int) < (n : Int) := by omega
      have HE : Hid (farI (vs.map R) = bi) := by
        show (farGo (vs.map R) 0 (-1, 0)).1 = _
        have := HI.out.2
        rw [List.take_of_length_le (by rw [List.length_map, HN.out]; omega)] at this
        rw [this]
      go_wp2
      go_ret
      exact ⟨by rw [HE.out]; rfl, HI.out.1⟩
set_option maxHeartbeats 2000000 in
theorem far_none (w : World) (F : Value) : Calls Try.prog 33 #[.slice none 0 0, F] w fun e w' => e = .returned (.int .i64 (-1)) ∧ w' = w := by
  go_enter Try.func33, Try.ntmps33
  go_wp2
  refine wp_loop_rounds 1 ?_
  rw [rounds_succ]
  go_wp2
  go_ret
  exact ⟨rfl, rfl⟩
/-- The same of a bank's row. -/
theorem far_any (gv : Value) (B : Nat) (G : List GrV) (R : GrV → Int) (hl : G.length ≤ 8) (w : World) (hown : OwnK 16 36 w B gv (G.map grCells)) (fn : Nat) (lb : Array Value) (eg : ∀ args w, (callFunc fn args).run Try.prog w = .ok (.enter fn args) w)
    (hm : ∀ W v, v ∈ G → Below w.heap.size w W → Calls Try.prog fn (#[.agg (grCells v).toArray] ++ lb) W fun e w' => e = .returned (.int .i64 (R v)) ∧ Below W.heap.size W w') :
    Calls Try.prog 33 #[gv, .func (.func fn) #[] lb] w fun e w' => e = .returned (.int .i64 (farI (G.map R))) ∧ Below w.heap.size w w' := by
  rcases hown.forms with ⟨rfl, e2⟩ | ⟨g, cap, rfl, _, _, _, _⟩
  · obtain rfl : G = [] := List.map_eq_nil_iff.1 e2
    refine (far_none w _).mono ?_
    rintro e w' ⟨rfl, rfl⟩
    exact ⟨rfl, Below.refl _ _⟩
  · rw [List.length_map] at hown ⊢
    exact far_of Try.prog Try.func33 Try.underlying22 Try.isAgg22 Try.sizeOf22 Try.underlying3 Try.isAgg3 Try.sizeOf3 Try.zeroValue3 Try.underlying4 Try.isAgg4 Try.sizeOf4 16 (by omega) Try.isAgg36 Try.sizeOf36 _ Try.zeroValue36 rfl grCells R g _ cap B G rfl (by omega) w hown fn lb eg hm
end Go.Proofs.Ytdnnlfklanaliab
