/- Texts of one claim, joined: each begins with what it proves. -/
import Derived.Test.YtemlclgdgnfhnaaDoorJo1
import Derived.Test.YtemlclgdgnfhnaaDoorJo2
import Derived.Deep.RegionHeld3
import Derived.Shelf.Slices.Equal
/- Whether a text begins with another one, by the program. -/
namespace Go.Proofs.YtemlclgdgnfhnaaDoor
open Go.RowKit

/-- Whether a text begins with another one. -/
def begins (s p : ByteArray) : Bool := decide (p.size ≤ s.size) && ((s.extract 0 p.size).toList == p.toList)
set_option maxHeartbeats 1000000 in
theorem within_p (s p : ByteArray) (w : World) :
    Calls Tryd.prog 38 #[.string s, .string p] w fun e w' => e = .returned (.bool (begins s p)) ∧ w' = w := by
  by_cases h : p.size ≤ s.size
  · have hb : begins s p = ((s.extract 0 p.size).toList == p.toList) := by unfold begins; rw [decide_eq_true h]; rfl
    rw [hb]
    go_enter Tryd.func38, Tryd.ntmps38
    go_wp2
    go_ret
    exact ⟨rfl, rfl⟩
  · have hb : begins s p = false := by unfold begins; rw [decide_eq_false h]; rfl
    rw [hb]
    go_enter Tryd.func38, Tryd.ntmps38
    go_wp2
    go_ret
    exact ⟨rfl, rfl⟩
end Go.Proofs.YtemlclgdgnfhnaaDoor

/- How far a grant reaches for a path. -/
namespace Go.Proofs.YtemlclgdgnfhnaaDoor
open Go.RowKit
set_option linter.unusedVariables false

def farStep (path : ByteArray) (m : Int) (s : ByteArray) : Int := if begins path s then max m (s.size : Int) else m
/-- How long the longest of its spaces is that the path is in; below 0: the grant is not for it. -/
def reachI (o : OrgV) (p : Bool) (path : ByteArray) (g : GrP) : Int := if orgB g.org o && g.proxy == p then g.paths.foldl (farStep path) (-1) else -1
theorem far_take {path : ByteArray} {ps : List ByteArray} {k : Nat} {s : ByteArray} (h : ps[k]? = some s) : (ps.take (k + 1)).foldl (farStep path) (-1) = farStep path ((ps.take k).foldl (farStep path) (-1)) s := by
  obtain ⟨hk, e⟩ := List.getElem?_eq_some_iff.1 h
  rw [List.take_succ_eq_append_getElem hk, List.foldl_append, e]
  rfl
set_option maxRecDepth 100000 in
set_option maxHeartbeats 4000000 in
theorem reach_any (v : GrV) (B : Nat) (hfit : GrFit v.g) (o : OrgV) (p : Bool) (path : ByteArray) (a b c : Nat) (w : World) (hb : Box3 w a b c o p path) (hown : GrOwn w B v) :
    Calls Tryd.prog 37 #[.agg (grCells v).toArray, .pointer (some ⟨a, 0, none⟩), .pointer (some ⟨b, 0, none⟩), .pointer (some ⟨c, 0, none⟩)] w fun e w' => e = .returned (.int .i64 (reachI o p path v.g)) ∧ Below w.heap.size w w' := by
  obtain ⟨pa, pc, pg, hpv, hps⟩ := hown.paths.strs
  obtain ⟨pn, HPN⟩ : ∃ pn, Hid (v.g.paths.length = pn) := ⟨_, rfl⟩
  rw [HPN.out] at hpv hps
  have hpn : pn ≤ 1000 := by rw [← HPN.out]; exact hfit.2.2.2.2.1
  have hbb : Below w.heap.size w (w.alloc (.cells (grCells v).toArray 34)) := (Below.refl _ _).alloc (Nat.le_refl _) _
  have hb2 := hb.below hbb
  have hn := heap_alloc_new w (.cells (grCells v).toArray 34)
  unfold grCells at hbb hb2 hn ⊢
  rw [hpv] at hbb hb2 hn ⊢
  have HB : Hid (Below w.heap.size w (w.alloc (.cells [Value.bool v.g.org.sec, .string v.g.org.host, .int .i64 v.g.org.port, .bool v.g.proxy, .string v.g.user, .string v.g.pass, .int .i64 v.g.ask.sch, .string v.g.ask.realm, .string v.g.ask.nonce, .string v.g.ask.opq, .bool v.g.ask.sess, .string v.g.ask.qop, .bool v.g.ask.stale, v.dv, .int .i64 v.g.count, .slice pa pn pc].toArray 34)) ∧ Strs w pa pn pg 0 v.g.paths) := ⟨hbb, hps⟩
  have c0 := (cell_of (i := 0) hb2.org)
  have c1 := (cell_of (i := 1) hb2.org)
  have c2 := (cell_of (i := 2) hb2.org)
  have c3 := (cell_of (i := 0) hb2.prx)
  have n0 := cell_of (i := 0) hn
  have n1 := cell_of (i := 1) hn
  have n2 := cell_of (i := 2) hn
  have n3 := cell_of (i := 3) hn
  have n15 := cell_of (i := 15) hn
  simp only [List.getElem?_toArray, List.getElem?_cons_zero, List.getElem?_cons_succ] at c0 c1 c2 c3 n0 n1 n2 n3 n15
  have e1 := eqOrg v.g.org o (orgB v.g.org o) rfl
  have HC4 : Hid (Box3 w a b c o p path) := hb
  obtain ⟨E1, h1⟩ : ∃ E, orgB v.g.org o = E := ⟨_, rfl⟩
  obtain ⟨E2, h2⟩ : ∃ E, (v.g.proxy == p) = E := ⟨_, rfl⟩
  have HE : Hid (reachI o p path v.g = if E1 && E2 then v.g.paths.foldl (farStep path) (-1) else -1) := by show _ = _; unfold reachI; rw [h1, h2]
  have h2' : (v.g.proxy != p) = !E2 := by rw [← h2]; rfl
  rw [h1] at e1
  clear h1 hb hb2 hn hbb hps hown hpv hfit
  obtain ⟨R, HR⟩ : ∃ R, Hid (reachI o p path v.g = R) := ⟨_, rfl⟩
  rw [HR.out]
  go_enter Tryd.func37, Tryd.ntmps37
  cases E1
  · obtain rfl : R = -1 := by rw [← HR.out, HE.out]; rfl
    go_wp2
    go_ret
    exact ⟨rfl, HB.out.1⟩
  · cases E2
    · obtain rfl : R = -1 := by rw [← HR.out, HE.out]; rfl
      go_wp2
      go_ret
      exact ⟨rfl, HB.out.1⟩
    · have HRF : Hid (v.g.paths.foldl (farStep path) (-1) = R) := by show _ = _; rw [← HR.out, HE.out]; rfl
      go_wp2
      go_loopw [6, 23] (fun m i wr => ∃ (k : Nat) (mi : Int), k ≤ pn ∧ i = .int .i64 k ∧ m = .int .i64 mi ∧ Hid ((v.g.paths.take k).foldl (farStep path) (-1) = mi ∧ Below w.heap.size w wr)) (fun _ i _ => pn - (intOf i).toNat)
      case atStart => exact ⟨0, -1, Nat.zero_le _, rfl, rfl, ⟨rfl, HB.out.1⟩⟩
      case round =>
        obtain ⟨k, mi, hk, rfl, rfl, HK⟩ := hrel
        by_cases hlt : k < pn
        · have hkL : (k : Int) < (pn : Int) := by omega
          obtain ⟨s, hs⟩ : ∃ s, v.g.paths[k]? = some s := ⟨v.g.paths[k]'(by have := HPN.out; omega), List.getElem?_eq_getElem _⟩
          have hS := HB.out.2.below HK.out.2
          obtain ⟨ha0, hbl⟩ := hS.lies (by omega)
          have hc1 := hS.cells k s hs
          rw [Nat.zero_add] at hc1
          have hc4 := cell_of (i := 0) (HC4.out.below HK.out.2).txt
          simp only [List.getElem?_toArray, List.getElem?_cons_zero] at hc4
          have HF : Hid ((v.g.paths.take (k + 1)).foldl (farStep path) (-1) = farStep path mi s) := by
            show _ = _
            rw [far_take hs, HK.out.1]
          subst ha0
          clear hs hS
          cases hbg : begins path s
          · have HG : Hid ((v.g.paths.take (k + 1)).foldl (farStep path) (-1) = mi) := by
              show _ = _
              rw [HF.out]; unfold farStep; rw [hbg]; rfl
            go_wp2_with fail
            refine (within_p path s _).mono ?_
            rintro e w2 ⟨rfl, hw⟩
            obtain rfl := hw.symm
            rw [hbg]
            clear hbg
            go_wp2
            go_roundw
            case rel => exact ⟨k + 1, mi, by omega, by go_num, rfl, ⟨HG.out, HK.out.2⟩⟩
            case measure => simp [intOf]; omega
          · have HG : Hid ((v.g.paths.take (k + 1)).foldl (farStep path) (-1) = max mi (s.size : Int)) := by
              show _ = _
              rw [HF.out]; unfold farStep; rw [hbg]; rfl
            go_wp2_with fail
            refine (within_p path s _).mono ?_
            rintro e w2 ⟨rfl, hw⟩
            obtain rfl := hw.symm
            rw [hbg]
            clear hbg
            go_wp2
            go_roundw
            case rel => exact ⟨k + 1, _, by omega, by go_num, rfl, ⟨HG.out, HK.out.2⟩⟩
            case measure => simp [intOf]; omega
        · have hkL : ¬ (k : Int) < (pn : Int) := by omega
          obtain rfl : mi = R := by rw [← HK.out.1, ← HRF.out, List.take_of_length_le (by rw [HPN.out]; omega)]
          go_wp2
          go_ret
          exact ⟨rfl, HK.out.2⟩
end Go.Proofs.YtemlclgdgnfhnaaDoor

/- The number of the grant that reaches farthest; whatever the program. -/
namespace Go.Proofs.YtemlclgdgnfhnaaDoor
open Go.RowKit
set_option linter.unusedVariables false

def farGo : List Int → Nat → Int × Int → Int × Int
  | [], _, s => s
  | r :: t, i, s => farGo t (i + 1) (if s.2 ≤ r then ((i : Int), r) else s)
/-- The number of the last one of the greatest, from 0 on; below 0: none. -/
def farI (rs : List Int) : Int := (farGo rs 0 (-1, 0)).1
theorem farGo_snoc (r : Int) : ∀ (l : List Int) (i : Nat) (s : Int × Int), farGo (l ++ [r]) i s = if (farGo l i s).2 ≤ r then (((i + l.length : Nat) : Int), r) else farGo l i s
  | [], i, s => rfl
  | x :: t, i, s => by
    show farGo (t ++ [r]) (i + 1) _ = _
    rw [farGo_snoc r t (i + 1)]
    show (if (farGo t (i + 1) _).2 ≤ r then _ else _) = _
    simp only [farGo, List.length_cons]
    congr 3
    push_cast
    omega
theorem farGo_take {rs : List Int} {k : Nat} {r : Int} (h : rs[k]? = some r) : farGo (rs.take (k + 1)) 0 (-1, 0) = if (farGo (rs.take k) 0 (-1, 0)).2 ≤ r then ((k : Int), r) else farGo (rs.take k) 0 (-1, 0) := by
  obtain ⟨hk, e⟩ := List.getElem?_eq_some_iff.1 h
  rw [List.take_succ_eq_append_getElem hk, farGo_snoc, e, List.length_take]
  rw [show 0 + min k rs.length = k by omega]
set_option maxRecDepth 100000 in
set_option maxHeartbeats 4000000 in
theorem far_of (P : Program) (hf : P.funcs[26]? = some Tryd.f26)
    (tS : P.underlying 22 = some (TypeDesc.slice 34)) (aS : ∀ w, (isAgg 22).run P w = .ok false w) (zS : ∀ w, (Go.sizeOf 22).run P w = .ok 1 w)
    (t3 : P.underlying 3 = some (TypeDesc.int IntKind.i64)) (a3 : ∀ w, (isAgg 3).run P w = .ok false w) (z3 : ∀ w, (Go.sizeOf 3).run P w = .ok 1 w) (v3 : ∀ w, (zeroValue 3).run P w = .ok (Value.int IntKind.i64 0) w)
    (t4 : P.underlying 4 = some TypeDesc.bool) (a4 : ∀ w, (isAgg 4).run P w = .ok false w) (z4 : ∀ w, (Go.sizeOf 4).run P w = .ok 1 w)
    (k : Nat) (hk0 : 0 < k) (aE : ∀ w, (isAgg 34).run P w = .ok true w) (zE : ∀ w, (Go.sizeOf 34).run P w = .ok k w) (zc : Array Value) (vE : ∀ w, (zeroValue 34).run P w = .ok (.agg zc) w) (hzc : zc.size = k)
    {α : Type} (cl : α → List Value) (R : α → Int)
    (g n cap B : Nat) (vs : List α) (hn : vs.length = n) (hbig : n ≤ 1000) (w : World) (hown : OwnK k 34 w B (.slice (some ⟨g, 0, none⟩) n cap) (vs.map cl))
    (fn : Nat) (lb : Array Value) (eg : ∀ args w, (callFunc fn args).run P w = .ok (.enter fn args) w)
    (hm : ∀ W v, v ∈ vs → Below w.heap.size w W → Calls P fn (#[.agg (cl v).toArray] ++ lb) W fun e w' => e = .returned (.int .i64 (R v)) ∧ Below W.heap.size W w') :
    Calls P 26 #[.slice (some ⟨g, 0, none⟩) n cap, .func (.func fn) #[] lb] w fun e w' => e = .returned (.int .i64 (farI (vs.map R))) ∧ Below w.heap.size w w' := by
  have HO : Hid (OwnK k 34 w B (.slice (some ⟨g, 0, none⟩) n cap) (vs.map cl)) := hown
  have HN : Hid (vs.length = n) := hn
  have HM : Hid (∀ W v, v ∈ vs → Below w.heap.size w W → Calls P fn (#[.agg (cl v).toArray] ++ lb) W fun e w' => e = .returned (.int .i64 (R v)) ∧ Below W.heap.size W w') := hm
  have HZ : Hid (zc.size = k) := hzc
  clear hown hn hm hzc
  go_enter hf, Tryd.ntmps26
  go_wp2
  go_loopw [5, 6, 12] (fun b m i wr => ∃ (kk : Nat) (bi mi : Int), kk ≤ n ∧ i = .int .i64 kk ∧ b = .int .i64 bi ∧ m = .int .i64 mi ∧ Hid (Below w.heap.size w wr ∧ farGo ((vs.map R).take kk) 0 (-1, 0) = (bi, mi))) (fun _ _ i _ => n - (intOf i).toNat)
  case atStart => exact ⟨0, -1, 0, Nat.zero_le _, rfl, rfl, rfl, ⟨Below.refl _ _, rfl⟩⟩
  case round =>
    obtain ⟨kk, bi, mi, hkk, rfl, rfl, rfl, HI⟩ := hrel
    by_cases hlt : kk < n
    · have hltz : (kk : Int) < (n : Int) := by omega
      obtain ⟨v, hv⟩ : ∃ v, vs[kk]? = some v := ⟨vs[kk]'(by have := HN.out; omega), List.getElem?_eq_getElem _⟩
      have hvm : (vs.map cl)[kk]? = some (cl v) := by rw [List.getElem?_map, hv]; rfl
      have hvr : (vs.map R)[kk]? = some (R v) := by rw [List.getElem?_map, hv]; rfl
      have HST : Hid (farGo ((vs.map R).take (kk + 1)) 0 (-1, 0) = if mi ≤ R v then ((kk : Int), R v) else (bi, mi)) := by
        show _ = _
        rw [farGo_take hvr, HI.out.2]
      obtain ⟨x, hx⟩ : ∃ x, cl v = x := ⟨_, rfl⟩
      rw [hx] at hvm
      have hxm : x ∈ vs.map cl := List.mem_of_getElem? hvm
      have hxl : x.length = k := HO.out.len x hxm
      have hx1 : ∀ u ∈ x, u.oneCell' = true := HO.out.one x hxm
      have l1 := (HO.out.below HI.out.1).load P hvm
      have hb1 : Below wr.heap.size wr (wr.alloc (.cells x.toArray 34)) := (Below.refl _ _).alloc (Nat.le_refl _) _
      have s1 := run_boxed P wr zc 34 x (by rw [HZ.out, hxl]) hx1
      have l2 := run_unboxed P (w := wr.alloc (.cells x.toArray 34)) (w' := wr.alloc (.cells x.toArray 34)) (b := wr.heap.size) hxl (heap_alloc_new wr _) (Below.refl _ _)
      have HB1 : Hid (Below w.heap.size w (wr.alloc (.cells x.toArray 34))) := HI.out.1.trans (hb1.mono HI.out.1.size)
      have hcall := HM.out _ v (List.mem_of_getElem? hv) HB1.out
      rw [hx] at hcall
      have hxa : x.toArray.size = k := by simp [hxl]
      obtain ⟨r, hr⟩ : ∃ r, R v = r := ⟨_, rfl⟩
      rw [hr] at hcall HST
      clear hv hvm hvr hxm hx hb1 hx1 hr
      generalize hWX : wr.alloc (.cells x.toArray 34) = WX at s1 l2 HB1 hcall
      by_cases hge : mi ≤ r
      · have HS2 : Hid (farGo ((vs.map R).take (kk + 1)) 0 (-1, 0) = ((kk : Int), r)) := by show _ = _; rw [HST.out, if_pos hge]
        go_wp2_with (go_at_fn fn; refine hcall.mono ?_; rintro e w2 ⟨rfl, hb2⟩)
        go_roundw
        case rel => exact ⟨kk + 1, _, _, by omega, by go_num, rfl, rfl, ⟨HB1.out.trans (hb2.mono HB1.out.size), HS2.out⟩⟩
        case measure => simp [intOf]; omega
      · have HS2 : Hid (farGo ((vs.map R).take (kk + 1)) 0 (-1, 0) = (bi, mi)) := by show _ = _; rw [HST.out, if_neg hge]
        go_wp2_with (go_at_fn fn; refine hcall.mono ?_; rintro e w2 ⟨rfl, hb2⟩)
        go_roundw
        case rel => exact ⟨kk + 1, _, _, by omega, by go_num, rfl, rfl, ⟨HB1.out.trans (hb2.mono HB1.out.size), HS2.out⟩⟩
        case measure => simp [intOf]; omega
    · have hltz : ¬ (kk : Int) < (n : Int) := by omega
      have HE : Hid (farI (vs.map R) = bi) := by
        show (farGo (vs.map R) 0 (-1, 0)).1 = _
        have := HI.out.2
        rw [List.take_of_length_le (by rw [List.length_map, HN.out]; omega)] at this
        rw [this]
      go_wp2
      go_ret
      exact ⟨by rw [HE.out]; rfl, HI.out.1⟩
set_option maxHeartbeats 2000000 in
theorem far_none (w : World) (F : Value) : Calls Tryd.prog 26 #[.slice none 0 0, F] w fun e w' => e = .returned (.int .i64 (-1)) ∧ w' = w := by
  go_enter Tryd.func26, Tryd.ntmps26
  go_wp2
  refine wp_loop_rounds 1 ?_
  rw [rounds_succ]
  go_wp2
  go_ret
  exact ⟨rfl, rfl⟩
/-- The same of a bank's row. -/
theorem far_any (gv : Value) (B : Nat) (G : List GrV) (R : GrV → Int) (hl : G.length ≤ 8) (w : World) (hown : OwnK 16 34 w B gv (G.map grCells)) (fn : Nat) (lb : Array Value) (eg : ∀ args w, (callFunc fn args).run Tryd.prog w = .ok (.enter fn args) w)
    (hm : ∀ W v, v ∈ G → Below w.heap.size w W → Calls Tryd.prog fn (#[.agg (grCells v).toArray] ++ lb) W fun e w' => e = .returned (.int .i64 (R v)) ∧ Below W.heap.size W w') :
    Calls Tryd.prog 26 #[gv, .func (.func fn) #[] lb] w fun e w' => e = .returned (.int .i64 (farI (G.map R))) ∧ Below w.heap.size w w' := by
  rcases hown.forms with ⟨rfl, e2⟩ | ⟨g, cap, rfl, _, _, _, _⟩
  · obtain rfl : G = [] := List.map_eq_nil_iff.1 e2
    refine (far_none w _).mono ?_
    rintro e w' ⟨rfl, rfl⟩
    exact ⟨rfl, Below.refl _ _⟩
  · rw [List.length_map] at hown ⊢
    exact far_of Tryd.prog Tryd.func26 Tryd.underlying22 Tryd.isAgg22 Tryd.sizeOf22 Tryd.underlying3 Tryd.isAgg3 Tryd.sizeOf3 Tryd.zeroValue3 Tryd.underlying4 Tryd.isAgg4 Tryd.sizeOf4 16 (by omega) Tryd.isAgg34 Tryd.sizeOf34 _ Tryd.zeroValue34 rfl grCells R g _ cap B G rfl (by omega) w hown fn lb eg hm
end Go.Proofs.YtemlclgdgnfhnaaDoor

/- The grant of a number, cloned; all grants, cloned. -/
namespace Go.Proofs.YtemlclgdgnfhnaaDoor
open Go.RowKit
set_option linter.unusedVariables false

def zeroAP : AskP := ⟨0, ⟨#[]⟩, ⟨#[]⟩, ⟨#[]⟩, false, ⟨#[]⟩, false, []⟩
def zeroP : GrP := ⟨⟨false, ⟨#[]⟩, 0⟩, false, ⟨#[]⟩, ⟨#[]⟩, zeroAP, 0, []⟩
def zeroV : GrV := ⟨zeroP, .slice none 0 0, .slice none 0 0⟩
theorem zeroV_own (w : World) (B : Nat) : GrOwn w B zeroV := ⟨ownS_nil w B, ownS_nil w B⟩
/-- The grant of a number; nothing below 0. -/
def toldL (l : List GrP) (i : Int) : GrP := if i < 0 then zeroP else (l[i.toNat]?).getD zeroP
theorem res_cell_tmp {P : Program} {fn : Func} {tmps : Array Value} {W : World} {a b : Tmp} {t u : TypeId} {g : Nat} {vs : List Value} {k : Nat} {r : Value} (hf : fn.results = #[.cell a t, .tmp b]) (hp : tmps.getD a undef = .pointer (some ⟨g, 0, none⟩)) (hr : tmps.getD b undef = r) (ha : ∀ w, (isAgg t).run P w = .ok true w) (hs : ∀ w, (Go.sizeOf t).run P w = .ok k w) (hk : vs.length = k) (h : W.heap[g]? = some (.cells vs.toArray u (0, 0))) :
    (results fn tmps).run P W = .ok (.tuple #[.agg vs.toArray, r]) W := by
  have hl := run_loadCellsFrom_list P W ⟨g, 0, none⟩ vs k hk (fun i v hi => by
    rw [Addr.add_lit, Nat.zero_add, cell_of h]
    simpa using hi)
  simp only [Array.getD_eq_getD_getElem?] at hp hr
  unfold results
  rw [hf]
  simp [hp, hr, loadVar, ha, hs, asAddr, loadCells, hl]
/-- Where the cells of an element of a row lie. -/
theorem row16 {w : World} {B g n cap i : Nat} {G : List GrV} {v : GrV} {da pa : Option Addr} {dn dc pn pc : Nat} (h : OwnK 16 34 w B (.slice (some ⟨g, 0, none⟩) n cap) (G.map grCells)) (hi : G[i]? = some v) (hd : v.dv = .slice da dn dc) (hp : v.pv = .slice pa pn pc) :
    w.cell? ⟨g, i * 16, none⟩ = some (.bool v.g.org.sec) ∧ w.cell? ⟨g, i * 16 + 1, none⟩ = some (.string v.g.org.host) ∧ w.cell? ⟨g, i * 16 + 2, none⟩ = some (.int .i64 v.g.org.port) ∧ w.cell? ⟨g, i * 16 + 3, none⟩ = some (.bool v.g.proxy) ∧ w.cell? ⟨g, i * 16 + 4, none⟩ = some (.string v.g.user) ∧ w.cell? ⟨g, i * 16 + 5, none⟩ = some (.string v.g.pass) ∧ w.cell? ⟨g, i * 16 + 6, none⟩ = some (.int .i64 v.g.ask.sch) ∧ w.cell? ⟨g, i * 16 + 7, none⟩ = some (.string v.g.ask.realm) ∧ w.cell? ⟨g, i * 16 + 8, none⟩ = some (.string v.g.ask.nonce) ∧ w.cell? ⟨g, i * 16 + 9, none⟩ = some (.string v.g.ask.opq) ∧ w.cell? ⟨g, i * 16 + 10, none⟩ = some (.bool v.g.ask.sess) ∧ w.cell? ⟨g, i * 16 + 11, none⟩ = some (.string v.g.ask.qop) ∧ w.cell? ⟨g, i * 16 + 12, none⟩ = some (.bool v.g.ask.stale) ∧ w.cell? ⟨g, i * 16 + 13, none⟩ = some (.slice da dn dc) ∧ w.cell? ⟨g, i * 16 + 14, none⟩ = some (.int .i64 v.g.count) ∧ w.cell? ⟨g, i * 16 + 15, none⟩ = some (.slice pa pn pc) := by
  have hx : (G.map grCells)[i]? = some [.bool v.g.org.sec, .string v.g.org.host, .int .i64 v.g.org.port, .bool v.g.proxy, .string v.g.user, .string v.g.pass, .int .i64 v.g.ask.sch, .string v.g.ask.realm, .string v.g.ask.nonce, .string v.g.ask.opq, .bool v.g.ask.sess, .string v.g.ask.qop, .bool v.g.ask.stale, .slice da dn dc, .int .i64 v.g.count, .slice pa pn pc] := by rw [List.getElem?_map, hi]; show some (grCells v) = _; unfold grCells; rw [hd, hp]
  exact ⟨h.cell (i := 0) hx rfl, h.cell (i := 1) hx rfl, h.cell (i := 2) hx rfl, h.cell (i := 3) hx rfl, h.cell (i := 4) hx rfl, h.cell (i := 5) hx rfl, h.cell (i := 6) hx rfl, h.cell (i := 7) hx rfl, h.cell (i := 8) hx rfl, h.cell (i := 9) hx rfl, h.cell (i := 10) hx rfl, h.cell (i := 11) hx rfl, h.cell (i := 12) hx rfl, h.cell (i := 13) hx rfl, h.cell (i := 14) hx rfl, h.cell (i := 15) hx rfl⟩
set_option maxRecDepth 100000 in
set_option maxHeartbeats 4000000 in
theorem told_none (gv : Value) (i : Int) (hi : i < 0) (w : World) :
    Calls Tryd.prog 25 #[gv, .int .i64 i] w fun e w' => e = .returned (.tuple #[.agg (grCells zeroV).toArray, .bool false]) ∧ Below w.heap.size w w' := by
  have hb0 : Below w.heap.size w (w.alloc (.cells #[.bool false, .string ⟨#[]⟩, .int .i64 0, .bool false, .string ⟨#[]⟩, .string ⟨#[]⟩, .int .i64 0, .string ⟨#[]⟩, .string ⟨#[]⟩, .string ⟨#[]⟩, .bool false, .string ⟨#[]⟩, .bool false, .slice none 0 0, .int .i64 0, .slice none 0 0] 34)) := (Below.refl _ _).alloc (Nat.le_refl _) _
  have hn0 := heap_alloc_new w (.cells #[.bool false, .string ⟨#[]⟩, .int .i64 0, .bool false, .string ⟨#[]⟩, .string ⟨#[]⟩, .int .i64 0, .string ⟨#[]⟩, .string ⟨#[]⟩, .string ⟨#[]⟩, .bool false, .string ⟨#[]⟩, .bool false, .slice none 0 0, .int .i64 0, .slice none 0 0] 34)
  have HW : Hid (Below w.heap.size w (w.alloc (.cells #[.bool false, .string ⟨#[]⟩, .int .i64 0, .bool false, .string ⟨#[]⟩, .string ⟨#[]⟩, .int .i64 0, .string ⟨#[]⟩, .string ⟨#[]⟩, .string ⟨#[]⟩, .bool false, .string ⟨#[]⟩, .bool false, .slice none 0 0, .int .i64 0, .slice none 0 0] 34)) ∧ (w.alloc (.cells #[.bool false, .string ⟨#[]⟩, .int .i64 0, .bool false, .string ⟨#[]⟩, .string ⟨#[]⟩, .int .i64 0, .string ⟨#[]⟩, .string ⟨#[]⟩, .string ⟨#[]⟩, .bool false, .string ⟨#[]⟩, .bool false, .slice none 0 0, .int .i64 0, .slice none 0 0] 34)).heap[w.heap.size]? = some (.cells #[.bool false, .string ⟨#[]⟩, .int .i64 0, .bool false, .string ⟨#[]⟩, .string ⟨#[]⟩, .int .i64 0, .string ⟨#[]⟩, .string ⟨#[]⟩, .string ⟨#[]⟩, .bool false, .string ⟨#[]⟩, .bool false, .slice none 0 0, .int .i64 0, .slice none 0 0] 34 (0, 0))) := ⟨hb0, hn0⟩
  clear hb0 hn0
  go_enter Tryd.func25, Tryd.ntmps25
  go_wp2_with fail
  first
    | exact bodyPost_ret (v := .tuple #[.agg (grCells zeroV).toArray, .bool false]) (res_cell_tmp (vs := grCells zeroV) rfl rfl rfl Tryd.isAgg34 Tryd.sizeOf34 rfl HW.out.2) rfl ⟨rfl, HW.out.1⟩
    | (obtain ⟨z1, z2⟩ := setAll [.bool false, .string ⟨#[]⟩, .int .i64 0, .bool false, .string ⟨#[]⟩, .string ⟨#[]⟩, .int .i64 0, .string ⟨#[]⟩, .string ⟨#[]⟩, .string ⟨#[]⟩, .bool false, .string ⟨#[]⟩, .bool false, .slice none 0 0, .int .i64 0, .slice none 0 0] HW.out.2 rfl
       simp only [World.setCells, Nat.reduceAdd] at z1 z2
       exact bodyPost_ret (v := .tuple #[.agg (grCells zeroV).toArray, .bool false]) (res_cell_tmp (vs := grCells zeroV) rfl rfl rfl Tryd.isAgg34 Tryd.sizeOf34 rfl z1) rfl ⟨rfl, HW.out.1.grown z2 HW.out.1.size (fun i hi => by injection hi with hi; omega)⟩)
set_option maxRecDepth 100000 in
set_option maxHeartbeats 4000000 in
theorem told_some (g n cap B i : Nat) (G : List GrV) (v : GrV) (hi : G[i]? = some v) (hn : G.length = n) (hl : n ≤ 8) (hfit : GrFit v.g) (w : World) (hown : OwnK 16 34 w B (.slice (some ⟨g, 0, none⟩) n cap) (G.map grCells)) (hv : GrOwn w B v) :
    Calls Tryd.prog 25 #[.slice (some ⟨g, 0, none⟩) n cap, .int .i64 i] w fun e w' => (∃ x : GrV, e = .returned (.tuple #[.agg (grCells x).toArray, .bool true]) ∧ x.g = v.g ∧ GrOwn w' w.heap.size x) ∧ Below w.heap.size w w' := by
  obtain ⟨da, dc, dg, hdv, hds⟩ := hv.dom.strs
  obtain ⟨pa, pc, pg, hpv, hps⟩ := hv.paths.strs
  obtain ⟨dn, HDN⟩ : ∃ dn, Hid (v.g.ask.dom.length = dn) := ⟨_, rfl⟩
  obtain ⟨pn, HPN⟩ : ∃ pn, Hid (v.g.paths.length = pn) := ⟨_, rfl⟩
  rw [HDN.out] at hdv hds
  rw [HPN.out] at hpv hps
  have hin : i < n := by rw [← hn]; exact (List.getElem?_eq_some_iff.1 hi).1
  have hcells := row16 hown hi hdv hpv
  have hbR : Below w.heap.size w (w.alloc (.cells #[.bool false, .string ⟨#[]⟩, .int .i64 0, .bool false, .string ⟨#[]⟩, .string ⟨#[]⟩, .int .i64 0, .string ⟨#[]⟩, .string ⟨#[]⟩, .string ⟨#[]⟩, .bool false, .string ⟨#[]⟩, .bool false, .slice none 0 0, .int .i64 0, .slice none 0 0] 34)) := (Below.refl _ _).alloc (Nat.le_refl _) _
  have hown2 := hown.below hbR
  have hnR := heap_alloc_new w (.cells #[.bool false, .string ⟨#[]⟩, .int .i64 0, .bool false, .string ⟨#[]⟩, .string ⟨#[]⟩, .int .i64 0, .string ⟨#[]⟩, .string ⟨#[]⟩, .string ⟨#[]⟩, .bool false, .string ⟨#[]⟩, .bool false, .slice none 0 0, .int .i64 0, .slice none 0 0] 34)
  have HW : Hid (Below w.heap.size w (w.alloc (.cells #[.bool false, .string ⟨#[]⟩, .int .i64 0, .bool false, .string ⟨#[]⟩, .string ⟨#[]⟩, .int .i64 0, .string ⟨#[]⟩, .string ⟨#[]⟩, .string ⟨#[]⟩, .bool false, .string ⟨#[]⟩, .bool false, .slice none 0 0, .int .i64 0, .slice none 0 0] 34)) ∧ (w.alloc (.cells #[.bool false, .string ⟨#[]⟩, .int .i64 0, .bool false, .string ⟨#[]⟩, .string ⟨#[]⟩, .int .i64 0, .string ⟨#[]⟩, .string ⟨#[]⟩, .string ⟨#[]⟩, .bool false, .string ⟨#[]⟩, .bool false, .slice none 0 0, .int .i64 0, .slice none 0 0] 34)).heap[w.heap.size]? = some (.cells #[.bool false, .string ⟨#[]⟩, .int .i64 0, .bool false, .string ⟨#[]⟩, .string ⟨#[]⟩, .int .i64 0, .string ⟨#[]⟩, .string ⟨#[]⟩, .string ⟨#[]⟩, .bool false, .string ⟨#[]⟩, .bool false, .slice none 0 0, .int .i64 0, .slice none 0 0] 34 (0, 0)) ∧ Strs (w.alloc (.cells #[.bool false, .string ⟨#[]⟩, .int .i64 0, .bool false, .string ⟨#[]⟩, .string ⟨#[]⟩, .int .i64 0, .string ⟨#[]⟩, .string ⟨#[]⟩, .string ⟨#[]⟩, .bool false, .string ⟨#[]⟩, .bool false, .slice none 0 0, .int .i64 0, .slice none 0 0] 34)) da dn dg 0 v.g.ask.dom ∧ Strs (w.alloc (.cells #[.bool false, .string ⟨#[]⟩, .int .i64 0, .bool false, .string ⟨#[]⟩, .string ⟨#[]⟩, .int .i64 0, .string ⟨#[]⟩, .string ⟨#[]⟩, .string ⟨#[]⟩, .bool false, .string ⟨#[]⟩, .bool false, .slice none 0 0, .int .i64 0, .slice none 0 0] 34)) pa pn pg 0 v.g.paths ∧ GrFit v.g) := ⟨hbR, hnR, hds.below hbR, hps.below hbR, hfit⟩
  have hcells2 := row16 hown2 hi hdv hpv
  obtain ⟨c0, c1, c2, c3, c4, c5, c6, c7, c8, c9, c10, c11, c12, c13, c14, c15⟩ := hcells2
  have hglt : g < w.heap.size := by
    rcases hown.forms with ⟨e, _⟩ | ⟨g', cap', e, _, h1, _, _⟩
    · cases e
    · injection e with e1 _ _
      injection e1 with e1
      injection e1 with e1
      omega
  have hi' : (i : Int) < (n : Int) := by omega
  have hi0 : ¬ (i : Int) < 0 := by omega
  clear hcells hbR hown hown2 hnR hds hps hfit hv hdv hpv hi hn
  generalize hWR : w.alloc (.cells #[.bool false, .string ⟨#[]⟩, .int .i64 0, .bool false, .string ⟨#[]⟩, .string ⟨#[]⟩, .int .i64 0, .string ⟨#[]⟩, .string ⟨#[]⟩, .string ⟨#[]⟩, .bool false, .string ⟨#[]⟩, .bool false, .slice none 0 0, .int .i64 0, .slice none 0 0] 34) = WR at c0 c1 c2 c3 c4 c5 c6 c7 c8 c9 c10 c11 c12 c13 c14 c15 HW
  go_enter Tryd.func25, Tryd.ntmps25
  go_wp2_with fail
  refine (freshG_at v.g HW.out.2.2.2.2 da pa dn dc pn pc dg 0 pg 0 _ HW.out.2.2.1 HW.out.2.2.2.1).mono ?_
  rintro e w2 ⟨⟨vv, uu, rfl, hvv, huu⟩, hb2⟩
  obtain ⟨va, vc, vg, rfl, _⟩ := hvv.strs
  obtain ⟨vn, HVN⟩ : ∃ vn, Hid (v.g.ask.dom.length = vn) := ⟨_, rfl⟩
  rw [HVN.out] at hvv ⊢
  obtain ⟨ua, uc, ug, rfl, _⟩ := huu.strs
  obtain ⟨un, HUN⟩ : ∃ un, Hid (v.g.paths.length = un) := ⟨_, rfl⟩
  rw [HUN.out] at huu ⊢
  have HF : Hid (Below w.heap.size w w2 ∧ w2.heap[w.heap.size]? = some (.cells #[.bool false, .string ⟨#[]⟩, .int .i64 0, .bool false, .string ⟨#[]⟩, .string ⟨#[]⟩, .int .i64 0, .string ⟨#[]⟩, .string ⟨#[]⟩, .string ⟨#[]⟩, .bool false, .string ⟨#[]⟩, .bool false, .slice none 0 0, .int .i64 0, .slice none 0 0] 34 (0, 0)) ∧ OwnS w2 WR.heap.size (.slice va vn vc) v.g.ask.dom ∧ OwnS w2 WR.heap.size (.slice ua un uc) v.g.paths ∧ w.heap.size < WR.heap.size) := ⟨HW.out.1.trans (hb2.mono HW.out.1.size), (hb2.block _ (Array.getElem?_eq_some_iff.1 HW.out.2.1).1).trans HW.out.2.1, hvv, huu, (Array.getElem?_eq_some_iff.1 HW.out.2.1).1⟩
  have d0 : w2.cell? ⟨w.heap.size, 0, none⟩ = some (.bool false) := cell_of HF.out.2.1
  have d1 : w2.cell? ⟨w.heap.size, 1, none⟩ = some (.string ⟨#[]⟩) := cell_of HF.out.2.1
  have d2 : w2.cell? ⟨w.heap.size, 2, none⟩ = some (.int .i64 0) := cell_of HF.out.2.1
  have d3 : w2.cell? ⟨w.heap.size, 3, none⟩ = some (.bool false) := cell_of HF.out.2.1
  have d4 : w2.cell? ⟨w.heap.size, 4, none⟩ = some (.string ⟨#[]⟩) := cell_of HF.out.2.1
  have d5 : w2.cell? ⟨w.heap.size, 5, none⟩ = some (.string ⟨#[]⟩) := cell_of HF.out.2.1
  have d6 : w2.cell? ⟨w.heap.size, 6, none⟩ = some (.int .i64 0) := cell_of HF.out.2.1
  have d7 : w2.cell? ⟨w.heap.size, 7, none⟩ = some (.string ⟨#[]⟩) := cell_of HF.out.2.1
  have d8 : w2.cell? ⟨w.heap.size, 8, none⟩ = some (.string ⟨#[]⟩) := cell_of HF.out.2.1
  have d9 : w2.cell? ⟨w.heap.size, 9, none⟩ = some (.string ⟨#[]⟩) := cell_of HF.out.2.1
  have d10 : w2.cell? ⟨w.heap.size, 10, none⟩ = some (.bool false) := cell_of HF.out.2.1
  have d11 : w2.cell? ⟨w.heap.size, 11, none⟩ = some (.string ⟨#[]⟩) := cell_of HF.out.2.1
  have d12 : w2.cell? ⟨w.heap.size, 12, none⟩ = some (.bool false) := cell_of HF.out.2.1
  have d13 : w2.cell? ⟨w.heap.size, 13, none⟩ = some (.slice none 0 0) := cell_of HF.out.2.1
  have d14 : w2.cell? ⟨w.heap.size, 14, none⟩ = some (.int .i64 0) := cell_of HF.out.2.1
  have d15 : w2.cell? ⟨w.heap.size, 15, none⟩ = some (.slice none 0 0) := cell_of HF.out.2.1
  have fr := free_of HF.out.2.1
  clear hb2 hvv huu c0 c1 c2 c3 c4 c5 c6 c7 c8 c9 c10 c11 c12 c13 c14 c15 HW
  go_wp2_with fail
  obtain ⟨z1, z2⟩ := setAll [.bool v.g.org.sec, .string v.g.org.host, .int .i64 v.g.org.port, .bool v.g.proxy, .string v.g.user, .string v.g.pass, .int .i64 v.g.ask.sch, .string v.g.ask.realm, .string v.g.ask.nonce, .string v.g.ask.opq, .bool v.g.ask.sess, .string v.g.ask.qop, .bool v.g.ask.stale, .slice va vn vc, .int .i64 v.g.count, .slice ua un uc] HF.out.2.1 rfl
  simp only [World.setCells, Nat.reduceAdd] at z1 z2
  clear d0 d1 d2 d3 d4 d5 d6 d7 d8 d9 d10 d11 d12 d13 d14 d15 fr
  refine bodyPost_ret (v := .tuple #[.agg (grCells ⟨v.g, .slice va vn vc, .slice ua un uc⟩).toArray, .bool true]) (res_cell_tmp (vs := grCells ⟨v.g, .slice va vn vc, .slice ua un uc⟩) rfl rfl rfl Tryd.isAgg34 Tryd.sizeOf34 rfl z1) rfl ?_
  have hs := HF.out.2.2.2.2
  exact ⟨⟨⟨v.g, .slice va vn vc, .slice ua un uc⟩, rfl, rfl, ⟨ownS_mono (HF.out.2.2.1.grown z2 hs) (by omega), ownS_mono (HF.out.2.2.2.1.grown z2 hs) (by omega)⟩⟩, HF.out.1.grown z2 HF.out.1.size (fun i hi => by injection hi with hi; omega)⟩
end Go.Proofs.YtemlclgdgnfhnaaDoor

/- The grant that counts for a path. -/
namespace Go.Proofs.YtemlclgdgnfhnaaDoor
open Go.RowKit
set_option linter.unusedVariables false

theorem farGo_range : ∀ (l : List Int) (i : Nat) (s : Int × Int), (farGo l i s).1 = s.1 ∨ ∃ k : Nat, (farGo l i s).1 = k ∧ k < i + l.length
  | [], i, s => .inl rfl
  | r :: t, i, s => by
    show (farGo t (i + 1) _).1 = _ ∨ _
    rcases farGo_range t (i + 1) (if s.2 ≤ r then ((i : Int), r) else s) with h | ⟨k, h1, h2⟩
    · by_cases hc : s.2 ≤ r
      · rw [if_pos hc] at h
        refine .inr ⟨i, ?_, by rw [List.length_cons]; omega⟩
        show (farGo t (i + 1) _).1 = _
        rw [if_pos hc]
        exact h
      · rw [if_neg hc] at h
        refine .inl ?_
        rw [if_neg hc]
        exact h
    · exact .inr ⟨k, h1, by rw [List.length_cons]; omega⟩
theorem farI_range (rs : List Int) : farI rs = -1 ∨ ∃ k : Nat, farI rs = k ∧ k < rs.length := by
  rcases farGo_range rs 0 (-1, 0) with h | ⟨k, h1, h2⟩
  · exact .inl h
  · exact .inr ⟨k, h1, by omega⟩
/-- The number of the grant that counts. -/
def findI (G : List GrP) (o : OrgV) (p : Bool) (path : ByteArray) : Int := farI (G.map (reachI o p path))
theorem findI_range (G : List GrP) (o : OrgV) (p : Bool) (path : ByteArray) : findI G o p path = -1 ∨ ∃ k : Nat, findI G o p path = k ∧ k < G.length := by
  have := farI_range (G.map (reachI o p path))
  rwa [List.length_map] at this
/-- A grant told: what it is, whether it is one. -/
def TldAns (l : List GrP) (i : Int) (B : Nat) (e : Ending) (w' : World) : Prop := ∃ x : GrV, e = .returned (.tuple #[.agg (grCells x).toArray, .bool (decide (0 ≤ i))]) ∧ x.g = toldL l i ∧ GrOwn w' B x
theorem told_all {B b : Nat} {gv wv : Value} {G : List GrV} {V : List WtV} (w : World) (h : BankW w B b gv wv G V) (i : Int) (hi : i = -1 ∨ ∃ k : Nat, i = k ∧ k < (G.map (·.g)).length) :
    Calls Tryd.prog 25 #[gv, .int .i64 i] w fun e w' => TldAns (G.map (·.g)) i w.heap.size e w' ∧ Below w.heap.size w w' := by
  rcases hi with rfl | ⟨k, rfl, hk⟩
  · refine (told_none gv (-1) (by decide) w).mono ?_
    rintro e w' ⟨rfl, hb⟩
    exact ⟨⟨zeroV, rfl, rfl, zeroV_own _ _⟩, hb⟩
  · rw [List.length_map] at hk
    have hv := List.getElem?_eq_getElem hk
    have hg := h.gs
    rcases hg.forms with ⟨_, e2⟩ | ⟨g, cap, rfl, _, _, _, _⟩
    · have := congrArg List.length e2
      rw [List.length_map, List.length_nil] at this
      omega
    · rw [List.length_map] at hg ⊢
      refine (told_some g _ cap B k G G[k] hv rfl h.glen (h.gf _ (List.getElem_mem hk)) w hg (h.go _ (List.getElem_mem hk))).mono ?_
      rintro e w' ⟨⟨x, rfl, hx, ho⟩, hb⟩
      refine ⟨⟨x, ?_, ?_, ho⟩, hb⟩
      · rw [decide_eq_true (by omega)]
      · unfold toldL
        rw [if_neg (by omega), hx, Int.toNat_natCast, List.getElem?_map, hv]
        rfl
/-- The index that counts, by the program. -/
theorem farthest_any {B b : Nat} {gv wv : Value} {G : List GrV} {V : List WtV} (w : World) (h : BankW w B b gv wv G V) (o : OrgV) (p : Bool) (path : ByteArray) (xa xb xc : Nat) (h3 : Box3 w xa xb xc o p path) :
    Calls Tryd.prog 26 #[gv, .func (.func 37) #[] #[.pointer (some ⟨xa, 0, none⟩), .pointer (some ⟨xb, 0, none⟩), .pointer (some ⟨xc, 0, none⟩)]] w fun e w' => e = .returned (.int .i64 (findI (G.map (·.g)) o p path)) ∧ Below w.heap.size w w' := by
  have hf := far_any gv B G (fun v => reachI o p path v.g) h.glen w h.gs 37 #[.pointer (some ⟨xa, 0, none⟩), .pointer (some ⟨xb, 0, none⟩), .pointer (some ⟨xc, 0, none⟩)] (enters_at Tryd.func37 (by kernel_rfl) rfl) (fun W v hv hb => reach_any v B (h.gf v hv) o p path xa xb xc W (h3.below hb) ((h.go v hv).below hb))
  unfold findI
  rw [List.map_map]
  exact hf
set_option maxRecDepth 100000 in
set_option maxHeartbeats 2000000 in
theorem reachFor_any (o : OrgV) (p : Bool) (r : ByteArray) (w : World) :
    Calls Tryd.prog 27 #[.agg #[.bool o.sec, .string o.host, .int .i64 o.port], .bool p, .string r] w fun e w' => (∃ a b c, e = .returned (.func (.func 37) #[] #[.pointer (some ⟨a, 0, none⟩), .pointer (some ⟨b, 0, none⟩), .pointer (some ⟨c, 0, none⟩)]) ∧ Hid (Box3 w' a b c o p r)) ∧ Below w.heap.size w w' := by
  have hb1 : Below w.heap.size w (((w.alloc (.cells #[.bool o.sec, .string o.host, .int .i64 o.port] 24)).alloc (.cells #[.bool p] 4)).alloc (.cells #[.string r] 9)) := (((Below.refl _ _).alloc (Nat.le_refl _) _).alloc (by simp) _).alloc (by simp; omega) _
  have h1 : Hid (Box3 (((w.alloc (.cells #[.bool o.sec, .string o.host, .int .i64 o.port] 24)).alloc (.cells #[.bool p] 4)).alloc (.cells #[.string r] 9)) w.heap.size (w.heap.size + 1) (w.heap.size + 2) o p r) := by
    have e1 := heap_alloc_new w (.cells #[.bool o.sec, .string o.host, .int .i64 o.port] 24)
    have e2 := heap_alloc_new (w.alloc (.cells #[.bool o.sec, .string o.host, .int .i64 o.port] 24)) (.cells #[.bool p] 4)
    have e3 := heap_alloc_new ((w.alloc (.cells #[.bool o.sec, .string o.host, .int .i64 o.port] 24)).alloc (.cells #[.bool p] 4)) (.cells #[.string r] 9)
    simp only [World.size_alloc] at e2 e3
    refine ⟨?_, ?_, e3⟩
    · rw [heap_alloc_old _ _ (by simp; omega), heap_alloc_old _ _ (by simp)]
      exact e1
    · rw [heap_alloc_old _ _ (by simp)]
      exact e2
  go_enter Tryd.func27, Tryd.ntmps27
  go_wp2
  go_ret
  exact ⟨⟨_, _, _, rfl, h1⟩, hb1⟩
/-- What is kept by Find's calls: the bank, the box of the origin, the block of the result. -/
structure FndF (w w1 : World) (B b : Nat) (gv wv : Value) (G : List GrV) (V : List WtV) (o : OrgV) (Z : Array Value) : Prop where
  bel : Below w.heap.size w w1
  bank : BankW w1 B b gv wv G V
  box : w1.heap[w.heap.size]? = some (.cells #[.bool o.sec, .string o.host, .int .i64 o.port] 24 (0, 0))
  res : w1.heap[w.heap.size + 1]? = some (.cells Z 34 (0, 0))
theorem FndF.below {w w1 w2 : World} {B b : Nat} {gv wv : Value} {G : List GrV} {V : List WtV} {o : OrgV} {Z : Array Value} (h : FndF w w1 B b gv wv G V o Z) (hb : Below w1.heap.size w1 w2) : FndF w w2 B b gv wv G V o Z :=
  ⟨h.bel.trans (hb.mono h.bel.size), h.bank.below hb, (hb.block _ (Array.getElem?_eq_some_iff.1 h.box).1).trans h.box, (hb.block _ (Array.getElem?_eq_some_iff.1 h.res).1).trans h.res⟩
theorem FndF.facts {w w1 : World} {B b : Nat} {gv wv : Value} {G : List GrV} {V : List WtV} {o : OrgV} {Z : Array Value} (h : FndF w w1 B b gv wv G V o Z) : w1.cell? ⟨b, 0, none⟩ = some gv ∧ w1.cell? ⟨w.heap.size, 0, none⟩ = some (.bool o.sec) ∧ w1.cell? ⟨w.heap.size, 1, none⟩ = some (.string o.host) ∧ w1.cell? ⟨w.heap.size, 2, none⟩ = some (.int .i64 o.port) :=
  ⟨(cell_of (i := 0) h.bank.blk).trans rfl, (cell_of (i := 0) h.box).trans rfl, (cell_of (i := 1) h.box).trans rfl, (cell_of (i := 2) h.box).trans rfl⟩
theorem fnd_start (w : World) {B b : Nat} {gv wv : Value} {G : List GrV} {V : List WtV} (h : BankW w B b gv wv G V) (o : OrgV) (Z : Array Value) : FndF w ((w.alloc (.cells #[.bool o.sec, .string o.host, .int .i64 o.port] 24)).alloc (.cells Z 34)).drew B b gv wv G V o Z := by
  obtain ⟨h1, h2, h3⟩ := boxes2 w #[.bool o.sec, .string o.host, .int .i64 o.port] Z 24 34
  exact ⟨h1.drew, (h.below h1).below (Below.refl _ _).drew, h2, h3⟩
/-- A whole result stored: what stands there, and what is kept. -/
theorem fnd_store {w w4 : World} {B b : Nat} {gv wv : Value} {G : List GrV} {V : List WtV} {o : OrgV} {Z : Array Value} (h : FndF w w4 B b gv wv G V o Z) (x : List Value) (hz : Z.size = x.length) (h1 : ∀ u ∈ x, u.oneCell' = true) :
    Sem.run Tryd.prog (storeCells ⟨w.heap.size + 1, 0, none⟩ x 0) w4 = .ok () (w4.setCells (w.heap.size + 1) 0 x) ∧ Hid ((w4.setCells (w.heap.size + 1) 0 x).heap[w.heap.size + 1]? = some (.cells x.toArray 34 (0, 0)) ∧ w4.grownBy (w4.setCells (w.heap.size + 1) 0 x) (some (w.heap.size + 1)) ∧ (w4.setCells (w.heap.size + 1) 0 x).cell? ⟨b, 0, none⟩ = some gv ∧ (w4.setCells (w.heap.size + 1) 0 x).cell? ⟨w.heap.size, 0, none⟩ = some (.bool o.sec) ∧ (w4.setCells (w.heap.size + 1) 0 x).cell? ⟨w.heap.size, 1, none⟩ = some (.string o.host) ∧ (w4.setCells (w.heap.size + 1) 0 x).cell? ⟨w.heap.size, 2, none⟩ = some (.int .i64 o.port)) := by
  have hr := run_storeCells_cells (P := Tryd.prog) (w.heap.size + 1) 0 x 0 w4 (fun j hj => by
    rw [Nat.add_zero, Nat.zero_add, cell_of h.res, Array.getElem?_eq_getElem (by omega)]
    rfl) (fun j _ => free_of h.res _) h1
  rw [Nat.add_zero] at hr
  obtain ⟨z1, z2⟩ := setAll x h.res hz
  obtain ⟨f0, f1, f2, f3⟩ := h.facts
  have hbne : some b ≠ some (w.heap.size + 1) := fun e => by
    have e2 : b = w.heap.size + 1 := by injection e
    have h1 := h.bank.blk
    rw [e2, h.res] at h1
    injection h1 with h1
    injection h1 with _ h3
    exact absurd h3 (by decide)
  exact ⟨hr, z1, z2, z2.cell f0 hbne, z2.cell f1 (by show some w.heap.size ≠ _; simp), z2.cell f2 (by show some w.heap.size ≠ _; simp), z2.cell f3 (by show some w.heap.size ≠ _; simp)⟩
set_option maxRecDepth 100000 in
set_option maxHeartbeats 4000000 in
theorem find_any {B b : Nat} {gv wv : Value} {G : List GrV} {V : List WtV} (w : World) (h : BankW w B b gv wv G V) (o : OrgV) (p : Bool) (path : ByteArray) :
    Calls Tryd.prog 9 #[.pointer (some ⟨b, 0, none⟩), .agg #[.bool o.sec, .string o.host, .int .i64 o.port], .bool p, .string path] w fun e w' => TldAns (G.map (·.g)) (findI (G.map (·.g)) o p path) w.heap.size e w' ∧ Below w.heap.size w w' := by
  have H0 : Hid (FndF w ((w.alloc (.cells #[.bool o.sec, .string o.host, .int .i64 o.port] 24)).alloc (.cells #[.bool false, .string ⟨#[]⟩, .int .i64 0, .bool false, .string ⟨#[]⟩, .string ⟨#[]⟩, .int .i64 0, .string ⟨#[]⟩, .string ⟨#[]⟩, .string ⟨#[]⟩, .bool false, .string ⟨#[]⟩, .bool false, .slice none 0 0, .int .i64 0, .slice none 0 0] 34)).drew B b gv wv G V o _) := fnd_start w h o _
  have hQ := H0.out.facts
  obtain ⟨I, HI⟩ : ∃ I, Hid (findI (G.map (·.g)) o p path = I) := ⟨_, rfl⟩
  have HIR : Hid (I = -1 ∨ ∃ k : Nat, I = k ∧ k < (G.map (·.g)).length) := by
    have := findI_range (G.map (·.g)) o p path
    rw [HI.out, show (G.map (·.g)).length = (G.map (·.g)).length from rfl] at this
    exact this
  rw [HI.out]
  clear h
  go_enter Tryd.func9, Tryd.ntmps9
  go_wp2_with fail
  go_region_held3 (fun W => W.cell? ⟨b, 0, none⟩ = some gv ∧ W.cell? ⟨w.heap.size, 0, none⟩ = some (.bool o.sec) ∧ W.cell? ⟨w.heap.size, 1, none⟩ = some (.string o.host) ∧ W.cell? ⟨w.heap.size, 2, none⟩ = some (.int .i64 o.port)) (with_reducible assumption) (first
    | (go_at_call 27; refine (reachFor_any o p path _).mono ?_; rintro e w1 ⟨⟨xa, xb, xc, rfl, H3⟩, hb1⟩; have H1 : Hid (FndF w w1 B b gv wv G V o _) := H0.out.below hb1; have hQ1 := H1.out.facts; clear hb1)
    | (go_at_call 26; refine (farthest_any _ H1.out.bank o p path xa xb xc H3.out).mono ?_; rw [HI.out]; rintro e w2 ⟨rfl, hb2⟩; have H2 : Hid (FndF w w2 B b gv wv G V o _) := H1.out.below hb2; have hQ2 := H2.out.facts; clear hb2)
    | (go_at_call 25; refine (told_all _ H2.out.bank I HIR.out).mono ?_; rintro e w4 ⟨⟨x, rfl, hxg, hxo⟩, hb4⟩; have H4 : Hid (FndF w w4 B b gv wv G V o _) := H2.out.below hb4; have HX : Hid (x.g = toldL (G.map (·.g)) I ∧ GrOwn w4 w2.heap.size x) := ⟨hxg, hxo⟩; have hQ4 := H4.out.facts; have hxl := grCells_len x; obtain ⟨hst, HZ⟩ := fnd_store H4.out (grCells x) rfl hxo.one; have hQ5 := HZ.out.2.2; clear hxg hxo hb4))
  go_wp2
  refine bodyPost_ret (v := .tuple #[.agg (grCells x).toArray, .bool (decide (0 ≤ I))]) (res_cell_tmp (vs := grCells x) rfl rfl rfl Tryd.isAgg34 Tryd.sizeOf34 (grCells_len x) HZ.out.1) rfl ?_
  exact ⟨⟨x, rfl, HX.out.1, (HX.out.2.other HZ.out.2.1 (Typed.block H4.out.res) (by decide)).mono H2.out.bel.size⟩, H4.out.bel.grown HZ.out.2.1 H4.out.bel.size (fun i hi => by injection hi with hi; omega)⟩
end Go.Proofs.YtemlclgdgnfhnaaDoor

/- A bank's grants, cloned. -/
namespace Go.Proofs.YtemlclgdgnfhnaaDoor
open Go.RowKit
set_option linter.unusedVariables false

theorem freshG_any (v : GrV) (B : Nat) (hfit : GrFit v.g) (w : World) (h : GrOwn w B v) :
    Calls Tryd.prog 29 #[.agg (grCells v).toArray] w fun e w' => (∃ u : GrV, e = .returned (.agg (grCells u).toArray) ∧ u.g = v.g ∧ GrOwn w' w.heap.size u) ∧ Below w.heap.size w w' := by
  obtain ⟨da, dc, dg, hdv, hds⟩ := h.dom.strs
  obtain ⟨pa, pc, pg, hpv, hps⟩ := h.paths.strs
  have hc := freshG_at v.g hfit da pa _ dc _ pc dg 0 pg 0 w hds hps
  rw [← hdv, ← hpv] at hc
  refine hc.mono ?_
  rintro e w' ⟨⟨a, u, rfl, h1, h2⟩, hb⟩
  exact ⟨⟨⟨v.g, a, u⟩, rfl, rfl, ⟨h1, h2⟩⟩, hb⟩
theorem stays_own (B : Nat) : Stays 34 (fun W (u : GrV) => GrOwn W B u) := fun W W' row u hg ht h => h.other hg ht (by decide)
set_option maxHeartbeats 2000000 in
theorem ech_none (w : World) (F : Value) : Calls Tryd.prog 28 #[.slice none 0 0, F] w fun e w' => e = .returned (.slice none 0 0) ∧ w' = w := by
  go_enter Tryd.func28, Tryd.ntmps28
  go_wp2
  refine wp_loop_rounds 1 ?_
  rw [rounds_succ]
  go_wp2
  go_ret
  exact ⟨rfl, rfl⟩
theorem infoE : (Tryd.prog.info? 34).map (fun i => (i.zero, i.size, i.bytes)) = some (some (.agg #[.bool false, .string ⟨#[]⟩, .int .i64 0, .bool false, .string ⟨#[]⟩, .string ⟨#[]⟩, .int .i64 0, .string ⟨#[]⟩, .string ⟨#[]⟩, .string ⟨#[]⟩, .bool false, .string ⟨#[]⟩, .bool false, .slice none 0 0, .int .i64 0, .slice none 0 0]), 16, 216) := by kernel_rfl
/-- Grants handed out. -/
def GrtAns (l : List GrP) (B : Nat) (e : Ending) (w' : World) : Prop := ∃ (val : Value) (us : List GrV), e = .returned val ∧ OwnK 16 34 w' B val (us.map grCells) ∧ us.map (·.g) = l ∧ ∀ u ∈ us, GrOwn w' B u
theorem each_any (gv : Value) (B : Nat) (G : List GrV) (hl : G.length ≤ 1000) (w : World) (hown : OwnK 16 34 w B gv (G.map grCells)) (hgo : ∀ v ∈ G, GrOwn w B v) (hgf : ∀ v ∈ G, GrFit v.g) :
    Calls Tryd.prog 28 #[gv, .func (.func 29) #[] #[]] w fun e w' => GrtAns (G.map (·.g)) w.heap.size e w' ∧ Below w.heap.size w w' := by
  rcases hown.forms with ⟨rfl, e2⟩ | ⟨g, cap, rfl, _, _, _, _⟩
  · obtain rfl : G = [] := List.map_eq_nil_iff.1 e2
    refine (ech_none w _).mono ?_
    rintro e w' ⟨rfl, rfl⟩
    exact ⟨⟨_, [], rfl, ownK_nil _ _ _ _, rfl, fun u hu => (by cases hu)⟩, Below.refl _ _⟩
  · rw [List.length_map] at hown ⊢
    obtain ⟨i0, hi0, hz0, hz1, hz2⟩ := info_parts infoE
    refine (echG_of Tryd.prog Tryd.func28 (by kernel_rfl) Tryd.underlying22 Tryd.isAgg22 Tryd.sizeOf22 Tryd.underlying3 Tryd.isAgg3 Tryd.sizeOf3 Tryd.zeroValue3 Tryd.underlying4 Tryd.isAgg4 Tryd.sizeOf4 16 (by omega) (by omega) Tryd.isAgg34 Tryd.sizeOf34 _ Tryd.zeroValue34 rfl (by decide) i0 hi0 hz1 hz0 216 hz2 (by omega) grCells (fun v : GrV => v.g) grCells_len (fun W (u : GrV) => GrOwn W w.heap.size u) (stays_own _) (fun W u hu => hu.one) g _ cap B G rfl hl w hown 29 (enters_at Tryd.func29 (by kernel_rfl) rfl) (fun W v hv hb => ?_)).mono ?_
    · refine (freshG_any v B (hgf v hv) W ((hgo v hv).below hb)).mono ?_
      rintro e w' ⟨⟨u, rfl, hu, ho⟩, hb2⟩
      exact ⟨⟨u, rfl, hu, ho.mono hb.size⟩, hb2⟩
    · rintro e w' ⟨⟨val, us, rfl, h1, h2, h3⟩, hb⟩
      exact ⟨⟨val, us, rfl, h1, h2, h3⟩, hb⟩
set_option maxHeartbeats 2000000 in
theorem grants_any {B b : Nat} {gv wv : Value} {G : List GrV} {V : List WtV} (w : World) (h : BankW w B b gv wv G V) :
    Calls Tryd.prog 10 #[.pointer (some ⟨b, 0, none⟩)] w fun e w' => GrtAns (G.map (·.g)) w.heap.size e w' ∧ Below w.heap.size w w' := by
  have hc := cell_of (i := 0) h.blk
  simp only [List.getElem?_toArray, List.getElem?_cons_zero] at hc
  have he := each_any gv B G (by have := h.glen; omega) w h.gs h.go h.gf
  have HL : Hid (BankW w B b gv wv G V) := h
  clear h
  go_enter Tryd.func10, Tryd.ntmps10
  go_wp2_with fail
  refine he.mono ?_
  rintro e w1 ⟨⟨val, us, rfl, h1, h2, h3⟩, hb⟩
  go_wp2
  go_ret
  exact ⟨⟨val, us, rfl, h1, h2, h3⟩, hb⟩
end Go.Proofs.YtemlclgdgnfhnaaDoor

/- A grant is used. -/
namespace Go.Proofs.YtemlclgdgnfhnaaDoor
open Go.RowKit
set_option linter.unusedVariables false

def maxCnt : Int := 4294967295
/-- One more use. -/
def moreP (g : GrP) : GrP := { g with count := g.count + 1 }
/-- A bank's grants behind a use, the grant, and the error's number. -/
def useL (l : List GrP) (i : Int) : List GrP × GrP × Nat :=
  if i < 0 then (l, zeroP, 8)
  else if maxCnt ≤ ((l[i.toNat]?).getD zeroP).count then (l.eraseIdx i.toNat, zeroP, 12)
  else (l.eraseIdx i.toNat ++ [moreP ((l[i.toNat]?).getD zeroP)], moreP ((l[i.toNat]?).getD zeroP), 0)
/-- An error's number as a value; 0: none. -/
def errU (k : Nat) : Value := if k = 0 then .nilIface else .iface 46 (.int .i64 (k : Int))
/-- What Use answers, and leaves. -/
def UseAns (w : World) (B b : Nat) (gv wv : Value) (V : List WtV) (r : List GrP × GrP × Nat) (e : Ending) (w' : World) : Prop :=
  (∃ x : GrV, e = .returned (.tuple #[.agg (grCells x).toArray, errU r.2.2]) ∧ x.g = r.2.1 ∧ GrOwn w' w.heap.size x) ∧ ∃ gv' G', Hid (BankW w' B b gv' wv G' V ∧ G'.map (·.g) = r.1 ∧ BankStep b gv wv w w' gv' wv)
/-- A block of a grant that is no row of the bank's may be written. -/
theorem bank_off {w w' : World} {B b R : Nat} {gv wv : Value} {G : List GrV} {V : List WtV} {Z : Array Value} (h : BankW w B b gv wv G V) (hR : w.heap[R]? = some (.cells Z 34 (0, 0))) (hne : gv.ownBlock ≠ some R) (hg : w.grownBy w' (some R)) : BankW w' B b gv wv G V :=
  have t := Typed.block hR
  ⟨block_other h.blk hg t (by decide), h.low, h.gs.kept hg (.inr hne), h.ws.other hg t (by decide), fun v hv => (h.go v hv).other hg t (by decide), fun v hv => OwnS.other (h.wo v hv) hg t (by decide), h.gf, h.glen, h.vlen⟩
theorem step_off {w w1 w' : World} {b R : Nat} {gv wv gv' wv' : Value} (h : BankStep b gv wv w w1 gv' wv') (hg : w1.grownBy w' (some R)) (hR : w.heap.size ≤ R) : BankStep b gv wv w w' gv' wv' :=
  ⟨hg.os.trans h.os, hg.tape.trans h.tape, hg.output.trans h.output, Nat.le_trans h.size hg.size, fun x hx h1 h2 h3 => by
    obtain ⟨e1, e2, e3⟩ := h.keep x hx h1 h2 h3
    exact ⟨(hg.block x (Nat.lt_of_lt_of_le hx h.size) (fun e => by injection e with e; omega)).trans e1, e2, e3⟩⟩
theorem res_store {w4 : World} {R : Nat} {Z : Array Value} {t : TypeId} (h : w4.heap[R]? = some (.cells Z t (0, 0))) (x : List Value) (hz : Z.size = x.length) (h1 : ∀ u ∈ x, u.oneCell' = true) :
    Sem.run Tryd.prog (storeCells ⟨R, 0, none⟩ x 0) w4 = .ok () (w4.setCells R 0 x) ∧ Hid ((w4.setCells R 0 x).heap[R]? = some (.cells x.toArray t (0, 0)) ∧ w4.grownBy (w4.setCells R 0 x) (some R)) := by
  have hr := run_storeCells_cells (P := Tryd.prog) R 0 x 0 w4 (fun j hj => by
    rw [Nat.add_zero, Nat.zero_add, cell_of h, Array.getElem?_eq_getElem (by omega)]
    rfl) (fun j _ => free_of h _) h1
  rw [Nat.add_zero] at hr
  exact ⟨hr, setAll x h hz⟩
theorem use_one {s p se st : Bool} {h us pw r no op qo : ByteArray} {n sc c : Int} {da pa : Option Addr} {dn dc pn pc : Nat} : ∀ u ∈ [Value.bool s, .string h, .int .i64 n, .bool p, .string us, .string pw, .int .i64 sc, .string r, .string no, .string op, .bool se, .string qo, .bool st, .slice da dn dc, .int .i64 c, .slice pa pn pc], u.oneCell' = true := by
  intro u hu
  simp only [List.mem_cons, List.not_mem_nil, or_false] at hu
  rcases hu with rfl | rfl | rfl | rfl | rfl | rfl | rfl | rfl | rfl | rfl | rfl | rfl | rfl | rfl | rfl | rfl <;> rfl
/-- Behind a call that answers nothing. -/
theorem use_end {w w1 w' : World} {B b R : Nat} {gv wv gv' : Value} {G' : List GrV} {V : List WtV} {Z : Array Value} {r : List GrP × GrP × Nat} {x : GrV} (h : BankW w1 B b gv' wv G' V) (hs : BankStep b gv wv w w1 gv' wv) (hR : w1.heap[R]? = some (.cells Z 34 (0, 0))) (hne : gv'.ownBlock ≠ some R) (hRl : w.heap.size ≤ R) (hg : w1.grownBy w' (some R)) (hr : G'.map (·.g) = r.1) (hx : x.g = r.2.1) (hxo : GrOwn w1 w.heap.size x) :
    UseAns w B b gv wv V r (.returned (.tuple #[.agg (grCells x).toArray, errU r.2.2])) w' :=
  ⟨⟨x, rfl, hx, hxo.other hg (Typed.block hR) (by decide)⟩, gv', G', ⟨bank_off h hR hne hg, hr, step_off hs hg hRl⟩⟩
theorem erase_take {α : Type} (l : List α) (k : Nat) : l.take k ++ l.drop (k + 1) = l.eraseIdx k := (List.eraseIdx_eq_take_drop_succ l k).symm
/-- The row without the grant that is used. -/
theorem use_del {w w2 w3 : World} {B b g n cap k : Nat} {wv : Value} {G : List GrV} {V : List WtV} {v : GrV} (h : BankW w B b (.slice (some ⟨g, 0, none⟩) n cap) wv G V) (h2 : BankW w2 B b (.slice (some ⟨g, 0, none⟩) n cap) wv G V) (hb2 : Below w.heap.size w w2) (hn : G.length = n) (hv : G[k]? = some v) (hb : Below w2.heap.size w2 w3) (hB : B ≤ w.heap.size) :
    Calls Tryd.prog 30 #[.slice (some ⟨g, 0, none⟩) n cap, .int .i64 (k : Int), .int .i64 ((k : Int) + 1)] w3 fun e w4 => ∃ m, e = .returned (.slice (some ⟨g, 0, none⟩) m cap) ∧ Hid (w3.grownBy w4 (some g) ∧ BankW (w4.setCell ⟨b, 0, none⟩ (.slice (some ⟨g, 0, none⟩) m cap)) B b (.slice (some ⟨g, 0, none⟩) m cap) wv (G.eraseIdx k) V ∧ BankStep b (.slice (some ⟨g, 0, none⟩) n cap) wv w (w4.setCell ⟨b, 0, none⟩ (.slice (some ⟨g, 0, none⟩) m cap)) (.slice (some ⟨g, 0, none⟩) m cap) wv ∧ w4.heap[b]? = some (.cells #[.slice (some ⟨g, 0, none⟩) n cap, wv] 55 (0, 0))) := by
  have hk : k < n := by rw [← hn]; exact (List.getElem?_eq_some_iff.1 hv).1
  have hcap : cap ≤ 9223372036854775807 := by
    rcases h2.gs.forms with ⟨e, _⟩ | ⟨g', cap', e, _, _, _, hm⟩
    · cases e
    · injection e with _ _ e3
      rw [e3]
      unfold maxLen at hm
      omega
  have h3 := h2.below hb
  have hd := dltG_any g n cap B (G.map grCells) (by rw [List.length_map]; exact hn) hcap w3 h3.gs k (k + 1) (by omega) (by omega)
  rw [show ((k + 1 : Nat) : Int) = (k : Int) + 1 by push_cast; rfl] at hd
  refine hd.mono ?_
  rintro e w4 ⟨rfl, H⟩
  obtain ⟨hown, hg⟩ := H.out
  have e1 : (G.map grCells).take k ++ (G.map grCells).drop (k + 1) = (G.eraseIdx k).map grCells := by rw [← List.map_take, ← List.map_drop, ← List.map_append, erase_take]
  rw [e1] at hown
  have hb3 : Below w.heap.size w w3 := hb2.trans (hb.mono hb2.size)
  obtain ⟨h5, h6⟩ := bank_grants h hb3 hg hown (fun j hj => .inl hj) (fun x hx => by
    have := List.mem_of_mem_eraseIdx hx
    exact ⟨.inl this, h.gf x this⟩) (Nat.le_trans (List.length_eraseIdx_le _ _) h.glen)
  exact ⟨_, rfl, ⟨hg, h5, h6, block_other h3.blk hg h3.gs.typed (by decide)⟩⟩
set_option maxRecDepth 100000 in
set_option maxHeartbeats 8000000 in
theorem use_any {B b : Nat} {gv wv : Value} {G : List GrV} {V : List WtV} (w : World) (h : BankW w B b gv wv G V) (hB : B ≤ w.heap.size) (o : OrgV) (p : Bool) (path : ByteArray) :
    Calls Tryd.prog 12 #[.pointer (some ⟨b, 0, none⟩), .agg #[.bool o.sec, .string o.host, .int .i64 o.port], .bool p, .string path] w fun e w' => UseAns w B b gv wv V (useL (G.map (·.g)) (findI (G.map (·.g)) o p path)) e w' := by
  have H0 : Hid (FndF w ((w.alloc (.cells #[.bool o.sec, .string o.host, .int .i64 o.port] 24)).alloc (.cells #[.bool false, .string ⟨#[]⟩, .int .i64 0, .bool false, .string ⟨#[]⟩, .string ⟨#[]⟩, .int .i64 0, .string ⟨#[]⟩, .string ⟨#[]⟩, .string ⟨#[]⟩, .bool false, .string ⟨#[]⟩, .bool false, .slice none 0 0, .int .i64 0, .slice none 0 0] 34)).drew B b gv wv G V o _) := fnd_start w h o _
  have HK : Hid (BankW w B b gv wv G V ∧ B ≤ w.heap.size) := ⟨h, hB⟩
  have hQ := H0.out.facts
  obtain ⟨I, HI⟩ : ∃ I, Hid (findI (G.map (·.g)) o p path = I) := ⟨_, rfl⟩
  have HIR : Hid (I = -1 ∨ ∃ k : Nat, I = k ∧ k < G.length) := by
    have := findI_range (G.map (·.g)) o p path
    rw [HI.out, List.length_map] at this
    exact this
  rw [HI.out]
  clear h hB
  go_enter Tryd.func12, Tryd.ntmps12
  go_wp2_with fail
  go_region_held3 (fun W => W.cell? ⟨b, 0, none⟩ = some gv ∧ W.cell? ⟨w.heap.size, 0, none⟩ = some (.bool o.sec) ∧ W.cell? ⟨w.heap.size, 1, none⟩ = some (.string o.host) ∧ W.cell? ⟨w.heap.size, 2, none⟩ = some (.int .i64 o.port)) (with_reducible assumption) (first
    | (go_at_call 27; refine (reachFor_any o p path _).mono ?_; rintro e w1 ⟨⟨xa, xb, xc, rfl, H3⟩, hb1⟩; have H1 : Hid (FndF w w1 B b gv wv G V o _) := H0.out.below hb1; have hQ1 := H1.out.facts; clear hb1)
    | (go_at_call 26; refine (farthest_any _ H1.out.bank o p path xa xb xc H3.out).mono ?_; rw [HI.out]; rintro e w2 ⟨rfl, hb2⟩; have H2 : Hid (FndF w w2 B b gv wv G V o _) := H1.out.below hb2; have hQ2 := H2.out.facts; clear hb2))
  clear hQ hQ1 hQ2 H3 H1 H0
  rcases HIR.out with hI | ⟨k, hI, hkG⟩
  · subst hI
    have hres := H2.out.res
    have d0 : w2.cell? ⟨w.heap.size + 1, 0, none⟩ = some (.bool false) := cell_of hres
    have d1 : w2.cell? ⟨w.heap.size + 1, 1, none⟩ = some (.string ⟨#[]⟩) := cell_of hres
    have d2 : w2.cell? ⟨w.heap.size + 1, 2, none⟩ = some (.int .i64 0) := cell_of hres
    have d3 : w2.cell? ⟨w.heap.size + 1, 3, none⟩ = some (.bool false) := cell_of hres
    have d4 : w2.cell? ⟨w.heap.size + 1, 4, none⟩ = some (.string ⟨#[]⟩) := cell_of hres
    have d5 : w2.cell? ⟨w.heap.size + 1, 5, none⟩ = some (.string ⟨#[]⟩) := cell_of hres
    have d6 : w2.cell? ⟨w.heap.size + 1, 6, none⟩ = some (.int .i64 0) := cell_of hres
    have d7 : w2.cell? ⟨w.heap.size + 1, 7, none⟩ = some (.string ⟨#[]⟩) := cell_of hres
    have d8 : w2.cell? ⟨w.heap.size + 1, 8, none⟩ = some (.string ⟨#[]⟩) := cell_of hres
    have d9 : w2.cell? ⟨w.heap.size + 1, 9, none⟩ = some (.string ⟨#[]⟩) := cell_of hres
    have d10 : w2.cell? ⟨w.heap.size + 1, 10, none⟩ = some (.bool false) := cell_of hres
    have d11 : w2.cell? ⟨w.heap.size + 1, 11, none⟩ = some (.string ⟨#[]⟩) := cell_of hres
    have d12 : w2.cell? ⟨w.heap.size + 1, 12, none⟩ = some (.bool false) := cell_of hres
    have d13 : w2.cell? ⟨w.heap.size + 1, 13, none⟩ = some (.slice none 0 0) := cell_of hres
    have d14 : w2.cell? ⟨w.heap.size + 1, 14, none⟩ = some (.int .i64 0) := cell_of hres
    have d15 : w2.cell? ⟨w.heap.size + 1, 15, none⟩ = some (.slice none 0 0) := cell_of hres
    have fr := free_of hres
    clear hres
    go_wp2
    have hR := H2.out.res
    obtain ⟨z1, z2⟩ := setAll [.bool false, .string ⟨#[]⟩, .int .i64 0, .bool false, .string ⟨#[]⟩, .string ⟨#[]⟩, .int .i64 0, .string ⟨#[]⟩, .string ⟨#[]⟩, .string ⟨#[]⟩, .bool false, .string ⟨#[]⟩, .bool false, .slice none 0 0, .int .i64 0, .slice none 0 0] hR rfl
    simp only [World.setCells, Nat.reduceAdd] at z1 z2
    clear d0 d1 d2 d3 d4 d5 d6 d7 d8 d9 d10 d11 d12 d13 d14 d15 fr
    have hne : gv.ownBlock ≠ some (w.heap.size + 1) := fun e => by
      have := (HK.out.1.gs.lt _ e).2
      omega
    exact bodyPost_ret (v := .tuple #[.agg (grCells zeroV).toArray, errU 8]) (res_cell_tmp (vs := grCells zeroV) rfl rfl rfl Tryd.isAgg34 Tryd.sizeOf34 rfl z1) rfl (use_end (r := useL (G.map (·.g)) (-1)) (x := zeroV) H2.out.bank (BankStep.of_below H2.out.bel) hR hne (by omega) z2 rfl rfl (zeroV_own _ _))
  · subst hI
    obtain ⟨v, hv⟩ : ∃ v, G[k]? = some v := ⟨G[k], List.getElem?_eq_getElem hkG⟩
    have HV : Hid (G[k]? = some v ∧ k < G.length) := ⟨hv, hkG⟩
    obtain ⟨n, HN⟩ : ∃ n, Hid (G.length = n) := ⟨_, rfl⟩
    obtain ⟨g, cap, hgv, hgl⟩ : ∃ g cap, gv = .slice (some ⟨g, 0, none⟩) n cap ∧ g < w.heap.size := by
      rcases HK.out.1.gs.forms with ⟨_, e2⟩ | ⟨g, cap, e, _, h1, _, _⟩
      · have := congrArg List.length e2
        rw [List.length_map, List.length_nil] at this
        omega
      · rw [List.length_map] at e
        exact ⟨g, cap, by rw [e, HN.out], h1⟩
    subst hgv
    have hvo := H2.out.bank.go v (List.mem_of_getElem? hv)
    obtain ⟨da, dc, dg, hdv, hds⟩ := hvo.dom.strs
    obtain ⟨pa, pc, pg, hpv, hps⟩ := hvo.paths.strs
    obtain ⟨dn, HDN⟩ : ∃ dn, Hid (v.g.ask.dom.length = dn) := ⟨_, rfl⟩
    obtain ⟨pn, HPN⟩ : ∃ pn, Hid (v.g.paths.length = pn) := ⟨_, rfl⟩
    rw [HDN.out] at hdv hds
    rw [HPN.out] at hpv hps
    obtain ⟨c0, c1, c2, c3, c4, c5, c6, c7, c8, c9, c10, c11, c12, c13, c14, c15⟩ := row16 H2.out.bank.gs hv hdv hpv
    have HVV : Hid (v.dv = .slice da dn dc ∧ v.pv = .slice pa pn pc ∧ Strs w2 da dn dg 0 v.g.ask.dom ∧ Strs w2 pa pn pg 0 v.g.paths) := ⟨hdv, hpv, hds, hps⟩
    have hkn : (k : Int) < (n : Int) := by have := HN.out; omega
    have hcb : w2.cell? ⟨b, 0, none⟩ = some (.slice (some ⟨g, 0, none⟩) n cap) := by first | exact H2.out.facts.1 | (rw [← HN.out]; exact H2.out.facts.1)
    have HB2 : Hid (Below w2.heap.size w2 (w2.alloc (.cells #[.bool v.g.org.sec, .string v.g.org.host, .int .i64 v.g.org.port, .bool v.g.proxy, .string v.g.user, .string v.g.pass, .int .i64 v.g.ask.sch, .string v.g.ask.realm, .string v.g.ask.nonce, .string v.g.ask.opq, .bool v.g.ask.sess, .string v.g.ask.qop, .bool v.g.ask.stale, .slice da dn dc, .int .i64 v.g.count, .slice pa pn pc] 34)) ∧ (w2.alloc (.cells #[.bool v.g.org.sec, .string v.g.org.host, .int .i64 v.g.org.port, .bool v.g.proxy, .string v.g.user, .string v.g.pass, .int .i64 v.g.ask.sch, .string v.g.ask.realm, .string v.g.ask.nonce, .string v.g.ask.opq, .bool v.g.ask.sess, .string v.g.ask.qop, .bool v.g.ask.stale, .slice da dn dc, .int .i64 v.g.count, .slice pa pn pc] 34)).heap[w2.heap.size]? = some (.cells #[.bool v.g.org.sec, .string v.g.org.host, .int .i64 v.g.org.port, .bool v.g.proxy, .string v.g.user, .string v.g.pass, .int .i64 v.g.ask.sch, .string v.g.ask.realm, .string v.g.ask.nonce, .string v.g.ask.opq, .bool v.g.ask.sess, .string v.g.ask.qop, .bool v.g.ask.stale, .slice da dn dc, .int .i64 v.g.count, .slice pa pn pc] 34 (0, 0))) := ⟨(Below.refl _ _).alloc (Nat.le_refl _) _, heap_alloc_new w2 _⟩
    have hcb2 : (w2.alloc (.cells #[.bool v.g.org.sec, .string v.g.org.host, .int .i64 v.g.org.port, .bool v.g.proxy, .string v.g.user, .string v.g.pass, .int .i64 v.g.ask.sch, .string v.g.ask.realm, .string v.g.ask.nonce, .string v.g.ask.opq, .bool v.g.ask.sess, .string v.g.ask.qop, .bool v.g.ask.stale, .slice da dn dc, .int .i64 v.g.count, .slice pa pn pc] 34)).cell? ⟨b, 0, none⟩ = some (.slice (some ⟨g, 0, none⟩) n cap) := (HB2.out.1.cell (p := ⟨b, 0, none⟩) (Array.getElem?_eq_some_iff.1 H2.out.bank.blk).1).trans hcb
    have hn8 : (n : Int) ≤ 8 := by have := HN.out; have := HK.out.1.glen; omega
    have hdel := use_del HK.out.1 H2.out.bank H2.out.bel HN.out HV.out.1 HB2.out.1 HK.out.2
    clear hvo hds hps hdv hpv hv hkG
    go_wp2_with fail
    refine hdel.mono ?_
    rintro e w3 ⟨m3, rfl, H3⟩
    clear hdel hcb hcb2 c0 c1 c2 c3 c4 c5 c6 c7 c8 c9 c10 c11 c12 c13 c14 c15
    have HVO : Hid (GrOwn w3 B v) := ((H2.out.bank.go v (List.mem_of_getElem? HV.out.1)).below HB2.out.1).other H3.out.1 (H2.out.bank.below HB2.out.1).gs.typed (by decide)
    have hGl : w2.heap.size < (w2.alloc (.cells #[.bool v.g.org.sec, .string v.g.org.host, .int .i64 v.g.org.port, .bool v.g.proxy, .string v.g.user, .string v.g.pass, .int .i64 v.g.ask.sch, .string v.g.ask.realm, .string v.g.ask.nonce, .string v.g.ask.opq, .bool v.g.ask.sess, .string v.g.ask.qop, .bool v.g.ask.stale, .slice da dn dc, .int .i64 v.g.count, .slice pa pn pc] 34)).heap.size := by simp
    have hg3 : w3.heap[w2.heap.size]? = some (.cells #[.bool v.g.org.sec, .string v.g.org.host, .int .i64 v.g.org.port, .bool v.g.proxy, .string v.g.user, .string v.g.pass, .int .i64 v.g.ask.sch, .string v.g.ask.realm, .string v.g.ask.nonce, .string v.g.ask.opq, .bool v.g.ask.sess, .string v.g.ask.qop, .bool v.g.ask.stale, .slice da dn dc, .int .i64 v.g.count, .slice pa pn pc] 34 (0, 0)) := (H3.out.1.block _ hGl (fun e => by injection e with e; have := H2.out.bel.size; omega)).trans HB2.out.2
    have hr2 := H2.out.res
    have hr3 : w3.heap[w.heap.size + 1]? = some (.cells #[.bool false, .string ⟨#[]⟩, .int .i64 0, .bool false, .string ⟨#[]⟩, .string ⟨#[]⟩, .int .i64 0, .string ⟨#[]⟩, .string ⟨#[]⟩, .string ⟨#[]⟩, .bool false, .string ⟨#[]⟩, .bool false, .slice none 0 0, .int .i64 0, .slice none 0 0] 34 (0, 0)) := (H3.out.1.block _ (Nat.lt_of_lt_of_le (Array.getElem?_eq_some_iff.1 hr2).1 HB2.out.1.size) (fun e => by injection e with e; omega)).trans ((HB2.out.1.block _ (Array.getElem?_eq_some_iff.1 hr2).1).trans hr2)
    have hb3 := H3.out.2.2.2
    have hbG : ¬ b = w2.heap.size := fun e => by
      rw [e, hg3] at hb3
      injection hb3 with hb3
      injection hb3 with _ h3
      exact absurd h3 (by decide)
    have hbR : ¬ b = w.heap.size + 1 := fun e => by
      rw [e, hr3] at hb3
      injection hb3 with hb3
      injection hb3 with _ h3
      exact absurd h3 (by decide)
    have hGR : w.heap.size + 1 < w2.heap.size := (Array.getElem?_eq_some_iff.1 hr2).1
    have hc3 := cell_of (i := 0) hb3
    have f3 := free_of hb3
    have n14 : w3.cell? ⟨w2.heap.size, 14, none⟩ = some (.int .i64 v.g.count) := cell_of hg3
    simp only [List.getElem?_toArray, List.getElem?_cons_zero] at hc3
    have HS : Hid (w3.heap[w2.heap.size]? = some (.cells #[.bool v.g.org.sec, .string v.g.org.host, .int .i64 v.g.org.port, .bool v.g.proxy, .string v.g.user, .string v.g.pass, .int .i64 v.g.ask.sch, .string v.g.ask.realm, .string v.g.ask.nonce, .string v.g.ask.opq, .bool v.g.ask.sess, .string v.g.ask.qop, .bool v.g.ask.stale, .slice da dn dc, .int .i64 v.g.count, .slice pa pn pc] 34 (0, 0)) ∧ w3.heap[w.heap.size + 1]? = some (.cells #[.bool false, .string ⟨#[]⟩, .int .i64 0, .bool false, .string ⟨#[]⟩, .string ⟨#[]⟩, .int .i64 0, .string ⟨#[]⟩, .string ⟨#[]⟩, .string ⟨#[]⟩, .bool false, .string ⟨#[]⟩, .bool false, .slice none 0 0, .int .i64 0, .slice none 0 0] 34 (0, 0)) ∧ w3.heap[b]? = some (.cells #[.slice (some ⟨g, 0, none⟩) n cap, wv] 55 (0, 0))) := ⟨hg3, hr3, hb3⟩
    obtain ⟨cnt, HCN⟩ : ∃ c, Hid (v.g.count = c) := ⟨_, rfl⟩
    rw [HCN.out] at n14
    have HU : Hid ((G.map (·.g))[k]? = some v.g) := by show _ = _; rw [List.getElem?_map, HV.out.1]; rfl
    have hneR : (Value.slice (some ⟨g, 0, none⟩) m3 cap).ownBlock ≠ some (w.heap.size + 1) := fun e => by
      have e2 : g = w.heap.size + 1 := by simpa [Value.ownBlock] using e
      omega
    have hneG : (Value.slice (some ⟨g, 0, none⟩) m3 cap).ownBlock ≠ some w2.heap.size := fun e => by
      have e2 : g = w2.heap.size := by simpa [Value.ownBlock] using e
      omega
    have HNE : Hid ((Value.slice (some ⟨g, 0, none⟩) m3 cap).ownBlock ≠ some (w.heap.size + 1) ∧ (Value.slice (some ⟨g, 0, none⟩) m3 cap).ownBlock ≠ some w2.heap.size) := ⟨hneR, hneG⟩
    clear hneR hneG
    by_cases hfull : 4294967295 ≤ cnt
    · have d0 : w3.cell? ⟨w.heap.size + 1, 0, none⟩ = some (.bool false) := cell_of hr3
      have d1 : w3.cell? ⟨w.heap.size + 1, 1, none⟩ = some (.string ⟨#[]⟩) := cell_of hr3
      have d2 : w3.cell? ⟨w.heap.size + 1, 2, none⟩ = some (.int .i64 0) := cell_of hr3
      have d3 : w3.cell? ⟨w.heap.size + 1, 3, none⟩ = some (.bool false) := cell_of hr3
      have d4 : w3.cell? ⟨w.heap.size + 1, 4, none⟩ = some (.string ⟨#[]⟩) := cell_of hr3
      have d5 : w3.cell? ⟨w.heap.size + 1, 5, none⟩ = some (.string ⟨#[]⟩) := cell_of hr3
      have d6 : w3.cell? ⟨w.heap.size + 1, 6, none⟩ = some (.int .i64 0) := cell_of hr3
      have d7 : w3.cell? ⟨w.heap.size + 1, 7, none⟩ = some (.string ⟨#[]⟩) := cell_of hr3
      have d8 : w3.cell? ⟨w.heap.size + 1, 8, none⟩ = some (.string ⟨#[]⟩) := cell_of hr3
      have d9 : w3.cell? ⟨w.heap.size + 1, 9, none⟩ = some (.string ⟨#[]⟩) := cell_of hr3
      have d10 : w3.cell? ⟨w.heap.size + 1, 10, none⟩ = some (.bool false) := cell_of hr3
      have d11 : w3.cell? ⟨w.heap.size + 1, 11, none⟩ = some (.string ⟨#[]⟩) := cell_of hr3
      have d12 : w3.cell? ⟨w.heap.size + 1, 12, none⟩ = some (.bool false) := cell_of hr3
      have d13 : w3.cell? ⟨w.heap.size + 1, 13, none⟩ = some (.slice none 0 0) := cell_of hr3
      have d14 : w3.cell? ⟨w.heap.size + 1, 14, none⟩ = some (.int .i64 0) := cell_of hr3
      have d15 : w3.cell? ⟨w.heap.size + 1, 15, none⟩ = some (.slice none 0 0) := cell_of hr3
      have fr := free_of hr3
      clear hg3 hr2 hr3 hb3
      go_wp2
      have HU2 : Hid (useL (G.map (·.g)) k = ((G.map (·.g)).eraseIdx k, zeroP, 12)) := by
        show _ = _
        unfold useL maxCnt
        rw [if_neg (by omega), Int.toNat_natCast, HU.out]
        have h1 : (4294967295 : Int) ≤ ((some v.g).getD zeroP).count := by show _ ≤ v.g.count; rw [HCN.out]; exact hfull
        rw [if_pos h1]
      have hR4 := (Below.heap_setCell w3 ⟨b, 0, none⟩ (.slice (some ⟨g, 0, none⟩) m3 cap) (w.heap.size + 1) (fun e => hbR e.symm)).trans HS.out.2.1
      obtain ⟨z1, z2⟩ := setAll [.bool false, .string ⟨#[]⟩, .int .i64 0, .bool false, .string ⟨#[]⟩, .string ⟨#[]⟩, .int .i64 0, .string ⟨#[]⟩, .string ⟨#[]⟩, .string ⟨#[]⟩, .bool false, .string ⟨#[]⟩, .bool false, .slice none 0 0, .int .i64 0, .slice none 0 0] hR4 rfl
      simp only [World.setCells, Nat.reduceAdd] at z1 z2
      refine bodyPost_ret (v := .tuple #[.agg (grCells zeroV).toArray, errU 12]) (res_cell_tmp (vs := grCells zeroV) rfl rfl rfl Tryd.isAgg34 Tryd.sizeOf34 rfl z1) rfl ?_
      rw [HU2.out]
      exact use_end (r := ((G.map (·.g)).eraseIdx k, zeroP, 12)) (x := zeroV) H3.out.2.1 H3.out.2.2.1 hR4 HNE.out.1 (by omega) z2 (by rw [List.eraseIdx_eq_take_drop_succ, List.eraseIdx_eq_take_drop_succ, List.map_append, List.map_take, List.map_drop]) rfl (zeroV_own _ _)
    · have HU2 : Hid (useL (G.map (·.g)) k = ((G.map (·.g)).eraseIdx k ++ [moreP v.g], moreP v.g, 0)) := by
        show _ = _
        unfold useL maxCnt
        rw [if_neg (by omega), Int.toNat_natCast, HU.out]
        have h1 : ¬ (4294967295 : Int) ≤ ((some v.g).getD zeroP).count := by show ¬ _ ≤ v.g.count; rw [HCN.out]; exact hfull
        rw [if_neg h1]
        rfl
      have hcl : -9223372036854775808 ≤ cnt := by rw [← HCN.out]; exact (HK.out.1.gf v (List.mem_of_getElem? HV.out.1)).2.2.2.2.2.2
      have hg4 := (Below.heap_setCell w3 ⟨b, 0, none⟩ (.slice (some ⟨g, 0, none⟩) m3 cap) w2.heap.size (fun e => hbG e.symm)).trans HS.out.1
      have hr4 := (Below.heap_setCell w3 ⟨b, 0, none⟩ (.slice (some ⟨g, 0, none⟩) m3 cap) (w.heap.size + 1) (fun e => hbR e.symm)).trans HS.out.2.1
      have hg5 := heap_setCell_same (w3.setCell ⟨b, 0, none⟩ (.slice (some ⟨g, 0, none⟩) m3 cap)) w2.heap.size 14 _ _ (.int .i64 (cnt + 1)) hg4
      have hr5 := (Below.heap_setCell (w3.setCell ⟨b, 0, none⟩ (.slice (some ⟨g, 0, none⟩) m3 cap)) ⟨w2.heap.size, 14, none⟩ (.int .i64 (cnt + 1)) (w.heap.size + 1) (by show w.heap.size + 1 ≠ w2.heap.size; omega)).trans hr4
      have g45 : (w3.setCell ⟨b, 0, none⟩ (.slice (some ⟨g, 0, none⟩) m3 cap)).grownBy ((w3.setCell ⟨b, 0, none⟩ (.slice (some ⟨g, 0, none⟩) m3 cap)).setCell ⟨w2.heap.size, 14, none⟩ (.int .i64 (cnt + 1))) (some w2.heap.size) := grown_setCells _ w2.heap.size 14 [.int .i64 (cnt + 1)]
      have ho4 := (HVO.out.other (show w3.grownBy (w3.setCell ⟨b, 0, none⟩ (.slice (some ⟨g, 0, none⟩) m3 cap)) (some b) from grown_setCells w3 b 0 [.slice (some ⟨g, 0, none⟩) m3 cap]) (Typed.block HS.out.2.2) (by decide)).other g45 (Typed.block hg4) (by decide)
      have H5 : Hid (BankW ((w3.setCell ⟨b, 0, none⟩ (.slice (some ⟨g, 0, none⟩) m3 cap)).setCell ⟨w2.heap.size, 14, none⟩ (.int .i64 (cnt + 1))) B b (.slice (some ⟨g, 0, none⟩) m3 cap) wv (G.eraseIdx k) V ∧ BankStep b (.slice (some ⟨g, 0, none⟩) n cap) wv w ((w3.setCell ⟨b, 0, none⟩ (.slice (some ⟨g, 0, none⟩) m3 cap)).setCell ⟨w2.heap.size, 14, none⟩ (.int .i64 (cnt + 1))) (.slice (some ⟨g, 0, none⟩) m3 cap) wv ∧ ((w3.setCell ⟨b, 0, none⟩ (.slice (some ⟨g, 0, none⟩) m3 cap)).setCell ⟨w2.heap.size, 14, none⟩ (.int .i64 (cnt + 1))).heap[w2.heap.size]? = some (.cells #[.bool v.g.org.sec, .string v.g.org.host, .int .i64 v.g.org.port, .bool v.g.proxy, .string v.g.user, .string v.g.pass, .int .i64 v.g.ask.sch, .string v.g.ask.realm, .string v.g.ask.nonce, .string v.g.ask.opq, .bool v.g.ask.sess, .string v.g.ask.qop, .bool v.g.ask.stale, .slice da dn dc, .int .i64 (cnt + 1), .slice pa pn pc] 34 (0, 0)) ∧ ((w3.setCell ⟨b, 0, none⟩ (.slice (some ⟨g, 0, none⟩) m3 cap)).setCell ⟨w2.heap.size, 14, none⟩ (.int .i64 (cnt + 1))).heap[w.heap.size + 1]? = some (.cells #[.bool false, .string ⟨#[]⟩, .int .i64 0, .bool false, .string ⟨#[]⟩, .string ⟨#[]⟩, .int .i64 0, .string ⟨#[]⟩, .string ⟨#[]⟩, .string ⟨#[]⟩, .bool false, .string ⟨#[]⟩, .bool false, .slice none 0 0, .int .i64 0, .slice none 0 0] 34 (0, 0)) ∧ GrOwn (((w3.setCell ⟨b, 0, none⟩ (.slice (some ⟨g, 0, none⟩) m3 cap)).setCell ⟨w2.heap.size, 14, none⟩ (.int .i64 (cnt + 1)))) B v) := ⟨bank_off H3.out.2.1 hg4 HNE.out.2 g45, step_off H3.out.2.2.1 g45 (by omega), hg5, hr5, ho4⟩
      have fg4 := free_of hg4
      clear hg4 hr4 hg5 hr5 g45 ho4 hg3 hr2 hr3 hb3
      go_wp2_with fail
      generalize ((w3.setCell ⟨b, 0, none⟩ (.slice (some ⟨g, 0, none⟩) m3 cap)).setCell ⟨w2.heap.size, 14, none⟩ (.int .i64 (cnt + 1))) = W5 at H5 ⊢
      obtain ⟨i0, hi0, hz0, hz1, hz2⟩ := info_parts infoE
      have hm3 : (G.eraseIdx k).length = m3 := by
        rcases H5.out.1.gs.forms with ⟨e, _⟩ | ⟨g', cap', e, _, _, _, _⟩
        · cases e
        · injection e with _ e2 _
          rw [List.length_map] at e2
          exact e2.symm
      have HM3 : Hid ((G.eraseIdx k).length = m3 ∧ m3 ≤ 8) := ⟨hm3, by rw [← hm3]; exact H5.out.1.glen⟩
      have hbA : Below W5.heap.size W5 (W5.alloc (.cells #[.bool v.g.org.sec, .string v.g.org.host, .int .i64 v.g.org.port, .bool v.g.proxy, .string v.g.user, .string v.g.pass, .int .i64 v.g.ask.sch, .string v.g.ask.realm, .string v.g.ask.nonce, .string v.g.ask.opq, .bool v.g.ask.sess, .string v.g.ask.qop, .bool v.g.ask.stale, .slice da dn dc, .int .i64 (cnt + 1), .slice pa pn pc] 34)).drew := ((Below.refl _ _).alloc (Nat.le_refl _) _).drew
      have hrow := (H5.out.1.gs.below hbA).row
      rw [List.length_map, hm3] at hrow
      have HR : Hid (World.ownsRow (W5.alloc (.cells #[.bool v.g.org.sec, .string v.g.org.host, .int .i64 v.g.org.port, .bool v.g.proxy, .string v.g.user, .string v.g.pass, .int .i64 v.g.ask.sch, .string v.g.ask.realm, .string v.g.ask.nonce, .string v.g.ask.opq, .bool v.g.ask.sess, .string v.g.ask.qop, .bool v.g.ask.stale, .slice da dn dc, .int .i64 (cnt + 1), .slice pa pn pc] 34)).drew B 34 16 (.slice (some ⟨g, 0, none⟩) m3 cap) m3 ((G.eraseIdx k).map grCells).flatten ∧ Below W5.heap.size W5 (W5.alloc (.cells #[.bool v.g.org.sec, .string v.g.org.host, .int .i64 v.g.org.port, .bool v.g.proxy, .string v.g.user, .string v.g.pass, .int .i64 v.g.ask.sch, .string v.g.ask.realm, .string v.g.ask.nonce, .string v.g.ask.opq, .bool v.g.ask.sess, .string v.g.ask.qop, .bool v.g.ask.stale, .slice da dn dc, .int .i64 (cnt + 1), .slice pa pn pc] 34)).drew) := ⟨hrow, hbA⟩
      have q0 : W5.drew.cell? ⟨b, 0, none⟩ = some (.slice (some ⟨g, 0, none⟩) m3 cap) := cell_of (w := W5) (i := 0) H5.out.1.blk
      have q1 : ((W5.alloc (.cells #[.bool v.g.org.sec, .string v.g.org.host, .int .i64 v.g.org.port, .bool v.g.proxy, .string v.g.user, .string v.g.pass, .int .i64 v.g.ask.sch, .string v.g.ask.realm, .string v.g.ask.nonce, .string v.g.ask.opq, .bool v.g.ask.sess, .string v.g.ask.qop, .bool v.g.ask.stale, .slice da dn dc, .int .i64 (cnt + 1), .slice pa pn pc] 34)).drew).cell? ⟨b, 0, none⟩ = some (.slice (some ⟨g, 0, none⟩) m3 cap) := (hbA.cell (p := ⟨b, 0, none⟩) (Array.getElem?_eq_some_iff.1 H5.out.1.blk).1).trans q0
      have e0 : W5.drew.cell? ⟨w2.heap.size, 0, none⟩ = some (.bool v.g.org.sec) := cell_of (w := W5) H5.out.2.2.1
      have e1 : W5.drew.cell? ⟨w2.heap.size, 1, none⟩ = some (.string v.g.org.host) := cell_of (w := W5) H5.out.2.2.1
      have e2 : W5.drew.cell? ⟨w2.heap.size, 2, none⟩ = some (.int .i64 v.g.org.port) := cell_of (w := W5) H5.out.2.2.1
      have e3 : W5.drew.cell? ⟨w2.heap.size, 3, none⟩ = some (.bool v.g.proxy) := cell_of (w := W5) H5.out.2.2.1
      have e4 : W5.drew.cell? ⟨w2.heap.size, 4, none⟩ = some (.string v.g.user) := cell_of (w := W5) H5.out.2.2.1
      have e5 : W5.drew.cell? ⟨w2.heap.size, 5, none⟩ = some (.string v.g.pass) := cell_of (w := W5) H5.out.2.2.1
      have e6 : W5.drew.cell? ⟨w2.heap.size, 6, none⟩ = some (.int .i64 v.g.ask.sch) := cell_of (w := W5) H5.out.2.2.1
      have e7 : W5.drew.cell? ⟨w2.heap.size, 7, none⟩ = some (.string v.g.ask.realm) := cell_of (w := W5) H5.out.2.2.1
      have e8 : W5.drew.cell? ⟨w2.heap.size, 8, none⟩ = some (.string v.g.ask.nonce) := cell_of (w := W5) H5.out.2.2.1
      have e9 : W5.drew.cell? ⟨w2.heap.size, 9, none⟩ = some (.string v.g.ask.opq) := cell_of (w := W5) H5.out.2.2.1
      have e10 : W5.drew.cell? ⟨w2.heap.size, 10, none⟩ = some (.bool v.g.ask.sess) := cell_of (w := W5) H5.out.2.2.1
      have e11 : W5.drew.cell? ⟨w2.heap.size, 11, none⟩ = some (.string v.g.ask.qop) := cell_of (w := W5) H5.out.2.2.1
      have e12 : W5.drew.cell? ⟨w2.heap.size, 12, none⟩ = some (.bool v.g.ask.stale) := cell_of (w := W5) H5.out.2.2.1
      have e13 : W5.drew.cell? ⟨w2.heap.size, 13, none⟩ = some (.slice da dn dc) := cell_of (w := W5) H5.out.2.2.1
      have e14 : W5.drew.cell? ⟨w2.heap.size, 14, none⟩ = some (.int .i64 (cnt + 1)) := cell_of (w := W5) H5.out.2.2.1
      have e15 : W5.drew.cell? ⟨w2.heap.size, 15, none⟩ = some (.slice pa pn pc) := cell_of (w := W5) H5.out.2.2.1
      clear hm3 hbA hrow
      go_region_law (refine step_append_lies ((W5.alloc (.cells #[.bool v.g.org.sec, .string v.g.org.host, .int .i64 v.g.org.port, .bool v.g.proxy, .string v.g.user, .string v.g.pass, .int .i64 v.g.ask.sch, .string v.g.ask.realm, .string v.g.ask.nonce, .string v.g.ask.opq, .bool v.g.ask.sess, .string v.g.ask.qop, .bool v.g.ask.stale, .slice da dn dc, .int .i64 (cnt + 1), .slice pa pn pc] 34)).drew) rfl (.tmp 56) (.tmp 58) 22 rfl B 34 i0 (.agg #[.bool false, .string ⟨#[]⟩, .int .i64 0, .bool false, .string ⟨#[]⟩, .string ⟨#[]⟩, .int .i64 0, .string ⟨#[]⟩, .string ⟨#[]⟩, .string ⟨#[]⟩, .bool false, .string ⟨#[]⟩, .bool false, .slice none 0 0, .int .i64 0, .slice none 0 0]) 16 216 Tryd.underlying22 hi0 hz0 hz1 hz2 rfl ?_ (.slice (some ⟨g, 0, none⟩) m3 cap) m3 ((G.eraseIdx k).map grCells).flatten ?_ HR.out.1 ⟨W5.heap.size, 0, none⟩ 1 1 [.bool v.g.org.sec, .string v.g.org.host, .int .i64 v.g.org.port, .bool v.g.proxy, .string v.g.user, .string v.g.pass, .int .i64 v.g.ask.sch, .string v.g.ask.realm, .string v.g.ask.nonce, .string v.g.ask.opq, .bool v.g.ask.sess, .string v.g.ask.qop, .bool v.g.ask.stale, .slice da dn dc, .int .i64 (cnt + 1), .slice pa pn pc] ?_ ?_ ?_ ?_ ?_ ?_ ?_ ?_ (W5.heap.size + 1) ?_ ?_; (· omega); (· rfl); (· rfl); (· rfl); (· exact World.news_of_block (cs := #[.bool v.g.org.sec, .string v.g.org.host, .int .i64 v.g.org.port, .bool v.g.proxy, .string v.g.user, .string v.g.pass, .int .i64 v.g.ask.sch, .string v.g.ask.realm, .string v.g.ask.nonce, .string v.g.ask.opq, .bool v.g.ask.sess, .string v.g.ask.qop, .bool v.g.ask.stale, .slice da dn dc, .int .i64 (cnt + 1), .slice pa pn pc]) (t := 34) (fr := (0, 0)) (heap_alloc_new W5 _)); (· exact use_one); (· omega); (· unfold maxLen; have := HM3.out.2; omega); (· have := HM3.out.2; omega); (· have := HR.out.2.size; have := HK.out.2; have := H5.out.2.1.size; omega); (· simp); intro g6 cap6 w6 hown6 hg6 hat6 hlt6; have HF6 := HM3; have b6 : w6.heap[b]? = some (.cells #[(.slice (some ⟨g, 0, none⟩) m3 cap), wv] 55 (0, 0)) := block_other ((HR.out.2.block b (Array.getElem?_eq_some_iff.1 H5.out.1.blk).1).trans H5.out.1.blk) hg6 (H5.out.1.gs.below HR.out.2).typed (by decide); have q6 := cell_of (i := 0) b6; have f6 := free_of b6)
      all_goals as_aux_lemma =>
        have hO6 := (H5.out.1.gs.below HR.out.2).appended (by rw [List.length_map]; exact HM3.out.1) (y := [.bool v.g.org.sec, .string v.g.org.host, .int .i64 v.g.org.port, .bool v.g.proxy, .string v.g.user, .string v.g.pass, .int .i64 v.g.ask.sch, .string v.g.ask.realm, .string v.g.ask.nonce, .string v.g.ask.opq, .bool v.g.ask.sess, .string v.g.ask.qop, .bool v.g.ask.stale, .slice da dn dc, .int .i64 (cnt + 1), .slice pa pn pc]) rfl use_one hown6
        have hL1 : grCells ⟨moreP v.g, v.dv, v.pv⟩ = [.bool v.g.org.sec, .string v.g.org.host, .int .i64 v.g.org.port, .bool v.g.proxy, .string v.g.user, .string v.g.pass, .int .i64 v.g.ask.sch, .string v.g.ask.realm, .string v.g.ask.nonce, .string v.g.ask.opq, .bool v.g.ask.sess, .string v.g.ask.qop, .bool v.g.ask.stale, .slice da dn dc, .int .i64 (cnt + 1), .slice pa pn pc] := by
          unfold grCells moreP
          rw [show v.dv = _ from HVV.out.1, show v.pv = _ from HVV.out.2.1]
          simp only []
          rw [HCN.out]
        rw [← hL1, show [grCells ⟨moreP v.g, v.dv, v.pv⟩] = [(⟨moreP v.g, v.dv, v.pv⟩ : GrV)].map grCells from rfl, ← List.map_append] at hO6
        have hvfit := HK.out.1.gf v (List.mem_of_getElem? HV.out.1)
        have hfit : GrFit (moreP v.g) := ⟨hvfit.1, hvfit.2.1, hvfit.2.2.1, hvfit.2.2.2.1, hvfit.2.2.2.2.1, hvfit.2.2.2.2.2.1, by show _ ≤ v.g.count + 1; have := hvfit.2.2.2.2.2.2; omega⟩
        have hlen : (G.eraseIdx k).length + 1 ≤ 8 := by
          rw [List.length_eraseIdx, if_pos HV.out.2]
          have := HK.out.1.glen
          have := HV.out.2
          omega
        obtain ⟨hW7, hS7⟩ := bank_grants H5.out.1 HR.out.2 hg6 hO6 (fun j hj => by
          have e : g6 = j := by simpa [Value.ownBlock] using hj
          subst e
          rcases hat6 with h | h
          · exact .inl h
          · refine .inr ?_
            rw [h]
            simp) (fun x hx => by
          rcases List.mem_append.1 hx with hx | hx
          · exact ⟨.inl hx, H5.out.1.gf x hx⟩
          · rw [List.mem_singleton.1 hx]
            exact ⟨.inr ⟨(H5.out.2.2.2.2.below HR.out.2).dom, (H5.out.2.2.2.2.below HR.out.2).paths⟩, hfit⟩) (by rw [List.length_append, List.length_singleton]; exact hlen)
        have t6 := (H5.out.1.gs.below HR.out.2).typed
        have hGb6 : w6.heap[w2.heap.size]? = some (.cells #[.bool v.g.org.sec, .string v.g.org.host, .int .i64 v.g.org.port, .bool v.g.proxy, .string v.g.user, .string v.g.pass, .int .i64 v.g.ask.sch, .string v.g.ask.realm, .string v.g.ask.nonce, .string v.g.ask.opq, .bool v.g.ask.sess, .string v.g.ask.qop, .bool v.g.ask.stale, .slice da dn dc, .int .i64 (cnt + 1), .slice pa pn pc] 34 (0, 0)) := (hg6.block _ (Nat.lt_of_lt_of_le (Array.getElem?_eq_some_iff.1 H5.out.2.2.1).1 HR.out.2.size) (fun e => HNE.out.2 e.symm)).trans ((HR.out.2.block _ (Array.getElem?_eq_some_iff.1 H5.out.2.2.1).1).trans H5.out.2.2.1)
        have hR6 : w6.heap[w.heap.size + 1]? = some (.cells #[.bool false, .string ⟨#[]⟩, .int .i64 0, .bool false, .string ⟨#[]⟩, .string ⟨#[]⟩, .int .i64 0, .string ⟨#[]⟩, .string ⟨#[]⟩, .string ⟨#[]⟩, .bool false, .string ⟨#[]⟩, .bool false, .slice none 0 0, .int .i64 0, .slice none 0 0] 34 (0, 0)) := (hg6.block _ (Nat.lt_of_lt_of_le (Array.getElem?_eq_some_iff.1 H5.out.2.2.2.1).1 HR.out.2.size) (fun e => HNE.out.1 e.symm)).trans ((HR.out.2.block _ (Array.getElem?_eq_some_iff.1 H5.out.2.2.2.1).1).trans H5.out.2.2.2.1)
        have hR7 := (Below.heap_setCell w6 ⟨b, 0, none⟩ (.slice (some ⟨g6, 0, none⟩) (m3 + 1) cap6) (w.heap.size + 1) (fun e => hbR e.symm)).trans hR6
        have hGb7 := (Below.heap_setCell w6 ⟨b, 0, none⟩ (.slice (some ⟨g6, 0, none⟩) (m3 + 1) cap6) w2.heap.size (fun e => hbG e.symm)).trans hGb6
        have hne6 : (Value.slice (some ⟨g6, 0, none⟩) (m3 + 1) cap6).ownBlock ≠ some (w.heap.size + 1) := fun e => by
          have e2 : g6 = w.heap.size + 1 := by simpa [Value.ownBlock] using e
          rcases hat6 with h | h
          · rw [e2] at h; exact HNE.out.1 h
          · have := (Array.getElem?_eq_some_iff.1 H5.out.2.2.2.1).1
            omega
        have H7 : Hid (BankW (w6.setCell ⟨b, 0, none⟩ (.slice (some ⟨g6, 0, none⟩) (m3 + 1) cap6)) B b (.slice (some ⟨g6, 0, none⟩) (m3 + 1) cap6) wv (G.eraseIdx k ++ [⟨moreP v.g, v.dv, v.pv⟩]) V ∧ BankStep b (.slice (some ⟨g, 0, none⟩) n cap) wv w (w6.setCell ⟨b, 0, none⟩ (.slice (some ⟨g6, 0, none⟩) (m3 + 1) cap6)) (.slice (some ⟨g6, 0, none⟩) (m3 + 1) cap6) wv ∧ (w6.setCell ⟨b, 0, none⟩ (.slice (some ⟨g6, 0, none⟩) (m3 + 1) cap6)).heap[w.heap.size + 1]? = some (.cells #[.bool false, .string ⟨#[]⟩, .int .i64 0, .bool false, .string ⟨#[]⟩, .string ⟨#[]⟩, .int .i64 0, .string ⟨#[]⟩, .string ⟨#[]⟩, .string ⟨#[]⟩, .bool false, .string ⟨#[]⟩, .bool false, .slice none 0 0, .int .i64 0, .slice none 0 0] 34 (0, 0)) ∧ (Value.slice (some ⟨g6, 0, none⟩) (m3 + 1) cap6).ownBlock ≠ some (w.heap.size + 1)) := ⟨hW7, H5.out.2.1.trans hS7, hR7, hne6⟩
        have hfr := freshG_any ⟨moreP v.g, v.dv, v.pv⟩ B hfit _ (hW7.go _ (List.mem_append_right _ (List.mem_singleton.2 rfl)))
        rw [hL1] at hfr
        have x0 : (w6.setCell ⟨b, 0, none⟩ (.slice (some ⟨g6, 0, none⟩) (m3 + 1) cap6)).cell? ⟨w2.heap.size, 0, none⟩ = some (.bool v.g.org.sec) := cell_of hGb7
        have x1 : (w6.setCell ⟨b, 0, none⟩ (.slice (some ⟨g6, 0, none⟩) (m3 + 1) cap6)).cell? ⟨w2.heap.size, 1, none⟩ = some (.string v.g.org.host) := cell_of hGb7
        have x2 : (w6.setCell ⟨b, 0, none⟩ (.slice (some ⟨g6, 0, none⟩) (m3 + 1) cap6)).cell? ⟨w2.heap.size, 2, none⟩ = some (.int .i64 v.g.org.port) := cell_of hGb7
        have x3 : (w6.setCell ⟨b, 0, none⟩ (.slice (some ⟨g6, 0, none⟩) (m3 + 1) cap6)).cell? ⟨w2.heap.size, 3, none⟩ = some (.bool v.g.proxy) := cell_of hGb7
        have x4 : (w6.setCell ⟨b, 0, none⟩ (.slice (some ⟨g6, 0, none⟩) (m3 + 1) cap6)).cell? ⟨w2.heap.size, 4, none⟩ = some (.string v.g.user) := cell_of hGb7
        have x5 : (w6.setCell ⟨b, 0, none⟩ (.slice (some ⟨g6, 0, none⟩) (m3 + 1) cap6)).cell? ⟨w2.heap.size, 5, none⟩ = some (.string v.g.pass) := cell_of hGb7
        have x6 : (w6.setCell ⟨b, 0, none⟩ (.slice (some ⟨g6, 0, none⟩) (m3 + 1) cap6)).cell? ⟨w2.heap.size, 6, none⟩ = some (.int .i64 v.g.ask.sch) := cell_of hGb7
        have x7 : (w6.setCell ⟨b, 0, none⟩ (.slice (some ⟨g6, 0, none⟩) (m3 + 1) cap6)).cell? ⟨w2.heap.size, 7, none⟩ = some (.string v.g.ask.realm) := cell_of hGb7
        have x8 : (w6.setCell ⟨b, 0, none⟩ (.slice (some ⟨g6, 0, none⟩) (m3 + 1) cap6)).cell? ⟨w2.heap.size, 8, none⟩ = some (.string v.g.ask.nonce) := cell_of hGb7
        have x9 : (w6.setCell ⟨b, 0, none⟩ (.slice (some ⟨g6, 0, none⟩) (m3 + 1) cap6)).cell? ⟨w2.heap.size, 9, none⟩ = some (.string v.g.ask.opq) := cell_of hGb7
        have x10 : (w6.setCell ⟨b, 0, none⟩ (.slice (some ⟨g6, 0, none⟩) (m3 + 1) cap6)).cell? ⟨w2.heap.size, 10, none⟩ = some (.bool v.g.ask.sess) := cell_of hGb7
        have x11 : (w6.setCell ⟨b, 0, none⟩ (.slice (some ⟨g6, 0, none⟩) (m3 + 1) cap6)).cell? ⟨w2.heap.size, 11, none⟩ = some (.string v.g.ask.qop) := cell_of hGb7
        have x12 : (w6.setCell ⟨b, 0, none⟩ (.slice (some ⟨g6, 0, none⟩) (m3 + 1) cap6)).cell? ⟨w2.heap.size, 12, none⟩ = some (.bool v.g.ask.stale) := cell_of hGb7
        have x13 : (w6.setCell ⟨b, 0, none⟩ (.slice (some ⟨g6, 0, none⟩) (m3 + 1) cap6)).cell? ⟨w2.heap.size, 13, none⟩ = some (.slice da dn dc) := cell_of hGb7
        have x14 : (w6.setCell ⟨b, 0, none⟩ (.slice (some ⟨g6, 0, none⟩) (m3 + 1) cap6)).cell? ⟨w2.heap.size, 14, none⟩ = some (.int .i64 (cnt + 1)) := cell_of hGb7
        have x15 : (w6.setCell ⟨b, 0, none⟩ (.slice (some ⟨g6, 0, none⟩) (m3 + 1) cap6)).cell? ⟨w2.heap.size, 15, none⟩ = some (.slice pa pn pc) := cell_of hGb7
        have hHB : Hid (∀ W8, Below (w6.setCell ⟨b, 0, none⟩ (.slice (some ⟨g6, 0, none⟩) (m3 + 1) cap6)).heap.size (w6.setCell ⟨b, 0, none⟩ (.slice (some ⟨g6, 0, none⟩) (m3 + 1) cap6)) W8 → BankW W8 B b (.slice (some ⟨g6, 0, none⟩) (m3 + 1) cap6) wv (G.eraseIdx k ++ [⟨moreP v.g, v.dv, v.pv⟩]) V ∧ BankStep b (.slice (some ⟨g, 0, none⟩) n cap) wv w W8 (.slice (some ⟨g6, 0, none⟩) (m3 + 1) cap6) wv ∧ W8.heap[w.heap.size + 1]? = some (.cells #[.bool false, .string ⟨#[]⟩, .int .i64 0, .bool false, .string ⟨#[]⟩, .string ⟨#[]⟩, .int .i64 0, .string ⟨#[]⟩, .string ⟨#[]⟩, .string ⟨#[]⟩, .bool false, .string ⟨#[]⟩, .bool false, .slice none 0 0, .int .i64 0, .slice none 0 0] 34 (0, 0))) := fun W8 hb8 => ⟨hW7.below hb8, (H5.out.2.1.trans hS7).trans (BankStep.of_below hb8), (hb8.block _ (Array.getElem?_eq_some_iff.1 hR7).1).trans hR7⟩
        have hsz7 : w.heap.size ≤ (w6.setCell ⟨b, 0, none⟩ (.slice (some ⟨g6, 0, none⟩) (m3 + 1) cap6)).heap.size := H7.out.2.1.size
        clear hO6 hL1 hvfit hlen hW7 hS7 t6 hGb6 hR6 hR7 hGb7 hne6 hown6 hg6 hat6 hlt6 b6 q6 f6 e0 e1 e2 e3 e4 e5 e6 e7 e8 e9 e10 e11 e12 e13 e14 e15 q0 q1 hfit
        generalize w6.setCell ⟨b, 0, none⟩ (.slice (some ⟨g6, 0, none⟩) (m3 + 1) cap6) = W7 at hfr hHB hsz7 x0 x1 x2 x3 x4 x5 x6 x7 x8 x9 x10 x11 x12 x13 x14 x15 H7 ⊢
        go_wp2_with fail
        refine hfr.mono ?_
        rintro e w8 ⟨⟨x, rfl, hxg, hxo⟩, hb8⟩
        have H8 := hHB.out w8 hb8
        have HX : Hid (x.g = moreP v.g ∧ GrOwn w8 W7.heap.size x ∧ BankW w8 B b (.slice (some ⟨g6, 0, none⟩) (m3 + 1) cap6) wv (G.eraseIdx k ++ [⟨moreP v.g, v.dv, v.pv⟩]) V ∧ BankStep b (.slice (some ⟨g, 0, none⟩) n cap) wv w w8 (.slice (some ⟨g6, 0, none⟩) (m3 + 1) cap6) wv ∧ w8.heap[w.heap.size + 1]? = some (.cells #[.bool false, .string ⟨#[]⟩, .int .i64 0, .bool false, .string ⟨#[]⟩, .string ⟨#[]⟩, .int .i64 0, .string ⟨#[]⟩, .string ⟨#[]⟩, .string ⟨#[]⟩, .bool false, .string ⟨#[]⟩, .bool false, .slice none 0 0, .int .i64 0, .slice none 0 0] 34 (0, 0))) := ⟨hxg, hxo, H8.1, H8.2.1, H8.2.2⟩
        have hxl := grCells_len x
        obtain ⟨hst, HZ⟩ := res_store H8.2.2 (grCells x) rfl hxo.one
        clear hxg hxo hb8 H8 hfr hHB x0 x1 x2 x3 x4 x5 x6 x7 x8 x9 x10 x11 x12 x13 x14 x15
        go_wp2
        refine bodyPost_ret (v := .tuple #[.agg (grCells x).toArray, errU 0]) (res_cell_tmp (vs := grCells x) rfl rfl rfl Tryd.isAgg34 Tryd.sizeOf34 (grCells_len x) HZ.out.1) rfl ?_
        rw [HU2.out]
        exact use_end (r := ((G.map (·.g)).eraseIdx k ++ [moreP v.g], moreP v.g, 0)) (x := x) HX.out.2.2.1 HX.out.2.2.2.1 HX.out.2.2.2.2 H7.out.2.2.2 (by omega) HZ.out.2 (by rw [List.map_append, List.eraseIdx_eq_take_drop_succ, List.eraseIdx_eq_take_drop_succ, List.map_append, List.map_take, List.map_drop]; rfl) HX.out.1 (HX.out.2.1.mono hsz7)
end Go.Proofs.YtemlclgdgnfhnaaDoor

/- gatepostkeep.home; the facts of banked. -/
namespace Go.Proofs.YtemlclgdgnfhnaaDoor
open Go.RowKit
set_option linter.unusedVariables false

/-- 'a.test'. -/
def homeO : OrgV := ⟨true, ⟨#[97, 46, 116, 101, 115, 116]⟩, 443⟩
set_option maxRecDepth 100000 in
set_option maxHeartbeats 2000000 in
theorem home_any (w : World) : Calls Tryd.prog 20 #[] w fun e w' => e = .returned (.agg #[.bool homeO.sec, .string homeO.host, .int .i64 homeO.port]) ∧ Below w.heap.size w w' := by
  go_enter Tryd.func20, Tryd.ntmps20
  go_wp2
  exact bodyPost_ret (v := .agg #[.bool true, .string ⟨#[97, 46, 116, 101, 115, 116]⟩, .int .i64 443]) (res_cell rfl rfl Tryd.isAgg24 Tryd.sizeOf24 (vs := [.bool true, .string ⟨#[97, 46, 116, 101, 115, 116]⟩, .int .i64 443]) rfl (heap_alloc_new w _)) rfl ⟨rfl, (Below.refl _ _).alloc (Nat.le_refl _) _⟩
/-- The grant that the fact puts. -/
def bankedG : GrP := ⟨homeO, false, ⟨#[]⟩, ⟨#[]⟩, ⟨1, ⟨#[114]⟩, ⟨#[]⟩, ⟨#[]⟩, false, ⟨#[]⟩, false, []⟩, 0, [⟨#[47, 97, 47]⟩]⟩
theorem banked_put : putL [] bankedG = [bankedG] := rfl
theorem banked_at : findI [bankedG] homeO false ⟨#[47, 97, 47, 98]⟩ = 0 := by decide +kernel
theorem banked_use : useL [bankedG] (findI [bankedG] homeO false ⟨#[47, 97, 47, 98]⟩) = ([moreP bankedG], moreP bankedG, 0) := by
  rw [banked_at]
  rfl
theorem banked_none : findI [moreP bankedG] homeO false ⟨#[47, 99]⟩ = -1 := by decide +kernel
end Go.Proofs.YtemlclgdgnfhnaaDoor

/- The fact: a grant that is used. -/
namespace Go.Proofs.YtemlclgdgnfhnaaDoor
open Go.RowKit
set_option linter.unusedVariables false

theorem strs_none7 (w : World) : Strs w none 0 0 0 [] := ⟨rfl, fun h => absurd h (by omega), fun j x hx => by simp at hx⟩
theorem strs_one7 (w : World) (x : ByteArray) : Strs (w.alloc (.cells #[.string x] 9)) (some ⟨w.heap.size, 0, none⟩) 1 w.heap.size 0 [x] := by
  refine ⟨rfl, fun _ => ⟨rfl, by simp⟩, fun j y hx => ?_⟩
  have hj := (List.getElem?_eq_some_iff.1 hx).1
  simp only [List.length_cons, List.length_nil] at hj
  obtain rfl : j = 0 := by omega
  simp only [List.getElem?_cons_zero, Option.some.injEq] at hx
  subst hx
  exact cell_of (i := 0) (heap_alloc_new w _)
theorem bankedG_fit : GrFit bankedG := by
  refine ⟨?_, ?_, ?_, ⟨?_, ?_, ?_, ?_, ?_, ?_⟩, ?_, ?_, ?_⟩
  · decide
  · decide
  · decide
  · decide
  · decide
  · decide
  · decide
  · decide
  · intro x hx; cases hx
  · decide
  · intro x hx
    rw [show bankedG.paths = [⟨#[47, 97, 47]⟩] from rfl, List.mem_singleton] at hx
    rw [hx]
    decide
  · decide
theorem bank_new (w : World) : BankW (w.alloc (.cells #[.slice none 0 0, .slice none 0 0] 55)) w.heap.size w.heap.size (.slice none 0 0) (.slice none 0 0) [] [] :=
  ⟨heap_alloc_new w _, Nat.le_refl _, ownK_nil _ _ _ _, ownK_nil _ _ _ _, fun v hv => (by cases hv), fun v hv => (by cases hv), fun v hv => (by cases hv), by decide, by decide⟩
theorem step_low {B b : Nat} {gv wv gv' wv' : Value} {G : List GrV} {V : List WtV} {w w' : World} (h : BankW w B b gv wv G V) (hB : B ≤ w.heap.size) (hs : BankStep b gv wv w w' gv' wv') : Below B w w' :=
  hs.below h.low (fun x e => (h.gs.lt _ e).1) (fun x e => (h.ws.lt _ e).1) hB
/-- The grant that the fact has used, by its cells. -/
def useCells (d p : Value) : List Value := [.bool true, .string ⟨#[97, 46, 116, 101, 115, 116]⟩, .int .i64 443, .bool false, .string ⟨#[]⟩, .string ⟨#[]⟩, .int .i64 1, .string ⟨#[114]⟩, .string ⟨#[]⟩, .string ⟨#[]⟩, .bool false, .string ⟨#[]⟩, .bool false, d, .int .i64 1, p]
theorem useCells_of (d p : Value) : grCells ⟨moreP bankedG, d, p⟩ = useCells d p := rfl
def zeCells (d p : Value) : List Value := [.bool false, .string ⟨#[]⟩, .int .i64 0, .bool false, .string ⟨#[]⟩, .string ⟨#[]⟩, .int .i64 0, .string ⟨#[]⟩, .string ⟨#[]⟩, .string ⟨#[]⟩, .bool false, .string ⟨#[]⟩, .bool false, d, .int .i64 0, p]
theorem zeCells_of (d p : Value) : grCells ⟨zeroP, d, p⟩ = zeCells d p := rfl
theorem own_slice {w : World} {B : Nat} {v : GrV} (h : GrOwn w B v) : (∃ p n c, v.dv = .slice p n c) ∧ ∃ p n c, v.pv = .slice p n c := by
  obtain ⟨da, dc, dg, hdv, _⟩ := h.dom.strs
  obtain ⟨pa, pc, pg, hpv, _⟩ := h.paths.strs
  exact ⟨⟨_, _, _, hdv⟩, ⟨_, _, _, hpv⟩⟩
set_option maxRecDepth 100000 in
set_option maxHeartbeats 4000000 in
theorem banked_any (w : World) : Calls Tryd.prog 4 #[] w fun e w' => e = .returned (.bool true) ∧ Below w.heap.size w w' := by
  have HB0 : Hid (Below w.heap.size w (w.alloc (.cells #[.slice none 0 0, .slice none 0 0] 55)) ∧ BankW (w.alloc (.cells #[.slice none 0 0, .slice none 0 0] 55)) w.heap.size w.heap.size (.slice none 0 0) (.slice none 0 0) [] []) := ⟨(Below.refl _ _).alloc (Nat.le_refl _) _, bank_new w⟩
  go_enter Tryd.func4, Tryd.ntmps4
  go_wp2_with fail
  refine (home_any _).mono ?_
  rintro e w1 ⟨rfl, hb1⟩
  have HB1 : Hid (Below w.heap.size w (w1.alloc (.cells #[.string ⟨#[47, 97, 47]⟩] 9)) ∧ BankW (w1.alloc (.cells #[.string ⟨#[47, 97, 47]⟩] 9)) w.heap.size w.heap.size (.slice none 0 0) (.slice none 0 0) [] [] ∧ Strs (w1.alloc (.cells #[.string ⟨#[47, 97, 47]⟩] 9)) (some ⟨w1.heap.size, 0, none⟩) 1 w1.heap.size 0 [⟨#[47, 97, 47]⟩]) := by
    have ha : Below w1.heap.size w1 (w1.alloc (.cells #[.string ⟨#[47, 97, 47]⟩] 9)) := (Below.refl _ _).alloc (Nat.le_refl _) _
    have h0 := HB0.out.1.size
    exact ⟨(HB0.out.1.trans (hb1.mono h0)).trans (ha.mono (Nat.le_trans h0 hb1.size)), (HB0.out.2.below hb1).below ha, strs_one7 _ _⟩
  clear hb1
  go_wp2_with fail
  refine (put_at bankedG bankedG_fit none _ 0 0 1 1 0 0 _ 0 _ (strs_none7 _) HB1.out.2.2 w.heap.size w.heap.size _ _ [] [] HB1.out.2.1 HB1.out.1.size).mono ?_
  rintro e w2 ⟨rfl, gv2, G2, H2⟩
  go_wp2_with fail
  refine (home_any _).mono ?_
  rintro e w3 ⟨rfl, hb3⟩
  have HB3 : Hid (Below w.heap.size w w3 ∧ BankW w3 w.heap.size w.heap.size gv2 (.slice none 0 0) G2 []) := by
    have h2 := step_low HB1.out.2.1 HB1.out.1.size H2.out.2.2
    have hb2 : Below w.heap.size w w2 := HB1.out.1.trans h2
    exact ⟨hb2.trans (hb3.mono hb2.size), H2.out.1.below hb3⟩
  have huse := use_any w3 HB3.out.2 HB3.out.1.size homeO false ⟨#[47, 97, 47, 98]⟩
  have hm : G2.map (·.g) = [bankedG] := H2.out.2.1.trans banked_put
  rw [hm, banked_use] at huse
  clear hb3 H2 hm HB1 HB0
  go_wp2_with fail
  refine huse.mono ?_
  rintro e w4 ⟨⟨⟨xg, xd, xp⟩, rfl, hxg, hxo⟩, gv4, G4, H4⟩
  obtain ⟨⟨d1, d2, d3, hxd⟩, ⟨p1, p2, p3, hxp⟩⟩ := own_slice hxo
  simp only [] at hxg hxd hxp
  subst hxg hxd hxp
  rw [useCells_of]
  unfold useCells
  have HB4 : Hid (Below w.heap.size w (w4.alloc (.cells (useCells (.slice d1 d2 d3) (.slice p1 p2 p3)).toArray 34)) ∧ BankW (w4.alloc (.cells (useCells (.slice d1 d2 d3) (.slice p1 p2 p3)).toArray 34)) w.heap.size w.heap.size gv4 (.slice none 0 0) G4 [] ∧ G4.map (·.g) = [moreP bankedG] ∧ (w4.alloc (.cells (useCells (.slice d1 d2 d3) (.slice p1 p2 p3)).toArray 34)).heap[w4.heap.size]? = some (.cells (useCells (.slice d1 d2 d3) (.slice p1 p2 p3)).toArray 34 (0, 0))) := by
    have ha : Below w4.heap.size w4 (w4.alloc (.cells (useCells (.slice d1 d2 d3) (.slice p1 p2 p3)).toArray 34)) := (Below.refl _ _).alloc (Nat.le_refl _) _
    have h4 := step_low HB3.out.2 HB3.out.1.size H4.out.2.2
    have hb4 : Below w.heap.size w w4 := HB3.out.1.trans h4
    exact ⟨hb4.trans (ha.mono hb4.size), H4.out.1.below ha, H4.out.2.1, heap_alloc_new w4 _⟩
  clear huse hxo H4 HB3
  unfold useCells at HB4
  go_wp2_with fail
  refine (home_any _).mono ?_
  rintro e w5 ⟨rfl, hb5⟩
  have HB5 : Hid (Below w.heap.size w w5 ∧ BankW w5 w.heap.size w.heap.size gv4 (.slice none 0 0) G4 [] ∧ w5.heap[w4.heap.size]? = some (.cells (useCells (.slice d1 d2 d3) (.slice p1 p2 p3)).toArray 34 (0, 0))) :=
    ⟨HB4.out.1.trans (hb5.mono HB4.out.1.size), HB4.out.2.1.below hb5, (hb5.block _ (Array.getElem?_eq_some_iff.1 HB4.out.2.2.2).1).trans HB4.out.2.2.2⟩
  have HM : Hid (G4.map (·.g) = [moreP bankedG]) := HB4.out.2.2.1
  have hfind := find_any w5 HB5.out.2.1 homeO false ⟨#[47, 99]⟩
  rw [HM.out, banked_none] at hfind
  clear hb5 HB4
  go_wp2_with fail
  refine hfind.mono ?_
  rintro e w6 ⟨⟨⟨yg, yd, yp⟩, rfl, hyg, hyo⟩, hb6⟩
  obtain ⟨⟨e1, e2, e3, hyd⟩, ⟨q1, q2, q3, hyp⟩⟩ := own_slice hyo
  simp only [toldL] at hyg
  rw [if_pos (by decide)] at hyg
  simp only [] at hyd hyp
  subst hyg hyd hyp
  rw [zeCells_of]
  unfold zeCells
  have HB6 : Hid (Below w.heap.size w (w6.alloc (.cells (zeCells (.slice e1 e2 e3) (.slice q1 q2 q3)).toArray 34)) ∧ BankW (w6.alloc (.cells (zeCells (.slice e1 e2 e3) (.slice q1 q2 q3)).toArray 34)) w.heap.size w.heap.size gv4 (.slice none 0 0) G4 []) := by
    have ha : Below w6.heap.size w6 (w6.alloc (.cells (zeCells (.slice e1 e2 e3) (.slice q1 q2 q3)).toArray 34)) := (Below.refl _ _).alloc (Nat.le_refl _) _
    have hb : Below w.heap.size w w6 := HB5.out.1.trans (hb6.mono HB5.out.1.size)
    exact ⟨hb.trans (ha.mono hb.size), (HB5.out.2.1.below hb6).below ha⟩
  have hblk : (w6.alloc (.cells (zeCells (.slice e1 e2 e3) (.slice q1 q2 q3)).toArray 34)).heap[w4.heap.size]? = some (.cells (useCells (.slice d1 d2 d3) (.slice p1 p2 p3)).toArray 34 (0, 0)) := by
    have h5 := (hb6.block _ (Array.getElem?_eq_some_iff.1 HB5.out.2.2).1).trans HB5.out.2.2
    exact box_alloc h5 _
  unfold zeCells at HB6 hblk
  have c7 := cell_of (i := 7) hblk
  have c14 := cell_of (i := 14) hblk
  simp only [useCells, List.getElem?_toArray, List.getElem?_cons_zero, List.getElem?_cons_succ] at c7 c14
  have hgr := grants_any _ HB6.out.2
  rw [HM.out] at hgr
  clear hfind hyo hb6 hblk HB5
  rw [show errU 0 = .nilIface from rfl, show decide ((0 : Int) ≤ -1) = false from rfl]
  go_wp2_with fail
  refine hgr.mono ?_
  rintro e w7 ⟨⟨val, us, rfl, h1, h2, h3⟩, hb7⟩
  have hl : us.length = 1 := by have := congrArg List.length h2; rwa [List.length_map] at this
  rcases h1.forms with ⟨_, e0⟩ | ⟨g, cap, rfl, _⟩
  · have := congrArg List.length e0
    rw [List.length_map, hl] at this
    cases this
  · rw [List.length_map, hl]
    have HE : Hid (Below w.heap.size w w7) := HB6.out.1.trans (hb7.mono HB6.out.1.size)
    clear h1 h2 h3 hb7 hgr
    go_wp2
    go_ret
    exact ⟨rfl, HE.out⟩
end Go.Proofs.YtemlclgdgnfhnaaDoor

/- gatepostkeep.filled: a bank into which grants were put, one behind the other. -/
namespace Go.Proofs.YtemlclgdgnfhnaaDoor
open Go.RowKit
set_option linter.unusedVariables false

/-- The grants that a bank has, into which these were put. -/
def putAll (l : List GrP) : List GrP := l.foldl putL []
theorem putAll_snoc (l : List GrP) (g : GrP) : putAll (l ++ [g]) = putL (putAll l) g := by
  unfold putAll
  rw [List.foldl_append]
  rfl
theorem fit_of {g : GrP} (h : GrZ g) (h1 : g.ask.dom.length ≤ 6) (h2 : g.paths.length ≤ 6) : GrFit g := by
  obtain ⟨a1, a2, a3, a4, a5, a6, a7, a8, a9, a10⟩ := h
  exact ⟨a1, a2, a3, ⟨a4, a5, a6, a7, by omega, a8⟩, by omega, a9, a10⟩
set_option maxRecDepth 100000 in
set_option maxHeartbeats 4000000 in
theorem filled_any (a0 : Option Addr) (len cap b off : Nat) (gs : List GrA) (hz : ∀ v ∈ gs, GrZ v.g) (hs : ∀ v ∈ gs, shortB v) (hn : len ≤ 30) (w : World) (h : Grs w a0 len b off gs) :
    Calls Tryd.prog 8 #[.slice a0 len cap] w fun e w' => e = .returned (.pointer (some ⟨w.heap.size, 0, none⟩)) ∧ Hid ((∃ gv G, BankW w' w.heap.size w.heap.size gv (.slice none 0 0) G [] ∧ G.map (·.g) = putAll (gs.map (·.g))) ∧ Below w.heap.size w w') := by
  have HS : Hid (Grs w a0 len b off gs) := h
  have HZ : Hid ((∀ v ∈ gs, GrZ v.g) ∧ ∀ v ∈ gs, shortB v) := ⟨hz, hs⟩
  have HL : Hid (gs.length = len) := h.len_eq
  have HB0 : Hid (Below w.heap.size w (w.alloc (.cells #[.slice none 0 0, .slice none 0 0] 55)) ∧ BankW (w.alloc (.cells #[.slice none 0 0, .slice none 0 0] 55)) w.heap.size w.heap.size (.slice none 0 0) (.slice none 0 0) [] []) := ⟨(Below.refl _ _).alloc (Nat.le_refl _) _, bank_new w⟩
  clear h hz hs
  go_enter Tryd.func8, Tryd.ntmps8
  go_wp2
  go_loopw [4] (fun i wr => ∃ k : Nat, k ≤ len ∧ i = .int .i64 k ∧ Hid ((∃ gv G, BankW wr w.heap.size w.heap.size gv (.slice none 0 0) G [] ∧ G.map (·.g) = putAll ((gs.take k).map (·.g))) ∧ Below w.heap.size w wr)) (fun i _ => len - (intOf i).toNat)
  case atStart => exact ⟨0, Nat.zero_le _, rfl, ⟨_, [], HB0.out.2, rfl⟩, HB0.out.1⟩
  case round =>
    obtain ⟨k, hk, rfl, HI⟩ := hrel
    by_cases hlt : k < len
    · have hkL : (k : Int) < (len : Int) := by omega
      obtain ⟨v, hv⟩ : ∃ v, gs[k]? = some v := ⟨gs[k]'(by have := HL.out; omega), List.getElem?_eq_getElem _⟩
      have hvm : v ∈ gs := List.mem_of_getElem? hv
      obtain ⟨ha0, _⟩ := HS.out.lies (by omega)
      subst ha0
      have hW := HS.out.below HI.out.2
      obtain ⟨c0, c1, c2, c3, c4, c5, c6, c7, c8, c9, c10, c11, c12, c13, c14, c15⟩ := hW.all hv
      obtain ⟨⟨gv, G, hB, hG⟩, hbel⟩ := HI.out
      have hsh := HZ.out.2 v hvm
      have hcall := put_at v.g (fit_of (HZ.out.1 v hvm) hsh.1 hsh.2) v.da v.pa v.g.ask.dom.length v.dc v.g.paths.length v.pc v.db v.doff v.pb v.poff wr (hW.dom v hvm) (hW.paths v hvm) w.heap.size w.heap.size gv (.slice none 0 0) G [] hB hbel.size
      have HST : Hid (putAll ((gs.take (k + 1)).map (·.g)) = putL (putAll ((gs.take k).map (·.g))) v.g) := by
        show _ = _
        obtain ⟨hk1, e1⟩ := List.getElem?_eq_some_iff.1 hv
        rw [List.take_succ_eq_append_getElem hk1, List.map_append, e1]
        exact putAll_snoc _ _
      have HBK : Hid (BankW wr w.heap.size w.heap.size gv (.slice none 0 0) G [] ∧ G.map (·.g) = putAll ((gs.take k).map (·.g)) ∧ Below w.heap.size w wr) := ⟨hB, hG, hbel⟩
      clear hB hG hbel HI hsh
      obtain ⟨⟨⟨os, oh, op⟩, px, us, pw, ⟨sc, re, no, oq, se, qo, st, dm⟩, ct, pt⟩, da, dc, db, doff, pa, pc, pb, poff⟩ := v
      simp only at hcall c0 c1 c2 c3 c4 c5 c6 c7 c8 c9 c10 c11 c12 c13 c14 c15
      clear hv hvm hW
      go_wp2_with fail
      refine hcall.mono ?_
      rintro e w1 ⟨rfl, gv', G', H'⟩
      have HR : Hid ((∃ gv G, BankW w1 w.heap.size w.heap.size gv (.slice none 0 0) G [] ∧ G.map (·.g) = putAll ((gs.take (k + 1)).map (·.g))) ∧ Below w.heap.size w w1) := by
        refine ⟨⟨gv', G', H'.out.1, by rw [H'.out.2.1, HST.out, HBK.out.2.1]⟩, ?_⟩
        exact HBK.out.2.2.trans (step_low HBK.out.1 HBK.out.2.2.size H'.out.2.2)
      clear H' hcall c0 c1 c2 c3 c4 c5 c6 c7 c8 c9 c10 c11 c12 c13 c14 c15
      go_wp2
      go_roundw
      case rel => exact ⟨k + 1, by omega, by go_num, HR.out⟩
      case measure => simp [intOf]; omega
    · have hkL : ¬ (k : Int) < (len : Int) := by omega
      have HE : Hid ((∃ gv G, BankW wr w.heap.size w.heap.size gv (.slice none 0 0) G [] ∧ G.map (·.g) = putAll (gs.map (·.g))) ∧ Below w.heap.size w wr) := by
        have := HI.out
        rw [List.take_of_length_le (by have := HL.out; omega)] at this
        exact this
      go_wp2
      go_ret
      exact ⟨rfl, HE.out⟩
end Go.Proofs.YtemlclgdgnfhnaaDoor

/- The library's contracts that are leant on, laid at this program's numbers. -/
namespace Go.Proofs.YtemlclgdgnfhnaaDoor
open Go.Shelf Go.RowKit
def lays193_ren : Go.Shelf.Ren := ⟨fun | 193 => 33 | n => n, fun | 31 => 30 | 9 => 9 | 4 => 4 | 3 => 3 | 0 => 0 | n => n, fun | n => n⟩
theorem lays193 : Go.Proofs.Lays.n193 Tryd.prog lays193_ren := {
  mixed := by kernel_rfl
  f193 := Tryd.func33.trans (congrArg some (by kernel_rfl))
  t0 := Tryd.underlying0
  a0 := Tryd.isAgg0
  z0 := Tryd.sizeOf0
  v0 := Tryd.zeroValue0
  t3 := Tryd.underlying3
  a3 := Tryd.isAgg3
  z3 := Tryd.sizeOf3
  v3 := Tryd.zeroValue3
  t4 := Tryd.underlying4
  a4 := Tryd.isAgg4
  z4 := Tryd.sizeOf4
  v4 := Tryd.zeroValue4
  t9 := Tryd.underlying9
  a9 := Tryd.isAgg9
  z9 := Tryd.sizeOf9
  v9 := Tryd.zeroValue9
  t31 := Tryd.underlying30
  a31 := Tryd.isAgg30
  z31 := Tryd.sizeOf30
  v31 := Tryd.zeroValue30 }
end Go.Proofs.YtemlclgdgnfhnaaDoor

/- Two rows of the same texts are equal, by the library's own function. -/
namespace Go.Proofs.YtemlclgdgnfhnaaDoor
open Go.RowKit Go.Shelf

theorem equal_same (a1 a2 : Option Addr) (n c b1 o1 d b2 o2 : Nat) (xs : List ByteArray) (w : World) (hn : n ≤ 1000000) (h1 : Strs w a1 n b1 o1 xs) (h2 : Strs w a2 n b2 o2 xs) :
    Calls Tryd.prog 33 #[.slice a1 n c, .slice a2 n d] w fun e w' => e = .returned (.bool true) ∧ ∃ q, w' = w.drewN q := by
  by_cases h0 : n = 0
  · subst h0
    refine (Any.slices_Equal_string_empty lays193 a1 a2 c 0 d w (by omega)).mono ?_
    rintro e w' ⟨rfl, rfl⟩
    exact ⟨rfl, 0, rfl⟩
  · obtain ⟨rfl, _⟩ := h1.lies (by omega)
    obtain ⟨rfl, _⟩ := h2.lies (by omega)
    have hl := h1.len_eq
    have hc : ∀ (b o : Nat), (∀ (j : Nat) (x : ByteArray), xs[j]? = some x → w.cell? ⟨b, o + j, none⟩ = some (.string x)) → ∀ j, j < xs.length → w.cell? ⟨b, o + j, none⟩ = some (.string (xs.getD j ByteArray.empty)) := by
      intro b o h j hj
      have : xs[j]? = some xs[j] := List.getElem?_eq_getElem hj
      rw [h j _ this]
      simp [List.getD, this]
    refine (Any.slices_Equal_string lays193 b1 o1 n c b2 o2 n d xs xs w (by omega) (by omega) (by omega) (by omega) (hc b1 o1 h1.cells) (hc b2 o2 h2.cells)).mono ?_
    rintro e w' ⟨rfl, hq⟩
    exact ⟨by simp, hq⟩
end Go.Proofs.YtemlclgdgnfhnaaDoor

/- A world that has drawn an order is the same. -/
namespace Go.Proofs.YtemlclgdgnfhnaaDoor
open Go.RowKit

theorem drewN_at {B : Nat} {a w : World} (h : Below B a w) (n : Nat) : Below B a (w.drewN n) := h.trans ⟨rfl, rfl, rfl, Nat.le_refl _, fun _ _ => rfl⟩
end Go.Proofs.YtemlclgdgnfhnaaDoor

/- sameAsk of what is the same. -/
namespace Go.Proofs.YtemlclgdgnfhnaaDoor
open Go.RowKit
set_option linter.unusedVariables false

set_option maxRecDepth 100000 in
set_option maxHeartbeats 4000000 in
theorem sameAsk_yes (a : AskP) (p q : Option Addr) (n c d pb po qb qo : Nat) (w : World) (hp : Strs w p n pb po a.dom) (hq : Strs w q n qb qo a.dom) (hl : a.dom.length ≤ 1000) :
    Calls Tryd.prog 32 #[.agg #[.int .i64 a.sch, .string a.realm, .string a.nonce, .string a.opq, .bool a.sess, .string a.qop, .bool a.stale, .slice p n c], .agg #[.int .i64 a.sch, .string a.realm, .string a.nonce, .string a.opq, .bool a.sess, .string a.qop, .bool a.stale, .slice q n d]] w fun e w' => e = .returned (.bool true) ∧ Below w.heap.size w w' := by
  have HB : Hid (_ ∧ _ ∧ _) := boxes2 w #[.int .i64 a.sch, .string a.realm, .string a.nonce, .string a.opq, .bool a.sess, .string a.qop, .bool a.stale, .slice p n c] #[.int .i64 a.sch, .string a.realm, .string a.nonce, .string a.opq, .bool a.sess, .string a.qop, .bool a.stale, .slice q n d] 32 32
  have HS : Hid (_ ∧ _ ∧ _) := ⟨hp, hq, hl⟩
  have c0 := cell_of (i := 0) HB.out.2.1
  have c1 := cell_of (i := 1) HB.out.2.1
  have c2 := cell_of (i := 2) HB.out.2.1
  have c3 := cell_of (i := 3) HB.out.2.1
  have c4 := cell_of (i := 4) HB.out.2.1
  have c5 := cell_of (i := 5) HB.out.2.1
  have c6 := cell_of (i := 6) HB.out.2.1
  have c7 := cell_of (i := 7) HB.out.2.1
  have d0 := cell_of (i := 0) HB.out.2.2
  have d1 := cell_of (i := 1) HB.out.2.2
  have d2 := cell_of (i := 2) HB.out.2.2
  have d3 := cell_of (i := 3) HB.out.2.2
  have d4 := cell_of (i := 4) HB.out.2.2
  have d5 := cell_of (i := 5) HB.out.2.2
  have d6 := cell_of (i := 6) HB.out.2.2
  have d7 := cell_of (i := 7) HB.out.2.2
  simp only [List.getElem?_toArray, List.getElem?_cons_zero, List.getElem?_cons_succ] at c0 c1 c2 c3 c4 c5 c6 c7 d0 d1 d2 d3 d4 d5 d6 d7
  clear hp hq hl
  go_enter Tryd.func32, Tryd.ntmps32
  have hn : n ≤ 1000000 := by have := HS.out.1.len_eq; have := HS.out.2.2; omega
  have heq := equal_same p q n c pb po d qb qo a.dom _ hn (HS.out.1.below HB.out.1) (HS.out.2.1.below HB.out.1)
  go_wp2_with fail
  refine heq.mono ?_
  rintro e w1 ⟨rfl, z, rfl⟩
  have HZ : Hid (Below w.heap.size w (((w.alloc (.cells #[.int .i64 a.sch, .string a.realm, .string a.nonce, .string a.opq, .bool a.sess, .string a.qop, .bool a.stale, .slice p n c] 32)).alloc (.cells #[.int .i64 a.sch, .string a.realm, .string a.nonce, .string a.opq, .bool a.sess, .string a.qop, .bool a.stale, .slice q n d] 32)).drewN z)) := drewN_at HB.out.1 z
  clear heq c0 c1 c2 c3 c4 c5 c6 c7 d0 d1 d2 d3 d4 d5 d6 d7
  go_wp2
  go_ret
  exact ⟨rfl, HZ.out⟩
end Go.Proofs.YtemlclgdgnfhnaaDoor
