/- Texts of one claim, joined: each begins with what it proves. -/
import Derived.Test.YtemlclgdgnfhnaaDoorJo3
import Derived.Test.YtemlclgdgnfhnaaDoorJo1
import Derived.Test.YtemlclgdgnfhnaaDoorJo2
import Derived.Deep.Onto
import Derived.Shelf.Spec.SlicesGrow
import Derived.Deep.Upon
import Derived.Deep.QuietTactic
import Derived.BigQuiet
import Derived.LaidEql
import Derived.Stop.Asserts
import Derived.RowKitTokens
import Derived.RegionTactic
import Derived.Deep.RegionHeld3
import Derived.ProofKit
import Derived.OpenShut
import Derived.SliceStrings
import Derived.Carry
import Derived.SizedLaws
import Derived.Deep.Slices
import Derived.Deep.SlicePairs
import Derived.Deep.Strs
import Derived.Lib.SmallJoins
/- sameGrant of what is the same. -/
namespace Go.Proofs.YtemlclgdgnfhnaaDoor
open Go.RowKit
set_option linter.unusedVariables false

theorem eqCred (u p : ByteArray) (w : World) : (Op.equalIn 10000 29 (.agg #[.string u, .string p]) (.agg #[.string u, .string p])).run Tryd.prog w = .ok true w := by
  have u9 := Tryd.underlying9
  have hS : Tryd.prog.underlying 29 = some (.struct (Tryd.prog.fieldsOf 29)) := by kernel_rfl
  have hp : Tryd.prog.stoodInHeld 29 = false := by kernel_rfl
  rw [show (10000 : Nat) = 9999 + 1 from rfl, run_equalIn_agg w 9999 29 _ _ hS hp]
  simp only [Program.fieldsOf, Tryd.underlying29]
  go_simp
theorem orgB_self (o : OrgV) : orgB o o = true := by unfold orgB; simp
set_option maxRecDepth 100000 in
set_option maxHeartbeats 8000000 in
theorem sameGrant_yes (g : GrP) (dp dq pp pq : Option Addr) (n c d pb po qb qo m c' d' rb ro sb so : Nat) (w : World) (hp : Strs w dp n pb po g.ask.dom) (hq : Strs w dq n qb qo g.ask.dom) (hp2 : Strs w pp m rb ro g.paths) (hq2 : Strs w pq m sb so g.paths) (hl : g.ask.dom.length ≤ 1000 ∧ g.paths.length ≤ 1000) :
    Calls Tryd.prog 15 #[.agg #[.bool g.org.sec, .string g.org.host, .int .i64 g.org.port, .bool g.proxy, .string g.user, .string g.pass, .int .i64 g.ask.sch, .string g.ask.realm, .string g.ask.nonce, .string g.ask.opq, .bool g.ask.sess, .string g.ask.qop, .bool g.ask.stale, .slice dp n c, .int .i64 g.count, .slice pp m c'], .agg #[.bool g.org.sec, .string g.org.host, .int .i64 g.org.port, .bool g.proxy, .string g.user, .string g.pass, .int .i64 g.ask.sch, .string g.ask.realm, .string g.ask.nonce, .string g.ask.opq, .bool g.ask.sess, .string g.ask.qop, .bool g.ask.stale, .slice dq n d, .int .i64 g.count, .slice pq m d']] w fun e w' => e = .returned (.bool true) ∧ Below w.heap.size w w' := by
  have HB : Hid (_ ∧ _ ∧ _) := boxes2 w #[.bool g.org.sec, .string g.org.host, .int .i64 g.org.port, .bool g.proxy, .string g.user, .string g.pass, .int .i64 g.ask.sch, .string g.ask.realm, .string g.ask.nonce, .string g.ask.opq, .bool g.ask.sess, .string g.ask.qop, .bool g.ask.stale, .slice dp n c, .int .i64 g.count, .slice pp m c'] #[.bool g.org.sec, .string g.org.host, .int .i64 g.org.port, .bool g.proxy, .string g.user, .string g.pass, .int .i64 g.ask.sch, .string g.ask.realm, .string g.ask.nonce, .string g.ask.opq, .bool g.ask.sess, .string g.ask.qop, .bool g.ask.stale, .slice dq n d, .int .i64 g.count, .slice pq m d'] 34 34
  have HS : Hid (Strs w dp n pb po g.ask.dom ∧ Strs w dq n qb qo g.ask.dom ∧ Strs w pp m rb ro g.paths ∧ Strs w pq m sb so g.paths ∧ g.ask.dom.length ≤ 1000 ∧ g.paths.length ≤ 1000) := ⟨hp, hq, hp2, hq2, hl⟩
  have c0 := cell_of (i := 0) HB.out.2.1
  have d0 := cell_of (i := 0) HB.out.2.2
  have c1 := cell_of (i := 1) HB.out.2.1
  have d1 := cell_of (i := 1) HB.out.2.2
  have c2 := cell_of (i := 2) HB.out.2.1
  have d2 := cell_of (i := 2) HB.out.2.2
  have c3 := cell_of (i := 3) HB.out.2.1
  have d3 := cell_of (i := 3) HB.out.2.2
  have c4 := cell_of (i := 4) HB.out.2.1
  have d4 := cell_of (i := 4) HB.out.2.2
  have c5 := cell_of (i := 5) HB.out.2.1
  have d5 := cell_of (i := 5) HB.out.2.2
  have c6 := cell_of (i := 6) HB.out.2.1
  have d6 := cell_of (i := 6) HB.out.2.2
  have c7 := cell_of (i := 7) HB.out.2.1
  have d7 := cell_of (i := 7) HB.out.2.2
  have c8 := cell_of (i := 8) HB.out.2.1
  have d8 := cell_of (i := 8) HB.out.2.2
  have c9 := cell_of (i := 9) HB.out.2.1
  have d9 := cell_of (i := 9) HB.out.2.2
  have c10 := cell_of (i := 10) HB.out.2.1
  have d10 := cell_of (i := 10) HB.out.2.2
  have c11 := cell_of (i := 11) HB.out.2.1
  have d11 := cell_of (i := 11) HB.out.2.2
  have c12 := cell_of (i := 12) HB.out.2.1
  have d12 := cell_of (i := 12) HB.out.2.2
  have c13 := cell_of (i := 13) HB.out.2.1
  have d13 := cell_of (i := 13) HB.out.2.2
  have c14 := cell_of (i := 14) HB.out.2.1
  have d14 := cell_of (i := 14) HB.out.2.2
  have c15 := cell_of (i := 15) HB.out.2.1
  have d15 := cell_of (i := 15) HB.out.2.2
  simp only [List.getElem?_toArray, List.getElem?_cons_zero, List.getElem?_cons_succ] at c0 d0 c1 d1 c2 d2 c3 d3 c4 d4 c5 d5 c6 d6 c7 d7 c8 d8 c9 d9 c10 d10 c11 d11 c12 d12 c13 d13 c14 d14 c15 d15
  clear hp hq hp2 hq2 hl
  have e1 := eqOrg g.org g.org true (orgB_self _)
  have e2 := eqCred g.user g.pass
  have hask := sameAsk_yes g.ask dp dq n c d pb po qb qo _ (HS.out.1.below HB.out.1) (HS.out.2.1.below HB.out.1) HS.out.2.2.2.2.1
  go_enter Tryd.func15, Tryd.ntmps15
  go_wp2_with fail
  refine hask.mono ?_
  rintro e w1 ⟨rfl, hb1⟩
  have HB1 : Hid (Below w.heap.size w w1 ∧ w1.heap[w.heap.size]? = some (.cells #[.bool g.org.sec, .string g.org.host, .int .i64 g.org.port, .bool g.proxy, .string g.user, .string g.pass, .int .i64 g.ask.sch, .string g.ask.realm, .string g.ask.nonce, .string g.ask.opq, .bool g.ask.sess, .string g.ask.qop, .bool g.ask.stale, .slice dp n c, .int .i64 g.count, .slice pp m c'] 34 (0, 0)) ∧ w1.heap[w.heap.size + 1]? = some (.cells #[.bool g.org.sec, .string g.org.host, .int .i64 g.org.port, .bool g.proxy, .string g.user, .string g.pass, .int .i64 g.ask.sch, .string g.ask.realm, .string g.ask.nonce, .string g.ask.opq, .bool g.ask.sess, .string g.ask.qop, .bool g.ask.stale, .slice dq n d, .int .i64 g.count, .slice pq m d'] 34 (0, 0))) :=
    ⟨HB.out.1.trans (hb1.mono HB.out.1.size), (hb1.block _ (Array.getElem?_eq_some_iff.1 HB.out.2.1).1).trans HB.out.2.1, (hb1.block _ (Array.getElem?_eq_some_iff.1 HB.out.2.2).1).trans HB.out.2.2⟩
  clear hask hb1 HB c0 d0 c1 d1 c2 d2 c3 d3 c4 d4 c5 d5 c6 d6 c7 d7 c8 d8 c9 d9 c10 d10 c11 d11 c12 d12 c13 d13 c14 d14 c15 d15
  have c14 := cell_of (i := 14) HB1.out.2.1
  have c15 := cell_of (i := 15) HB1.out.2.1
  have d14 := cell_of (i := 14) HB1.out.2.2
  have d15 := cell_of (i := 15) HB1.out.2.2
  simp only [List.getElem?_toArray, List.getElem?_cons_zero, List.getElem?_cons_succ] at c14 c15 d14 d15
  have hm : m ≤ 1000000 := by have := HS.out.2.2.1.len_eq; have := HS.out.2.2.2.2.2; omega
  have heq := equal_same pp pq m c' rb ro d' sb so g.paths w1 hm (HS.out.2.2.1.below HB1.out.1) (HS.out.2.2.2.1.below HB1.out.1)
  go_wp2_with fail
  refine heq.mono ?_
  rintro e w2 ⟨rfl, z, rfl⟩
  have HZ : Hid (Below w.heap.size w (w1.drewN z)) := drewN_at HB1.out.1 z
  clear heq c14 c15 d14 d15
  go_wp2
  go_ret
  exact ⟨rfl, HZ.out⟩
end Go.Proofs.YtemlclgdgnfhnaaDoor

/- slices.EqualFunc of two rows of grants of which each two are the same. -/
namespace Go.Proofs.YtemlclgdgnfhnaaDoor
open Go.RowKit
set_option linter.unusedVariables false

set_option maxRecDepth 100000 in
set_option maxHeartbeats 4000000 in
theorem eqf_of (P : Program) (hf : P.funcs[14]? = some Tryd.f14)
    (tS : P.underlying 22 = some (TypeDesc.slice 34)) (aS : ∀ w, (isAgg 22).run P w = .ok false w) (zS : ∀ w, (Go.sizeOf 22).run P w = .ok 1 w)
    (t3 : P.underlying 3 = some (TypeDesc.int IntKind.i64)) (a3 : ∀ w, (isAgg 3).run P w = .ok false w) (z3 : ∀ w, (Go.sizeOf 3).run P w = .ok 1 w) (v3 : ∀ w, (zeroValue 3).run P w = .ok (Value.int IntKind.i64 0) w)
    (t4 : P.underlying 4 = some TypeDesc.bool) (a4 : ∀ w, (isAgg 4).run P w = .ok false w) (z4 : ∀ w, (Go.sizeOf 4).run P w = .ok 1 w)
    (k : Nat) (hk0 : 0 < k) (aE : ∀ w, (isAgg 34).run P w = .ok true w) (zE : ∀ w, (Go.sizeOf 34).run P w = .ok k w) (zc : Array Value) (vE : ∀ w, (zeroValue 34).run P w = .ok (.agg zc) w) (hzc : zc.size = k)
    (g n cap B : Nat) (xs ys : List (List Value)) (hn : xs.length = n) (hn2 : ys.length = n) (hbig : n ≤ 1000) (w : World) (hown : OwnK k 34 w B (.slice (some ⟨g, 0, none⟩) n cap) xs)
    (g2 cap2 B2 : Nat) (hown2 : OwnK k 34 w B2 (.slice (some ⟨g2, 0, none⟩) n cap2) ys)
    (fn : Nat) (eg : ∀ args w, (callFunc fn args).run P w = .ok (.enter fn args) w)
    (hm : ∀ W (j : Nat) x y, xs[j]? = some x → ys[j]? = some y → Below w.heap.size w W → Calls P fn #[.agg x.toArray, .agg y.toArray] W fun e w' => e = .returned (.bool true) ∧ Below W.heap.size W w') :
    Calls P 14 #[.slice (some ⟨g, 0, none⟩) n cap, .slice (some ⟨g2, 0, none⟩) n cap2, .func (.func fn) #[] #[]] w fun e w' => e = .returned (.bool true) ∧ Below w.heap.size w w' := by
  have HO : Hid (OwnK k 34 w B (.slice (some ⟨g, 0, none⟩) n cap) xs ∧ OwnK k 34 w B2 (.slice (some ⟨g2, 0, none⟩) n cap2) ys) := ⟨hown, hown2⟩
  have HN : Hid (xs.length = n ∧ ys.length = n) := ⟨hn, hn2⟩
  have HM : Hid (∀ W (j : Nat) x y, xs[j]? = some x → ys[j]? = some y → Below w.heap.size w W → Calls P fn #[.agg x.toArray, .agg y.toArray] W fun e w' => e = .returned (.bool true) ∧ Below W.heap.size W w') := hm
  have HZ : Hid (zc.size = k) := hzc
  clear hown hown2 hn hn2 hm hzc
  go_enter hf, Tryd.ntmps14
  go_wp2
  go_loopw [17] (fun i wr => ∃ kk : Nat, kk ≤ n ∧ i = .int .i64 kk ∧ Hid (Below w.heap.size w wr)) (fun i _ => n - (intOf i).toNat)
  case atStart => exact ⟨0, Nat.zero_le _, rfl, Below.refl _ _⟩
  case round =>
    obtain ⟨kk, hkk, rfl, HI⟩ := hrel
    by_cases hlt : kk < n
    · have hltz : (kk : Int) < (n : Int) := by omega
      obtain ⟨x, hx⟩ : ∃ x, xs[kk]? = some x := ⟨xs[kk]'(by have := HN.out; omega), List.getElem?_eq_getElem _⟩
      obtain ⟨y, hy⟩ : ∃ y, ys[kk]? = some y := ⟨ys[kk]'(by have := HN.out; omega), List.getElem?_eq_getElem _⟩
      have hxl : x.length = k := HO.out.1.len x (List.mem_of_getElem? hx)
      have hyl : y.length = k := HO.out.2.len y (List.mem_of_getElem? hy)
      have hx1 : ∀ u ∈ x, u.oneCell' = true := HO.out.1.one x (List.mem_of_getElem? hx)
      have hy1 : ∀ u ∈ y, u.oneCell' = true := HO.out.2.one y (List.mem_of_getElem? hy)
      have l1 := (HO.out.1.below HI.out).load P hx
      have hb1 : Below wr.heap.size wr (wr.alloc (.cells x.toArray 34)) := (Below.refl _ _).alloc (Nat.le_refl _) _
      have s1 := run_boxed P wr zc 34 x (by rw [HZ.out, hxl]) hx1
      have HB1 : Hid (Below w.heap.size w (wr.alloc (.cells x.toArray 34))) := HI.out.trans (hb1.mono HI.out.size)
      have l2 := (HO.out.2.below HB1.out).load P hy
      have hb2 : Below (wr.alloc (.cells x.toArray 34)).heap.size (wr.alloc (.cells x.toArray 34)) ((wr.alloc (.cells x.toArray 34)).alloc (.cells y.toArray 34)) := (Below.refl _ _).alloc (Nat.le_refl _) _
      have s2 := run_boxed P (wr.alloc (.cells x.toArray 34)) zc 34 y (by rw [HZ.out, hyl]) hy1
      have l3 := run_unboxed P (w := wr.alloc (.cells x.toArray 34)) (w' := (wr.alloc (.cells x.toArray 34)).alloc (.cells y.toArray 34)) (b := wr.heap.size) hxl (heap_alloc_new wr _) hb2
      have l4 := run_unboxed P (w := (wr.alloc (.cells x.toArray 34)).alloc (.cells y.toArray 34)) (w' := (wr.alloc (.cells x.toArray 34)).alloc (.cells y.toArray 34)) (b := (wr.alloc (.cells x.toArray 34)).heap.size) hyl (heap_alloc_new _ _) (Below.refl _ _)
      have HB2 : Hid (Below w.heap.size w ((wr.alloc (.cells x.toArray 34)).alloc (.cells y.toArray 34))) := HB1.out.trans (hb2.mono HB1.out.size)
      have hcall := HM.out _ kk x y hx hy HB2.out
      have hxa : x.toArray.size = k := by simp [hxl]
      have hya : y.toArray.size = k := by simp [hyl]
      clear hx hy hb1 hb2 hx1 hy1
      generalize hWX : wr.alloc (.cells x.toArray 34) = WX at s1 l2 l3 l4 s2 HB1 HB2 hcall
      generalize hWY : WX.alloc (.cells y.toArray 34) = WY at s2 l3 l4 HB2 hcall
      go_wp2_with (go_at_fn fn; refine hcall.mono ?_; rintro e w2 ⟨rfl, hb3⟩)
      go_roundw
      case rel => exact ⟨kk + 1, by omega, by go_num, HB2.out.trans (hb3.mono HB2.out.size)⟩
      case measure => simp [intOf]; omega
    · have hltz : ¬ (kk : Int) < (n : Int) := by omega
      go_wp2
      go_ret
      exact ⟨rfl, HI.out⟩
set_option maxHeartbeats 2000000 in
theorem eqf_zero (w : World) (p q : Option Addr) (c d : Nat) (F : Value) : Calls Tryd.prog 14 #[.slice p 0 c, .slice q 0 d, F] w fun e w' => e = .returned (.bool true) ∧ w' = w := by
  go_enter Tryd.func14, Tryd.ntmps14
  go_wp2
  refine wp_loop_rounds 1 ?_
  rw [rounds_succ]
  go_wp2
  go_ret
  exact ⟨rfl, rfl⟩
/-- Two rows of the same grants are equal, each two by sameGrant. -/
theorem eqf_same (v1 v2 : Value) (us vs : List GrV) (B B2 : Nat) (w : World) (h1 : OwnK 16 34 w B v1 (us.map grCells)) (h2 : OwnK 16 34 w B2 v2 (vs.map grCells)) (hs : us.map (·.g) = vs.map (·.g)) (ho1 : ∀ u ∈ us, GrOwn w B u) (ho2 : ∀ v ∈ vs, GrOwn w B2 v)
    (hd : ∀ v ∈ vs, v.g.ask.dom.length ≤ 1000 ∧ v.g.paths.length ≤ 1000) (hl : vs.length ≤ 1000) :
    Calls Tryd.prog 14 #[v1, v2, .func (.func 15) #[] #[]] w fun e w' => e = .returned (.bool true) ∧ Below w.heap.size w w' := by
  have hlen : us.length = vs.length := by have := congrArg List.length hs; rwa [List.length_map, List.length_map] at this
  rcases h1.forms with ⟨e1, e2⟩ | ⟨g, cap, e1, _, _, _, _⟩
  · subst e1
    have hu : us = [] := List.map_eq_nil_iff.1 e2
    have hv : vs.length = 0 := by rw [← hlen, hu]; rfl
    rcases h2.forms with ⟨f1, _⟩ | ⟨g2, cap2, f1, _, _, _, _⟩
    · subst f1
      refine (eqf_zero w _ _ _ _ _).mono ?_
      rintro e w' ⟨rfl, rfl⟩
      exact ⟨rfl, Below.refl _ _⟩
    · rw [List.length_map, hv] at f1
      subst f1
      refine (eqf_zero w _ _ _ _ _).mono ?_
      rintro e w' ⟨rfl, rfl⟩
      exact ⟨rfl, Below.refl _ _⟩
  · rcases h2.forms with ⟨f1, f2⟩ | ⟨g2, cap2, f1, _, _, _, _⟩
    · subst f1
      have hv : vs = [] := List.map_eq_nil_iff.1 f2
      rw [List.length_map, hlen, hv] at e1
      subst e1
      refine (eqf_zero w _ _ _ _ _).mono ?_
      rintro e w' ⟨rfl, rfl⟩
      exact ⟨rfl, Below.refl _ _⟩
    · rw [List.length_map, hlen] at e1
      rw [List.length_map] at f1
      subst e1 f1
      refine eqf_of Tryd.prog Tryd.func14 Tryd.underlying22 Tryd.isAgg22 Tryd.sizeOf22 Tryd.underlying3 Tryd.isAgg3 Tryd.sizeOf3 Tryd.zeroValue3 Tryd.underlying4 Tryd.isAgg4 Tryd.sizeOf4 16 (by omega) Tryd.isAgg34 Tryd.sizeOf34 _ Tryd.zeroValue34 rfl g _ cap B _ _ (by rw [List.length_map, hlen]) (by rw [List.length_map]) hl w h1 g2 cap2 B2 h2 15 (enters_at Tryd.func15 (by kernel_rfl) rfl) (fun W j x y hx hy hb => ?_)
      rw [List.getElem?_map] at hx hy
      obtain ⟨u, hu, rfl⟩ := Option.map_eq_some_iff.1 hx
      obtain ⟨v, hv, rfl⟩ := Option.map_eq_some_iff.1 hy
      have hg : u.g = v.g := by
        have := congrArg (fun l : List GrP => l[j]?) hs
        simp only [List.getElem?_map, hu, hv, Option.map_some, Option.some.injEq] at this
        exact this
      obtain ⟨da, dc, dg, hdv, hds⟩ := ((ho1 u (List.mem_of_getElem? hu)).below hb).dom.strs
      obtain ⟨pa, pc, pg, hpv, hps⟩ := ((ho1 u (List.mem_of_getElem? hu)).below hb).paths.strs
      obtain ⟨ea, ec, eg, hev, hes⟩ := ((ho2 v (List.mem_of_getElem? hv)).below hb).dom.strs
      obtain ⟨qa, qc, qg, hqv, hqs⟩ := ((ho2 v (List.mem_of_getElem? hv)).below hb).paths.strs
      rw [hg] at hdv hds hpv hps
      have hc := sameGrant_yes v.g da ea pa qa _ dc ec dg 0 eg 0 _ pc qc pg 0 qg 0 W hds hes hps hqs (hd v (List.mem_of_getElem? hv))
      rw [← hdv, ← hev, ← hpv, ← hqv] at hc
      unfold grCells
      rw [hg]
      exact hc
end Go.Proofs.YtemlclgdgnfhnaaDoor

/- Rows of a call's own that hold the same grants. -/
namespace Go.Proofs.YtemlclgdgnfhnaaDoor
open Go.RowKit
set_option linter.unusedVariables false

theorem fit_small {g : GrP} (h : GrFit g) : g.ask.dom.length ≤ 1000 ∧ g.paths.length ≤ 1000 := ⟨h.2.2.2.1.2.2.2.2.1, h.2.2.2.2.1⟩
/-- Rows of a call's own that hold the same grants. -/
structure RowG (w : World) (B : Nat) (v : Value) (us : List GrV) (l : List GrP) : Prop where
  own : OwnK 16 34 w B v (us.map grCells)
  is : us.map (·.g) = l
  each : ∀ u ∈ us, GrOwn w B u
theorem RowG.below {w w' : World} {B : Nat} {v : Value} {us : List GrV} {l : List GrP} (h : RowG w B v us l) (hb : Below w.heap.size w w') : RowG w' B v us l := ⟨h.own.below hb, h.is, fun u hu => (h.each u hu).below hb⟩
theorem eqf_rows {v1 v2 : Value} {us vs : List GrV} {B B2 : Nat} {l : List GrP} (w : World) (h1 : RowG w B v1 us l) (h2 : RowG w B2 v2 vs l) (hf : ∀ g ∈ l, g.ask.dom.length ≤ 1000 ∧ g.paths.length ≤ 1000) (hl : l.length ≤ 1000) :
    Calls Tryd.prog 14 #[v1, v2, .func (.func 15) #[] #[]] w fun e w' => e = .returned (.bool true) ∧ Below w.heap.size w w' :=
  eqf_same v1 v2 us vs B B2 w h1.own h2.own (h1.is.trans h2.is.symm) h1.each h2.each (fun v hv => hf v.g (by rw [← h2.is]; exact List.mem_map.2 ⟨v, hv, rfl⟩)) (by rw [← List.length_map (f := (·.g)), h2.is]; exact hl)
theorem row_keep {w w' : World} {B : Nat} {t : TypeId} {k : Nat} {v : Value} {n : Nat} {us : List Value} (h : w.ownsRow B t k v n us) (hk : ∀ x, B ≤ x → x < w.heap.size → w'.heap[x]? = w.heap[x]?) : w'.ownsRow B t k v n us := by
  refine ⟨h.1, ?_⟩
  rcases h.2 with h0 | ⟨g, cap, cur, e, hB, hh, hr⟩
  · exact .inl h0
  · exact .inr ⟨g, cap, cur, e, hB, (hk g hB (Array.getElem?_eq_some_iff.1 hh).1).trans hh, hr⟩
theorem RowG.keep {w w' : World} {B : Nat} {v : Value} {us : List GrV} {l : List GrP} (h : RowG w B v us l) (hk : ∀ x, B ≤ x → x < w.heap.size → w'.heap[x]? = w.heap[x]?) : RowG w' B v us l :=
  ⟨⟨row_keep h.own.row hk, h.own.len, h.own.one⟩, h.is, fun u hu => ⟨row_keep (h.each u hu).dom hk, row_keep (h.each u hu).paths hk⟩⟩
theorem RowG.step {w w' : World} {B b : Nat} {v gv wv gv' wv' : Value} {us : List GrV} {l : List GrP} (h : RowG w B v us l) (hs : BankStep b gv wv w w' gv' wv') (hb : b < B) (hg : ∀ x, gv.ownBlock = some x → x < B) (hw : ∀ x, wv.ownBlock = some x → x < B) : RowG w' B v us l :=
  h.keep fun x hx hl => (hs.keep x hl (by omega) (fun e => by have := hg x e; omega) (fun e => by have := hw x e; omega)).1
end Go.Proofs.YtemlclgdgnfhnaaDoor

/- How far the grant reaches that is found. -/
namespace Go.Proofs.YtemlclgdgnfhnaaDoor
open Go.RowKit
set_option linter.unusedVariables false

/-- What stands behind some of a row, of the farthest. -/
def FarI (p : List Int) (s : Int × Int) : Prop := (s.1 = -1 ∧ s.2 = 0 ∧ ∀ r ∈ p, r < 0) ∨ ∃ k : Nat, s.1 = k ∧ p[k]? = some s.2 ∧ 0 ≤ s.2 ∧ ∀ r ∈ p, r ≤ s.2
theorem farGo_inv : ∀ (l p : List Int) (s : Int × Int), FarI p s → FarI (p ++ l) (farGo l p.length s)
  | [], p, s, h => by rw [List.append_nil]; exact h
  | r :: t, p, s, h => by
    have key : FarI (p ++ [r]) (if s.2 ≤ r then ((p.length : Int), r) else s) := by
      by_cases hc : s.2 ≤ r
      · rw [if_pos hc]
        refine .inr ⟨p.length, rfl, by simp, ?_, fun x hx => ?_⟩
        · rcases h with ⟨_, h2, _⟩ | ⟨k, _, _, h3, _⟩
          · show 0 ≤ r; omega
          · show 0 ≤ r; omega
        · show x ≤ r
          rcases List.mem_append.1 hx with hx | hx
          · rcases h with ⟨_, h2, h3⟩ | ⟨k, _, _, h3, h4⟩
            · have := h3 x hx; omega
            · have := h4 x hx; omega
          · rw [List.mem_singleton.1 hx]; exact Int.le_refl _
      · rw [if_neg hc]
        rcases h with ⟨h1, h2, h3⟩ | ⟨k, h1, h2, h3, h4⟩
        · refine .inl ⟨h1, h2, fun x hx => ?_⟩
          rcases List.mem_append.1 hx with hx | hx
          · exact h3 x hx
          · rw [List.mem_singleton.1 hx]; omega
        · refine .inr ⟨k, h1, ?_, h3, fun x hx => ?_⟩
          · rw [List.getElem?_append_left (List.getElem?_eq_some_iff.1 h2).1]; exact h2
          · rcases List.mem_append.1 hx with hx | hx
            · exact h4 x hx
            · rw [List.mem_singleton.1 hx]; omega
    have := farGo_inv t (p ++ [r]) _ key
    rw [List.append_assoc, List.length_append] at this
    exact this
theorem fold_ge (path : ByteArray) : ∀ (l : List ByteArray) (m : Int), -1 ≤ m → -1 ≤ l.foldl (farStep path) m
  | [], m, h => h
  | s :: l, m, h => fold_ge path l _ (by unfold farStep; split <;> omega)
theorem reach_ge (o : OrgV) (p : Bool) (path : ByteArray) (g : GrP) : -1 ≤ reachI o p path g := by
  unfold reachI
  split
  · exact fold_ge path _ _ (Int.le_refl _)
  · exact Int.le_refl _
theorem reach_zero (o : OrgV) (p : Bool) (path : ByteArray) : reachI o p path zeroP = -1 := by
  unfold reachI
  split <;> rfl
/-- The grant that counts reaches farthest. -/
theorem find_far (G : List GrP) (o : OrgV) (p : Bool) (path : ByteArray) : (0 ≤ findI G o p path → 0 ≤ reachI o p path (toldL G (findI G o p path))) ∧ ∀ g ∈ G, reachI o p path g ≤ reachI o p path (toldL G (findI G o p path)) := by
  have h := farGo_inv (G.map (reachI o p path)) [] (-1, 0) (.inl ⟨rfl, rfl, fun r hr => by cases hr⟩)
  rw [List.nil_append] at h
  have hI : findI G o p path = (farGo (G.map (reachI o p path)) 0 (-1, 0)).1 := rfl
  rw [hI]
  simp only [List.length_nil] at h
  rcases h with ⟨h1, _, h3⟩ | ⟨k, h1, h2, h3, h4⟩
  · rw [h1]
    refine ⟨fun h => absurd h (by decide), fun g hg => ?_⟩
    have := h3 _ (List.mem_map.2 ⟨g, hg, rfl⟩)
    have hz : toldL G (-1) = zeroP := rfl
    rw [hz, reach_zero]
    omega
  · rw [h1]
    rw [List.getElem?_map] at h2
    obtain ⟨g, hg, hr⟩ := Option.map_eq_some_iff.1 h2
    have ht : toldL G (k : Int) = g := by
      unfold toldL
      rw [if_neg (by omega), Int.toNat_natCast, hg]
      rfl
    rw [ht, hr]
    exact ⟨fun _ => h3, fun x hx => h4 _ (List.mem_map.2 ⟨x, hx, rfl⟩)⟩
theorem told_fit {l : List GrP} {i : Int} (h : ∀ y ∈ l, y.paths.length ≤ 1000) : (toldL l i).paths.length ≤ 1000 := by
  unfold toldL
  split
  · decide
  · cases hx : l[i.toNat]? with
    | none => decide
    | some y => exact h y (List.mem_of_getElem? hx)
end Go.Proofs.YtemlclgdgnfhnaaDoor

/- Grants of a bank stand apart by their realms. -/
namespace Go.Proofs.YtemlclgdgnfhnaaDoor
open Go.RowKit
set_option linter.unusedVariables false

theorem orgB_comm (a b : OrgV) : orgB a b = orgB b a := by
  unfold orgB
  rw [Bool.eq_iff_iff]
  simp only [Bool.and_eq_true, beq_iff_eq]
  constructor <;> (rintro ⟨h1, h2, h3⟩; exact ⟨h1.symm, h2.symm, h3.symm⟩)
theorem realmP_comm (x y : GrP) : realmP x y = realmP y x := by
  unfold realmP realmB
  rw [orgB_comm]
  congr 1
  rw [Bool.eq_iff_iff]
  simp only [Bool.and_eq_true, beq_iff_eq]
  constructor <;> (rintro ⟨h1, h2⟩; exact ⟨h1.symm, h2.symm⟩)
def Apart (l : List GrP) : Prop := l.Pairwise fun x y => realmP y x = false
theorem apart_put {l : List GrP} (h : Apart l) (g : GrP) : Apart (putL l g) := by
  unfold putL last8 Apart
  refine List.Pairwise.sublist (List.drop_sublist _ _) ?_
  rw [List.pairwise_append]
  refine ⟨List.Pairwise.sublist List.filter_sublist h, List.pairwise_singleton _ _, fun x hx y hy => ?_⟩
  obtain rfl := List.mem_singleton.1 hy
  have h2 := (List.mem_filter.1 hx).2
  simpa using h2
theorem apart_fold (l : List GrP) : ∀ a : List GrP, Apart a → Apart (l.foldl putL a) := by
  induction l with
  | nil => exact fun a h => h
  | cons g l ih => exact fun a h => ih _ (apart_put h g)
theorem apart_all (l : List GrP) : Apart (putAll l) := apart_fold l [] List.Pairwise.nil
theorem apart_at {l : List GrP} (h : Apart l) {i k : Nat} {x y : GrP} (hki : k < i) (hi : l[i]? = some x) (hk : l[k]? = some y) : realmP x y = false := by
  obtain ⟨h1, e1⟩ := List.getElem?_eq_some_iff.1 hi
  obtain ⟨h2, e2⟩ := List.getElem?_eq_some_iff.1 hk
  have := (List.pairwise_iff_getElem.1 h) k i h2 h1 hki
  rw [e1, e2] at this
  exact this
theorem put_last (l : List GrP) (g : GrP) : 0 < (putL l g).length ∧ (putL l g)[(putL l g).length - 1]? = some g := by
  unfold putL
  generalize l.filter (fun x => !realmP g x) = m
  unfold last8
  refine ⟨by simp [List.length_drop]; omega, ?_⟩
  rw [List.getElem?_drop, List.length_drop, List.length_append]
  simp only [List.length_singleton]
  rw [show m.length + 1 - 8 + (m.length + 1 - (m.length + 1 - 8) - 1) = m.length by omega, List.getElem?_append_right (Nat.le_refl _), Nat.sub_self]
  rfl
theorem all_last (l : List GrP) (g : GrP) (h : l[l.length - 1]? = some g) : 0 < (putAll l).length ∧ (putAll l)[(putAll l).length - 1]? = some g := by
  have hl : 0 < l.length := by have := (List.getElem?_eq_some_iff.1 h).1; omega
  obtain ⟨m, x, rfl⟩ : ∃ m x, l = m ++ [x] := ⟨l.dropLast, l.getLast (by intro e; rw [e] at hl; cases hl), (List.dropLast_concat_getLast _).symm⟩
  rw [List.length_append, List.length_singleton, Nat.add_sub_cancel, List.getElem?_append_right (Nat.le_refl _), Nat.sub_self] at h
  obtain rfl : x = g := by simpa using h
  rw [putAll_snoc]
  exact put_last _ _
end Go.Proofs.YtemlclgdgnfhnaaDoor

/- A grant that is used again and again. -/
namespace Go.Proofs.YtemlclgdgnfhnaaDoor
open Go.RowKit
set_option linter.unusedVariables false

/-- The last one counts, if none reaches farther. -/
theorem find_last (A : List GrP) (x : GrP) (o : OrgV) (p : Bool) (path : ByteArray) (h0 : 0 ≤ reachI o p path x) (h : ∀ y ∈ A, reachI o p path y ≤ reachI o p path x) : findI (A ++ [x]) o p path = (A.length : Int) := by
  have hf := farGo_inv (A.map (reachI o p path)) [] (-1, 0) (.inl ⟨rfl, rfl, fun r hr => by cases hr⟩)
  rw [List.nil_append, List.length_nil] at hf
  unfold findI farI
  rw [List.map_append, List.map_singleton, farGo_snoc, List.length_map]
  have h2 : (farGo (A.map (reachI o p path)) 0 (-1, 0)).2 ≤ reachI o p path x := by
    rcases hf with ⟨_, e, _⟩ | ⟨k, _, e, _, _⟩
    · rw [e]
      exact h0
    · rw [List.getElem?_map] at e
      obtain ⟨y, hy, e2⟩ := Option.map_eq_some_iff.1 e
      rw [← e2]
      exact h y (List.mem_of_getElem? hy)
  rw [if_pos h2]
  simp
theorem reach_more (o : OrgV) (p : Bool) (path : ByteArray) (g : GrP) : reachI o p path (moreP g) = reachI o p path g := rfl
/-- Used again: it is the last one still, and counted. -/
theorem use_next (A : List GrP) (x : GrP) (o : OrgV) (p : Bool) (path : ByteArray) (h0 : 0 ≤ reachI o p path x) (h : ∀ y ∈ A, reachI o p path y ≤ reachI o p path x) (hc : x.count < maxCnt) : useL (A ++ [x]) (findI (A ++ [x]) o p path) = (A ++ [moreP x], moreP x, 0) := by
  rw [find_last A x o p path h0 h]
  unfold useL
  rw [if_neg (by omega), Int.toNat_natCast, List.getElem?_concat_length, Option.getD_some, if_neg (by omega)]
  simp [List.eraseIdx_append_of_length_le]
/-- Used first: it is the last one then, and of those that are left none reaches farther. -/
theorem use_first (l : List GrP) (o : OrgV) (p : Bool) (path : ByteArray) {k : Nat} {g : GrP} (hk : findI l o p path = (k : Int)) (hg : l[k]? = some g) (hc : g.count < maxCnt) : useL l (findI l o p path) = (l.eraseIdx k ++ [moreP g], moreP g, 0) ∧ 0 ≤ reachI o p path g ∧ ∀ y ∈ l.eraseIdx k, reachI o p path y ≤ reachI o p path g := by
  have hf := find_far l o p path
  have ht : toldL l (k : Int) = g := by
    unfold toldL
    rw [if_neg (by omega), Int.toNat_natCast, hg]
    rfl
  rw [hk, ht] at hf
  refine ⟨?_, hf.1 (by omega), fun y hy => hf.2 y (List.mem_of_mem_eraseIdx hy)⟩
  rw [hk]
  unfold useL
  rw [if_neg (by omega), Int.toNat_natCast, hg, Option.getD_some, if_neg (by omega)]
theorem realmP_self (g : GrP) : realmP g g = true := by
  unfold realmP realmB orgB
  simp
/-- Without the grants of its realm: without it. -/
theorem apart_rest : ∀ (l : List GrP) (k : Nat) (g : GrP), Apart l → l[k]? = some g → l.filter (fun x => !realmP g x) = l.eraseIdx k
  | [], k, g, _, h => by simp at h
  | a :: t, 0, g, hp, h => by
    obtain rfl : a = g := by simpa using h
    have h2 := List.pairwise_cons.1 hp
    rw [List.filter_cons_of_neg (by simp [realmP_self]), List.eraseIdx_cons_zero, List.filter_eq_self]
    intro x hx
    rw [realmP_comm, h2.1 x hx]
    rfl
  | a :: t, k + 1, g, hp, h => by
    have h2 := List.pairwise_cons.1 hp
    have hm : t[k]? = some g := by simpa using h
    rw [List.filter_cons_of_pos (by rw [h2.1 g (List.mem_of_getElem? hm)]; rfl), List.eraseIdx_cons_succ, apart_rest t k g h2.2 hm]
end Go.Proofs.YtemlclgdgnfhnaaDoor

/- BankCounts: a row of a call's own without a realm's grants. -/
namespace Go.Proofs.YtemlclgdgnfhnaaDoor
open Go.RowKit
set_option linter.unusedVariables false

theorem cntDel {s s2 a : Nat} {us : List GrV} {l : List GrP} {bv : Value} {x : GrV} (hl : us.length ≤ 1000) (w : World) (hown : OwnK 16 34 w s bv (us.map grCells)) (his : us.map (·.g) = l) (hea : ∀ u ∈ us, GrOwn w s2 u) (hx : w.heap[a]? = some (.cells (grCells x).toArray 34 (0, 0))) (hne : bv.ownBlock ≠ some a) :
    Calls Tryd.prog 16 #[bv, .func (.func 18) #[] #[.pointer (some ⟨a, 0, none⟩)]] w fun e w' => ∃ p m c, e = .returned (.slice p m c) ∧ Hid (OwnK 16 34 w' s (.slice p m c) ((us.filter (fun v => !realmP x.g v.g)).map grCells) ∧ (us.filter (fun v => !realmP x.g v.g)).map (·.g) = l.filter (fun v => !realmP x.g v) ∧ (∀ u ∈ us.filter (fun v => !realmP x.g v.g), GrOwn w' s2 u) ∧ w.grownBy w' bv.ownBlock) := by
  have hp : PredK Tryd.prog 18 #[.pointer (some ⟨a, 0, none⟩)] (onG (fun o' p' r' => orgB o' x.g.org && (p' == x.g.proxy && r'.toList == x.g.ask.realm.toList))) (us.map grCells) w bv.ownBlock := by
    intro W y hm hg
    obtain ⟨v, hv, rfl⟩ := List.mem_map.1 hm
    exact cntTwo v x a W ((hg.block a (Array.getElem?_eq_some_iff.1 hx).1 (fun e => hne e.symm)).trans hx)
  have hml : (us.filter (fun v => !realmP x.g v.g)).map (·.g) = l.filter (fun v => !realmP x.g v) := by
    rw [← his, List.filter_map]
    rfl
  rcases hown.forms with ⟨e, e2⟩ | ⟨g, cap, e, _, _, _, _⟩
  · subst e
    refine (dlfG_none _ _).mono ?_
    rintro e w' ⟨rfl, rfl⟩
    have h0 : us = [] := List.map_eq_nil_iff.1 e2
    subst h0
    exact ⟨_, _, _, rfl, ⟨hown, hml, hea, ⟨rfl, rfl, rfl, Nat.le_refl _, fun _ _ _ => rfl⟩⟩⟩
  · subst e
    refine (dlfG_any g _ cap s _ rfl (by rw [List.length_map]; omega) w hown _ _ _ (enters_at Tryd.func18 (by kernel_rfl) rfl) hp).mono ?_
    rintro e w' ⟨m, rfl, H⟩
    obtain ⟨h1, h2, h3⟩ := H.out
    rw [filt_map] at h1
    exact ⟨_, _, _, rfl, ⟨h1, hml, fun u hu => (hea u (List.mem_filter.1 hu).1).other h3 hown.typed (by decide), h3⟩⟩
end Go.Proofs.YtemlclgdgnfhnaaDoor

/- A row of grants cloned by the library's own function. -/
namespace Go.Proofs.YtemlclgdgnfhnaaDoor
open Go.RowKit Go.Shelf
set_option linter.unusedVariables false

theorem sliceNilG (p : Addr) (n c : Nat) (w : World) : (binOp .eql 22 (.slice (some p) n c) (.slice none 0 0)).run Tryd.prog w = .ok (.bool false) w := by kernel_rfl
theorem appendG_none (W : World) (ty : TypeId) (base a : Option Addr) (sl sc c : Nat) (hle : sl ≤ sc) : (Builtin.append_ #[22, 22] ty #[.slice base sl sc, .slice a 0 c]).run Tryd.prog W = .ok (.slice base sl sc) W := by
  obtain ⟨i0, hi0, hz0, hz1, hz2⟩ := info_parts infoE
  refine run_append_nothing W 22 22 ty 34 i0 Tryd.underlying22 hi0 base sl sc hle _ ?_
  cases a with
  | none => exact Src.ofNil _ Tryd.underlying22 c
  | some a => exact Src.ofSlice _ Tryd.underlying22 a 0 c [] (by simp) (fun j u h => by simp at h) (fun u h => absurd h (by simp))
/-- A row that is owned behind one that is owned. -/
theorem wp_apprG {ops : Array Oper} {rest : List Oper} {o : Oper} {a : Act} {Q : Exit → Act → World → Prop} (hgd : o.guard = none) (s x : Operand)
    (ho : o.op = .call { callee := .builtin .append, args := #[s, x], argTypes := #[22, 22] })
    (B : Nat) (wr : World) (v : Value) (xs : List (List Value)) (hs : a.eval s = v) (hown : OwnK 16 34 wr B v xs) (hl : xs.length ≤ 1000) (hB : B ≤ wr.heap.size)
    (g m c B2 : Nat) (ys : List (List Value)) (hx : a.eval x = .slice (some ⟨g, 0, none⟩) m c) (hy : OwnK 16 34 wr B2 (.slice (some ⟨g, 0, none⟩) m c) ys) (hym : ys.length = m) (hm : m ≤ 1000)
    (h : ∀ v' w', OwnK 16 34 w' B v' (xs ++ ys) → wr.grownBy w' v.ownBlock → wpList Tryd.prog ops Q rest (a.put o.dst v') w') :
    wpList Tryd.prog ops Q (o :: rest) a wr := by
  obtain ⟨i0, hi0, hz0, hz1, hz2⟩ := info_parts infoE
  by_cases h0 : m = 0
  · subst h0
    have e : ys = [] := List.eq_nil_of_length_eq_zero hym
    subst e
    rcases hown.row.2 with ⟨rfl, hz⟩ | ⟨g, cap, cur, rfl, _, _, hle, _⟩
    · refine Lib.wpList_append_run _ hgd s x _ _ ho _ _ hs hx _ _ (appendG_none wr _ none _ 0 0 c (Nat.le_refl _)) (h _ _ ?_ (World.grownBy.refl _ _))
      rw [List.append_nil]
      exact hown
    · refine Lib.wpList_append_run _ hgd s x _ _ ho _ _ hs hx _ _ (appendG_none wr _ _ _ _ _ c hle) (h _ _ ?_ (World.grownBy.refl _ _))
      rw [List.append_nil]
      exact hown
  · refine wpList_append_lies _ hgd s x 22 ho B 34 i0 (.agg #[.bool false, .string ⟨#[]⟩, .int .i64 0, .bool false, .string ⟨#[]⟩, .string ⟨#[]⟩, .int .i64 0, .string ⟨#[]⟩, .string ⟨#[]⟩, .string ⟨#[]⟩, .bool false, .string ⟨#[]⟩, .bool false, .slice none 0 0, .int .i64 0, .slice none 0 0]) 16 216 Tryd.underlying22 hi0 hz0 hz1 hz2 rfl (by omega) v xs.length _ hs hown.row ⟨g, 0, none⟩ m c ys.flatten hx (by rw [flat_len hy.len, hym])
      (fun j u hu => ?_) (fun u hu => ?_) (by omega) (by unfold maxLen; omega) (by omega) hB _ rfl ?_
    · exact World.ownsRow.cells hy.row (g := g) rfl j u hu
    · obtain ⟨x, hx1, hx2⟩ := List.mem_flatten.1 hu
      exact hy.one x hx1 u hx2
    · intro g cap w' hown1 hgrow _ hlt
      refine h _ w' ⟨?_, fun x hx => ?_, fun x hx => ?_⟩ hgrow
      · rw [List.length_append, List.flatten_append, hym]
        exact hown1
      · rcases List.mem_append.1 hx with h1 | h1
        · exact hown.len x h1
        · exact hy.len x h1
      · rcases List.mem_append.1 hx with h1 | h1
        · exact hown.one x h1
        · exact hy.one x h1
set_option maxRecDepth 100000 in
set_option maxHeartbeats 2000000 in
theorem cloneG_any (v : Value) (B : Nat) (us : List GrV) (l : List GrP) (hl : us.length ≤ 1000) (w : World) (hr : RowG w B v us l) :
    Calls Tryd.prog 17 #[v] w fun e w' => (∃ u, e = .returned u ∧ OwnK 16 34 w' w.heap.size u (us.map grCells)) ∧ Below w.heap.size w w' := by
  have hown := hr.own
  rcases OwnK.forms hown with ⟨rfl, e2⟩ | ⟨g, cap, rfl, _, _, _, _⟩
  · obtain rfl : us = [] := List.map_eq_nil_iff.1 e2
    have hn : ∀ w, (binOp .eql 22 (.slice none 0 0) (.slice none 0 0)).run Tryd.prog w = .ok (.bool true) w := fun w => by kernel_rfl
    clear hr hown
    go_enter Tryd.func17, Tryd.ntmps17
    go_wp2
    go_ret
    exact ⟨⟨_, rfl, ownK_nil _ _ _ _⟩, Below.refl _ _⟩
  · have hnl := fun (n c : Nat) (w : World) => sliceNilG ⟨g, 0, none⟩ n c w
    have hb0 : Below w.heap.size w (w.alloc (.cells #[] 34)) := (Below.refl _ _).alloc (Nat.le_refl _) _
    have hnew : OwnK 16 34 (w.alloc (.cells #[] 34)) w.heap.size (.slice (some ⟨w.heap.size, 0, none⟩) 0 0) [] :=
      ⟨⟨rfl, .inr ⟨w.heap.size, 0, #[], rfl, Nat.le_refl _, heap_alloc_new w _, Nat.le_refl _, Nat.zero_le _, rfl, rfl⟩⟩, fun x hx => (by cases hx), fun x hx => (by cases hx)⟩
    obtain ⟨n, HN⟩ : ∃ n, Hid ((us.map grCells).length = n) := ⟨_, rfl⟩
    have hn1 : n ≤ 1000 := by rw [← HN.out, List.length_map]; exact hl
    have HO : Hid (OwnK 16 34 (w.alloc (.cells #[] 34)) w.heap.size (.slice (some ⟨w.heap.size, 0, none⟩) 0 0) [] ∧ OwnK 16 34 (w.alloc (.cells #[] 34)) B (.slice (some ⟨g, 0, none⟩) (us.map grCells).length cap) (us.map grCells) ∧ Below w.heap.size w (w.alloc (.cells #[] 34))) := ⟨hnew, hown.below hb0, hb0⟩
    rw [HN.out] at HO ⊢
    clear hown hr hb0 hnew
    go_enter Tryd.func17, Tryd.ntmps17
    go_wp2_with (at_builtin; refine wp_apprG rfl _ _ rfl w.heap.size (w.alloc (.cells #[] 34)) (.slice (some ⟨w.heap.size, 0, none⟩) 0 0) [] rfl HO.out.1 (by simp) (by simp) _ _ _ B (us.map grCells) rfl HO.out.2.1 HN.out hn1 ?_; intro v2 w2 hown2 hg2; have HE : Hid (OwnK 16 34 w2 w.heap.size v2 (us.map grCells) ∧ Below w.heap.size w w2) := ⟨hown2, HO.out.2.2.grown hg2 HO.out.2.2.size (fun i hi => (OwnK.lt HO.out.1 i hi).1)⟩; clear hown2 hg2)
    go_ret
    exact ⟨⟨_, rfl, HE.out.1⟩, HE.out.2⟩
end Go.Proofs.YtemlclgdgnfhnaaDoor

/- One of n that a number stands for. -/
namespace Go.Proofs.YtemlclgdgnfhnaaDoor
open Go.RowKit

def pickI (a n : Int) : Int := (a % 18446744073709551616) % n
theorem pickI_in (a n : Int) (h : 0 < n) : 0 ≤ pickI a n ∧ pickI a n < n := ⟨Int.emod_nonneg _ (by omega), Int.emod_lt_of_pos _ h⟩
theorem u64_wrap (a : Int) : IntKind.u64.wrap a = a % 18446744073709551616 := rfl
theorem pick_eq (a n : Int) (hn : 0 < n) (hn2 : n ≤ 4611686018427387904) : wrap64 ((IntKind.u64.wrap a).tmod n) = pickI a n := by
  rw [u64_wrap, Int.tmod_eq_emod_of_nonneg (Int.emod_nonneg _ (by decide))]
  have h := pickI_in a n hn
  unfold pickI at *
  unfold wrap64
  omega
set_option maxRecDepth 100000 in
set_option maxHeartbeats 1000000 in
theorem pick_any (a n : Int) (_h0 : -9223372036854775808 ≤ a) (_h1 : a ≤ 9223372036854775807) (hn : 0 < n) (hn2 : n ≤ 4611686018427387904) (w : World) :
    Calls Tryd.prog 11 #[.int .i64 a, .int .i64 n] w fun e w' => e = .returned (.int .i64 (pickI a n)) ∧ w' = w := by
  go_enter Tryd.func11, Tryd.ntmps11
  go_wp2
  go_ret
  exact ⟨congrArg (fun x => Ending.returned (.int .i64 x)) (pick_eq a n hn hn2), rfl⟩
end Go.Proofs.YtemlclgdgnfhnaaDoor

/- Which number an error is, by errors.As: of no error, and of one that is such a number itself. -/
namespace Go.Proofs.YtemlclgdgnfhnaaDoor
open Go.RowKit Go.Extern.Stop Go.Stop Go.Extern

theorem asValueOfP (t : Addr) (w : World) : (ReflectliteValue.unpack (.iface 70 (.pointer (some t)))).run Tryd.prog w
    = .ok (.agg #[.pointer (some ⟨1, 70, none⟩), .pointer (some ⟨w.heap.size, 0, none⟩), .int .u64 150]) (w.alloc (.cells #[.pointer (some t)] 70)) := by kernel_rfl
theorem asTypeP (a : Addr) (w : World) : (ReflectliteValue.methodAny (ReflectliteValue.valueError "reflectlite.Value.Type" 0) (fun t _ _ _ => ReflectliteType.toType t) #[.agg #[.pointer (some ⟨1, 70, none⟩), .pointer (some a), .int .u64 150]]).run Tryd.prog w
    = .ok (.iface 94 (.agg #[.pointer (some ⟨1, 70, none⟩)])) w := by kernel_rfl
theorem asKindP (w : World) : ((ReflectliteType.abiMethod fun t => (fun a : Nat => Value.int IntKind.u8 (a : Int)) <$> Rtype.kind t) #[.pointer (some ⟨1, 70, none⟩)]).run Tryd.prog w = .ok (.int .u8 22) w := by kernel_rfl
theorem asKindE (w : World) : ((ReflectliteType.abiMethod fun t => (fun a : Nat => Value.int IntKind.u8 (a : Int)) <$> Rtype.kind t) #[.pointer (some ⟨1, 46, none⟩)]).run Tryd.prog w = .ok (.int .u8 2) w := by kernel_rfl
theorem asMKind (h : Value) (w : World) : (Go.method 241 94 (.agg #[h]) "Kind").run Tryd.prog w = .ok (68, h) w := by kernel_rfl
theorem asMElem (h : Value) (w : World) : (Go.method 241 94 (.agg #[h]) "Elem").run Tryd.prog w = .ok (79, .agg #[h]) w := by kernel_rfl
theorem asMImpl (h : Value) (w : World) : (Go.method 241 94 (.agg #[h]) "Implements").run Tryd.prog w = .ok (80, .agg #[h]) w := by kernel_rfl
theorem asMAssign (h : Value) (w : World) : (Go.method 241 94 (.agg #[h]) "AssignableTo").run Tryd.prog w = .ok (77, .agg #[h]) w := by kernel_rfl
theorem asPartsP (a : Addr) (w : World) : (ReflectliteValue.parts (.agg #[.pointer (some ⟨1, 70, none⟩), .pointer (some a), .int .u64 150])).run Tryd.prog w = .ok (some (70, a, 150)) w := by kernel_rfl
theorem asIsNilP (a p : Addr) (W : World) (ha : W.cell? a = some (.pointer (some p))) :
    (ReflectliteValue.method (ReflectliteValue.valueError "reflectlite.Value.IsNil" 0) ReflectliteValue.isNil #[.agg #[.pointer (some ⟨1, 70, none⟩), .pointer (some a), .int .u64 150]]).run Tryd.prog W = .ok (.bool false) W := by
  refine Eq.trans (congrArg (fun z => Sem.run Tryd.prog z W) (show ReflectliteValue.method _ _ #[.agg #[.pointer (some ⟨1, 70, none⟩), .pointer (some a), .int .u64 150]] = _ >>= _ from rfl)) ?_
  simp only [Array.getLit, List.getElem_toArray, List.getElem_cons_zero]
  simp only [Sem.run_bind, asPartsP, Result.andThen]
  simp [ReflectliteValue.isNil, loadVar, isAgg, underlying, Tryd.underlying70, ha, Result.andThen]
theorem asElemP (w : World) : (ReflectliteType.method ReflectliteType.elem #[.agg #[.pointer (some ⟨1, 70, none⟩)]]).run Tryd.prog w = .ok (.iface 94 (.agg #[.pointer (some ⟨1, 46, none⟩)])) w := by kernel_rfl
theorem asImplE (w : World) : (ReflectliteType.relation "Implements" ReflectliteType.implements_ #[.agg #[.pointer (some ⟨1, 46, none⟩)], .iface 94 (.agg #[.pointer (some ⟨1, 43, none⟩)])]).run Tryd.prog w = .ok (.bool true) w := by kernel_rfl
theorem asTypeOfE (v : Value) (w : World) : (ReflectliteType.typeOf #[.iface 46 v]).run Tryd.prog w = .ok (.iface 94 (.agg #[.pointer (some ⟨1, 46, none⟩)])) w := by kernel_rfl
theorem asAssignE (w : World) : (ReflectliteType.relation "AssignableTo" ReflectliteType.assignableTo #[.agg #[.pointer (some ⟨1, 46, none⟩)], .iface 94 (.agg #[.pointer (some ⟨1, 46, none⟩)])]).run Tryd.prog w = .ok (.bool true) w := by kernel_rfl
theorem asValueOfE (n : Int) (w : World) : (ReflectliteValue.unpack (.iface 46 (.int .i64 n))).run Tryd.prog w
    = .ok (.agg #[.pointer (some ⟨1, 46, none⟩), .pointer (some ⟨w.heap.size, 0, none⟩), .int .u64 130]) (w.alloc (.cells #[.int .i64 n] 46)) := by kernel_rfl
theorem asElemOfP (w : World) : (Rtype.elem? 70).run Tryd.prog w = .ok (some 46) w := by kernel_rfl
theorem asMkE (p : Addr) (w : World) : (ReflectliteValue.mk 46 p ReflectliteValue.flagAddr).run Tryd.prog w = .ok (.agg #[.pointer (some ⟨1, 46, none⟩), .pointer (some p), .int .u64 386]) w := by kernel_rfl
theorem asElemVP (a p : Addr) (W : World) (ha : W.cell? a = some (.pointer (some p))) :
    (ReflectliteValue.method (ReflectliteValue.valueError "reflectlite.Value.Elem" 0) ReflectliteValue.elem #[.agg #[.pointer (some ⟨1, 70, none⟩), .pointer (some a), .int .u64 150]]).run Tryd.prog W
      = .ok (.agg #[.pointer (some ⟨1, 46, none⟩), .pointer (some p), .int .u64 386]) W := by
  refine Eq.trans (congrArg (fun z => Sem.run Tryd.prog z W) (show ReflectliteValue.method _ _ #[.agg #[.pointer (some ⟨1, 70, none⟩), .pointer (some a), .int .u64 150]] = _ >>= _ from rfl)) ?_
  simp only [Array.getLit, List.getElem_toArray, List.getElem_cons_zero]
  simp only [Sem.run_bind, asPartsP, Result.andThen]
  simp [ReflectliteValue.elem, loadVar, isAgg, underlying, Tryd.underlying70, ha, Result.andThen, asElemOfP, asMkE]
theorem asPartsE (a : Addr) (w : World) : (ReflectliteValue.parts (.agg #[.pointer (some ⟨1, 46, none⟩), .pointer (some a), .int .u64 386])).run Tryd.prog w = .ok (some (46, a, 386)) w := by kernel_rfl
theorem asPartsF (a : Addr) (w : World) : (ReflectliteValue.parts (.agg #[.pointer (some ⟨1, 46, none⟩), .pointer (some a), .int .u64 130])).run Tryd.prog w = .ok (some (46, a, 130)) w := by kernel_rfl
theorem asDirect (w : World) : (Rtype.directlyAssignable 46 46).run Tryd.prog w = .ok true w := by kernel_rfl
theorem asSet (ta b : Addr) (n : Int) (old : Value) (W : World) (hb : W.cell? b = some (.int .i64 n)) (ht : W.cell? ta = some old) (hf : W.frozen? ta = false) :
    (ReflectliteValue.set #[.agg #[.pointer (some ⟨1, 46, none⟩), .pointer (some ta), .int .u64 386], .agg #[.pointer (some ⟨1, 46, none⟩), .pointer (some b), .int .u64 130]]).run Tryd.prog W
      = .ok (.tuple #[]) (W.setCell ta (.int .i64 n)) := by
  refine Eq.trans (congrArg (fun z => Sem.run Tryd.prog z W) (show ReflectliteValue.set #[.agg #[.pointer (some ⟨1, 46, none⟩), .pointer (some ta), .int .u64 386], .agg #[.pointer (some ⟨1, 46, none⟩), .pointer (some b), .int .u64 130]] = _ >>= _ from rfl)) ?_
  simp only [Array.getLit, List.getElem_toArray, List.getElem_cons_zero, List.getElem_cons_succ]
  simp only [Sem.run_bind, asPartsE, asPartsF, Result.andThen]
  simp [ReflectliteValue.flagAddr, loadVar, isAgg, underlying, Tryd.underlying46, hb, Result.andThen, asDirect, storeVar, Value.cells, storeCells, Addr.add]
  rw [run_store Tryd.prog W ta _ _ (by rfl)]
  simp [ht, hf]

set_option maxHeartbeats 1600000 in
theorem as_hit (n : Int) (t : Addr) (old : Value) (w : World) (hg : w.cell? ⟨0, 0, none⟩ = some (.iface 94 (.agg #[.pointer (some ⟨1, 43, none⟩)]))) (hlt : 0 < w.heap.size) (ht0 : w.cell? t = some old) (hf0 : w.frozen? t = false) (htl : t.block < w.heap.size) :
    Calls Tryd.prog 31 #[.iface 46 (.int .i64 n), .iface 70 (.pointer (some t))] w fun ev w' => ev = .returned (.bool true) ∧ w' = ((((w.alloc (.cells #[.pointer (some t)] 70)).alloc (.cells #[.pointer (some ⟨1, 70, none⟩), .pointer (some ⟨w.heap.size, 0, none⟩), .int .u64 150] 84)).alloc (.cells #[.pointer (some ⟨1, 70, none⟩), .pointer (some ⟨w.heap.size, 0, none⟩), .int .u64 150] 84)).alloc (.cells #[.int .i64 n] 46)).setCell t (.int .i64 n) := by
  have h36 := @run_callFunc_extern Tryd.prog 43 _ (fun args => ReflectliteValue.unpack (args.getD 0 (.tuple #[]))) Tryd.func43 (by kernel_rfl) (by kernel_rfl) (by kernel_rfl) (by kernel_rfl)
  have h37 := @run_callFunc_extern Tryd.prog 44 _ (ReflectliteValue.methodAny (ReflectliteValue.valueError "reflectlite.Value.Type" 0) (fun t _ _ _ => ReflectliteType.toType t)) Tryd.func44 (by kernel_rfl) (by kernel_rfl) (by kernel_rfl) (by kernel_rfl)
  have h38 := @run_callFunc_extern Tryd.prog 45 _ (ReflectliteValue.method (ReflectliteValue.valueError "reflectlite.Value.IsNil" 0) ReflectliteValue.isNil) Tryd.func45 (by kernel_rfl) (by kernel_rfl) (by kernel_rfl) (by kernel_rfl)
  have h75 := @run_callFunc_extern Tryd.prog 68 _ (ReflectliteType.abiMethod fun t => do pure (.int .u8 (← Rtype.kind t))) Tryd.func68 (by kernel_rfl) (by kernel_rfl) (by kernel_rfl) (by kernel_rfl)
  have h90 := @run_callFunc_extern Tryd.prog 79 _ (ReflectliteType.method ReflectliteType.elem) Tryd.func79 (by kernel_rfl) (by kernel_rfl) (by kernel_rfl) (by kernel_rfl)
  have h91 := @run_callFunc_extern Tryd.prog 80 _ (ReflectliteType.relation "Implements" ReflectliteType.implements_) Tryd.func80 (by kernel_rfl) (by kernel_rfl) (by kernel_rfl) (by kernel_rfl)
  have h45 := @run_callFunc_extern Tryd.prog 50 _ ReflectliteType.typeOf Tryd.func50 (by kernel_rfl) (by kernel_rfl) (by kernel_rfl) (by kernel_rfl)
  have h88 := @run_callFunc_extern Tryd.prog 77 _ (ReflectliteType.relation "AssignableTo" ReflectliteType.assignableTo) Tryd.func77 (by kernel_rfl) (by kernel_rfl) (by kernel_rfl) (by kernel_rfl)
  have h46 := @run_callFunc_extern Tryd.prog 51 _ (ReflectliteValue.method (ReflectliteValue.valueError "reflectlite.Value.Elem" 0) ReflectliteValue.elem) Tryd.func51 (by kernel_rfl) (by kernel_rfl) (by kernel_rfl) (by kernel_rfl)
  have h47 := @run_callFunc_extern Tryd.prog 52 _ ReflectliteValue.set Tryd.func52 (by kernel_rfl) (by kernel_rfl) (by kernel_rfl) (by kernel_rfl)
  have x1 := asTypeOfE
  have x2 := asMAssign
  have x3 := asAssignE
  have x4 := asValueOfE
  have x5 := asValueOfP
  have x6 := asTypeP
  have x7 := asMKind
  have x8 := asMElem
  have x9 := asMImpl
  have y1 := asKindP
  have y2 := asKindE
  have y3 := asElemP
  have y4 := asImplE
  have y5 := asIsNilP ⟨w.heap.size, 0, none⟩ t ((w.alloc (.cells #[.pointer (some t)] 70)).alloc (.cells #[.pointer (some ⟨1, 70, none⟩), .pointer (some ⟨w.heap.size, 0, none⟩), .int .u64 150] 84)) (by simp)
  have hg2 : ((w.alloc (.cells #[.pointer (some t)] 70)).alloc (.cells #[.pointer (some ⟨1, 70, none⟩), .pointer (some ⟨w.heap.size, 0, none⟩), .int .u64 150] 84)).cell? ⟨0, 0, none⟩ = some (.iface 94 (.agg #[.pointer (some ⟨1, 43, none⟩)])) := by
    rw [World.cell?_alloc_lt _ _ ⟨0, 0, none⟩ (by first | (simp; done) | (simp; omega)), World.cell?_alloc_lt _ _ ⟨0, 0, none⟩ hlt]; exact hg
  have el := asElemVP ⟨w.heap.size, 0, none⟩ t (((w.alloc (.cells #[.pointer (some t)] 70)).alloc (.cells #[.pointer (some ⟨1, 70, none⟩), .pointer (some ⟨w.heap.size, 0, none⟩), .int .u64 150] 84)).alloc (.cells #[.pointer (some ⟨1, 70, none⟩), .pointer (some ⟨w.heap.size, 0, none⟩), .int .u64 150] 84)) (by rw [World.cell?_alloc_lt _ _ ⟨w.heap.size, 0, none⟩ (by first | (simp; done) | (simp; omega))]; simp)
  have st := asSet t ⟨w.heap.size + 1 + 1 + 1, 0, none⟩ n old ((((w.alloc (.cells #[.pointer (some t)] 70)).alloc (.cells #[.pointer (some ⟨1, 70, none⟩), .pointer (some ⟨w.heap.size, 0, none⟩), .int .u64 150] 84)).alloc (.cells #[.pointer (some ⟨1, 70, none⟩), .pointer (some ⟨w.heap.size, 0, none⟩), .int .u64 150] 84)).alloc (.cells #[.int .i64 n] 46))
    (by rw [World.cell?_alloc_at _ _ _ _ (by simp)]; rfl)
    (by rw [World.cell?_alloc_lt _ _ t (by first | (simp; done) | (simp; omega)), World.cell?_alloc_lt _ _ t (by first | (simp; done) | (simp; omega)), World.cell?_alloc_lt _ _ t (by first | (simp; done) | (simp; omega)), World.cell?_alloc_lt _ _ t htl]; exact ht0)
    (by rw [World.frozen?_alloc_old _ _ t (by first | (simp; done) | (simp; omega)), World.frozen?_alloc_old _ _ t (by first | (simp; done) | (simp; omega)), World.frozen?_alloc_old _ _ t (by first | (simp; done) | (simp; omega)), World.frozen?_alloc_old _ _ t (Nat.ne_of_lt htl)]; exact hf0)
  go_enter Tryd.func31, Tryd.ntmps31
  go_wp2
  refine wp_loop_rounds 1 ?_
  rw [rounds_succ]
  go_wp2
  go_ret
  exact ⟨rfl, rfl⟩
end Go.Proofs.YtemlclgdgnfhnaaDoor

/- Which number an error is: of none OK, of a bare number that number. -/
namespace Go.Proofs.YtemlclgdgnfhnaaDoor
open Go.RowKit Go.Extern.Stop Go.Stop Go.Extern

/-- The library's own variable that errors.As asks for. -/
def ErrT (w : World) : Prop := w.cell? ⟨0, 0, none⟩ = some (.iface 94 (.agg #[.pointer (some ⟨1, 43, none⟩)])) ∧ 0 < w.heap.size
theorem ErrT.below {w w' : World} (h : ErrT w) (hb : Below w.heap.size w w') : ErrT w' := by
  refine ⟨?_, Nat.lt_of_lt_of_le h.2 hb.size⟩
  rw [hb.cell (p := ⟨0, 0, none⟩) h.2]
  exact h.1

theorem tell_nil (w : World) : Calls Tryd.prog 13 #[.nilIface] w fun e w' => e = .returned (.int .i64 0) ∧ w' = w := by
  go_enter Tryd.func13, Tryd.ntmps13
  go_wp2
  go_ret
  exact ⟨rfl, rfl⟩

set_option maxHeartbeats 800000 in
theorem tell_no (n : Int) (w : World) (hg : ErrT w) : Calls Tryd.prog 13 #[.iface 46 (.int .i64 n)] w fun e w' => e = .returned (.int .i64 n) ∧ Below w.heap.size w w' := by
  have HG : Hid (ErrT w) := hg
  clear hg
  go_enter Tryd.func13, Tryd.ntmps13
  go_wp2_with fail
  refine (as_hit n ⟨w.heap.size, 0, none⟩ (.int .i64 0) _ ?_ ?_ ?_ ?_ ?_).mono ?_
  · exact (HG.out.below ((Below.refl _ _).alloc (Nat.le_refl _) _)).1
  · have := HG.out.2; first | (simp; done) | (simp; omega)
  · simp
  · simp
  · simp
  · rintro e w1 ⟨rfl, hw⟩
    have hc : w1.cell? ⟨w.heap.size, 0, none⟩ = some (.int .i64 n) := by
      rw [hw]
      refine World.cell?_setCell_same (u := .int .i64 0) _ _ _ ?_
      rw [World.cell?_alloc_lt _ _ _ (by simp; omega), World.cell?_alloc_lt _ _ _ (by simp; omega), World.cell?_alloc_lt _ _ _ (by simp; omega), World.cell?_alloc_lt _ _ _ (by simp)]
      simp
    have hb : Below w.heap.size w w1 := by
      rw [hw]
      exact (((((((Below.refl _ _).alloc (Nat.le_refl _) _).alloc (by simp) _).alloc (by simp; omega) _).alloc (by simp; omega) _).alloc (by simp; omega) _).setCell (Nat.le_refl _) _)
    clear hw
    go_wp2
    go_ret
    exact ⟨rfl, hb⟩

end Go.Proofs.YtemlclgdgnfhnaaDoor

/- The last one of a row of grants: its cells, and the row without it. -/
namespace Go.Proofs.YtemlclgdgnfhnaaDoor
open Go.RowKit
set_option linter.unusedVariables false

structure LastG (W : World) (B ga ca m : Nat) (A : List GrP) (x : GrP) (da : Option Addr) (dc : Nat) (pa : Option Addr) (pc : Nat) : Prop where
  cells : W.cell? ⟨ga, m * 16, none⟩ = some (.bool x.org.sec) ∧ W.cell? ⟨ga, m * 16 + 1, none⟩ = some (.string x.org.host) ∧ W.cell? ⟨ga, m * 16 + 2, none⟩ = some (.int .i64 x.org.port) ∧ W.cell? ⟨ga, m * 16 + 3, none⟩ = some (.bool x.proxy) ∧ W.cell? ⟨ga, m * 16 + 4, none⟩ = some (.string x.user) ∧ W.cell? ⟨ga, m * 16 + 5, none⟩ = some (.string x.pass) ∧ W.cell? ⟨ga, m * 16 + 6, none⟩ = some (.int .i64 x.ask.sch) ∧ W.cell? ⟨ga, m * 16 + 7, none⟩ = some (.string x.ask.realm) ∧ W.cell? ⟨ga, m * 16 + 8, none⟩ = some (.string x.ask.nonce) ∧ W.cell? ⟨ga, m * 16 + 9, none⟩ = some (.string x.ask.opq) ∧ W.cell? ⟨ga, m * 16 + 10, none⟩ = some (.bool x.ask.sess) ∧ W.cell? ⟨ga, m * 16 + 11, none⟩ = some (.string x.ask.qop) ∧ W.cell? ⟨ga, m * 16 + 12, none⟩ = some (.bool x.ask.stale) ∧ W.cell? ⟨ga, m * 16 + 13, none⟩ = some (.slice da x.ask.dom.length dc) ∧ W.cell? ⟨ga, m * 16 + 14, none⟩ = some (.int .i64 x.count) ∧ W.cell? ⟨ga, m * 16 + 15, none⟩ = some (.slice pa x.paths.length pc)
  dom : OwnS W B (.slice da x.ask.dom.length dc) x.ask.dom
  paths : OwnS W B (.slice pa x.paths.length pc) x.paths
  cut : ∃ us, RowG W B (.slice (some ⟨ga, 0, none⟩) m ca) us A
theorem row_last {B : Nat} {v : Value} {ut : List GrV} {A : List GrP} {x : GrP} (w : World) (h : RowG w B v ut (A ++ [x])) :
    ∃ m n ga ca da dc pa pc, A.length = m ∧ n = m + 1 ∧ v = .slice (some ⟨ga, 0, none⟩) n ca ∧ n ≤ ca ∧ ca ≤ maxLen ∧ Hid (∀ W, Below w.heap.size w W → LastG W B ga ca m A x da dc pa pc) := by
  have hlen : ut.length = A.length + 1 := by
    have := congrArg List.length h.is
    simpa using this
  rcases OwnK.forms h.own with ⟨_, e2⟩ | ⟨g, cap, hv, _, _, hc, hm⟩
  · rw [List.map_eq_nil_iff.1 e2] at hlen
    simp at hlen
  · rw [List.length_map, hlen] at hv hc
    have hlt : A.length < ut.length := by omega
    have hux : (ut[A.length]'hlt).g = x := by
      have h1 : (ut.map (·.g))[A.length]? = some x := by rw [h.is]; simp
      rw [List.getElem?_map, List.getElem?_eq_getElem hlt] at h1
      simpa using h1
    obtain ⟨u, hu⟩ : ∃ u, u = ut[A.length]'hlt := ⟨_, rfl⟩
    rw [← hu] at hux
    have hum : u ∈ ut := hu ▸ List.getElem_mem hlt
    have huo := h.each u hum
    obtain ⟨da, dc, _, hd, _⟩ := huo.dom.strs
    obtain ⟨pa, pc, _, hp, _⟩ := huo.paths.strs
    subst hv
    refine ⟨A.length, A.length + 1, g, cap, da, dc, pa, pc, rfl, rfl, rfl, hc, hm, fun W hb => ?_⟩
    have hW := h.below hb
    have hj : (ut.map grCells)[A.length]? = some (grCells u) := by rw [List.getElem?_map, List.getElem?_eq_getElem hlt, ← hu]; rfl
    obtain ⟨ug, ud, up⟩ := u
    simp only at hux hd hp
    subst hux hd hp
    have hc := fun i y (hi : (grCells ⟨ug, .slice da ug.ask.dom.length dc, .slice pa ug.paths.length pc⟩)[i]? = some y) => OwnK.cell hW.own hj hi
    refine ⟨⟨(by simpa using hc 0 _ rfl), hc 1 _ rfl, hc 2 _ rfl, hc 3 _ rfl, hc 4 _ rfl, hc 5 _ rfl, hc 6 _ rfl, hc 7 _ rfl, hc 8 _ rfl, hc 9 _ rfl, hc 10 _ rfl, hc 11 _ rfl, hc 12 _ rfl, hc 13 _ rfl, hc 14 _ rfl, hc 15 _ rfl⟩, (hW.each _ hum).dom, (hW.each _ hum).paths, ut.take A.length, ?_, ?_, fun u hu => hW.each u (List.mem_of_mem_take hu)⟩
    · rw [List.map_take]
      exact OwnK.cut hW.own A.length (by rw [List.length_map]; omega)
    · rw [List.map_take, h.is]
      simp
/-- How long a row is. -/
theorem row_len {w : World} {B n c : Nat} {p : Option Addr} {us : List GrV} {A : List GrP} (h : RowG w B (.slice p n c) us A) : n = A.length := by
  have h1 : us.length = A.length := by rw [← h.is, List.length_map]
  rcases OwnK.forms h.own with ⟨e, e2⟩ | ⟨g, cap, hv, _⟩
  · injection e with _ e _
    rw [e, ← h1, List.map_eq_nil_iff.1 e2]
    rfl
  · injection hv with _ e _
    rw [e, List.length_map, h1]
end Go.Proofs.YtemlclgdgnfhnaaDoor

/- The law BankCounts, walked (under way). -/
namespace Go.Proofs.YtemlclgdgnfhnaaDoor
open Go.RowKit
set_option linter.unusedVariables false

/-- What Find tells, by its cells. -/
theorem find_cells {B b : Nat} {gv wv : Value} {G : List GrV} {V : List WtV} (w : World) (h : BankW w B b gv wv G V) (o : OrgV) (p : Bool) (path : ByteArray) :
    Calls Tryd.prog 9 #[.pointer (some ⟨b, 0, none⟩), .agg #[.bool o.sec, .string o.host, .int .i64 o.port], .bool p, .string path] w fun e w' => (∃ g xa xc ya yc, e = .returned (.tuple #[.agg #[.bool g.org.sec, .string g.org.host, .int .i64 g.org.port, .bool g.proxy, .string g.user, .string g.pass, .int .i64 g.ask.sch, .string g.ask.realm, .string g.ask.nonce, .string g.ask.opq, .bool g.ask.sess, .string g.ask.qop, .bool g.ask.stale, .slice xa g.ask.dom.length xc, .int .i64 g.count, .slice ya g.paths.length yc], .bool (decide (0 ≤ findI (G.map (·.g)) o p path))]) ∧ Hid (g = toldL (G.map (·.g)) (findI (G.map (·.g)) o p path) ∧ OwnS w' w.heap.size (.slice xa g.ask.dom.length xc) g.ask.dom ∧ OwnS w' w.heap.size (.slice ya g.paths.length yc) g.paths)) ∧ Below w.heap.size w w' := by
  refine (find_any w h o p path).mono ?_
  rintro e w' ⟨⟨x, rfl, hx, hxo⟩, hb⟩
  obtain ⟨da, dc, dg, hdv, _⟩ := hxo.dom.strs
  obtain ⟨pa, pc, pg, hpv, _⟩ := hxo.paths.strs
  have h1 := hxo.dom
  have h2 := hxo.paths
  obtain ⟨xg, xd, xp⟩ := x
  simp only at hx hdv hpv h1 h2
  subst hdv
  subst hpv
  exact ⟨⟨xg, da, dc, pa, pc, rfl, ⟨hx, h1, h2⟩⟩, hb⟩
/-- So many uses more. -/
def cntU (j : Nat) (g : GrP) : GrP := { g with count := g.count + (j : Int) }
theorem cntU_zero (g : GrP) : cntU 0 g = g := by
  cases g
  simp [cntU]
theorem cntU_more (j : Nat) (g : GrP) : moreP (cntU j g) = cntU (j + 1) g := by
  unfold moreP cntU
  simp only [GrP.mk.injEq, true_and, and_true]
  omega
/-- What the bank has behind so many uses of the grant at a place. -/
def cntSt (l : List GrP) (k : Nat) (g : GrP) : Nat → List GrP
  | 0 => l
  | j + 1 => l.eraseIdx k ++ [cntU (j + 1) g]
theorem cntSt_next {l : List GrP} {k : Nat} {g : GrP} {o : OrgV} {p : Bool} {path : ByteArray} (hk : findI l o p path = (k : Int)) (hg : l[k]? = some g) (hc : g.count ≤ 1000) (j : Nat) (hj : j ≤ 20) :
    useL (cntSt l k g j) (findI (cntSt l k g j) o p path) = (cntSt l k g (j + 1), cntU (j + 1) g, 0) := by
  have h1 := use_first l o p path hk hg (by unfold maxCnt; omega)
  cases j with
  | zero =>
    rw [show cntSt l k g 0 = l from rfl, h1.1, ← cntU_more, cntU_zero]
    show _ = (l.eraseIdx k ++ [cntU 1 g], _, _)
    rw [← cntU_more, cntU_zero]
  | succ j =>
    show useL (l.eraseIdx k ++ [cntU (j + 1) g]) _ = (l.eraseIdx k ++ [cntU (j + 2) g], _, _)
    rw [show cntSt l k g (j + 1) = l.eraseIdx k ++ [cntU (j + 1) g] from rfl, use_next (l.eraseIdx k) (cntU (j + 1) g) o p path h1.2.1 h1.2.2 (by show g.count + ((j + 1 : Nat) : Int) < maxCnt; unfold maxCnt; omega), cntU_more]
theorem putAll_mem (L : List GrP) : ∀ (a : List GrP) (x : GrP), x ∈ L.foldl putL a → x ∈ a ∨ x ∈ L := by
  induction L with
  | nil => exact fun a x h => .inl h
  | cons g L ih =>
    intro a x h
    rcases ih _ x h with h1 | h1
    · rcases List.mem_append.1 (last8_mem h1) with h2 | h2
      · exact .inl (List.mem_filter.1 h2).1
      · exact .inr (by rw [List.mem_singleton.1 h2]; exact List.mem_cons_self)
    · exact .inr (List.mem_cons_of_mem _ h1)
/-- A list's own row is kept where its block is. -/
theorem ownS_at {w w' : World} {B : Nat} {v : Value} {xs : List ByteArray} (h : OwnS w B v xs) (hk : ∀ x cs, B ≤ x → x < w.heap.size → w.heap[x]? = some (.cells cs 9 (0, 0)) → w'.heap[x]? = w.heap[x]?) : OwnS w' B v xs := by
  refine ⟨h.1, ?_⟩
  rcases h.2 with h0 | ⟨g, cap, cur, e, hb, hh, hr⟩
  · exact .inl h0
  · exact .inr ⟨g, cap, cur, e, hb, (hk g _ hb (Array.getElem?_eq_some_iff.1 hh).1 hh).trans hh, hr⟩
/-- Nothing is found to be used. -/
theorem use_none {B b : Nat} {gv wv : Value} {G : List GrV} {V : List WtV} (w : World) (h : BankW w B b gv wv G V) (hB : B ≤ w.heap.size) (o : OrgV) (p : Bool) (path : ByteArray) (hI : findI (G.map (·.g)) o p path = -1) :
    Calls Tryd.prog 12 #[.pointer (some ⟨b, 0, none⟩), .agg #[.bool o.sec, .string o.host, .int .i64 o.port], .bool p, .string path] w fun e w' => (∃ (g : GrP) (xa : Option Addr) (xc : Nat) (ya : Option Addr) (yc : Nat), e = .returned (.tuple #[.agg #[.bool g.org.sec, .string g.org.host, .int .i64 g.org.port, .bool g.proxy, .string g.user, .string g.pass, .int .i64 g.ask.sch, .string g.ask.realm, .string g.ask.nonce, .string g.ask.opq, .bool g.ask.sess, .string g.ask.qop, .bool g.ask.stale, .slice xa g.ask.dom.length xc, .int .i64 g.count, .slice ya g.paths.length yc], .iface 46 (.int .i64 8)])) ∧ ∃ gv' G', Hid (BankW w' B b gv' wv G' V ∧ G'.map (·.g) = G.map (·.g) ∧ BankStep b gv wv w w' gv' wv) := by
  have hu := use_any w h hB o p path
  rw [hI] at hu
  refine hu.mono ?_
  rintro e w' ⟨⟨x, rfl, hx, hxo⟩, gv', G', H⟩
  obtain ⟨da, dc, dg, hdv, _⟩ := hxo.dom.strs
  obtain ⟨pa, pc, pg, hpv, _⟩ := hxo.paths.strs
  obtain ⟨xg, xd, xp⟩ := x
  simp only at hx hdv hpv
  subst hdv
  subst hpv
  exact ⟨⟨xg, da, dc, pa, pc, rfl⟩, gv', G', H⟩
/-- The grant is used once more. -/
theorem use_more {B b : Nat} {gv wv : Value} {G : List GrV} {V : List WtV} (w : World) (h : BankW w B b gv wv G V) (hB : B ≤ w.heap.size) (o : OrgV) (p : Bool) (path : ByteArray) (S : List GrP) (g : GrP) (j : Nat) (c : Int) (hc : g.count + (j : Int) = c) (hU : useL (G.map (·.g)) (findI (G.map (·.g)) o p path) = (S, cntU j g, 0)) :
    Calls Tryd.prog 12 #[.pointer (some ⟨b, 0, none⟩), .agg #[.bool o.sec, .string o.host, .int .i64 o.port], .bool p, .string path] w fun e w' => (∃ xa xc ya yc, e = .returned (.tuple #[.agg #[.bool g.org.sec, .string g.org.host, .int .i64 g.org.port, .bool g.proxy, .string g.user, .string g.pass, .int .i64 g.ask.sch, .string g.ask.realm, .string g.ask.nonce, .string g.ask.opq, .bool g.ask.sess, .string g.ask.qop, .bool g.ask.stale, .slice xa g.ask.dom.length xc, .int .i64 c, .slice ya g.paths.length yc], .nilIface]) ∧ Hid (OwnS w' w.heap.size (.slice xa g.ask.dom.length xc) g.ask.dom ∧ OwnS w' w.heap.size (.slice ya g.paths.length yc) g.paths)) ∧ ∃ gv' G', Hid (BankW w' B b gv' wv G' V ∧ G'.map (·.g) = S ∧ BankStep b gv wv w w' gv' wv) := by
  subst hc
  have hu := use_any w h hB o p path
  rw [hU] at hu
  refine hu.mono ?_
  rintro e w' ⟨⟨x, rfl, hx, hxo⟩, gv', G', H⟩
  obtain ⟨da, dc, dg, hdv, _⟩ := hxo.dom.strs
  obtain ⟨pa, pc, pg, hpv, _⟩ := hxo.paths.strs
  have h1 := hxo.dom
  have h2 := hxo.paths
  obtain ⟨xg, xd, xp⟩ := x
  simp only at hx hdv hpv h1 h2
  subst hx
  subst hdv
  subst hpv
  exact ⟨⟨da, dc, pa, pc, rfl, ⟨h1, h2⟩⟩, gv', G', H⟩
set_option maxRecDepth 100000 in
set_option maxHeartbeats 8000000 in
theorem bankCounts_walk (a0 : Option Addr) (len cap b off : Nat) (gs : List GrA) (hl : len ≤ 9223372036854775807) (hz : ∀ v ∈ gs, GrZ v.g) (os : Bool) (oh : ByteArray) (op : Int) (p : Bool) (path : ByteArray) (hpz : path.size ≤ 140737488355328) (m : Int) (hm0 : -9223372036854775808 ≤ m) (hm1 : m ≤ 9223372036854775807) (w : World) (he : ErrT w) (h : Grs w a0 len b off gs) :
    Calls Tryd.prog 3 #[.slice a0 len cap, .agg #[.bool os, .string oh, .int .i64 op], .bool p, .string path, .int .i64 m] w fun e w' => e = .returned (.bool true) ∧ Below w.heap.size w w' := by
  have HG : Hid (Grs w a0 len b off gs) := h
  have HE : Hid (∀ W, Below w.heap.size w W → ErrT W) := fun W hW => he.below hW
  have HZ : Hid (∀ v ∈ gs, GrZ v.g) := hz
  have hb0 : Below w.heap.size w (w.alloc (.cells #[.bool os, .string oh, .int .i64 op] 24)) := (Below.refl _ _).alloc (Nat.le_refl _) _
  have hn0 := heap_alloc_new w (.cells #[.bool os, .string oh, .int .i64 op] 24)
  have hsz0 : (w.alloc (.cells #[.bool os, .string oh, .int .i64 op] 24)).heap.size = w.heap.size + 1 := by simp
  clear h hz he
  go_enter Tryd.func3, Tryd.ntmps3
  go_wp2_with fail
  generalize hW0 : w.alloc (.cells #[.bool os, .string oh, .int .i64 op] 24) = W0 at hb0 hn0 hsz0 ⊢
  clear hW0
  have HO : Hid (∀ W, Below W0.heap.size W0 W → W.heap[w.heap.size]? = some (.cells #[.bool os, .string oh, .int .i64 op] 24 (0, 0)) ∧ Below w.heap.size w W) := fun W hW => ⟨(hW.block _ (by omega)).trans hn0, hb0.trans (hW.mono hb0.size)⟩
  clear hb0 hn0 hsz0
  refine (banked_any _).mono ?_
  rintro e w1 ⟨rfl, hb1⟩
  have HB1 : Hid (Below W0.heap.size W0 w1) := hb1
  clear hb1
  go_wp2_with fail
  refine (held_any a0 len cap b off gs HZ.out hl _ (HG.out.below (HO.out _ HB1.out).2)).mono ?_
  rintro e w2 ⟨⟨t, rfl, ht⟩, hb2⟩
  have HB4 : Hid (Below W0.heap.size W0 w2) := HB1.out.trans (hb2.mono HB1.out.size)
  clear hb2 HB1 hl
  cases t
  · go_wp2
    go_ret
    exact ⟨rfl, (HO.out _ HB4.out).2⟩
  obtain ⟨hn, hsh⟩ := ht rfl
  have HSH : Hid (∀ v ∈ gs, shortB v) := hsh
  clear ht hsh
  by_cases h100 : (100 : Int) < (path.size : Int)
  · go_wp2
    go_ret
    exact ⟨rfl, (HO.out _ HB4.out).2⟩
  have hhas := cntHas a0 len cap b off gs HZ.out (by omega) w2 (HG.out.below (HO.out _ HB4.out).2)
  go_wp2_with fail
  refine hhas.mono ?_
  rintro e w3 ⟨⟨t, rfl, HT⟩, hb3⟩
  have HB5 : Hid (Below W0.heap.size W0 w3) := HB4.out.trans (hb3.mono HB4.out.size)
  clear hb3 HB4 hhas
  cases t
  case true =>
    go_wp2
    go_ret
    exact ⟨rfl, (HO.out _ HB5.out).2⟩
  have HC : Hid (∀ v ∈ gs, cntB v) := HT.out rfl
  clear HT
  go_wp2_with fail
  refine (filled_any a0 len cap b off gs HZ.out HSH.out hn _ (HG.out.below (HO.out _ HB5.out).2)).mono ?_
  rintro e w4 ⟨rfl, H4⟩
  obtain ⟨⟨gv, G, hB, hG⟩, hb4⟩ := H4.out
  have HR4 : Hid (BankW w4 w3.heap.size w3.heap.size gv (.slice none 0 0) G [] ∧ Below w3.heap.size w3 w4 ∧ G.map (·.g) = putAll (gs.map (·.g))) := ⟨hB, hb4, hG⟩
  clear H4 hG hb4
  have hbr := HB5.out.trans (HR4.out.2.1.mono HB5.out.size)
  have b1 := (HO.out _ hbr).1
  have c0 := cell_of (i := 0) b1
  have c1 := cell_of (i := 1) b1
  have c2 := cell_of (i := 2) b1
  simp only [List.getElem?_toArray, List.getElem?_cons_zero, List.getElem?_cons_succ] at c0 c1 c2
  clear b1 hbr
  have hfd := find_cells w4 hB ⟨os, oh, op⟩ p path
  obtain ⟨I, HI⟩ : ∃ I, Hid (findI (G.map (·.g)) ⟨os, oh, op⟩ p path = I) := ⟨_, rfl⟩
  have HIR : Hid (I = -1 ∨ ∃ k : Nat, I = k ∧ k < (G.map (·.g)).length) := by
    have := findI_range (G.map (·.g)) ⟨os, oh, op⟩ p path
    rw [HI.out] at this
    exact this
  rw [HI.out] at hfd
  obtain ⟨ok, HOK⟩ : ∃ ok, Hid (decide (0 ≤ I) = ok) := ⟨_, rfl⟩
  rw [HOK.out] at hfd
  clear hB
  go_wp2_with fail
  refine hfd.mono ?_
  rintro e w5 ⟨⟨g, xa, xc, ya, yc, rfl, HX⟩, hb5⟩
  have hb6 : Below w5.heap.size w5 (w5.alloc (.cells #[.bool g.org.sec, .string g.org.host, .int .i64 g.org.port, .bool g.proxy, .string g.user, .string g.pass, .int .i64 g.ask.sch, .string g.ask.realm, .string g.ask.nonce, .string g.ask.opq, .bool g.ask.sess, .string g.ask.qop, .bool g.ask.stale, .slice xa g.ask.dom.length xc, .int .i64 g.count, .slice ya g.paths.length yc] 34)) := (Below.refl _ _).alloc (Nat.le_refl _) _
  have hn6 := heap_alloc_new w5 (.cells #[.bool g.org.sec, .string g.org.host, .int .i64 g.org.port, .bool g.proxy, .string g.user, .string g.pass, .int .i64 g.ask.sch, .string g.ask.realm, .string g.ask.nonce, .string g.ask.opq, .bool g.ask.sess, .string g.ask.qop, .bool g.ask.stale, .slice xa g.ask.dom.length xc, .int .i64 g.count, .slice ya g.paths.length yc] 34)
  have h36 : Below w3.heap.size w3 (w5.alloc (.cells #[.bool g.org.sec, .string g.org.host, .int .i64 g.org.port, .bool g.proxy, .string g.user, .string g.pass, .int .i64 g.ask.sch, .string g.ask.realm, .string g.ask.nonce, .string g.ask.opq, .bool g.ask.sess, .string g.ask.qop, .bool g.ask.stale, .slice xa g.ask.dom.length xc, .int .i64 g.count, .slice ya g.paths.length yc] 34)) := (HR4.out.2.1.trans (hb5.mono HR4.out.2.1.size)).trans (hb6.mono (Nat.le_trans HR4.out.2.1.size hb5.size))
  have HR6 : Hid (BankW (w5.alloc (.cells #[.bool g.org.sec, .string g.org.host, .int .i64 g.org.port, .bool g.proxy, .string g.user, .string g.pass, .int .i64 g.ask.sch, .string g.ask.realm, .string g.ask.nonce, .string g.ask.opq, .bool g.ask.sess, .string g.ask.qop, .bool g.ask.stale, .slice xa g.ask.dom.length xc, .int .i64 g.count, .slice ya g.paths.length yc] 34)) w3.heap.size w3.heap.size gv (.slice none 0 0) G [] ∧ Below w3.heap.size w3 (w5.alloc (.cells #[.bool g.org.sec, .string g.org.host, .int .i64 g.org.port, .bool g.proxy, .string g.user, .string g.pass, .int .i64 g.ask.sch, .string g.ask.realm, .string g.ask.nonce, .string g.ask.opq, .bool g.ask.sess, .string g.ask.qop, .bool g.ask.stale, .slice xa g.ask.dom.length xc, .int .i64 g.count, .slice ya g.paths.length yc] 34)) ∧ (w5.alloc (.cells #[.bool g.org.sec, .string g.org.host, .int .i64 g.org.port, .bool g.proxy, .string g.user, .string g.pass, .int .i64 g.ask.sch, .string g.ask.realm, .string g.ask.nonce, .string g.ask.opq, .bool g.ask.sess, .string g.ask.qop, .bool g.ask.stale, .slice xa g.ask.dom.length xc, .int .i64 g.count, .slice ya g.paths.length yc] 34)).heap[w5.heap.size]? = some (.cells #[.bool g.org.sec, .string g.org.host, .int .i64 g.org.port, .bool g.proxy, .string g.user, .string g.pass, .int .i64 g.ask.sch, .string g.ask.realm, .string g.ask.nonce, .string g.ask.opq, .bool g.ask.sess, .string g.ask.qop, .bool g.ask.stale, .slice xa g.ask.dom.length xc, .int .i64 g.count, .slice ya g.paths.length yc] 34 (0, 0)) ∧ w4.heap.size ≤ w5.heap.size ∧ OwnS (w5.alloc (.cells #[.bool g.org.sec, .string g.org.host, .int .i64 g.org.port, .bool g.proxy, .string g.user, .string g.pass, .int .i64 g.ask.sch, .string g.ask.realm, .string g.ask.nonce, .string g.ask.opq, .bool g.ask.sess, .string g.ask.qop, .bool g.ask.stale, .slice xa g.ask.dom.length xc, .int .i64 g.count, .slice ya g.paths.length yc] 34)) w4.heap.size (.slice xa g.ask.dom.length xc) g.ask.dom ∧ OwnS (w5.alloc (.cells #[.bool g.org.sec, .string g.org.host, .int .i64 g.org.port, .bool g.proxy, .string g.user, .string g.pass, .int .i64 g.ask.sch, .string g.ask.realm, .string g.ask.nonce, .string g.ask.opq, .bool g.ask.sess, .string g.ask.qop, .bool g.ask.stale, .slice xa g.ask.dom.length xc, .int .i64 g.count, .slice ya g.paths.length yc] 34)) w4.heap.size (.slice ya g.paths.length yc) g.paths ∧ (w5.alloc (.cells #[.bool g.org.sec, .string g.org.host, .int .i64 g.org.port, .bool g.proxy, .string g.user, .string g.pass, .int .i64 g.ask.sch, .string g.ask.realm, .string g.ask.nonce, .string g.ask.opq, .bool g.ask.sess, .string g.ask.qop, .bool g.ask.stale, .slice xa g.ask.dom.length xc, .int .i64 g.count, .slice ya g.paths.length yc] 34)).heap.size = w5.heap.size + 1) := ⟨(HR4.out.1.below hb5).below hb6, h36, hn6, hb5.size, OwnS.below HX.out.2.1 hb6, OwnS.below HX.out.2.2 hb6, by simp⟩
  have HGX : Hid (g = toldL (G.map (·.g)) I) := HX.out.1
  have HFG : Hid (∀ g ∈ G.map (·.g), g.ask.dom.length ≤ 1000 ∧ g.paths.length ≤ 1000) := fun g hg => by
    obtain ⟨v, hv, rfl⟩ := List.mem_map.1 hg
    exact fit_small (HR4.out.1.gf v hv)
  have q1 := HR6.out.1
  have hgr := grants_any _ q1
  clear q1 hb5 hb6 hn6 h36 hfd HX c0 c1 c2
  go_wp2_with fail
  refine hgr.mono ?_
  rintro e w7 ⟨⟨bv, us, rfl, hown7, his7, hea7⟩, hb7⟩
  have HR7 : Hid (BankW w7 w3.heap.size w3.heap.size gv (.slice none 0 0) G [] ∧ Below w3.heap.size w3 w7 ∧ w7.heap[w5.heap.size]? = some (.cells #[.bool g.org.sec, .string g.org.host, .int .i64 g.org.port, .bool g.proxy, .string g.user, .string g.pass, .int .i64 g.ask.sch, .string g.ask.realm, .string g.ask.nonce, .string g.ask.opq, .bool g.ask.sess, .string g.ask.qop, .bool g.ask.stale, .slice xa g.ask.dom.length xc, .int .i64 g.count, .slice ya g.paths.length yc] 34 (0, 0)) ∧ OwnS w7 w4.heap.size (.slice xa g.ask.dom.length xc) g.ask.dom ∧ OwnS w7 w4.heap.size (.slice ya g.paths.length yc) g.paths ∧ RowG w7 w4.heap.size bv us (G.map (·.g))) := by
    have e1 := HR6.out.2.2.2.1
    have e2 := HR6.out.2.2.2.2.2.2
    have hle : w4.heap.size ≤ (w5.alloc (.cells #[.bool g.org.sec, .string g.org.host, .int .i64 g.org.port, .bool g.proxy, .string g.user, .string g.pass, .int .i64 g.ask.sch, .string g.ask.realm, .string g.ask.nonce, .string g.ask.opq, .bool g.ask.sess, .string g.ask.qop, .bool g.ask.stale, .slice xa g.ask.dom.length xc, .int .i64 g.count, .slice ya g.paths.length yc] 34)).heap.size := by omega
    exact ⟨HR6.out.1.below hb7, HR6.out.2.1.trans (hb7.mono HR6.out.2.1.size), (hb7.block _ (Array.getElem?_eq_some_iff.1 HR6.out.2.2.1).1).trans HR6.out.2.2.1, OwnS.below HR6.out.2.2.2.2.1 hb7, OwnS.below HR6.out.2.2.2.2.2.1 hb7, ⟨hown7.mono hle, his7, fun u hu => (hea7 u hu).mono hle⟩⟩
  have HRW : Hid (RowG w7 (w5.heap.size + 1) bv us (G.map (·.g))) := by
    have e2 := HR6.out.2.2.2.2.2.2
    exact ⟨hown7.mono (by omega), his7, fun u hu => (hea7 u hu).mono (by omega)⟩
  have HLT : Hid (w4.heap.size ≤ w5.heap.size ∧ w5.heap.size < w7.heap.size) := ⟨HR6.out.2.2.2.1, (Array.getElem?_eq_some_iff.1 HR7.out.2.2.1).1⟩
  clear hgr hown7 his7 hea7 hb7 HR6
  go_wp2_with fail
  refine (pick_any m 20 hm0 hm1 (by decide) (by decide) _).mono ?_
  rintro e w8 ⟨rfl, hw8⟩
  obtain rfl := hw8.symm
  obtain ⟨N, hN, hNI⟩ : ∃ N : Nat, N ≤ 19 ∧ pickI m 20 = (N : Int) := by
    have := pickI_in m 20 (by decide)
    exact ⟨(pickI m 20).toNat, by omega, by omega⟩
  rw [hNI]
  clear hNI hm0 hm1
  have hbr := HB5.out.trans (HR7.out.2.1.mono HB5.out.size)
  have b1 := (HO.out _ hbr).1
  have c0 := cell_of (i := 0) b1
  have c1 := cell_of (i := 1) b1
  have c2 := cell_of (i := 2) b1
  simp only [List.getElem?_toArray, List.getElem?_cons_zero, List.getElem?_cons_succ] at c0 c1 c2
  clear b1 hbr
  have hN' : (N : Int) ≤ 19 := by omega
  rcases HIR.out with hI | ⟨k, hI, hk⟩
  · as_aux_lemma =>
      subst hI
      obtain rfl : ok = false := HOK.out.symm.trans rfl
      have q1 := HR7.out.1
      have q2 := HR7.out.2.1.size
      have q3 := HI.out
      have huse := use_none w7 q1 q2 ⟨os, oh, op⟩ p path q3
      clear q1 q2 q3
      go_wp2_with fail
      refine wp_loop_rounds 1 ?_
      rw [rounds_succ]
      go_wp2_with fail
      refine huse.mono ?_
      rintro e w8 ⟨⟨g8, xa8, xc8, ya8, yc8, rfl⟩, gv8, G8, H8⟩
      have hlow8 := HR7.out.2.1.trans (step_low HR7.out.1 HR7.out.2.1.size H8.out.2.2)
      have hrow8 : RowG w8 w4.heap.size bv us (G.map (·.g)) := RowG.step HR7.out.2.2.2.2.2 H8.out.2.2 (Array.getElem?_eq_some_iff.1 HR4.out.1.blk).1 (fun x e => (HR4.out.1.gs.lt x e).2) (fun x e => by cases e)
      have hb9 : Below w8.heap.size w8 (w8.alloc (.cells #[.bool g8.org.sec, .string g8.org.host, .int .i64 g8.org.port, .bool g8.proxy, .string g8.user, .string g8.pass, .int .i64 g8.ask.sch, .string g8.ask.realm, .string g8.ask.nonce, .string g8.ask.opq, .bool g8.ask.sess, .string g8.ask.qop, .bool g8.ask.stale, .slice xa8 g8.ask.dom.length xc8, .int .i64 g8.count, .slice ya8 g8.paths.length yc8] 34)) := (Below.refl _ _).alloc (Nat.le_refl _) _
      have HR9 : Hid (BankW (w8.alloc (.cells #[.bool g8.org.sec, .string g8.org.host, .int .i64 g8.org.port, .bool g8.proxy, .string g8.user, .string g8.pass, .int .i64 g8.ask.sch, .string g8.ask.realm, .string g8.ask.nonce, .string g8.ask.opq, .bool g8.ask.sess, .string g8.ask.qop, .bool g8.ask.stale, .slice xa8 g8.ask.dom.length xc8, .int .i64 g8.count, .slice ya8 g8.paths.length yc8] 34)) w3.heap.size w3.heap.size gv8 (.slice none 0 0) G8 [] ∧ Below w3.heap.size w3 (w8.alloc (.cells #[.bool g8.org.sec, .string g8.org.host, .int .i64 g8.org.port, .bool g8.proxy, .string g8.user, .string g8.pass, .int .i64 g8.ask.sch, .string g8.ask.realm, .string g8.ask.nonce, .string g8.ask.opq, .bool g8.ask.sess, .string g8.ask.qop, .bool g8.ask.stale, .slice xa8 g8.ask.dom.length xc8, .int .i64 g8.count, .slice ya8 g8.paths.length yc8] 34)) ∧ RowG (w8.alloc (.cells #[.bool g8.org.sec, .string g8.org.host, .int .i64 g8.org.port, .bool g8.proxy, .string g8.user, .string g8.pass, .int .i64 g8.ask.sch, .string g8.ask.realm, .string g8.ask.nonce, .string g8.ask.opq, .bool g8.ask.sess, .string g8.ask.qop, .bool g8.ask.stale, .slice xa8 g8.ask.dom.length xc8, .int .i64 g8.count, .slice ya8 g8.paths.length yc8] 34)) w4.heap.size bv us (G.map (·.g)) ∧ G8.map (·.g) = G.map (·.g)) := ⟨H8.out.1.below hb9, hlow8.trans (hb9.mono hlow8.size), hrow8.below hb9, H8.out.2.1⟩
      have htl := tell_no 8 (w8.alloc (.cells #[.bool g8.org.sec, .string g8.org.host, .int .i64 g8.org.port, .bool g8.proxy, .string g8.user, .string g8.pass, .int .i64 g8.ask.sch, .string g8.ask.realm, .string g8.ask.nonce, .string g8.ask.opq, .bool g8.ask.sess, .string g8.ask.qop, .bool g8.ask.stale, .slice xa8 g8.ask.dom.length xc8, .int .i64 g8.count, .slice ya8 g8.paths.length yc8] 34)) (HE.out _ (HO.out _ (HB5.out.trans (HR9.out.2.1.mono HB5.out.size))).2)
      clear hlow8 hrow8 hb9 H8 huse HR7 HLT c0 c1 c2
      go_wp2_with fail
      refine htl.mono ?_
      rintro e w10 ⟨rfl, hb10⟩
      have HR10 : Hid (BankW w10 w3.heap.size w3.heap.size gv8 (.slice none 0 0) G8 [] ∧ Below w3.heap.size w3 w10 ∧ RowG w10 w4.heap.size bv us (G.map (·.g))) := ⟨HR9.out.1.below hb10, HR9.out.2.1.trans (hb10.mono HR9.out.2.1.size), HR9.out.2.2.1.below hb10⟩
      have HG8 : Hid (G8.map (·.g) = G.map (·.g)) := HR9.out.2.2.2
      have q1 := HR10.out.1
      have hgr := grants_any w10 q1
      clear q1 hb10 htl HR9
      go_wp2_with fail
      refine hgr.mono ?_
      rintro e w11 ⟨⟨av, ut, rfl, hown, his, hea⟩, hb11⟩
      have hr1 : RowG w11 w10.heap.size av ut (G.map (·.g)) := ⟨hown, his.trans HG8.out, hea⟩
      have hr2 := HR10.out.2.2.below hb11
      have hlen : (G.map (·.g)).length ≤ 1000 := by
        rw [List.length_map]
        have := HR4.out.1.glen
        omega
      have heq := eqf_rows w11 hr1 hr2 HFG.out hlen
      have HB11 : Hid (Below W0.heap.size W0 w11) := HB5.out.trans ((HR10.out.2.1.trans (hb11.mono HR10.out.2.1.size)).mono HB5.out.size)
      clear hr1 hr2 hown his hea hb11 hgr HR10
      go_wp2_with fail
      refine heq.mono ?_
      rintro e w12 ⟨rfl, hb12⟩
      have HB12 : Hid (Below w.heap.size w w12) := (HO.out _ (HB11.out.trans (hb12.mono HB11.out.size))).2
      clear hb12 heq
      go_wp2
      go_ret
      exact ⟨rfl, HB12.out⟩
  · subst hI
    obtain rfl : ok = true := HOK.out.symm.trans (decide_eq_true (by omega))
    have hgk : (G.map (·.g))[k]? = some g := by
      have := HGX.out
      unfold toldL at this
      rw [if_neg (by omega), Int.toNat_natCast, List.getElem?_eq_getElem hk, Option.getD_some] at this
      rw [List.getElem?_eq_getElem hk, this]
    have hgc : 0 ≤ g.count ∧ g.count ≤ 1000 := by
      have h1 := List.mem_of_getElem? hgk
      rw [HR4.out.2.2] at h1
      rcases putAll_mem _ _ _ h1 with h2 | h2
      · cases h2
      · obtain ⟨v, hv, rfl⟩ := List.mem_map.1 h2
        exact HC.out v hv
    obtain ⟨hc0, hc1⟩ := hgc
    have HU : Hid (∀ j ≤ 20, useL (cntSt (G.map (·.g)) k g j) (findI (cntSt (G.map (·.g)) k g j) ⟨os, oh, op⟩ p path) = (cntSt (G.map (·.g)) k g (j + 1), cntU (j + 1) g, 0)) := fun j hj => cntSt_next HI.out hgk hc1 j hj
    have HD : Hid (g.ask.dom.length ≤ 1000 ∧ g.paths.length ≤ 1000) := HFG.out g (List.mem_of_getElem? hgk)
    have HK : Hid (k < (G.map (·.g)).length ∧ (G.map (·.g))[k]? = some g) := ⟨hk, hgk⟩
    have hblt : w3.heap.size < w4.heap.size := (Array.getElem?_eq_some_iff.1 HR4.out.1.blk).1
    have HST0 : Hid ((∃ gvj Gj, BankW w7 w3.heap.size w3.heap.size gvj (.slice none 0 0) Gj [] ∧ Gj.map (·.g) = cntSt (G.map (·.g)) k g 0 ∧ ∀ x, w4.heap.size ≤ x → x < w7.heap.size → gvj.ownBlock ≠ some x) ∧ Below w3.heap.size w3 w7 ∧ w7.heap[w5.heap.size]? = some (.cells #[.bool g.org.sec, .string g.org.host, .int .i64 g.org.port, .bool g.proxy, .string g.user, .string g.pass, .int .i64 g.ask.sch, .string g.ask.realm, .string g.ask.nonce, .string g.ask.opq, .bool g.ask.sess, .string g.ask.qop, .bool g.ask.stale, .slice xa g.ask.dom.length xc, .int .i64 (g.count + ((0 : Nat) : Int)), .slice ya g.paths.length yc] 34 (0, 0)) ∧ w7.heap.size ≤ w7.heap.size ∧ ∀ x, w4.heap.size ≤ x → x < w7.heap.size → x ≠ w5.heap.size → w7.heap[x]? = w7.heap[x]?) := by
      refine ⟨⟨gv, G, HR7.out.1, rfl, fun x hx _ e => ?_⟩, HR7.out.2.1, ?_, Nat.le_refl _, fun _ _ _ _ => rfl⟩
      · have := (HR4.out.1.gs.lt x e).2
        omega
      · rw [show g.count + ((0 : Nat) : Int) = g.count by omega]
        exact HR7.out.2.2.1
    clear hk hgk c0 c1 c2
    go_wp2
    go_loopw [15] (fun i wr => ∃ j : Nat, j ≤ N + 1 ∧ i = .int .i64 (1 + (j : Int)) ∧ Hid ((∃ gvj Gj, BankW wr w3.heap.size w3.heap.size gvj (.slice none 0 0) Gj [] ∧ Gj.map (·.g) = cntSt (G.map (·.g)) k g j ∧ ∀ x, w4.heap.size ≤ x → x < w7.heap.size → gvj.ownBlock ≠ some x) ∧ Below w3.heap.size w3 wr ∧ wr.heap[w5.heap.size]? = some (.cells #[.bool g.org.sec, .string g.org.host, .int .i64 g.org.port, .bool g.proxy, .string g.user, .string g.pass, .int .i64 g.ask.sch, .string g.ask.realm, .string g.ask.nonce, .string g.ask.opq, .bool g.ask.sess, .string g.ask.qop, .bool g.ask.stale, .slice xa g.ask.dom.length xc, .int .i64 (g.count + (j : Int)), .slice ya g.paths.length yc] 34 (0, 0)) ∧ w7.heap.size ≤ wr.heap.size ∧ ∀ x, w4.heap.size ≤ x → x < w7.heap.size → x ≠ w5.heap.size → wr.heap[x]? = w7.heap[x]?)) (fun i _ => N + 2 - (intOf i).toNat)
    case atStart => exact ⟨0, Nat.zero_le _, rfl, ⟨HST0.out.1, HST0.out.2.1, HST0.out.2.2.1, Nat.le_refl _, fun _ _ _ _ => rfl⟩⟩
    case round =>
      obtain ⟨j, hj, rfl, HIV⟩ := hrel
      by_cases hlt : j ≤ N
      · as_aux_lemma =>
          have hjN : (1 : Int) + (j : Int) ≤ 1 + (N : Int) := by omega
          obtain ⟨⟨gvj, Gj, hBj, hGj, hgj⟩, hlow, hwas, hsz, hsame⟩ := HIV.out
          have hbr := HB5.out.trans (hlow.mono HB5.out.size)
          have b1 := (HO.out _ hbr).1
          have c0 := cell_of (i := 0) b1
          have c1 := cell_of (i := 1) b1
          have c2 := cell_of (i := 2) b1
          simp only [List.getElem?_toArray, List.getElem?_cons_zero, List.getElem?_cons_succ] at c0 c1 c2
          clear b1 hbr
          have hUj := HU.out j (by omega)
          rw [← hGj] at hUj
          have q2 := hlow.size
          obtain ⟨cn0, hce⟩ : ∃ cn0 : Int, g.count + (j : Int) = cn0 := ⟨_, rfl⟩
          rw [hce] at hwas
          have hcb : 0 ≤ cn0 ∧ cn0 ≤ 1020 := by omega
          have huse := use_more wr hBj q2 ⟨os, oh, op⟩ p path _ g (j + 1) (cn0 + 1) (by omega) hUj
          clear q2 hUj
          go_wp2_with fail
          refine huse.mono ?_
          rintro e w8 ⟨⟨xb, xd, yb, yd, rfl, HO8⟩, gv8, G8, H8⟩
          have hlow8 := hlow.trans (step_low hBj hlow.size H8.out.2.2)
          have hLT := HLT.out
          have hwl : w5.heap.size < wr.heap.size := Nat.lt_of_lt_of_le hLT.2 hsz
          have hk8 : ∀ x, w4.heap.size ≤ x → x < w7.heap.size → w8.heap[x]? = wr.heap[x]? ∧ gv8.ownBlock ≠ some x := fun x hx hxl => by
            obtain ⟨k1, k2, _⟩ := H8.out.2.2.keep x (by omega) (by omega) (hgj x hx hxl) (by intro e; cases e)
            exact ⟨k1, k2⟩
          have hwas8 := (hk8 _ hLT.1 hLT.2).1.trans hwas
          have hb9 : Below w8.heap.size w8 (w8.alloc (.cells #[.bool g.org.sec, .string g.org.host, .int .i64 g.org.port, .bool g.proxy, .string g.user, .string g.pass, .int .i64 g.ask.sch, .string g.ask.realm, .string g.ask.nonce, .string g.ask.opq, .bool g.ask.sess, .string g.ask.qop, .bool g.ask.stale, .slice xb g.ask.dom.length xd, .int .i64 (cn0 + 1), .slice yb g.paths.length yd] 34)) := (Below.refl _ _).alloc (Nat.le_refl _) _
          have hn9 := heap_alloc_new w8 (.cells #[.bool g.org.sec, .string g.org.host, .int .i64 g.org.port, .bool g.proxy, .string g.user, .string g.pass, .int .i64 g.ask.sch, .string g.ask.realm, .string g.ask.nonce, .string g.ask.opq, .bool g.ask.sess, .string g.ask.qop, .bool g.ask.stale, .slice xb g.ask.dom.length xd, .int .i64 (cn0 + 1), .slice yb g.paths.length yd] 34)
          have hs8 := H8.out.2.2.size
          have hwas9 : (w8.alloc (.cells #[.bool g.org.sec, .string g.org.host, .int .i64 g.org.port, .bool g.proxy, .string g.user, .string g.pass, .int .i64 g.ask.sch, .string g.ask.realm, .string g.ask.nonce, .string g.ask.opq, .bool g.ask.sess, .string g.ask.qop, .bool g.ask.stale, .slice xb g.ask.dom.length xd, .int .i64 (cn0 + 1), .slice yb g.paths.length yd] 34)).heap[w5.heap.size]? = some (.cells #[.bool g.org.sec, .string g.org.host, .int .i64 g.org.port, .bool g.proxy, .string g.user, .string g.pass, .int .i64 g.ask.sch, .string g.ask.realm, .string g.ask.nonce, .string g.ask.opq, .bool g.ask.sess, .string g.ask.qop, .bool g.ask.stale, .slice xa g.ask.dom.length xc, .int .i64 cn0, .slice ya g.paths.length yc] 34 (0, 0)) := (hb9.block _ (by omega)).trans hwas8
          have hc14 : (w8.alloc (.cells #[.bool g.org.sec, .string g.org.host, .int .i64 g.org.port, .bool g.proxy, .string g.user, .string g.pass, .int .i64 g.ask.sch, .string g.ask.realm, .string g.ask.nonce, .string g.ask.opq, .bool g.ask.sess, .string g.ask.qop, .bool g.ask.stale, .slice xb g.ask.dom.length xd, .int .i64 (cn0 + 1), .slice yb g.paths.length yd] 34)).cell? ⟨w5.heap.size, 14, none⟩ = some (.int .i64 cn0) := cell_of hwas9
          have hf14 := free_of hwas9
          have hwas10 := heap_setCell_same (w8.alloc (.cells #[.bool g.org.sec, .string g.org.host, .int .i64 g.org.port, .bool g.proxy, .string g.user, .string g.pass, .int .i64 g.ask.sch, .string g.ask.realm, .string g.ask.nonce, .string g.ask.opq, .bool g.ask.sess, .string g.ask.qop, .bool g.ask.stale, .slice xb g.ask.dom.length xd, .int .i64 (cn0 + 1), .slice yb g.paths.length yd] 34)) w5.heap.size 14 _ _ (.int .i64 (cn0 + 1)) hwas9
          have hg10 : (w8.alloc (.cells #[.bool g.org.sec, .string g.org.host, .int .i64 g.org.port, .bool g.proxy, .string g.user, .string g.pass, .int .i64 g.ask.sch, .string g.ask.realm, .string g.ask.nonce, .string g.ask.opq, .bool g.ask.sess, .string g.ask.qop, .bool g.ask.stale, .slice xb g.ask.dom.length xd, .int .i64 (cn0 + 1), .slice yb g.paths.length yd] 34)).grownBy ((w8.alloc (.cells #[.bool g.org.sec, .string g.org.host, .int .i64 g.org.port, .bool g.proxy, .string g.user, .string g.pass, .int .i64 g.ask.sch, .string g.ask.realm, .string g.ask.nonce, .string g.ask.opq, .bool g.ask.sess, .string g.ask.qop, .bool g.ask.stale, .slice xb g.ask.dom.length xd, .int .i64 (cn0 + 1), .slice yb g.paths.length yd] 34)).setCell ⟨w5.heap.size, 14, none⟩ (.int .i64 (cn0 + 1))) (some w5.heap.size) := grown_setCells _ w5.heap.size 14 [.int .i64 (cn0 + 1)]
          have hn10 := (hg10.block w8.heap.size (by simp) (fun e => by injection e with e; omega)).trans hn9
          have hB10 := bank_off (H8.out.1.below hb9) hwas9 (hk8 _ hLT.1 hLT.2).2 hg10
          have ho10 := OwnS.other (OwnS.below HO8.out.1 hb9) hg10 (Typed.block hwas9) (by decide)
          have hp10 := OwnS.other (OwnS.below HO8.out.2 hb9) hg10 (Typed.block hwas9) (by decide)
          have hk10 : ∀ x, w4.heap.size ≤ x → x < w7.heap.size → x ≠ w5.heap.size → ((w8.alloc (.cells #[.bool g.org.sec, .string g.org.host, .int .i64 g.org.port, .bool g.proxy, .string g.user, .string g.pass, .int .i64 g.ask.sch, .string g.ask.realm, .string g.ask.nonce, .string g.ask.opq, .bool g.ask.sess, .string g.ask.qop, .bool g.ask.stale, .slice xb g.ask.dom.length xd, .int .i64 (cn0 + 1), .slice yb g.paths.length yd] 34)).setCell ⟨w5.heap.size, 14, none⟩ (.int .i64 (cn0 + 1))).heap[x]? = w7.heap[x]? := fun x hx hxl hne => by
            rw [hg10.block x (Nat.lt_of_lt_of_le (by omega : x < w8.heap.size) hb9.size) (fun e => by injection e with e; exact hne e), hb9.block x (by omega), (hk8 x hx hxl).1, hsame x hx hxl hne]
          have hty : ∀ x cs, w4.heap.size ≤ x → x < w7.heap.size → w7.heap[x]? = some (.cells cs 9 (0, 0)) → ((w8.alloc (.cells #[.bool g.org.sec, .string g.org.host, .int .i64 g.org.port, .bool g.proxy, .string g.user, .string g.pass, .int .i64 g.ask.sch, .string g.ask.realm, .string g.ask.nonce, .string g.ask.opq, .bool g.ask.sess, .string g.ask.qop, .bool g.ask.stale, .slice xb g.ask.dom.length xd, .int .i64 (cn0 + 1), .slice yb g.paths.length yd] 34)).setCell ⟨w5.heap.size, 14, none⟩ (.int .i64 (cn0 + 1))).heap[x]? = w7.heap[x]? := fun x cs hx hxl hc => hk10 x hx hxl (fun e => by
            have := HR7.out.2.2.1
            rw [← e, hc] at this
            injection this with this
            injection this with _ h3
            exact absurd h3 (by decide))
          have hoa := ownS_at HR7.out.2.2.2.1 hty
          have hpa := ownS_at HR7.out.2.2.2.2.1 hty
          have hl10 : Below w3.heap.size w3 ((w8.alloc (.cells #[.bool g.org.sec, .string g.org.host, .int .i64 g.org.port, .bool g.proxy, .string g.user, .string g.pass, .int .i64 g.ask.sch, .string g.ask.realm, .string g.ask.nonce, .string g.ask.opq, .bool g.ask.sess, .string g.ask.qop, .bool g.ask.stale, .slice xb g.ask.dom.length xd, .int .i64 (cn0 + 1), .slice yb g.paths.length yd] 34)).setCell ⟨w5.heap.size, 14, none⟩ (.int .i64 (cn0 + 1))) := (hlow8.trans (hb9.mono hlow8.size)).grown hg10 (Nat.le_trans hlow8.size hb9.size) (fun i hi => by injection hi with hi; omega)
          have hz10 : w7.heap.size ≤ ((w8.alloc (.cells #[.bool g.org.sec, .string g.org.host, .int .i64 g.org.port, .bool g.proxy, .string g.user, .string g.pass, .int .i64 g.ask.sch, .string g.ask.realm, .string g.ask.nonce, .string g.ask.opq, .bool g.ask.sess, .string g.ask.qop, .bool g.ask.stale, .slice xb g.ask.dom.length xd, .int .i64 (cn0 + 1), .slice yb g.paths.length yd] 34)).setCell ⟨w5.heap.size, 14, none⟩ (.int .i64 (cn0 + 1))).heap.size := Nat.le_trans (Nat.le_trans hsz hs8) (Nat.le_trans hb9.size hg10.size)
          have HRJ : Hid ((∃ gvj Gj, BankW ((w8.alloc (.cells #[.bool g.org.sec, .string g.org.host, .int .i64 g.org.port, .bool g.proxy, .string g.user, .string g.pass, .int .i64 g.ask.sch, .string g.ask.realm, .string g.ask.nonce, .string g.ask.opq, .bool g.ask.sess, .string g.ask.qop, .bool g.ask.stale, .slice xb g.ask.dom.length xd, .int .i64 (cn0 + 1), .slice yb g.paths.length yd] 34)).setCell ⟨w5.heap.size, 14, none⟩ (.int .i64 (cn0 + 1))) w3.heap.size w3.heap.size gvj (.slice none 0 0) Gj [] ∧ Gj.map (·.g) = cntSt (G.map (·.g)) k g (j + 1) ∧ ∀ x, w4.heap.size ≤ x → x < w7.heap.size → gvj.ownBlock ≠ some x) ∧ Below w3.heap.size w3 ((w8.alloc (.cells #[.bool g.org.sec, .string g.org.host, .int .i64 g.org.port, .bool g.proxy, .string g.user, .string g.pass, .int .i64 g.ask.sch, .string g.ask.realm, .string g.ask.nonce, .string g.ask.opq, .bool g.ask.sess, .string g.ask.qop, .bool g.ask.stale, .slice xb g.ask.dom.length xd, .int .i64 (cn0 + 1), .slice yb g.paths.length yd] 34)).setCell ⟨w5.heap.size, 14, none⟩ (.int .i64 (cn0 + 1))) ∧ ((w8.alloc (.cells #[.bool g.org.sec, .string g.org.host, .int .i64 g.org.port, .bool g.proxy, .string g.user, .string g.pass, .int .i64 g.ask.sch, .string g.ask.realm, .string g.ask.nonce, .string g.ask.opq, .bool g.ask.sess, .string g.ask.qop, .bool g.ask.stale, .slice xb g.ask.dom.length xd, .int .i64 (cn0 + 1), .slice yb g.paths.length yd] 34)).setCell ⟨w5.heap.size, 14, none⟩ (.int .i64 (cn0 + 1))).heap[w5.heap.size]? = some (.cells #[.bool g.org.sec, .string g.org.host, .int .i64 g.org.port, .bool g.proxy, .string g.user, .string g.pass, .int .i64 g.ask.sch, .string g.ask.realm, .string g.ask.nonce, .string g.ask.opq, .bool g.ask.sess, .string g.ask.qop, .bool g.ask.stale, .slice xa g.ask.dom.length xc, .int .i64 (g.count + ((j + 1 : Nat) : Int)), .slice ya g.paths.length yc] 34 (0, 0)) ∧ w7.heap.size ≤ ((w8.alloc (.cells #[.bool g.org.sec, .string g.org.host, .int .i64 g.org.port, .bool g.proxy, .string g.user, .string g.pass, .int .i64 g.ask.sch, .string g.ask.realm, .string g.ask.nonce, .string g.ask.opq, .bool g.ask.sess, .string g.ask.qop, .bool g.ask.stale, .slice xb g.ask.dom.length xd, .int .i64 (cn0 + 1), .slice yb g.paths.length yd] 34)).setCell ⟨w5.heap.size, 14, none⟩ (.int .i64 (cn0 + 1))).heap.size ∧ ∀ x, w4.heap.size ≤ x → x < w7.heap.size → x ≠ w5.heap.size → ((w8.alloc (.cells #[.bool g.org.sec, .string g.org.host, .int .i64 g.org.port, .bool g.proxy, .string g.user, .string g.pass, .int .i64 g.ask.sch, .string g.ask.realm, .string g.ask.nonce, .string g.ask.opq, .bool g.ask.sess, .string g.ask.qop, .bool g.ask.stale, .slice xb g.ask.dom.length xd, .int .i64 (cn0 + 1), .slice yb g.paths.length yd] 34)).setCell ⟨w5.heap.size, 14, none⟩ (.int .i64 (cn0 + 1))).heap[x]? = w7.heap[x]?) := ⟨⟨gv8, G8, hB10, H8.out.2.1, fun x hx hxl => (hk8 x hx hxl).2⟩, hl10, hwas10.trans (show some (Obj.cells #[.bool g.org.sec, .string g.org.host, .int .i64 g.org.port, .bool g.proxy, .string g.user, .string g.pass, .int .i64 g.ask.sch, .string g.ask.realm, .string g.ask.nonce, .string g.ask.opq, .bool g.ask.sess, .string g.ask.qop, .bool g.ask.stale, .slice xa g.ask.dom.length xc, .int .i64 (cn0 + 1), .slice ya g.paths.length yc] 34 (0, 0)) = some (Obj.cells #[.bool g.org.sec, .string g.org.host, .int .i64 g.org.port, .bool g.proxy, .string g.user, .string g.pass, .int .i64 g.ask.sch, .string g.ask.realm, .string g.ask.nonce, .string g.ask.opq, .bool g.ask.sess, .string g.ask.qop, .bool g.ask.stale, .slice xa g.ask.dom.length xc, .int .i64 (g.count + ((j + 1 : Nat) : Int)), .slice ya g.paths.length yc] 34 (0, 0)) by rw [show cn0 + 1 = g.count + ((j + 1 : Nat) : Int) by omega]), hz10, hk10⟩
          obtain ⟨ua, uc, ug, hu1, hu2⟩ := OwnS.strs ho10
          obtain ⟨va, vc, vg, hv1, hv2⟩ := OwnS.strs hp10
          obtain ⟨sa, sc, sg, hs1, hs2⟩ := OwnS.strs hoa
          obtain ⟨ra, rc, rg, hr1, hr2⟩ := OwnS.strs hpa
          injection hu1 with e1 _ e2
          injection hv1 with e3 _ e4
          injection hs1 with e5 _ e6
          injection hr1 with e7 _ e8
          subst e1 e2 e3 e4 e5 e6 e7 e8
          have d0 := cell_of (i := 0) hn10
          have d1 := cell_of (i := 1) hn10
          have d2 := cell_of (i := 2) hn10
          have d3 := cell_of (i := 3) hn10
          have d4 := cell_of (i := 4) hn10
          have d5 := cell_of (i := 5) hn10
          have d6 := cell_of (i := 6) hn10
          have d7 := cell_of (i := 7) hn10
          have d8 := cell_of (i := 8) hn10
          have d9 := cell_of (i := 9) hn10
          have d10 := cell_of (i := 10) hn10
          have d11 := cell_of (i := 11) hn10
          have d12 := cell_of (i := 12) hn10
          have d13 := cell_of (i := 13) hn10
          have d14 := cell_of (i := 14) hn10
          have d15 := cell_of (i := 15) hn10
          have e0 := cell_of (i := 0) hwas10
          have e1 := cell_of (i := 1) hwas10
          have e2 := cell_of (i := 2) hwas10
          have e3 := cell_of (i := 3) hwas10
          have e4 := cell_of (i := 4) hwas10
          have e5 := cell_of (i := 5) hwas10
          have e6 := cell_of (i := 6) hwas10
          have e7 := cell_of (i := 7) hwas10
          have e8 := cell_of (i := 8) hwas10
          have e9 := cell_of (i := 9) hwas10
          have e10 := cell_of (i := 10) hwas10
          have e11 := cell_of (i := 11) hwas10
          have e12 := cell_of (i := 12) hwas10
          have e13 := cell_of (i := 13) hwas10
          have e14 := cell_of (i := 14) hwas10
          have e15 := cell_of (i := 15) hwas10
          simp only [List.getElem?_toArray, List.getElem?_cons_zero, List.getElem?_cons_succ] at d0 d1 d2 d3 d4 d5 d6 d7 d8 d9 d10 d11 d12 d13 d14 d15 e0 e1 e2 e3 e4 e5 e6 e7 e8 e9 e10 e11 e12 e13 e14 e15
          have hsame2 := sameGrant_yes { g with count := cn0 + 1 } xb xa yb ya g.ask.dom.length xd xc ug 0 sg 0 g.paths.length yd yc vg 0 rg 0 _ hu2 hs2 hv2 hr2 HD.out
          clear hu2 hv2 hs2 hr2 hl10 hz10 hk10 hty hoa hpa ho10 hp10 hB10 hn10 hg10 hwas10 hwas9 hwas8 hk8 hb9 hn9 hs8 hlow8 hLT hwl hwas hsz hsame hBj hGj hgj hlow huse H8 HO8 HIV c0 c1 c2
          go_wp2_with fail
          refine hsame2.mono ?_
          rintro e w12 ⟨rfl, hb12⟩
          have HRK : Hid ((∃ gvj Gj, BankW w12 w3.heap.size w3.heap.size gvj (.slice none 0 0) Gj [] ∧ Gj.map (·.g) = cntSt (G.map (·.g)) k g (j + 1) ∧ ∀ x, w4.heap.size ≤ x → x < w7.heap.size → gvj.ownBlock ≠ some x) ∧ Below w3.heap.size w3 w12 ∧ w12.heap[w5.heap.size]? = some (.cells #[.bool g.org.sec, .string g.org.host, .int .i64 g.org.port, .bool g.proxy, .string g.user, .string g.pass, .int .i64 g.ask.sch, .string g.ask.realm, .string g.ask.nonce, .string g.ask.opq, .bool g.ask.sess, .string g.ask.qop, .bool g.ask.stale, .slice xa g.ask.dom.length xc, .int .i64 (g.count + ((j + 1 : Nat) : Int)), .slice ya g.paths.length yc] 34 (0, 0)) ∧ w7.heap.size ≤ w12.heap.size ∧ ∀ x, w4.heap.size ≤ x → x < w7.heap.size → x ≠ w5.heap.size → w12.heap[x]? = w7.heap[x]?) := by
            obtain ⟨⟨gvk, Gk, q1, q2, q3⟩, q4, q5, q6, q7⟩ := HRJ.out
            exact ⟨⟨gvk, Gk, q1.below hb12, q2, q3⟩, q4.trans (hb12.mono q4.size), (hb12.block _ (Array.getElem?_eq_some_iff.1 q5).1).trans q5, Nat.le_trans q6 hb12.size, fun x hx hxl hne => (hb12.block _ (Nat.lt_of_lt_of_le hxl q6)).trans (q7 x hx hxl hne)⟩
          clear HRJ hb12 hsame2
          go_wp2_with fail
          refine ⟨⟨j + 1, by omega, by rw [show (1 : Int) + (j : Int) + 1 = 1 + ((j + 1 : Nat) : Int) by omega], HRK⟩, ?_⟩
          simp only [intOf]
          omega
      · as_aux_lemma =>
          have hje : j = N + 1 := by omega
          have hjN : ¬ ((1 : Int) + (j : Int) ≤ 1 + (N : Int)) := by omega
          obtain ⟨⟨gvj, Gj, hBj, hGj, hgj⟩, hlow, hwas, hsz, hsame⟩ := HIV.out
          obtain ⟨cn0, hce⟩ : ∃ cn0 : Int, g.count + (j : Int) = cn0 := ⟨_, rfl⟩
          rw [hce] at hwas
          have hrw : RowG wr (w5.heap.size + 1) bv us (G.map (·.g)) := HRW.out.keep (fun x hx hxl => hsame x (by have := HLT.out.1; omega) hxl (by omega))
          have hst : cntSt (G.map (·.g)) k g j = (G.map (·.g)).eraseIdx k ++ [{ g with count := cn0 }] := by
            rw [hje]
            show _ ++ [cntU (N + 1) g] = _
            unfold cntU
            rw [← hje, hce]
          rw [hst] at hGj
          have hgr := grants_any wr hBj
          have HR8 : Hid (RowG wr (w5.heap.size + 1) bv us (G.map (·.g)) ∧ wr.heap[w5.heap.size]? = some (.cells #[.bool g.org.sec, .string g.org.host, .int .i64 g.org.port, .bool g.proxy, .string g.user, .string g.pass, .int .i64 g.ask.sch, .string g.ask.realm, .string g.ask.nonce, .string g.ask.opq, .bool g.ask.sess, .string g.ask.qop, .bool g.ask.stale, .slice xa g.ask.dom.length xc, .int .i64 cn0, .slice ya g.paths.length yc] 34 (0, 0)) ∧ Below w3.heap.size w3 wr ∧ OwnS wr w4.heap.size (.slice xa g.ask.dom.length xc) g.ask.dom ∧ OwnS wr w4.heap.size (.slice ya g.paths.length yc) g.paths ∧ Gj.map (·.g) = (G.map (·.g)).eraseIdx k ++ [{ g with count := cn0 }]) := by
            have hty : ∀ x cs, w4.heap.size ≤ x → x < w7.heap.size → w7.heap[x]? = some (.cells cs 9 (0, 0)) → wr.heap[x]? = w7.heap[x]? := fun x cs hx hxl hc => hsame x hx hxl (fun e => by
              have := HR7.out.2.2.1
              rw [← e, hc] at this
              injection this with this
              injection this with _ h3
              exact absurd h3 (by decide))
            exact ⟨hrw, hwas, hlow, ownS_at HR7.out.2.2.2.1 hty, ownS_at HR7.out.2.2.2.2.1 hty, hGj⟩
          clear hrw hst hGj hwas hlow hsz hsame hBj hgj HIV
          go_wp2_with fail
          refine hgr.mono ?_
          rintro e w9 ⟨⟨av, ut, rfl, hown9, his9, hea9⟩, hb9⟩
          have hra : RowG w9 wr.heap.size av ut ((G.map (·.g)).eraseIdx k ++ [{ g with count := cn0 }]) := ⟨hown9, his9.trans HR8.out.2.2.2.2.2, hea9⟩
          have hr9 := HR8.out.1.below hb9
          have hcl := cloneG_any bv (w5.heap.size + 1) us (G.map (·.g)) (by rw [← List.length_map (f := (·.g)), hr9.is, List.length_map]; have := HR4.out.1.glen; omega) w9 hr9
          have HR9 : Hid (RowG w9 wr.heap.size av ut ((G.map (·.g)).eraseIdx k ++ [{ g with count := cn0 }]) ∧ RowG w9 (w5.heap.size + 1) bv us (G.map (·.g)) ∧ w9.heap[w5.heap.size]? = some (.cells #[.bool g.org.sec, .string g.org.host, .int .i64 g.org.port, .bool g.proxy, .string g.user, .string g.pass, .int .i64 g.ask.sch, .string g.ask.realm, .string g.ask.nonce, .string g.ask.opq, .bool g.ask.sess, .string g.ask.qop, .bool g.ask.stale, .slice xa g.ask.dom.length xc, .int .i64 cn0, .slice ya g.paths.length yc] 34 (0, 0)) ∧ Below w3.heap.size w3 w9 ∧ OwnS w9 w4.heap.size (.slice xa g.ask.dom.length xc) g.ask.dom ∧ OwnS w9 w4.heap.size (.slice ya g.paths.length yc) g.paths) := ⟨hra, hr9, (hb9.block _ (Array.getElem?_eq_some_iff.1 HR8.out.2.1).1).trans HR8.out.2.1, HR8.out.2.2.1.trans (hb9.mono HR8.out.2.2.1.size), OwnS.below HR8.out.2.2.2.1 hb9, OwnS.below HR8.out.2.2.2.2.1 hb9⟩
          clear hgr hown9 his9 hea9 hb9 hra hr9 HR8
          go_wp2_with fail
          refine hcl.mono ?_
          rintro e w10 ⟨⟨cv, rfl, hownc⟩, hb10⟩
          have hlt9 : w5.heap.size < w9.heap.size := (Array.getElem?_eq_some_iff.1 HR9.out.2.2.1).1
          have hcd := cntDel (s := w9.heap.size) (s2 := w5.heap.size + 1) (a := w5.heap.size) (us := us) (l := G.map (·.g)) (bv := cv) (x := ⟨{ g with count := cn0 }, .slice xa g.ask.dom.length xc, .slice ya g.paths.length yc⟩) (by rw [← List.length_map (f := (·.g)), HR9.out.2.1.is, List.length_map]; have := HR4.out.1.glen; omega) w10 hownc HR9.out.2.1.is (fun u hu => (HR9.out.2.1.each u hu).below hb10) ((hb10.block _ hlt9).trans HR9.out.2.2.1) (fun e => by have := (hownc.lt _ e).1; omega)
          have HB10 : Hid (Below w9.heap.size w9 w10 ∧ (∀ x, cv.ownBlock = some x → w9.heap.size ≤ x)) := ⟨hb10, fun x e => (hownc.lt x e).1⟩
          clear hcl hb10 hownc
          go_wp2_with fail
          refine hcd.mono ?_
          rintro e w11 ⟨p2, m2, c2, rfl, H11⟩
          have hb11 : Below w9.heap.size w9 w11 := HB10.out.1.grown H11.out.2.2.2 HB10.out.1.size (fun i hi => HB10.out.2 i hi)
          have hrest : RowG w11 (w5.heap.size + 1) (.slice p2 m2 c2) (us.filter (fun v => !realmP { g with count := cn0 } v.g)) ((G.map (·.g)).eraseIdx k) := by
            exact ⟨H11.out.1.mono (by omega), H11.out.2.1.trans (show (G.map (·.g)).filter (fun v => !realmP g v) = (G.map (·.g)).eraseIdx k from apart_rest (G.map (·.g)) k g (by rw [HR4.out.2.2]; exact apart_all _) HK.out.2), H11.out.2.2.1⟩
          have hraw := HR9.out.1.below hb11
          obtain ⟨A, hA⟩ : ∃ A, (G.map (·.g)).eraseIdx k = A := ⟨_, rfl⟩
          rw [hA] at hraw hrest
          obtain ⟨m, n, ga, ca, da, dc, pa, pc, hm, hn, hav, hca, hcm, HL⟩ := row_last w11 hraw
          subst hav
          have hm2 := row_len hrest
          rw [hm] at hm2
          obtain rfl := hm2
          have HRS : Hid (∀ W, Below w11.heap.size w11 W → RowG W (w5.heap.size + 1) (.slice p2 m2 c2) (us.filter (fun v => !realmP { g with count := cn0 } v.g)) A) := fun W hW => hrest.below hW
          have HWB : Hid (∀ W, Below w11.heap.size w11 W → W.heap[w5.heap.size]? = some (.cells #[.bool g.org.sec, .string g.org.host, .int .i64 g.org.port, .bool g.proxy, .string g.user, .string g.pass, .int .i64 g.ask.sch, .string g.ask.realm, .string g.ask.nonce, .string g.ask.opq, .bool g.ask.sess, .string g.ask.qop, .bool g.ask.stale, .slice xa g.ask.dom.length xc, .int .i64 cn0, .slice ya g.paths.length yc] 34 (0, 0)) ∧ OwnS W w4.heap.size (.slice xa g.ask.dom.length xc) g.ask.dom ∧ OwnS W w4.heap.size (.slice ya g.paths.length yc) g.paths ∧ Below w3.heap.size w3 W) := fun W hW => by
            have h1 : Below w9.heap.size w9 W := hb11.trans (hW.mono hb11.size)
            exact ⟨(h1.block _ hlt9).trans HR9.out.2.2.1, OwnS.below HR9.out.2.2.2.2.1 h1, OwnS.below HR9.out.2.2.2.2.2 h1, HR9.out.2.2.2.1.trans (h1.mono HR9.out.2.2.2.1.size)⟩
          have HFA : Hid (∀ y ∈ A, y.ask.dom.length ≤ 1000 ∧ y.paths.length ≤ 1000) := fun y hy => HFG.out y (List.mem_of_mem_eraseIdx (hA ▸ hy))
          have HAL : Hid (A.length ≤ 1000) := by
            have h1 := HR4.out.1.glen
            have h2 : A.length ≤ (G.map (·.g)).length := by rw [← hA]; exact List.length_eraseIdx_le _ _
            rw [List.length_map] at h2
            show A.length ≤ 1000
            omega
          have hms : m2 ≤ 1000 := by have := HAL.out; omega
          have hcl2 : ca ≤ 9223372036854775807 := by unfold maxLen at hcm; omega
          have hw0 : IntKind.i64.wrap ((m2 : Int) + 1) = (n : Int) := by rw [show (m2 : Int) + 1 = (n : Int) by omega]; exact IntWalk.i64_in _ ⟨by omega, by omega⟩
          have hw1 : IntKind.i64.wrap ((n : Int) - 1) = (m2 : Int) := by rw [show (n : Int) - 1 = (m2 : Int) by omega]; exact IntWalk.i64_in _ ⟨by omega, by omega⟩
          have ha1 : (0 : Int) ≤ (m2 : Int) := by omega
          have hb1 : (m2 : Int) < (n : Int) := by omega
          have hcc : (m2 : Int) ≤ (ca : Int) := by omega
          have hcc2 : m2 ≤ ca := by omega
          have hcc3 : (n : Int) ≤ (ca : Int) := by omega
          clear hA hraw hrest hm hn hb11 H11 HB10 HR9 hcd hje hjN hce hlt9
          go_wp2_with fail
          as_aux_lemma =>
            have hSd : Hid (Below w11.heap.size w11 w11.drew) := (Below.refl _ _).drew
            refine wp_region_held_drew (S := fun W => Hid (Below w11.heap.size w11 W)) (by kernel_rfl) hSd (fun hHeld => ?_)
            refine takeH (i := 0) (d := some 91) (v := ?_) rfl rfl (by kernel_rfl) (by kernel_rfl) (by kernel_rfl) (fun _ _ _ h => h) (by rfl) ?_ (by assumption) ?_
            rotate_left
            · intro w hSw; go_simp; with_reducible rfl
            try simp only [Act.put, List.setIfInBounds_toArray, List.set_cons_zero, List.set_cons_succ]
            refine takeH (i := 1) (d := some 92) (v := ?_) rfl rfl (by kernel_rfl) (by kernel_rfl) (by kernel_rfl) (fun _ _ _ h => h) (by rfl) ?_ (by assumption) ?_
            rotate_left
            · intro w hSw; go_simp; with_reducible rfl
            try simp only [Act.put, List.setIfInBounds_toArray, List.set_cons_zero, List.set_cons_succ]
            refine takeH (i := 2) (d := some 93) (v := ?_) rfl rfl (by kernel_rfl) (by kernel_rfl) (by kernel_rfl) (fun _ _ _ h => h) (by rfl) ?_ (by assumption) ?_
            rotate_left
            · intro w hSw; go_simp; with_reducible rfl
            try simp only [Act.put, List.setIfInBounds_toArray, List.set_cons_zero, List.set_cons_succ]
            refine takeH (i := 3) (d := some 94) (v := ?_) rfl rfl (by kernel_rfl) (by kernel_rfl) (by kernel_rfl) (fun _ _ _ h => h) (by rfl) ?_ (by assumption) ?_
            rotate_left
            · intro w hSw; go_simp; with_reducible rfl
            try simp only [Act.put, List.setIfInBounds_toArray, List.set_cons_zero, List.set_cons_succ]
            refine takeH (i := 4) (d := some 95) (v := ?_) rfl rfl (by kernel_rfl) (by kernel_rfl) (by kernel_rfl) (fun _ _ _ h => h) (by rfl) ?_ (by assumption) ?_
            rotate_left
            · intro w hSw; go_simp; with_reducible rfl
            try simp only [Act.put, List.setIfInBounds_toArray, List.set_cons_zero, List.set_cons_succ]
            refine takeH (i := 5) (d := some 96) (v := ?_) rfl rfl (by kernel_rfl) (by kernel_rfl) (by kernel_rfl) (fun _ _ _ h => h) (by rfl) ?_ (by assumption) ?_
            rotate_left
            · intro w hSw; go_simp; with_reducible rfl
            try simp only [Act.put, List.setIfInBounds_toArray, List.set_cons_zero, List.set_cons_succ]
            refine takeH (i := 6) (d := some 97) (v := ?_) rfl rfl (by kernel_rfl) (by kernel_rfl) (by kernel_rfl) (fun _ _ _ h => h) (by rfl) ?_ (by assumption) ?_
            rotate_left
            · intro w hSw; go_simp; with_reducible rfl
            try simp only [Act.put, List.setIfInBounds_toArray, List.set_cons_zero, List.set_cons_succ]
            refine takeH (i := 7) (d := some 98) (v := ?_) rfl rfl (by kernel_rfl) (by kernel_rfl) (by kernel_rfl) (fun _ _ _ h => h) (by rfl) ?_ (by assumption) ?_
            rotate_left
            · intro w hSw; go_simp; with_reducible rfl
            try simp only [Act.put, List.setIfInBounds_toArray, List.set_cons_zero, List.set_cons_succ]
            refine takeH (i := 8) (d := some 99) (v := ?_) rfl rfl (by kernel_rfl) (by kernel_rfl) (by kernel_rfl) (fun _ _ _ h => h) (by rfl) ?_ (by assumption) ?_
            rotate_left
            · intro w hSw; go_simp; with_reducible rfl
            try simp only [Act.put, List.setIfInBounds_toArray, List.set_cons_zero, List.set_cons_succ]
            refine takeH (i := 9) (d := some 100) (v := ?_) rfl rfl (by kernel_rfl) (by kernel_rfl) (by kernel_rfl) (fun _ _ _ h => h) (by rfl) ?_ (by assumption) ?_
            rotate_left
            · intro w hSw; go_simp; with_reducible rfl
            try simp only [Act.put, List.setIfInBounds_toArray, List.set_cons_zero, List.set_cons_succ]
            refine takeH (i := 10) (d := some 101) (v := ?_) rfl rfl (by kernel_rfl) (by kernel_rfl) (by kernel_rfl) (fun _ _ _ h => h) (by rfl) ?_ (by assumption) ?_
            rotate_left
            · intro w hSw; go_simp; with_reducible rfl
            try simp only [Act.put, List.setIfInBounds_toArray, List.set_cons_zero, List.set_cons_succ]
            refine takeH (i := 11) (d := some 102) (v := ?_) rfl rfl (by kernel_rfl) (by kernel_rfl) (by kernel_rfl) (fun _ _ _ h => h) (by rfl) ?_ (by assumption) ?_
            rotate_left
            · intro w hSw; go_simp; with_reducible rfl
            try simp only [Act.put, List.setIfInBounds_toArray, List.set_cons_zero, List.set_cons_succ]
            refine takeH (i := 12) (d := some 103) (v := ?_) rfl rfl (by kernel_rfl) (by kernel_rfl) (by kernel_rfl) (fun _ _ _ h => h) (by rfl) ?_ (by assumption) ?_
            rotate_left
            · intro w hSw; (try dsimp only at hSw); obtain ⟨q0, q1, q2, q3, q4, q5, q6, q7, q8, q9, q10, q11, q12, q13, q14, q15⟩ := (HL.out _ hSw.out).cells; go_simp; with_reducible rfl
            try simp only [Act.put, List.setIfInBounds_toArray, List.set_cons_zero, List.set_cons_succ]
            refine takeH (i := 13) (d := some 104) (v := ?_) rfl rfl (by kernel_rfl) (by kernel_rfl) (by kernel_rfl) (fun _ _ _ h => h) (by rfl) ?_ (by assumption) ?_
            rotate_left
            · intro w hSw; (try dsimp only at hSw); have hwx := (HWB.out _ hSw.out).1; have q0 := cell_of (i := 0) hwx; have q1 := cell_of (i := 1) hwx; have q2 := cell_of (i := 2) hwx; have q3 := cell_of (i := 3) hwx; have q4 := cell_of (i := 4) hwx; have q5 := cell_of (i := 5) hwx; have q6 := cell_of (i := 6) hwx; have q7 := cell_of (i := 7) hwx; have q8 := cell_of (i := 8) hwx; have q9 := cell_of (i := 9) hwx; have q10 := cell_of (i := 10) hwx; have q11 := cell_of (i := 11) hwx; have q12 := cell_of (i := 12) hwx; have q13 := cell_of (i := 13) hwx; have q14 := cell_of (i := 14) hwx; have q15 := cell_of (i := 15) hwx; simp only [List.getElem?_toArray, List.getElem?_cons_zero, List.getElem?_cons_succ] at q0 q1 q2 q3 q4 q5 q6 q7 q8 q9 q10 q11 q12 q13 q14 q15; go_simp; with_reducible rfl
            try simp only [Act.put, List.setIfInBounds_toArray, List.set_cons_zero, List.set_cons_succ]
            refine wpAnyH_ready (rs := [14]) (by kernel_rfl) (by simp) ?_
            refine AllReadyH.cons (by rfl) (fun K hKK => ?_) AllReadyH.nil
            go_simp
            have hcall : Calls Tryd.prog 15 #[.agg #[.bool g.org.sec, .string g.org.host, .int .i64 g.org.port, .bool g.proxy, .string g.user, .string g.pass, .int .i64 g.ask.sch, .string g.ask.realm, .string g.ask.nonce, .string g.ask.opq, .bool g.ask.sess, .string g.ask.qop, .bool g.ask.stale, .slice da g.ask.dom.length dc, .int .i64 cn0, .slice pa g.paths.length pc], .agg #[.bool g.org.sec, .string g.org.host, .int .i64 g.org.port, .bool g.proxy, .string g.user, .string g.pass, .int .i64 g.ask.sch, .string g.ask.realm, .string g.ask.nonce, .string g.ask.opq, .bool g.ask.sess, .string g.ask.qop, .bool g.ask.stale, .slice xa g.ask.dom.length xc, .int .i64 cn0, .slice ya g.paths.length yc]] w11.drew fun e w' => e = .returned (.bool true) ∧ Below w11.drew.heap.size w11.drew w' := by
              obtain ⟨ua, uc, ug, hu1, hu2⟩ := OwnS.strs (HL.out _ hSd.out).dom
              obtain ⟨va, vc, vg, hv1, hv2⟩ := OwnS.strs (HL.out _ hSd.out).paths
              obtain ⟨sa, sc, sg, hs1, hs2⟩ := OwnS.strs (HWB.out _ hSd.out).2.1
              obtain ⟨ra, rc, rg, hr1, hr2⟩ := OwnS.strs (HWB.out _ hSd.out).2.2.1
              injection hu1 with e1 _ e2
              injection hv1 with e3 _ e4
              injection hs1 with e5 _ e6
              injection hr1 with e7 _ e8
              subst e1 e2 e3 e4 e5 e6 e7 e8
              exact sameGrant_yes { g with count := cn0 } da xa pa ya g.ask.dom.length dc xc ug 0 sg 0 g.paths.length pc yc vg 0 rg 0 _ hu2 hs2 hv2 hr2 HD.out
            refine hcall.mono ?_
            rintro e w12 ⟨rfl, hb12⟩
            have hS6 : Hid (Below w11.heap.size w11 w12) := hSd.out.trans (hb12.mono hSd.out.size)
            go_wp2_with fail
            refine hKK.out _ _ hS6 (fun hHeld6 => ?_)
            clear hKK K
            try simp only [Act.put, List.setIfInBounds_toArray, List.set_cons_zero, List.set_cons_succ]
            refine takeH (i := 15) (d := some 106) (v := ?_) rfl rfl (by kernel_rfl) (by kernel_rfl) (by kernel_rfl) (fun _ _ _ h => h) (by rfl) ?_ (by assumption) ?_
            rotate_left
            · intro w hSw; go_simp; with_reducible rfl
            try simp only [Act.put, List.setIfInBounds_toArray, List.set_cons_zero, List.set_cons_succ]
            refine takeH (i := 16) (d := some 107) (v := ?_) rfl rfl (by kernel_rfl) (by kernel_rfl) (by kernel_rfl) (fun _ _ _ h => h) (by rfl) ?_ (by assumption) ?_
            rotate_left
            · intro w hSw; go_simp; with_reducible rfl
            try simp only [Act.put, List.setIfInBounds_toArray, List.set_cons_zero, List.set_cons_succ]
            refine takeH (i := 17) (d := some 108) (v := ?_) rfl rfl (by kernel_rfl) (by kernel_rfl) (by kernel_rfl) (fun _ _ _ h => h) (by rfl) ?_ (by assumption) ?_
            rotate_left
            · intro w hSw; go_simp; with_reducible rfl
            try simp only [Act.put, List.setIfInBounds_toArray, List.set_cons_zero, List.set_cons_succ]
            refine takeH (i := 18) (d := some 109) (v := ?_) rfl rfl (by kernel_rfl) (by kernel_rfl) (by kernel_rfl) (fun _ _ _ h => h) (by rfl) ?_ (by assumption) ?_
            rotate_left
            · intro w hSw; go_simp; with_reducible rfl
            try simp only [Act.put, List.setIfInBounds_toArray, List.set_cons_zero, List.set_cons_succ]
            refine takeH (i := 19) (d := some 110) (v := ?_) rfl rfl (by kernel_rfl) (by kernel_rfl) (by kernel_rfl) (fun _ _ _ h => h) (by rfl) ?_ (by assumption) ?_
            rotate_left
            · intro w hSw; go_simp; with_reducible rfl
            try simp only [Act.put, List.setIfInBounds_toArray, List.set_cons_zero, List.set_cons_succ]
            refine takeH (i := 20) (d := some 111) (v := ?_) rfl rfl (by kernel_rfl) (by kernel_rfl) (by kernel_rfl) (fun _ _ _ h => h) (by rfl) ?_ (by assumption) ?_
            rotate_left
            · intro w hSw; go_simp; with_reducible rfl
            try simp only [Act.put, List.setIfInBounds_toArray, List.set_cons_zero, List.set_cons_succ]
            refine takeH (i := 21) (d := some 112) (v := ?_) rfl rfl (by kernel_rfl) (by kernel_rfl) (by kernel_rfl) (fun _ _ _ h => h) (by rfl) ?_ (by assumption) ?_
            rotate_left
            · intro w hSw; go_simp; with_reducible rfl
            try simp only [Act.put, List.setIfInBounds_toArray, List.set_cons_zero, List.set_cons_succ]
            refine takeH (i := 22) (d := some 113) (v := ?_) rfl rfl (by kernel_rfl) (by kernel_rfl) (by kernel_rfl) (fun _ _ _ h => h) (by rfl) ?_ (by assumption) ?_
            rotate_left
            · intro w hSw; go_simp; with_reducible rfl
            try simp only [Act.put, List.setIfInBounds_toArray, List.set_cons_zero, List.set_cons_succ]
            refine wpAnyH_ready (rs := [23]) (by kernel_rfl) (by simp) ?_
            refine AllReadyH.cons (by rfl) (fun K hKK => ?_) AllReadyH.nil
            go_simp
            obtain ⟨uz, huz⟩ := (HL.out _ hS6.out).cut
            refine (eqf_rows w12 huz (HRS.out _ hS6.out) HFA.out HAL.out).mono ?_
            rintro e w13 ⟨rfl, hb13⟩
            have hS7 : Hid (Below w11.heap.size w11 w13) := hS6.out.trans (hb13.mono hS6.out.size)
            go_wp2_with fail
            refine hKK.out _ _ hS7 (fun hHeld7 => ?_)
            clear hKK K
            try simp only [Act.put, List.setIfInBounds_toArray, List.set_cons_zero, List.set_cons_succ]
            refine takeH (i := 24) (d := some 115) (v := ?_) rfl rfl (by kernel_rfl) (by kernel_rfl) (by kernel_rfl) (fun _ _ _ h => h) (by rfl) ?_ (by assumption) ?_
            rotate_left
            · intro w hSw; go_simp; with_reducible rfl
            try simp only [Act.put, List.setIfInBounds_toArray, List.set_cons_zero, List.set_cons_succ]
            refine takeH (i := 25) (d := some 10) (v := ?_) rfl rfl (by kernel_rfl) (by kernel_rfl) (by kernel_rfl) (fun _ _ _ h => h) (by rfl) ?_ (by assumption) ?_
            rotate_left
            · intro w hSw; go_simp; with_reducible rfl
            try simp only [Act.put, List.setIfInBounds_toArray, List.set_cons_zero, List.set_cons_succ]
            refine wpAnyH_done (by kernel_rfl) ?_ _
            go_wp2
            go_ret
            exact ⟨rfl, (HO.out _ (HB5.out.trans ((HWB.out _ hS7.out).2.2.2.mono HB5.out.size))).2⟩
end Go.Proofs.YtemlclgdgnfhnaaDoor

/- What came in: no text of it is longer than a machine can hold. -/
namespace Go.Proofs.YtemlclgdgnfhnaaDoor
open Go.ChangeShapes Go.WideShapes Go.ChangeAt Go.RowKit Go.Joins

theorem laidOutP : laidOutB Tryd.prog = true := by kernel_rfl
theorem weightsAll_mem {H : Type} {P : Program} {e : TypeId} : ∀ {ds : List (DataW H)} {d : DataW H}, d ∈ ds → ∀ n ∈ d.weights P e, n ∈ DataW.weightsAll P e ds
  | d0 :: ds, d, hd, n, hn => by
    rw [DataW.weightsAll, List.mem_append]
    rcases List.mem_cons.1 hd with rfl | h
    · exact .inl hn
    · exact .inr (weightsAll_mem h n hn)
theorem weights_slice {H : Type} {t e : TypeId} (ht : Tryd.prog.underlying t = some (.slice e)) {ds es : List (DataW H)} {d : DataW H} (hd : d ∈ ds) : ∀ n ∈ d.weights Tryd.prog e, n ∈ (DataW.slice ds es).weights Tryd.prog t := by
  intro n hn
  rw [DataW.weights, ht]
  simp only [List.mem_cons, List.mem_append]
  exact .inr (.inl (weightsAll_mem hd n hn))
/-- No text of it is longer than a machine can hold. -/
def Reach {H : Type} (t : TypeId) (d : DataW H) : Prop := ∀ n ∈ d.weights Tryd.prog t, n ≤ 140737488355328
theorem reach_all {H : Type} {ts : List TypeId} {ds : List (DataW H)} (h : (DataW.weightsEach Tryd.prog ts ds).all (· ≤ reachBytes) = true) {j : Nat} {t : TypeId} {d : DataW H} (ht : ts[j]? = some t) (hd : ds[j]? = some d) : Reach t d := fun n hn => by
  have h1 := List.all_eq_true.1 h _ (DataW.weights_mem_each ht hd n hn)
  have h2 : n ≤ reachBytes := of_decide_eq_true h1
  have := reachBytes_lt
  have e3 : (2 : Nat) ^ 47 = 140737488355328 := by decide
  omega
theorem reach_string {H : Type} {t : TypeId} {s : ByteArray} (h : Reach (H := H) t (.lit (.string s.data.toList))) : s.size ≤ 140737488355328 := by
  have := h s.data.toList.length (by simp [DataW.weights])
  rw [Array.length_toList] at this
  exact this
def strOf : Value → ByteArray
  | .string s => s
  | _ => ⟨#[]⟩
end Go.Proofs.YtemlclgdgnfhnaaDoor
