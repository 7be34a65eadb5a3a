/- slices.EqualFunc of two rows of grants of which each two are the same. -/
import Derived.Test.YtdnnlfklanaliacFth7
import Derived.Test.YtdnnlfklanaliacSam7
namespace Go.Proofs.Ytdnnlfklanaliac
open Go.RowKit
set_option linter.unusedVariables false

set_option maxRecDepth 100000 in
set_option maxHeartbeats 4000000 in
theorem eqf_of (P : Program) (hf : P.funcs[9]? = some Try.f9)
    (tS : P.underlying 22 = some (TypeDesc.slice 38)) (aS : ∀ w, (isAgg 22).run P w = .ok false w) (zS : ∀ w, (Go.sizeOf 22).run P w = .ok 1 w)
    (t3 : P.underlying 3 = some (TypeDesc.int IntKind.i64)) (a3 : ∀ w, (isAgg 3).run P w = .ok false w) (z3 : ∀ w, (Go.sizeOf 3).run P w = .ok 1 w) (v3 : ∀ w, (zeroValue 3).run P w = .ok (Value.int IntKind.i64 0) w)
    (t4 : P.underlying 4 = some TypeDesc.bool) (a4 : ∀ w, (isAgg 4).run P w = .ok false w) (z4 : ∀ w, (Go.sizeOf 4).run P w = .ok 1 w)
    (k : Nat) (hk0 : 0 < k) (aE : ∀ w, (isAgg 38).run P w = .ok true w) (zE : ∀ w, (Go.sizeOf 38).run P w = .ok k w) (zc : Array Value) (vE : ∀ w, (zeroValue 38).run P w = .ok (.agg zc) w) (hzc : zc.size = k)
    (g n cap B : Nat) (xs ys : List (List Value)) (hn : xs.length = n) (hn2 : ys.length = n) (hbig : n ≤ 1000) (w : World) (hown : OwnK k 38 w B (.slice (some ⟨g, 0, none⟩) n cap) xs)
    (g2 cap2 B2 : Nat) (hown2 : OwnK k 38 w B2 (.slice (some ⟨g2, 0, none⟩) n cap2) ys)
    (fn : Nat) (eg : ∀ args w, (callFunc fn args).run P w = .ok (.enter fn args) w)
    (hm : ∀ W (j : Nat) x y, xs[j]? = some x → ys[j]? = some y → Below w.heap.size w W → Calls P fn #[.agg x.toArray, .agg y.toArray] W fun e w' => e = .returned (.bool true) ∧ Below W.heap.size W w') :
    Calls P 9 #[.slice (some ⟨g, 0, none⟩) n cap, .slice (some ⟨g2, 0, none⟩) n cap2, .func (.func fn) #[] #[]] w fun e w' => e = .returned (.bool true) ∧ Below w.heap.size w w' := by
  have HO : Hid (OwnK k 38 w B (.slice (some ⟨g, 0, none⟩) n cap) xs ∧ OwnK k 38 w B2 (.slice (some ⟨g2, 0, none⟩) n cap2) ys) := ⟨hown, hown2⟩
  have HN : Hid (xs.length = n ∧ ys.length = n) := ⟨hn, hn2⟩
  have HM : Hid (∀ W (j : Nat) x y, xs[j]? = some x → ys[j]? = some y → Below w.heap.size w W → Calls P fn #[.agg x.toArray, .agg y.toArray] W fun e w' => e = .returned (.bool true) ∧ Below W.heap.size W w') := hm
  have HZ : Hid (zc.size = k) := hzc
  clear hown hown2 hn hn2 hm hzc
  go_enter hf, Try.ntmps9
  go_wp2
  go_loopw [17] (fun i wr => ∃ kk : Nat, kk ≤ n ∧ i = .int .i64 kk ∧ Hid (Below w.heap.size w wr)) (fun i _ => n - (intOf i).toNat)
  case atStart => exact ⟨0, Nat.zero_le _, rfl, Below.refl _ _⟩
  case round =>
    obtain ⟨kk, hkk, rfl, HI⟩ := hrel
    by_cases hlt : kk < n
    · have hltz : (kk : Int) < (n : Int) := by omega
      obtain ⟨x, hx⟩ : ∃ x, xs[kk]? = some x := ⟨xs[kk]'(by have := HN.out; omega), List.getElem?_eq_getElem _⟩
      obtain ⟨y, hy⟩ : ∃ y, ys[kk]? = some y := ⟨ys[kk]'(by have := HN.out; omega), List.getElem?_eq_getElem _⟩
      have hxl : x.length = k := HO.out.1.len x (List.mem_of_getElem? hx)
      have hyl : y.length = k := HO.out.2.len y (List.mem_of_getElem? hy)
      have hx1 : ∀ u ∈ x, u.oneCell' = true := HO.out.1.one x (List.mem_of_getElem? hx)
      have hy1 : ∀ u ∈ y, u.oneCell' = true := HO.out.2.one y (List.mem_of_getElem? hy)
      have l1 := (HO.out.1.below HI.out).load P hx
      have hb1 : Below wr.heap.size wr (wr.alloc (.cells x.toArray 38)) := (Below.refl _ _).alloc (Nat.le_refl _) _
      have s1 := run_boxed P wr zc 38 x (by rw [HZ.out, hxl]) hx1
      have HB1 : Hid (Below w.heap.size w (wr.alloc (.cells x.toArray 38))) := HI.out.trans (hb1.mono HI.out.size)
      have l2 := (HO.out.2.below HB1.out).load P hy
      have hb2 : Below (wr.alloc (.cells x.toArray 38)).heap.size (wr.alloc (.cells x.toArray 38)) ((wr.alloc (.cells x.toArray 38)).alloc (.cells y.toArray 38)) := (Below.refl _ _).alloc (Nat.le_refl _) _
      have s2 := run_boxed P (wr.alloc (.cells x.toArray 38)) zc 38 y (by rw [HZ.out, hyl]) hy1
      have l3 := run_unboxed P (w := wr.alloc (.cells x.toArray 38)) (w' := (wr.alloc (.cells x.toArray 38)).alloc (.cells y.toArray 38)) (b := wr.heap.size) hxl (heap_alloc_new wr _) hb2
      have l4 := run_unboxed P (w := (wr.alloc (.cells x.toArray 38)).alloc (.cells y.toArray 38)) (w' := (wr.alloc (.cells x.toArray 38)).alloc (.cells y.toArray 38)) (b := (wr.alloc (.cells x.toArray 38)).heap.size) hyl (heap_alloc_new _ _) (Below.refl _ _)
      have HB2 : Hid (Below w.heap.size w ((wr.alloc (.cells x.toArray 38)).alloc (.cells y.toArray 38))) := HB1.out.trans (hb2.mono HB1.out.size)
      have hcall := HM.out _ kk x y hx hy HB2.out
      have hxa : x.toArray.size = k := by simp [hxl]
      have hya : y.toArray.size = k := by simp [hyl]
      clear hx hy hb1 hb2 hx1 hy1
      generalize hWX : wr.alloc (.cells x.toArray 38) = WX at s1 l2 l3 l4 s2 HB1 HB2 hcall
      generalize hWY : WX.alloc (.cells y.toArray 38) = WY at s2 l3 l4 HB2 hcall
      go_wp2_with (go_at_fn fn; refine hcall.mono ?_; rintro e w2 ⟨rfl, hb3⟩)
      go_roundw
      case rel => exact ⟨kk + 1, by omega, by go_num, HB2.out.trans (hb3.mono HB2.out.size)⟩
      case measure => simp [intOf]; omega
    · have hltz : ¬ (kk : Int) < (n : Int) := by omega
      go_wp2
      go_ret
      exact ⟨rfl, HI.out⟩
set_option maxHeartbeats 2000000 in
theorem eqf_zero (w : World) (p q : Option Addr) (c d : Nat) (F : Value) : Calls Try.prog 9 #[.slice p 0 c, .slice q 0 d, F] w fun e w' => e = .returned (.bool true) ∧ w' = w := by
  go_enter Try.func9, Try.ntmps9
  go_wp2
  refine wp_loop_rounds 1 ?_
  rw [rounds_succ]
  go_wp2
  go_ret
  exact ⟨rfl, rfl⟩
/-- Two rows of the same grants are equal, each two by sameGrant. -/
theorem eqf_same (v1 v2 : Value) (us vs : List GrV) (B B2 : Nat) (w : World) (h1 : OwnK 16 38 w B v1 (us.map grCells)) (h2 : OwnK 16 38 w B2 v2 (vs.map grCells)) (hs : us.map (·.g) = vs.map (·.g)) (ho1 : ∀ u ∈ us, GrOwn w B u) (ho2 : ∀ v ∈ vs, GrOwn w B2 v)
    (hd : ∀ v ∈ vs, v.g.ask.dom.length ≤ 1000 ∧ v.g.paths.length ≤ 1000) (hl : vs.length ≤ 1000) :
    Calls Try.prog 9 #[v1, v2, .func (.func 10) #[] #[]] w fun e w' => e = .returned (.bool true) ∧ Below w.heap.size w w' := by
  have hlen : us.length = vs.length := by have := congrArg List.length hs; rwa [List.length_map, List.length_map] at this
  rcases h1.forms with ⟨e1, e2⟩ | ⟨g, cap, e1, _, _, _, _⟩
  · subst e1
    have hu : us = [] := List.map_eq_nil_iff.1 e2
    have hv : vs.length = 0 := by rw [← hlen, hu]; rfl
    rcases h2.forms with ⟨f1, _⟩ | ⟨g2, cap2, f1, _, _, _, _⟩
    · subst f1
      refine (eqf_zero w _ _ _ _ _).mono ?_
      rintro e w' ⟨rfl, rfl⟩
      exact ⟨rfl, Below.refl _ _⟩
    · rw [List.length_map, hv] at f1
      subst f1
      refine (eqf_zero w _ _ _ _ _).mono ?_
      rintro e w' ⟨rfl, rfl⟩
      exact ⟨rfl, Below.refl _ _⟩
  · rcases h2.forms with ⟨f1, f2⟩ | ⟨g2, cap2, f1, _, _, _, _⟩
    · subst f1
      have hv : vs = [] := List.map_eq_nil_iff.1 f2
      rw [List.length_map, hlen, hv] at e1
      subst e1
      refine (eqf_zero w _ _ _ _ _).mono ?_
      rintro e w' ⟨rfl, rfl⟩
      exact ⟨rfl, Below.refl _ _⟩
    · rw [List.length_map, hlen] at e1
      rw [List.length_map] at f1
      subst e1 f1
      refine eqf_of Try.prog Try.func9 Try.underlying22 Try.isAgg22 Try.sizeOf22 Try.underlying3 Try.isAgg3 Try.sizeOf3 Try.zeroValue3 Try.underlying4 Try.isAgg4 Try.sizeOf4 16 (by omega) Try.isAgg38 Try.sizeOf38 _ Try.zeroValue38 rfl g _ cap B _ _ (by rw [List.length_map, hlen]) (by rw [List.length_map]) hl w h1 g2 cap2 B2 h2 10 (enters_at Try.func10 (by kernel_rfl) rfl) (fun W j x y hx hy hb => ?_)
      rw [List.getElem?_map] at hx hy
      obtain ⟨u, hu, rfl⟩ := Option.map_eq_some_iff.1 hx
      obtain ⟨v, hv, rfl⟩ := Option.map_eq_some_iff.1 hy
      have hg : u.g = v.g := by
        have := congrArg (fun l : List GrP => l[j]?) hs
        simp only [List.getElem?_map, hu, hv, Option.map_some, Option.some.injEq] at this
        exact this
      obtain ⟨da, dc, dg, hdv, hds⟩ := ((ho1 u (List.mem_of_getElem? hu)).below hb).dom.strs
      obtain ⟨pa, pc, pg, hpv, hps⟩ := ((ho1 u (List.mem_of_getElem? hu)).below hb).paths.strs
      obtain ⟨ea, ec, eg, hev, hes⟩ := ((ho2 v (List.mem_of_getElem? hv)).below hb).dom.strs
      obtain ⟨qa, qc, qg, hqv, hqs⟩ := ((ho2 v (List.mem_of_getElem? hv)).below hb).paths.strs
      rw [hg] at hdv hds hpv hps
      have hc := sameGrant_yes v.g da ea pa qa _ dc ec dg 0 eg 0 _ pc qc pg 0 qg 0 W hds hes hps hqs (hd v (List.mem_of_getElem? hv))
      rw [← hdv, ← hev, ← hpv, ← hqv] at hc
      unfold grCells
      rw [hg]
      exact hc
end Go.Proofs.Ytdnnlfklanaliac
