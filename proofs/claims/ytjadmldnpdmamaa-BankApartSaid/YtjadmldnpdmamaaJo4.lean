/- Texts of one claim, joined: each begins with what it proves. -/
import Derived.Test.YtjadmldnpdmamaaJo3
import Derived.Test.YtjadmldnpdmamaaJo1
import Derived.Test.YtjadmldnpdmamaaJo2
import Derived.Deep.Draws
import Derived.Deep.LoopGhost
import Derived.WalkKit
import Derived.Shelf.RegionOpenPlain
import Derived.Deep.AppendLies
import Derived.Deep.RegionHeld3
import Derived.Deep.QuietTactic
import Derived.BigQuiet
import Derived.ProofKit
import Derived.OpenShut
import Derived.SliceStrings
import Derived.Carry
import Derived.SizedLaws
import Derived.Deep.Slices
import Derived.Deep.SlicePairs
import Derived.Deep.Strs
import Derived.Lib.SmallJoins
/- Rows of a call's own that hold the same grants. -/
namespace Go.Proofs.Ytjadmldnpdmamaa
open Go.RowKit
set_option linter.unusedVariables false

theorem fit_small {g : GrP} (h : GrFit g) : g.ask.dom.length ≤ 1000 ∧ g.paths.length ≤ 1000 := ⟨h.2.2.2.1.2.2.2.2.1, h.2.2.2.2.1⟩
/-- Rows of a call's own that hold the same grants. -/
structure RowG (w : World) (B : Nat) (v : Value) (us : List GrV) (l : List GrP) : Prop where
  own : OwnK 16 36 w B v (us.map grCells)
  is : us.map (·.g) = l
  each : ∀ u ∈ us, GrOwn w B u
theorem RowG.below {w w' : World} {B : Nat} {v : Value} {us : List GrV} {l : List GrP} (h : RowG w B v us l) (hb : Below w.heap.size w w') : RowG w' B v us l := ⟨h.own.below hb, h.is, fun u hu => (h.each u hu).below hb⟩
theorem eqf_rows {v1 v2 : Value} {us vs : List GrV} {B B2 : Nat} {l : List GrP} (w : World) (h1 : RowG w B v1 us l) (h2 : RowG w B2 v2 vs l) (hf : ∀ g ∈ l, g.ask.dom.length ≤ 1000 ∧ g.paths.length ≤ 1000) (hl : l.length ≤ 1000) :
    Calls Try.prog 19 #[v1, v2, .func (.func 20) #[] #[]] w fun e w' => e = .returned (.bool true) ∧ Below w.heap.size w w' :=
  eqf_same v1 v2 us vs B B2 w h1.own h2.own (h1.is.trans h2.is.symm) h1.each h2.each (fun v hv => hf v.g (by rw [← h2.is]; exact List.mem_map.2 ⟨v, hv, rfl⟩)) (by rw [← List.length_map (f := (·.g)), h2.is]; exact hl)
theorem row_keep {w w' : World} {B : Nat} {t : TypeId} {k : Nat} {v : Value} {n : Nat} {us : List Value} (h : w.ownsRow B t k v n us) (hk : ∀ x, B ≤ x → x < w.heap.size → w'.heap[x]? = w.heap[x]?) : w'.ownsRow B t k v n us := by
  refine ⟨h.1, ?_⟩
  rcases h.2 with h0 | ⟨g, cap, cur, e, hB, hh, hr⟩
  · exact .inl h0
  · exact .inr ⟨g, cap, cur, e, hB, (hk g hB (Array.getElem?_eq_some_iff.1 hh).1).trans hh, hr⟩
theorem RowG.keep {w w' : World} {B : Nat} {v : Value} {us : List GrV} {l : List GrP} (h : RowG w B v us l) (hk : ∀ x, B ≤ x → x < w.heap.size → w'.heap[x]? = w.heap[x]?) : RowG w' B v us l :=
  ⟨⟨row_keep h.own.row hk, h.own.len, h.own.one⟩, h.is, fun u hu => ⟨row_keep (h.each u hu).dom hk, row_keep (h.each u hu).paths hk⟩⟩
theorem RowG.step {w w' : World} {B b : Nat} {v gv wv gv' wv' : Value} {us : List GrV} {l : List GrP} (h : RowG w B v us l) (hs : BankStep b gv wv w w' gv' wv') (hb : b < B) (hg : ∀ x, gv.ownBlock = some x → x < B) (hw : ∀ x, wv.ownBlock = some x → x < B) : RowG w' B v us l :=
  h.keep fun x hx hl => (hs.keep x hl (by omega) (fun e => by have := hg x e; omega) (fun e => by have := hw x e; omega)).1
end Go.Proofs.Ytjadmldnpdmamaa

/- Rows of structs: the first element of a kind, by the library's own function; whatever the program. -/
namespace Go.Proofs.Ytjadmldnpdmamaa
open Go.RowKit
set_option linter.unusedVariables false

set_option maxRecDepth 100000 in
set_option maxHeartbeats 2000000 in
theorem idxW_of (P : Program) (hf : P.funcs[47]? = some Try.f47) (mixed : P.follows .mixedOrders = true)
    (tS : P.underlying 50 = some (TypeDesc.slice 38)) (aS : ∀ w, (isAgg 50).run P w = .ok false w) (zS : ∀ w, (Go.sizeOf 50).run P w = .ok 1 w)
    (t3 : P.underlying 3 = some (TypeDesc.int IntKind.i64)) (a3 : ∀ w, (isAgg 3).run P w = .ok false w) (z3 : ∀ w, (Go.sizeOf 3).run P w = .ok 1 w) (v3 : ∀ w, (zeroValue 3).run P w = .ok (Value.int IntKind.i64 0) w)
    (t4 : P.underlying 4 = some TypeDesc.bool) (a4 : ∀ w, (isAgg 4).run P w = .ok false w) (z4 : ∀ w, (Go.sizeOf 4).run P w = .ok 1 w)
    (k : Nat) (aE : ∀ w, (isAgg 38).run P w = .ok true w) (zE : ∀ w, (Go.sizeOf 38).run P w = .ok k w)
    (g n cap B : Nat) (xs : List (List Value)) (hn : xs.length = n) (hbig : n ≤ 9223372036854775807) (w : World) (hown : OwnK k 38 w B (.slice (some ⟨g, 0, none⟩) n cap) xs)
    (p : List Value → Bool) (fn : Nat) (lb : Array Value) (eg : ∀ args w, (callFunc fn args).run P w = .ok (.enter fn args) w) (hp : PredK P fn lb p xs w (some g)) :
    Calls P 47 #[.slice (some ⟨g, 0, none⟩) n cap, .func (.func fn) #[] lb] w fun e w' => e = .returned (.int .i64 (fidx p xs)) ∧ Below w.heap.size w w' := by
  have HO : Hid (OwnK k 38 w B (.slice (some ⟨g, 0, none⟩) n cap) xs) := hown
  have HN : Hid (xs.length = n) := hn
  have HP : Hid (PredK P fn lb p xs w (some g)) := hp
  clear hown hn hp
  go_enter hf, Try.ntmps47
  go_wp2
  go_loopg [5, 8] n (fun gg _ s8 wr => ∃ kk : Nat, kk ≤ n ∧ n - kk ≤ gg ∧ s8 = .int .i64 kk ∧ Hid (Below w.heap.size w wr) ∧ Hid ((xs.take kk).all (fun y => !p y) = true))
  case atStart => exact ⟨0, Nat.zero_le _, by omega, rfl, Below.refl _ w, rfl⟩
  case round =>
    obtain ⟨kk, hkk, hg, rfl, BW, A⟩ := hrel
    by_cases hlt : kk < n
    · have hltz : (kk : Int) < (n : Int) := by omega
      obtain ⟨x, hx⟩ : ∃ x, xs[kk]? = some x := ⟨xs[kk]'(by have := HN.out; omega), List.getElem?_eq_getElem _⟩
      have HX : Hid (xs[kk]? = some x) := hx
      have l2 := (HO.out.below BW.out).load P hx
      have hcall := HP.out wr x (List.mem_of_getElem? hx) (below_grown BW.out _)
      clear hx
      cases hq : p x with
      | true =>
        rw [hq] at hcall
        have HQ : Hid (p x = true) := hq
        clear hq
        go_wp2_with (go_at_fn fn; refine hcall.mono ?_; rintro e w' ⟨rfl, hb'⟩)
        go_ret
        refine ⟨?_, BW.out.trans (hb'.mono BW.out.size)⟩
        rw [fidx_hit A.out HX.out HQ.out]
        rfl
      | false =>
        rw [hq] at hcall
        have HQ : Hid (p x = false) := hq
        clear hq
        go_wp2_with (go_at_fn fn; refine hcall.mono ?_; rintro e w' ⟨rfl, hb'⟩)
        go_roundg (n - (kk + 1))
        case measure => omega
        case rel => exact ⟨kk + 1, by omega, by omega, by go_num, BW.out.trans (hb'.mono BW.out.size), miss_step A.out HX.out HQ.out⟩
    · have hltz : ¬ (kk : Int) < (n : Int) := by omega
      have : kk = n := by omega
      subst this
      go_wp2
      go_ret
      refine ⟨?_, BW.out⟩
      rw [fidx_miss (by have := A.out; rw [List.take_of_length_le (by rw [HN.out]; exact Nat.le_refl _)] at this; exact this)]
      rfl
set_option maxHeartbeats 2000000 in
theorem idxW_any (g n cap B : Nat) (xs : List (List Value)) (hn : xs.length = n) (hbig : n ≤ 9223372036854775807) (w : World) (hown : OwnK 13 38 w B (.slice (some ⟨g, 0, none⟩) n cap) xs)
    (p : List Value → Bool) (fn : Nat) (lb : Array Value) (eg : ∀ args w, (callFunc fn args).run Try.prog w = .ok (.enter fn args) w) (hp : PredK Try.prog fn lb p xs w (some g)) :
    Calls Try.prog 47 #[.slice (some ⟨g, 0, none⟩) n cap, .func (.func fn) #[] lb] w fun e w' => e = .returned (.int .i64 (fidx p xs)) ∧ Below w.heap.size w w' :=
  idxW_of Try.prog Try.func47 (by kernel_rfl) Try.underlying50 Try.isAgg50 Try.sizeOf50 Try.underlying3 Try.isAgg3 Try.sizeOf3 Try.zeroValue3 Try.underlying4 Try.isAgg4 Try.sizeOf4 13 Try.isAgg38 Try.sizeOf38 g n cap B xs hn hbig w hown p fn lb eg hp
set_option maxHeartbeats 1000000 in
theorem idxW_none (w : World) (F : Value) : Calls Try.prog 47 #[.slice none 0 0, F] w fun e w' => e = .returned (.int .i64 (-1)) ∧ w' = w := by
  go_enter Try.func47, Try.ntmps47
  go_wp2
  refine wp_loop_rounds 1 ?_
  rw [rounds_succ]
  go_wp2
  go_ret
  exact ⟨rfl, rfl⟩
end Go.Proofs.Ytjadmldnpdmamaa

/- Rows of structs: without those of a kind, by the library's own function; whatever the program. -/
namespace Go.Proofs.Ytjadmldnpdmamaa
open Go.RowKit
set_option linter.unusedVariables false

set_option maxRecDepth 100000 in
set_option maxHeartbeats 4000000 in
theorem dlfW_of (P : Program) (hf : P.funcs[42]? = some Try.f42) (hfi : P.funcs[47]? = some Try.f47)
    (e6 : ∀ args w, (callFunc 47 args).run P w = .ok (.enter 47 args) w) (mixed : P.follows .mixedOrders = true)
    (tS : P.underlying 50 = some (TypeDesc.slice 38)) (aS : ∀ w, (isAgg 50).run P w = .ok false w) (zS : ∀ w, (Go.sizeOf 50).run P w = .ok 1 w)
    (t3 : P.underlying 3 = some (TypeDesc.int IntKind.i64)) (a3 : ∀ w, (isAgg 3).run P w = .ok false w) (z3 : ∀ w, (Go.sizeOf 3).run P w = .ok 1 w) (v3 : ∀ w, (zeroValue 3).run P w = .ok (Value.int IntKind.i64 0) w)
    (t4 : P.underlying 4 = some TypeDesc.bool) (a4 : ∀ w, (isAgg 4).run P w = .ok false w) (z4 : ∀ w, (Go.sizeOf 4).run P w = .ok 1 w)
    (k : Nat) (hk0 : 0 < k) (aE : ∀ w, (isAgg 38).run P w = .ok true w) (zE : ∀ w, (Go.sizeOf 38).run P w = .ok k w) (zc : Array Value) (vE : ∀ w, (zeroValue 38).run P w = .ok (.agg zc) w) (hzc : zc.size = k) (hz1 : ∀ u ∈ zc, u.oneCell' = true)
    (g n cap B : Nat) (xs : List (List Value)) (hn : xs.length = n) (hbig : n ≤ 9223372036854775807) (w : World) (hown : OwnK k 38 w B (.slice (some ⟨g, 0, none⟩) n cap) xs)
    (p : List Value → Bool) (fn : Nat) (lb : Array Value) (eg : ∀ args w, (callFunc fn args).run P w = .ok (.enter fn args) w) (hp : PredK P fn lb p xs w (some g)) :
    Calls P 42 #[.slice (some ⟨g, 0, none⟩) n cap, .func (.func fn) #[] lb] w fun e w' => ∃ m, e = .returned (.slice (some ⟨g, 0, none⟩) m cap) ∧ Hid (OwnK k 38 w' B (.slice (some ⟨g, 0, none⟩) m cap) (xs.filter (fun y => !p y)) ∧ (xs.filter (fun y => !p y)).length = m ∧ w.grownBy w' (some g)) := by
  have hIF := idxW_of P hfi mixed tS aS zS t3 a3 z3 v3 t4 a4 z4 k aE zE g n cap B xs hn hbig w hown p fn lb eg hp
  have HO : Hid (OwnK k 38 w B (.slice (some ⟨g, 0, none⟩) n cap) xs) := hown
  have HN : Hid (xs.length = n) := hn
  have HP : Hid (PredK P fn lb p xs w (some g)) := hp
  have HZ : Hid (zc.size = k) := hzc
  have hncap : n ≤ cap := by
    rcases hown.forms with ⟨e, _⟩ | ⟨g', cap', e, _, _, h1, _⟩
    · cases e
    · injection e with _ _ e3
      rw [e3, ← hn]; exact h1
  have HZ1 : Hid (∀ u ∈ zc, u.oneCell' = true) := hz1
  clear hown hn hp hzc hz1
  by_cases hall : xs.all (fun y => !p y) = true
  · rw [fidx_miss hall] at hIF
    have HA : Hid (xs.all (fun y => !p y) = true) := hall
    clear hall
    go_enter hf, Try.ntmps42
    go_wp2_with (go_at_fn 47; refine hIF.mono ?_; rintro e w' ⟨rfl, hb⟩)
    go_ret
    have e : xs.filter (fun y => !p y) = xs := List.filter_eq_self.2 (List.all_eq_true.1 HA.out)
    exact ⟨n, rfl, by rw [e]; exact HO.out.below hb, by rw [e]; exact HN.out, below_grown hb _⟩
  obtain ⟨k0, x0, hx0, hpx0, hmiss⟩ : ∃ k0 x0, xs[k0]? = some x0 ∧ p x0 = true ∧ (xs.take k0).all (fun y => !p y) = true := by
    cases hfi : xs.findIdx? p with
    | none =>
      exfalso
      apply hall
      rw [List.findIdx?_eq_none_iff] at hfi
      exact List.all_eq_true.2 fun x hx => by simp [hfi x hx]
    | some i =>
      obtain ⟨h1, h2, h3⟩ := List.findIdx?_eq_some_iff_getElem.1 hfi
      refine ⟨i, xs[i], List.getElem?_eq_getElem h1, h2, List.all_eq_true.2 fun x hx => ?_⟩
      obtain ⟨j, hj, rfl⟩ := List.mem_take_iff_getElem.1 hx
      have := h3 j (by omega)
      simpa using this
  rw [fidx_hit hmiss hx0 hpx0] at hIF
  have hk0n : k0 < n := by have := (List.getElem?_eq_some_iff.1 hx0).1; have := HN.out; omega
  have HST : Hid (DlfI p xs xs k0 (k0 + 1)) := DlfI.start hmiss hx0 hpx0
  have hne1 : ((k0 : Int) == -1) = false := beq_eq_false_iff_ne.2 (by omega)
  clear hall hx0 hpx0 hmiss
  go_enter hf, Try.ntmps42
  go_wp2_with (go_at_fn 47; refine hIF.mono ?_; rintro e w' ⟨rfl, hb⟩)
  have HB0 : Hid (Below w.heap.size w w') := hb
  clear hb
  go_loopg [5, 6, 7] n (fun gg s5 s6 _ wr => ∃ (i j : Nat) (L : List (List Value)), s5 = .int .i64 i ∧ s6 = .int .i64 j ∧ i < j ∧ j ≤ n ∧ n - j ≤ gg ∧ Hid (DlfI p xs L i j ∧ OwnK k 38 wr B (.slice (some ⟨g, 0, none⟩) n cap) L ∧ w.grownBy wr (some g)))
  case atStart => exact ⟨k0, k0 + 1, xs, rfl, by go_num, by omega, by omega, by omega, ⟨HST.out, HO.out.below HB0.out, below_grown HB0.out _⟩⟩
  case round =>
    obtain ⟨i, j, L, rfl, rfl, hij, hjn, hgg, HI⟩ := hrel
    by_cases hlt : j < n
    · have hltz : (j : Int) < (n : Int) := by omega
      obtain ⟨x, hx⟩ : ∃ x, xs[j]? = some x := ⟨xs[j]'(by have := HN.out; omega), List.getElem?_eq_getElem _⟩
      have HX : Hid (xs[j]? = some x) := hx
      have hLj := HI.out.1.read hx
      have hxm : x ∈ L := List.mem_of_getElem? hLj
      have hxl : x.length = k := HI.out.2.1.len x hxm
      have hx1 : ∀ u ∈ x, u.oneCell' = true := HI.out.2.1.one x hxm
      have l1 := HI.out.2.1.load P hLj
      have hb1 : Below wr.heap.size wr (wr.alloc (.cells x.toArray 38)) := (Below.refl _ _).alloc (Nat.le_refl _) _
      have s1 := run_boxed P wr zc 38 x (by rw [HZ.out, hxl]) hx1
      have l2 := run_unboxed P (w := wr.alloc (.cells x.toArray 38)) (w' := wr.alloc (.cells x.toArray 38)) (b := wr.heap.size) hxl (heap_alloc_new wr _) (Below.refl _ _)
      have L2 : Hid (∀ w', Below (wr.alloc (.cells x.toArray 38)).heap.size (wr.alloc (.cells x.toArray 38)) w' → Sem.run P (loadCellsFrom ⟨wr.heap.size, 0, none⟩ 0 k #[]) w' = .ok x.toArray w') := fun w' hb => run_unboxed P (w := wr.alloc (.cells x.toArray 38)) (b := wr.heap.size) hxl (heap_alloc_new wr _) hb
      have HGB : Hid (w.grownBy (wr.alloc (.cells x.toArray 38)) (some g) ∧ OwnK k 38 (wr.alloc (.cells x.toArray 38)) B (.slice (some ⟨g, 0, none⟩) n cap) L) := ⟨gtrans HI.out.2.2 (World.grownBy_alloc wr _ _), HI.out.2.1.below hb1⟩
      have hcall := HP.out _ x (List.mem_of_getElem? hx) HGB.out.1
      have HXL : Hid (x.length = k ∧ ∀ u ∈ x, u.oneCell' = true) := ⟨hxl, hx1⟩
      have hxa : x.toArray.size = k := by simp [hxl]
      clear hx hLj hxm hb1 hx1
      generalize hWX : wr.alloc (.cells x.toArray 38) = WX at s1 l2 L2 HGB hcall
      cases hq : p x with
      | true =>
        rw [hq] at hcall
        have HQ : Hid (p x = true) := hq
        clear hq
        go_wp2_with (go_at_fn fn; refine hcall.mono ?_; rintro e w' ⟨rfl, hb'⟩)
        go_roundg (n - (j + 1))
        case measure => omega
        case rel => exact ⟨i, j + 1, L, rfl, by go_num, by omega, by omega, Nat.le_refl _, ⟨HI.out.1.skip HX.out HQ.out, HGB.out.2.below hb', gtrans HGB.out.1 (below_grown hb' _)⟩⟩
      | false =>
        rw [hq] at hcall
        have HQ : Hid (p x = false) := hq
        clear hq
        have hik : i * k + k ≤ cap * k := by
          rw [← Nat.succ_mul]
          exact Nat.mul_le_mul_right _ (by omega)
        have HIK : Hid (i * k + k ≤ cap * k) := hik
        clear hik
        have HS2 : Hid (∀ w', Below WX.heap.size WX w' → Sem.run P (storeCells ⟨g, i * k, none⟩ x 0) w' = .ok () (w'.setCells g (i * k) x)) := by
          intro w' hb'
          have ho := HGB.out.2.below hb'
          have h := run_storeCells_cells (P := P) g (i * k) x 0 w' (fun j hj => ho.there _ (by have := HXL.out.1; have := HIK.out; omega)) (fun j hj => ho.frozen _) HXL.out.2
          rwa [Nat.add_zero] at h
        go_wp2_with (go_at_fn fn; refine hcall.mono ?_; rintro e w' ⟨rfl, hb'⟩; have l3 := L2.out w' hb'; have s2 := HS2.out w' hb')
        go_roundg (n - (j + 1))
        case measure => omega
        case rel => exact ⟨i + 1, j + 1, L.set i x, by go_num, by go_num, by omega, by omega, Nat.le_refl _, ⟨HI.out.1.keep HX.out HQ.out, (HGB.out.2.below hb').set i x HXL.out.1 HXL.out.2 (by have := HI.out.1.len; have := HN.out; omega), gtrans (gtrans HGB.out.1 (below_grown hb' _)) (grown_setCells _ _ _ _)⟩⟩
    · have hltz : ¬ (j : Int) < (n : Int) := by omega
      have hin : i < n := by omega
      have hLn : L.length = n := by rw [HI.out.1.len]; exact HN.out
      have hb : i * k + (n - i) * k ≤ cap * k := by
        rw [← Nat.add_mul]
        exact Nat.mul_le_mul_right _ (by omega)
      have hzl : (Builtin.zeroCells zc (n - i)).toList.length = (n - i) * k := by simp [Builtin.zeroCells, HZ.out]
      have hcl : ∀ ty, (Builtin.clear_ #[50] ty #[.slice (some ⟨g, i * k, none⟩) (n - i) (cap - i)]).run P wr = .ok (.tuple #[]) (wr.setCells g (i * k) (Builtin.zeroCells zc (n - i)).toList) :=
        fun ty => run_clear_K P wr _ _ ty (.agg zc) k tS vE HZ.out HZ1.out g (i * k) (n - i) _ (by omega) (fun t ht => HI.out.2.1.there _ (by omega)) (fun t ht => HI.out.2.1.frozen _)
      have HE : Hid (OwnK k 38 (wr.setCells g (i * k) (Builtin.zeroCells zc (n - i)).toList) B (.slice (some ⟨g, 0, none⟩) i cap) (xs.filter (fun y => !p y)) ∧ (xs.filter (fun y => !p y)).length = i ∧ w.grownBy (wr.setCells g (i * k) (Builtin.zeroCells zc (n - i)).toList) (some g)) := by
        have e : xs.filter (fun y => !p y) = L.take i := by
          rw [HI.out.1.done, List.take_of_length_le (by rw [HN.out]; omega)]
        rw [e]
        exact ⟨HI.out.2.1.wipe i (by omega) _ (by rw [hzl]; exact hb), by rw [List.length_take]; omega, gtrans HI.out.2.2 (grown_setCells _ _ _ _)⟩
      generalize (Builtin.zeroCells zc (n - i)).toList = zs at hcl HE
      clear hb hzl hLn
      go_wp2
      go_ret
      exact ⟨i, rfl, HE⟩
set_option maxHeartbeats 2000000 in
theorem dlfW_any (g n cap B : Nat) (xs : List (List Value)) (hn : xs.length = n) (hbig : n ≤ 9223372036854775807) (w : World) (hown : OwnK 13 38 w B (.slice (some ⟨g, 0, none⟩) n cap) xs)
    (p : List Value → Bool) (fn : Nat) (lb : Array Value) (eg : ∀ args w, (callFunc fn args).run Try.prog w = .ok (.enter fn args) w) (hp : PredK Try.prog fn lb p xs w (some g)) :
    Calls Try.prog 42 #[.slice (some ⟨g, 0, none⟩) n cap, .func (.func fn) #[] lb] w fun e w' => ∃ m, e = .returned (.slice (some ⟨g, 0, none⟩) m cap) ∧ Hid (OwnK 13 38 w' B (.slice (some ⟨g, 0, none⟩) m cap) (xs.filter (fun y => !p y)) ∧ (xs.filter (fun y => !p y)).length = m ∧ w.grownBy w' (some g)) :=
  dlfW_of Try.prog Try.func42 Try.func47 (enters_at Try.func47 (by kernel_rfl) rfl) (by kernel_rfl) Try.underlying50 Try.isAgg50 Try.sizeOf50 Try.underlying3 Try.isAgg3 Try.sizeOf3 Try.zeroValue3 Try.underlying4 Try.isAgg4 Try.sizeOf4 13 (by omega) Try.isAgg38 Try.sizeOf38 _ Try.zeroValue38 rfl (by decide) g n cap B xs hn hbig w hown p fn lb eg hp
set_option maxHeartbeats 1000000 in
theorem dlfW_none (w : World) (F : Value) : Calls Try.prog 42 #[.slice none 0 0, F] w fun e w' => e = .returned (.slice none 0 0) ∧ w' = w := by
  go_enter Try.func42, Try.ntmps42
  go_wp2_with fail
  refine (idxW_none _ _).mono ?_
  rintro e w1 ⟨rfl, hw⟩
  obtain rfl := hw.symm
  go_wp2
  go_ret
  exact ⟨rfl, rfl⟩
end Go.Proofs.Ytjadmldnpdmamaa

/- A row of structs, each made anew by a function; whatever the program. -/
namespace Go.Proofs.Ytjadmldnpdmamaa
open Go.RowKit
set_option linter.unusedVariables false

set_option maxRecDepth 100000 in
set_option maxHeartbeats 4000000 in
theorem echW_of (P : Program) (hf : P.funcs[51]? = some Try.f51) (mixed : P.follows .mixedOrders = true)
    (tS : P.underlying 50 = some (TypeDesc.slice 38)) (aS : ∀ w, (isAgg 50).run P w = .ok false w) (zS : ∀ w, (Go.sizeOf 50).run P w = .ok 1 w)
    (t3 : P.underlying 3 = some (TypeDesc.int IntKind.i64)) (a3 : ∀ w, (isAgg 3).run P w = .ok false w) (z3 : ∀ w, (Go.sizeOf 3).run P w = .ok 1 w) (v3 : ∀ w, (zeroValue 3).run P w = .ok (Value.int IntKind.i64 0) w)
    (t4 : P.underlying 4 = some TypeDesc.bool) (a4 : ∀ w, (isAgg 4).run P w = .ok false w) (z4 : ∀ w, (Go.sizeOf 4).run P w = .ok 1 w)
    (k : Nat) (hk0 : 0 < k) (hk1 : k ≤ 1000) (aE : ∀ w, (isAgg 38).run P w = .ok true w) (zE : ∀ w, (Go.sizeOf 38).run P w = .ok k w) (zc : Array Value) (vE : ∀ w, (zeroValue 38).run P w = .ok (.agg zc) w) (hzc : zc.size = k) (hz1 : ∀ u ∈ zc, u.oneCell' = true)
    (i0 : TypeInfo) (hi0 : P.info? 38 = some i0) (hi1 : i0.size = k) (hi2 : i0.zero = some (.agg zc)) (by0 : Nat) (hi3 : i0.bytes = by0) (hi4 : by0 ≤ 1000)
    {α β : Type} (cl : α → List Value) (f : α → β) (hcl : ∀ v, (cl v).length = k) (Q : World → α → Prop) (hQ : Stays 38 Q) (hQ1 : ∀ W u, Q W u → ∀ x ∈ cl u, x.oneCell' = true)
    (g n cap B : Nat) (vs : List α) (hn : vs.length = n) (hbig : n ≤ 1000) (w : World) (hown : OwnK k 38 w B (.slice (some ⟨g, 0, none⟩) n cap) (vs.map cl))
    (fn : Nat) (eg : ∀ args w, (callFunc fn args).run P w = .ok (.enter fn args) w)
    (hm : ∀ W v, v ∈ vs → Below w.heap.size w W → Calls P fn #[.agg (cl v).toArray] W fun e w' => (∃ u, e = .returned (.agg (cl u).toArray) ∧ f u = f v ∧ Q w' u) ∧ Below W.heap.size W w') :
    Calls P 51 #[.slice (some ⟨g, 0, none⟩) n cap, .func (.func fn) #[] #[]] w fun e w' => (∃ (val : Value) (us : List α), e = .returned val ∧ OwnK k 38 w' w.heap.size val (us.map cl) ∧ us.map f = vs.map f ∧ ∀ u ∈ us, Q w' u) ∧ Below w.heap.size w w' := by
  have HO : Hid (OwnK k 38 w B (.slice (some ⟨g, 0, none⟩) n cap) (vs.map cl)) := hown
  have HN : Hid (vs.length = n) := hn
  have HM : Hid (∀ W v, v ∈ vs → Below w.heap.size w W → Calls P fn #[.agg (cl v).toArray] W fun e w' => (∃ u, e = .returned (.agg (cl u).toArray) ∧ f u = f v ∧ Q w' u) ∧ Below W.heap.size W w') := hm
  have HZ : Hid (zc.size = k ∧ (∀ u ∈ zc, u.oneCell' = true) ∧ i0.size = k ∧ i0.zero = some (.agg zc) ∧ i0.bytes = by0) := ⟨hzc, hz1, hi1, hi2, hi3⟩
  have HC : Hid ((∀ v, (cl v).length = k) ∧ Stays 38 Q ∧ (∀ W u, Q W u → ∀ x ∈ cl u, x.oneCell' = true)) := ⟨hcl, hQ, hQ1⟩
  clear hown hn hm hzc hz1 hi1 hi2 hi3 hcl hQ hQ1
  go_enter hf, Try.ntmps51
  go_wp2
  go_loopw [5, 10] (fun o i wr => ∃ (kk cap2 : Nat) (a : Option Addr), kk ≤ n ∧ i = .int .i64 kk ∧ o = .slice a kk cap2 ∧ Hid (Below w.heap.size w wr ∧ ∃ us : List α, us.length = kk ∧ OwnK k 38 wr w.heap.size (.slice a kk cap2) (us.map cl) ∧ us.map f = (vs.take kk).map f ∧ ∀ u ∈ us, Q wr u)) (fun _ i _ => n - (intOf i).toNat)
  case atStart => exact ⟨0, 0, none, Nat.zero_le _, rfl, rfl, ⟨Below.refl _ _, [], rfl, ownK_nil _ _ _ _, by simp, fun u hu => by cases hu⟩⟩
  case round =>
    obtain ⟨kk, cap2, a, hkk, rfl, rfl, HI⟩ := hrel
    by_cases hlt : kk < n
    · have hltz : (kk : Int) < (n : Int) := by omega
      obtain ⟨v, hv⟩ : ∃ v, vs[kk]? = some v := ⟨vs[kk]'(by have := HN.out; omega), List.getElem?_eq_getElem _⟩
      have HV : Hid (vs[kk]? = some v) := hv
      have hvm : (vs.map cl)[kk]? = some (cl v) := by rw [List.getElem?_map, hv]; rfl
      obtain ⟨x, hx⟩ : ∃ x, cl v = x := ⟨_, rfl⟩
      have HXV : Hid (cl v = x) := hx
      rw [hx] at hvm
      have hxm : x ∈ vs.map cl := List.mem_of_getElem? hvm
      have hxl : x.length = k := HO.out.len x hxm
      have hx1 : ∀ u ∈ x, u.oneCell' = true := HO.out.one x hxm
      have l1 := (HO.out.below HI.out.1).load P hvm
      have hb1 : Below wr.heap.size wr (wr.alloc (.cells x.toArray 38)) := (Below.refl _ _).alloc (Nat.le_refl _) _
      have s1 := run_boxed P wr zc 38 x (by rw [HZ.out.1, hxl]) hx1
      have l2 := run_unboxed P (w := wr.alloc (.cells x.toArray 38)) (w' := wr.alloc (.cells x.toArray 38)) (b := wr.heap.size) hxl (heap_alloc_new wr _) (Below.refl _ _)
      have HB1 : Hid (Below w.heap.size w (wr.alloc (.cells x.toArray 38)) ∧ Below wr.heap.size wr (wr.alloc (.cells x.toArray 38))) := ⟨HI.out.1.trans (hb1.mono HI.out.1.size), hb1⟩
      have hcall := HM.out _ v (List.mem_of_getElem? hv) HB1.out.1
      rw [hx] at hcall
      have hxa : x.toArray.size = k := by simp [hxl]
      clear hv hvm hxm hx hb1 hx1
      generalize hWX : wr.alloc (.cells x.toArray 38) = WX at s1 l2 HB1 hcall
      obtain ⟨hi1, hi2, hi3⟩ := HZ.out.2.2
      obtain ⟨us, hul, huo, huf, huq⟩ := HI.out.2
      have HU : Hid (us.length = kk ∧ OwnK k 38 wr w.heap.size (.slice a kk cap2) (us.map cl) ∧ us.map f = (vs.take kk).map f ∧ ∀ u ∈ us, Q wr u) := ⟨hul, huo, huf, huq⟩
      clear hul huo huf huq
      have HH : Hid (i0.size = k ∧ i0.zero = some (.agg zc) ∧ i0.bytes ≤ 1000) := ⟨hi1, hi2, by omega⟩
      clear hi1 hi2 hi3
      go_wp2_with (first
        | (go_at_fn fn; refine hcall.mono ?_; rintro e w2 ⟨⟨u, rfl, hfu, hqu⟩, hb2⟩; have HB2 : Hid (Below w.heap.size w w2 ∧ OwnK k 38 w2 w.heap.size (.slice a kk cap2) (us.map cl) ∧ f u = f v ∧ Q w2 u ∧ ∀ u ∈ us, Q w2 u) := ⟨HB1.out.1.trans (hb2.mono HB1.out.1.size), (HU.out.2.1.below HB1.out.2).below hb2, hfu, hqu, fun u hu => HC.out.2.1.below hb2 (HC.out.2.1.below HB1.out.2 (HU.out.2.2.2 u hu))⟩; clear hb2 hfu hqu)
        | (at_builtin; refine wpList_appK rfl _ _ 50 rfl 38 k hk0 zc tS HZ.out.1 i0 hi0 HH.out.1 HH.out.2.1 HH.out.2.2 w.heap.size w2 (.slice a kk cap2) (us.map cl) kk rfl HB2.out.2.1 (by rw [List.length_map]; exact HU.out.1) (by omega) HB2.out.1.size (cl u) (HC.out.1 u) (HC.out.2.2 w2 u HB2.out.2.2.2.1) rfl ?_; intro g4 cap4 w4 hown4 hg4 hlt4; have HF : Hid (Below w.heap.size w w4 ∧ ∃ us : List α, us.length = kk + 1 ∧ OwnK k 38 w4 w.heap.size (.slice (some ⟨g4, 0, none⟩) (kk + 1) cap4) (us.map cl) ∧ us.map f = (vs.take (kk + 1)).map f ∧ ∀ u ∈ us, Q w4 u) := ech_step HB2.out.1 HB2.out.2.1 hown4 hg4 HU.out.1 HU.out.2.2.1 HV.out HB2.out.2.2.1 HB2.out.2.2.2.1 HB2.out.2.2.2.2 HC.out.2.1; clear hown4 hg4 hlt4)
        | (refine wpList_bs1 rfl 50 _ rfl 38 k hk0 hk1 zc tS zE vE HZ.out.1 (cl u) rfl (HC.out.1 u) ?_))
      go_roundw
      case rel => exact ⟨kk + 1, _, _, by omega, by go_num, rfl, HF⟩
      case measure => simp [intOf]; omega
    · have hltz : ¬ (kk : Int) < (n : Int) := by omega
      go_wp2
      go_ret
      obtain ⟨us, hul, huo, huf, huq⟩ := HI.out.2
      exact ⟨⟨_, rfl, us, huo, by rw [huf, List.take_of_length_le (by rw [HN.out]; omega)], huq⟩, HI.out.1⟩
end Go.Proofs.Ytjadmldnpdmamaa

/- What was asked for, cloned. -/
namespace Go.Proofs.Ytjadmldnpdmamaa
open Go.RowKit
set_option linter.unusedVariables false

def WtFit (g : WtP) : Prop := g.org.host.size ≤ 140737488355328 ∧ g.path.size ≤ 140737488355328 ∧ AskFit g.ask
set_option maxRecDepth 100000 in
set_option maxHeartbeats 4000000 in
theorem freshW_at (g : WtP) (hg : WtFit g) (da : Option Addr) (dl dc db doff : Nat) (w : World) (hd : Strs w da dl db doff g.ask.dom) :
    Calls Try.prog 37 #[.agg #[.bool g.org.sec, .string g.org.host, .int .i64 g.org.port, .bool g.proxy, .string g.path, .int .i64 g.ask.sch, .string g.ask.realm, .string g.ask.nonce, .string g.ask.opq, .bool g.ask.sess, .string g.ask.qop, .bool g.ask.stale, .slice da dl dc]] w fun e w' => (∃ v, e = .returned (.agg #[.bool g.org.sec, .string g.org.host, .int .i64 g.org.port, .bool g.proxy, .string g.path, .int .i64 g.ask.sch, .string g.ask.realm, .string g.ask.nonce, .string g.ask.opq, .bool g.ask.sess, .string g.ask.qop, .bool g.ask.stale, v]) ∧ OwnS w' w.heap.size v g.ask.dom) ∧ Below w.heap.size w w' := by
  obtain ⟨z1, z2, z4⟩ := hg
  have hs0 := boxF_start w #[.bool g.org.sec, .string g.org.host, .int .i64 g.org.port, .bool g.proxy, .string g.path, .int .i64 g.ask.sch, .string g.ask.realm, .string g.ask.nonce, .string g.ask.opq, .bool g.ask.sess, .string g.ask.qop, .bool g.ask.stale, .slice da dl dc] #[.bool false, .string ⟨#[]⟩, .int .i64 0, .bool false, .string ⟨#[]⟩, .int .i64 0, .string ⟨#[]⟩, .string ⟨#[]⟩, .string ⟨#[]⟩, .bool false, .string ⟨#[]⟩, .bool false, .slice none 0 0] 38
  have HX : Hid (Strs w da dl db doff g.ask.dom ∧ AskFit g.ask) := ⟨hd, z4⟩
  have HW : Hid (BoxF w ((w.alloc (.cells #[.bool g.org.sec, .string g.org.host, .int .i64 g.org.port, .bool g.proxy, .string g.path, .int .i64 g.ask.sch, .string g.ask.realm, .string g.ask.nonce, .string g.ask.opq, .bool g.ask.sess, .string g.ask.qop, .bool g.ask.stale, .slice da dl dc] 38)).alloc (.cells #[.bool false, .string ⟨#[]⟩, .int .i64 0, .bool false, .string ⟨#[]⟩, .int .i64 0, .string ⟨#[]⟩, .string ⟨#[]⟩, .string ⟨#[]⟩, .bool false, .string ⟨#[]⟩, .bool false, .slice none 0 0] 38)) _ _ 38) := hs0
  clear hs0 hd z4
  go_enter Try.func37, Try.ntmps37
  go_wp2_with fail
  refine (freshO_any g.org z1 _).mono ?_
  rintro e w1 ⟨rfl, hb1⟩
  have H1 := (show BoxF _ _ _ _ _ from HW.out).below hb1
  have HH1 : Hid (BoxF w w1 _ _ 38) := H1
  have c0 := H1.at 0 (v := .bool g.org.sec) rfl
  have c1 := H1.at 1 (v := .string g.org.host) rfl
  have c2 := H1.at 2 (v := .int .i64 g.org.port) rfl
  have c4 := H1.at 4 (v := .string g.path) rfl
  have f1 := free_of H1.box
  have s0 := H1.same (i := 0) (v := .bool g.org.sec) rfl
  have s1 := H1.same (i := 1) (v := .string g.org.host) rfl
  have s2 := H1.same (i := 2) (v := .int .i64 g.org.port) rfl
  clear hb1 HW H1
  go_wp2_with fail
  refine (cloneS_any g.path z2 _).mono ?_
  rintro e w3 ⟨rfl, hb3⟩
  have H3 := (show BoxF _ _ _ _ _ from HH1.out).below hb3
  have HH3 : Hid (BoxF w w3 _ _ 38) := H3
  have f3 := free_of H3.box
  have s4 := H3.same (i := 4) (v := .string g.path) rfl
  clear hb3 c0 c1 c2 c4 f1 s0 s1 s2
  have q4 := H3.at 4 (v := .string g.path) rfl
  have q5 := H3.at 5 (v := .int .i64 g.ask.sch) rfl
  have q6 := H3.at 6 (v := .string g.ask.realm) rfl
  have q7 := H3.at 7 (v := .string g.ask.nonce) rfl
  have q8 := H3.at 8 (v := .string g.ask.opq) rfl
  have q9 := H3.at 9 (v := .bool g.ask.sess) rfl
  have q10 := H3.at 10 (v := .string g.ask.qop) rfl
  have q11 := H3.at 11 (v := .bool g.ask.stale) rfl
  have q12 := H3.at 12 (v := .slice da dl dc) rfl
  clear H3
  go_wp2_with fail

  refine (freshA_any g.ask HX.out.2 da dl dc db doff _ (HX.out.1.below (show BoxF _ _ _ _ _ from HH3.out).bel)).mono ?_
  rintro e w4 ⟨⟨v, rfl, hown⟩, hb4⟩
  obtain ⟨va, vc, vg, rfl, _⟩ := hown.strs
  obtain ⟨vn, HVN⟩ : ∃ vn, Hid (g.ask.dom.length = vn) := ⟨_, rfl⟩
  rw [HVN.out] at hown ⊢
  have H4 := (show BoxF _ _ _ _ _ from HH3.out).below hb4
  have H5 := H4.set 12 (.slice va vn vc)
  have HG4 : Hid (w4.grownBy (w4.setCell ⟨w.heap.size, 12, none⟩ (.slice va vn vc)) (some w.heap.size)) := grown_setCells w4 w.heap.size 12 [.slice va vn vc]
  have HO4 : Hid (OwnS w4 w3.heap.size (.slice va vn vc) g.ask.dom ∧ w.heap.size + 1 < w3.heap.size ∧ w3.heap.size ≤ w4.heap.size) := ⟨hown, (Array.getElem?_eq_some_iff.1 (show BoxF _ _ _ _ _ from HH3.out).res).1, hb4.size⟩
  have HH4 : Hid (BoxF w w4 _ _ 38) := H4
  have HH5 : Hid (BoxF w (w4.setCell ⟨w.heap.size, 12, none⟩ (.slice va vn vc)) _ _ 38) := H5
  have s5 := H4.same (i := 5) (v := .int .i64 g.ask.sch) rfl
  have s6 := H4.same (i := 6) (v := .string g.ask.realm) rfl
  have s7 := H4.same (i := 7) (v := .string g.ask.nonce) rfl
  have s8 := H4.same (i := 8) (v := .string g.ask.opq) rfl
  have s9 := H4.same (i := 9) (v := .bool g.ask.sess) rfl
  have s10 := H4.same (i := 10) (v := .string g.ask.qop) rfl
  have s11 := H4.same (i := 11) (v := .bool g.ask.stale) rfl
  have t5 := H4.at 5 (v := .int .i64 g.ask.sch) rfl
  have t6 := H4.at 6 (v := .string g.ask.realm) rfl
  have t7 := H4.at 7 (v := .string g.ask.nonce) rfl
  have t8 := H4.at 8 (v := .string g.ask.opq) rfl
  have t9 := H4.at 9 (v := .bool g.ask.sess) rfl
  have t10 := H4.at 10 (v := .string g.ask.qop) rfl
  have t11 := H4.at 11 (v := .bool g.ask.stale) rfl
  have t12 := H4.at 12 (v := .slice da dl dc) rfl
  have f4 := free_of H4.box
  have g0 := H5.at 0 (v := .bool g.org.sec) rfl
  have g1 := H5.at 1 (v := .string g.org.host) rfl
  have g2 := H5.at 2 (v := .int .i64 g.org.port) rfl
  have g3 := H5.at 3 (v := .bool g.proxy) rfl
  have g4 := H5.at 4 (v := .string g.path) rfl
  have g5 := H5.at 5 (v := .int .i64 g.ask.sch) rfl
  have g6 := H5.at 6 (v := .string g.ask.realm) rfl
  have g7 := H5.at 7 (v := .string g.ask.nonce) rfl
  have g8 := H5.at 8 (v := .string g.ask.opq) rfl
  have g9 := H5.at 9 (v := .bool g.ask.sess) rfl
  have g10 := H5.at 10 (v := .string g.ask.qop) rfl
  have g11 := H5.at 11 (v := .bool g.ask.stale) rfl
  have g12 := H5.at 12 (v := .slice va vn vc) rfl
  have d0 : (w4.setCell ⟨w.heap.size, 12, none⟩ (.slice va vn vc)).cell? ⟨w.heap.size + 1, 0, none⟩ = some (.bool false) := cell_of H5.res
  have d1 : (w4.setCell ⟨w.heap.size, 12, none⟩ (.slice va vn vc)).cell? ⟨w.heap.size + 1, 1, none⟩ = some (.string ⟨#[]⟩) := cell_of H5.res
  have d2 : (w4.setCell ⟨w.heap.size, 12, none⟩ (.slice va vn vc)).cell? ⟨w.heap.size + 1, 2, none⟩ = some (.int .i64 0) := cell_of H5.res
  have d3 : (w4.setCell ⟨w.heap.size, 12, none⟩ (.slice va vn vc)).cell? ⟨w.heap.size + 1, 3, none⟩ = some (.bool false) := cell_of H5.res
  have d4 : (w4.setCell ⟨w.heap.size, 12, none⟩ (.slice va vn vc)).cell? ⟨w.heap.size + 1, 4, none⟩ = some (.string ⟨#[]⟩) := cell_of H5.res
  have d5 : (w4.setCell ⟨w.heap.size, 12, none⟩ (.slice va vn vc)).cell? ⟨w.heap.size + 1, 5, none⟩ = some (.int .i64 0) := cell_of H5.res
  have d6 : (w4.setCell ⟨w.heap.size, 12, none⟩ (.slice va vn vc)).cell? ⟨w.heap.size + 1, 6, none⟩ = some (.string ⟨#[]⟩) := cell_of H5.res
  have d7 : (w4.setCell ⟨w.heap.size, 12, none⟩ (.slice va vn vc)).cell? ⟨w.heap.size + 1, 7, none⟩ = some (.string ⟨#[]⟩) := cell_of H5.res
  have d8 : (w4.setCell ⟨w.heap.size, 12, none⟩ (.slice va vn vc)).cell? ⟨w.heap.size + 1, 8, none⟩ = some (.string ⟨#[]⟩) := cell_of H5.res
  have d9 : (w4.setCell ⟨w.heap.size, 12, none⟩ (.slice va vn vc)).cell? ⟨w.heap.size + 1, 9, none⟩ = some (.bool false) := cell_of H5.res
  have d10 : (w4.setCell ⟨w.heap.size, 12, none⟩ (.slice va vn vc)).cell? ⟨w.heap.size + 1, 10, none⟩ = some (.string ⟨#[]⟩) := cell_of H5.res
  have d11 : (w4.setCell ⟨w.heap.size, 12, none⟩ (.slice va vn vc)).cell? ⟨w.heap.size + 1, 11, none⟩ = some (.bool false) := cell_of H5.res
  have d12 : (w4.setCell ⟨w.heap.size, 12, none⟩ (.slice va vn vc)).cell? ⟨w.heap.size + 1, 12, none⟩ = some (.slice none 0 0) := cell_of H5.res
  have fr := free_of H5.res
  clear hb4 H4 H5 hown
  go_wp2_with fail
  obtain ⟨z1, z2⟩ := setAll [.bool g.org.sec, .string g.org.host, .int .i64 g.org.port, .bool g.proxy, .string g.path, .int .i64 g.ask.sch, .string g.ask.realm, .string g.ask.nonce, .string g.ask.opq, .bool g.ask.sess, .string g.ask.qop, .bool g.ask.stale, .slice va vn vc] (show BoxF _ _ _ _ _ from HH5.out).res rfl
  simp only [World.setCells, Nat.reduceAdd] at z1 z2
  have hb9 := (show BoxF _ _ _ _ _ from HH5.out).bel
  clear g0 g1 g2 g3 g4 g5 g6 g7 g8 g9 g10 g11 g12 d0 d1 d2 d3 d4 d5 d6 d7 d8 d9 d10 d11 d12 fr
  refine bodyPost_ret (v := .agg #[.bool g.org.sec, .string g.org.host, .int .i64 g.org.port, .bool g.proxy, .string g.path, .int .i64 g.ask.sch, .string g.ask.realm, .string g.ask.nonce, .string g.ask.opq, .bool g.ask.sess, .string g.ask.qop, .bool g.ask.stale, .slice va vn vc]) (res_cell rfl rfl Try.isAgg38 Try.sizeOf38 rfl z1) rfl ?_
  refine ⟨⟨_, rfl, ?_⟩, hb9.grown z2 hb9.size (fun i hi => by injection hi with hi; omega)⟩
  exact ownS_mono ((HO4.out.1.grown HG4.out (by have := HO4.out.2.1; omega)).grown z2 (by have := HO4.out.2.1; omega)) (by have := HO4.out.2.1; omega)
end Go.Proofs.Ytjadmldnpdmamaa

/- A bank's waits, cloned. -/
namespace Go.Proofs.Ytjadmldnpdmamaa
open Go.RowKit
set_option linter.unusedVariables false

theorem freshW_any (v : WtV) (B : Nat) (hfit : WtFit v.g) (w : World) (h : WtOwn w B v) :
    Calls Try.prog 37 #[.agg (wtCells v).toArray] w fun e w' => (∃ u : WtV, e = .returned (.agg (wtCells u).toArray) ∧ u.g = v.g ∧ WtOwn w' w.heap.size u) ∧ Below w.heap.size w w' := by
  obtain ⟨da, dc, dg, hdv, hds⟩ := OwnS.strs h
  have hc := freshW_at v.g hfit da _ dc dg 0 w hds
  rw [← hdv] at hc
  refine hc.mono ?_
  rintro e w' ⟨⟨a, rfl, h1⟩, hb⟩
  exact ⟨⟨⟨v.g, a⟩, rfl, rfl, h1⟩, hb⟩
theorem stays_ownW (B : Nat) : Stays 38 (fun W (u : WtV) => WtOwn W B u) := fun W W' row u hg ht h => OwnS.other h hg ht (by decide)
set_option maxHeartbeats 2000000 in
theorem ech_noneW (w : World) (F : Value) : Calls Try.prog 51 #[.slice none 0 0, F] w fun e w' => e = .returned (.slice none 0 0) ∧ w' = w := by
  go_enter Try.func51, Try.ntmps51
  go_wp2
  refine wp_loop_rounds 1 ?_
  rw [rounds_succ]
  go_wp2
  go_ret
  exact ⟨rfl, rfl⟩
theorem infoWE : (Try.prog.info? 38).map (fun i => (i.zero, i.size, i.bytes)) = some (some (.agg #[.bool false, .string ⟨#[]⟩, .int .i64 0, .bool false, .string ⟨#[]⟩, .int .i64 0, .string ⟨#[]⟩, .string ⟨#[]⟩, .string ⟨#[]⟩, .bool false, .string ⟨#[]⟩, .bool false, .slice none 0 0]), 13, 168) := by kernel_rfl
/-- Grants handed out. -/
def WtsAns (l : List WtP) (B : Nat) (e : Ending) (w' : World) : Prop := ∃ (val : Value) (us : List WtV), e = .returned val ∧ OwnK 13 38 w' B val (us.map wtCells) ∧ us.map (·.g) = l ∧ ∀ u ∈ us, WtOwn w' B u
theorem each_anyW (gv : Value) (B : Nat) (V : List WtV) (hl : V.length ≤ 1000) (w : World) (hown : OwnK 13 38 w B gv (V.map wtCells)) (hgo : ∀ v ∈ V, WtOwn w B v) (hgf : ∀ v ∈ V, WtFit v.g) :
    Calls Try.prog 51 #[gv, .func (.func 37) #[] #[]] w fun e w' => WtsAns (V.map (·.g)) w.heap.size e w' ∧ Below w.heap.size w w' := by
  rcases hown.forms with ⟨rfl, e2⟩ | ⟨g, cap, rfl, _, _, _, _⟩
  · obtain rfl : V = [] := List.map_eq_nil_iff.1 e2
    refine (ech_noneW w _).mono ?_
    rintro e w' ⟨rfl, rfl⟩
    exact ⟨⟨_, [], rfl, ownK_nil _ _ _ _, rfl, fun u hu => (by cases hu)⟩, Below.refl _ _⟩
  · rw [List.length_map] at hown ⊢
    obtain ⟨i0, hi0, hz0, hz1, hz2⟩ := info_parts infoWE
    refine (echW_of Try.prog Try.func51 (by kernel_rfl) Try.underlying50 Try.isAgg50 Try.sizeOf50 Try.underlying3 Try.isAgg3 Try.sizeOf3 Try.zeroValue3 Try.underlying4 Try.isAgg4 Try.sizeOf4 13 (by omega) (by omega) Try.isAgg38 Try.sizeOf38 _ Try.zeroValue38 rfl (by decide) i0 hi0 hz1 hz0 168 hz2 (by omega) wtCells (fun v : WtV => v.g) wtCells_len (fun W (u : WtV) => WtOwn W w.heap.size u) (stays_ownW _) (fun W u hu => wtOwn_one hu) g _ cap B V rfl hl w hown 37 (enters_at Try.func37 (by kernel_rfl) rfl) (fun W v hv hb => ?_)).mono ?_
    · refine (freshW_any v B (hgf v hv) W (OwnS.below (hgo v hv) hb)).mono ?_
      rintro e w' ⟨⟨u, rfl, hu, ho⟩, hb2⟩
      exact ⟨⟨u, rfl, hu, ownS_mono ho hb.size⟩, hb2⟩
    · rintro e w' ⟨⟨val, us, rfl, h1, h2, h3⟩, hb⟩
      exact ⟨⟨val, us, rfl, h1, h2, h3⟩, hb⟩
set_option maxHeartbeats 2000000 in
theorem waits_any {B b : Nat} {gv wv : Value} {G : List GrV} {V : List WtV} (w : World) (h : BankW w B b gv wv G V) (hwf : ∀ v ∈ V, WtFit v.g) :
    Calls Try.prog 22 #[.pointer (some ⟨b, 0, none⟩)] w fun e w' => WtsAns (V.map (·.g)) w.heap.size e w' ∧ Below w.heap.size w w' := by
  have hc := cell_of (i := 1) h.blk
  simp only [List.getElem?_toArray, List.getElem?_cons_zero, List.getElem?_cons_succ] at hc
  have he := each_anyW wv B V (by have := h.vlen; omega) w h.ws h.wo hwf
  have HL : Hid (BankW w B b gv wv G V) := h
  clear h
  go_enter Try.func22, Try.ntmps22
  go_wp2_with fail
  refine he.mono ?_
  rintro e w1 ⟨⟨val, us, rfl, h1, h2, h3⟩, hb⟩
  go_wp2
  go_ret
  exact ⟨⟨val, us, rfl, h1, h2, h3⟩, hb⟩
end Go.Proofs.Ytjadmldnpdmamaa

/- bank.Copy: a bank like it, that lies apart. -/
namespace Go.Proofs.Ytjadmldnpdmamaa
open Go.RowKit
set_option linter.unusedVariables false

/-- Rows that were handed out, among blocks from B on. -/
structure CpG (w : World) (B : Nat) (l : List GrP) (val : Value) (us : List GrV) : Prop where
  own : OwnK 16 36 w B val (us.map grCells)
  all : us.map (·.g) = l
  gos : ∀ u ∈ us, GrOwn w B u
structure CpW (w : World) (B : Nat) (l : List WtP) (val : Value) (us : List WtV) : Prop where
  own : OwnK 13 38 w B val (us.map wtCells)
  all : us.map (·.g) = l
  gos : ∀ u ∈ us, WtOwn w B u
theorem CpG.below {w w' : World} {B : Nat} {l : List GrP} {val : Value} {us : List GrV} (h : CpG w B l val us) (hb : Below w.heap.size w w') : CpG w' B l val us := ⟨h.own.below hb, h.all, fun u hu => (h.gos u hu).below hb⟩
theorem CpW.below {w w' : World} {B : Nat} {l : List WtP} {val : Value} {us : List WtV} (h : CpW w B l val us) (hb : Below w.heap.size w w') : CpW w' B l val us := ⟨h.own.below hb, h.all, fun u hu => OwnS.below (h.gos u hu) hb⟩
theorem CpG.mono {w : World} {B B' : Nat} {l : List GrP} {val : Value} {us : List GrV} (h : CpG w B l val us) (hb : B' ≤ B) : CpG w B' l val us := ⟨h.own.mono hb, h.all, fun u hu => (h.gos u hu).mono hb⟩
theorem CpW.mono {w : World} {B B' : Nat} {l : List WtP} {val : Value} {us : List WtV} (h : CpW w B l val us) (hb : B' ≤ B) : CpW w B' l val us := ⟨h.own.mono hb, h.all, fun u hu => ownS_mono (h.gos u hu) hb⟩
theorem form16 {k : Nat} {t : TypeId} {w : World} {B : Nat} {val : Value} {xs : List (List Value)} (h : OwnK k t w B val xs) : ∃ p n c, val = .slice p n c := by
  rcases h.forms with ⟨e, _⟩ | ⟨g, cap, e, _⟩
  · exact ⟨_, _, _, e⟩
  · exact ⟨_, _, _, e⟩
/-- The new bank. -/
theorem cpy_bank {w w2 : World} {B b : Nat} {gv wv : Value} {G : List GrV} {V : List WtV} {p q : Option Addr} {n c m d : Nat} {us : List GrV} {vs : List WtV} (h : BankW w B b gv wv G V) (hb : Below w.heap.size w w2) (h1 : CpG w2 w.heap.size (G.map (·.g)) (.slice p n c) us) (h2 : CpW w2 w.heap.size (V.map (·.g)) (.slice q m d) vs) :
    BankW (w2.alloc (.cells #[.slice p n c, .slice q m d] 52)) w.heap.size w2.heap.size (.slice p n c) (.slice q m d) us vs ∧ Below w.heap.size w (w2.alloc (.cells #[.slice p n c, .slice q m d] 52)) := by
  have ha : Below w2.heap.size w2 (w2.alloc (.cells #[.slice p n c, .slice q m d] 52)) := (Below.refl _ _).alloc (Nat.le_refl _) _
  have h3 := h1.below ha
  have h4 := h2.below ha
  have hl1 : us.length = G.length := by have := congrArg List.length h1.all; rwa [List.length_map, List.length_map] at this
  have hl2 : vs.length = V.length := by have := congrArg List.length h2.all; rwa [List.length_map, List.length_map] at this
  refine ⟨⟨heap_alloc_new w2 _, hb.size, h3.own, h4.own, h3.gos, h4.gos, fun u hu => ?_, by rw [hl1]; exact h.glen, by rw [hl2]; exact h.vlen⟩, hb.trans (ha.mono hb.size)⟩
  have hm : u.g ∈ G.map (·.g) := by rw [← h1.all]; exact List.mem_map.2 ⟨u, hu, rfl⟩
  obtain ⟨v, hv, e⟩ := List.mem_map.1 hm
  rw [← e]
  exact h.gf v hv
set_option maxRecDepth 100000 in
set_option maxHeartbeats 4000000 in
theorem copy_any {B b : Nat} {gv wv : Value} {G : List GrV} {V : List WtV} (w : World) (h : BankW w B b gv wv G V) (hwf : ∀ v ∈ V, WtFit v.g) :
    Calls Try.prog 24 #[.pointer (some ⟨b, 0, none⟩)] w fun e w' => ∃ c gv' wv' G' V', e = .returned (.pointer (some ⟨c, 0, none⟩)) ∧ Hid (BankW w' w.heap.size c gv' wv' G' V' ∧ G'.map (·.g) = G.map (·.g) ∧ V'.map (·.g) = V.map (·.g) ∧ Below w.heap.size w w') := by
  have HK : Hid (BankW w B b gv wv G V ∧ ∀ v ∈ V, WtFit v.g) := ⟨h, hwf⟩
  clear h hwf
  go_enter Try.func24, Try.ntmps24
  go_wp2_with fail
  refine (grants_any _ HK.out.1).mono ?_
  rintro e w1 ⟨⟨val, us, rfl, h1, h2, h3⟩, hb1⟩
  obtain ⟨p, n, c, rfl⟩ := form16 h1
  have HG1 : Hid (Below w.heap.size w w1 ∧ CpG w1 w.heap.size (G.map (·.g)) (.slice p n c) us) := ⟨hb1, ⟨h1, h2, h3⟩⟩
  clear h1 h2 h3 hb1
  go_wp2_with fail
  refine (waits_any _ (HK.out.1.below HG1.out.1) HK.out.2).mono ?_
  rintro e w2 ⟨⟨val, vs, rfl, h1, h2, h3⟩, hb2⟩
  obtain ⟨q, m, d, rfl⟩ := form16 h1
  have HE : Hid (BankW (w2.alloc (.cells #[.slice p n c, .slice q m d] 52)) w.heap.size w2.heap.size (.slice p n c) (.slice q m d) us vs ∧ Below w.heap.size w (w2.alloc (.cells #[.slice p n c, .slice q m d] 52))) :=
    cpy_bank HK.out.1 (HG1.out.1.trans (hb2.mono HG1.out.1.size)) (HG1.out.2.below hb2) ((CpW.mk h1 h2 h3).mono HG1.out.1.size)
  have HF : Hid (us.map (·.g) = G.map (·.g) ∧ vs.map (·.g) = V.map (·.g)) := ⟨HG1.out.2.all, h2⟩
  clear h1 h2 h3 hb2
  go_wp2
  go_ret
  exact ⟨_, _, _, _, _, rfl, ⟨HE.out.1, HF.out.1, HF.out.2, HE.out.2⟩⟩
end Go.Proofs.Ytjadmldnpdmamaa

/- A bank whose row of waits was written anew. -/
namespace Go.Proofs.Ytjadmldnpdmamaa
open Go.RowKit
set_option linter.unusedVariables false

/-- What is written into the row of waits: another row of the bank's. -/
theorem bank_waits {w w2 w3 : World} {B b : Nat} {gv wv wv' : Value} {G : List GrV} {V V' : List WtV} (h : BankW w B b gv wv G V) (hb : Below w.heap.size w w2) (hg : w2.grownBy w3 wv.ownBlock) (hown : OwnK 13 38 w3 B wv' (V'.map wtCells))
    (hnew : ∀ k, wv'.ownBlock = some k → wv.ownBlock = some k ∨ w2.heap.size ≤ k) (hV : ∀ v ∈ V', v ∈ V ∨ WtOwn w2 B v) (hl : V'.length ≤ 8) :
    BankW (w3.setCell ⟨b, 1, none⟩ wv') B b gv wv' G V' ∧ BankStep b gv wv w (w3.setCell ⟨b, 1, none⟩ wv') gv wv' := by
  have h2 := h.below hb
  have t2 := h2.ws.typed
  have hb3 := block_other h2.blk hg t2 (by decide)
  have hg3 := h2.gs.other hg t2 (by decide)
  have hb4 : (w3.setCell ⟨b, 1, none⟩ wv').heap[b]? = some (.cells #[gv, wv'] 52 (0, 0)) := heap_setCell_same w3 b 1 _ _ wv' hb3
  have g34 : w3.grownBy (w3.setCell ⟨b, 1, none⟩ wv') (some b) := grown_setCells w3 b 1 [wv']
  have t3 := Typed.block hb3
  refine ⟨⟨hb4, h.low, hg3.other g34 t3 (by decide), hown.other g34 t3 (by decide), fun v hv => ((h2.go v hv).other hg t2 (by decide)).other g34 t3 (by decide), fun v hv => ?_, h.gf, h.glen, hl⟩, ?_⟩
  · rcases hV v hv with h1 | h1
    · exact OwnS.other (OwnS.other (h2.wo v h1) hg t2 (by decide)) g34 t3 (by decide)
    · exact OwnS.other (OwnS.other h1 hg t2 (by decide)) g34 t3 (by decide)
  · refine ⟨g34.os.trans (hg.os.trans hb.os), g34.tape.trans (hg.tape.trans hb.tape), g34.output.trans (hg.output.trans hb.output), Nat.le_trans hb.size (Nat.le_trans hg.size g34.size), fun x hx h1 h2' h3 => ⟨?_, h2', fun e => ?_⟩⟩
    · have hx2 := Nat.lt_of_lt_of_le hx hb.size
      rw [g34.block x (Nat.lt_of_lt_of_le hx2 hg.size) (fun e => h1 (by injection e)), hg.block x hx2 (fun e => h3 e.symm), hb.block x hx]
    · rcases hnew x e with h4 | h4
      · exact h3 h4
      · have := hb.size
        omega
end Go.Proofs.Ytjadmldnpdmamaa

/- bank.Sweep's two closures, and what they leave of a bank's rows. -/
namespace Go.Proofs.Ytjadmldnpdmamaa
open Go.RowKit
set_option linter.unusedVariables false

/-- Whether cells begin with an origin. -/
def orgAt (o : OrgV) : List Value → Bool
  | .bool s :: .string h :: .int _ n :: _ => orgB ⟨s, h, n⟩ o
  | _ => false
def BoxO (w : World) (a : Nat) (o : OrgV) : Prop := w.heap[a]? = some (.cells #[.bool o.sec, .string o.host, .int .i64 o.port] 24 (0, 0))
set_option maxRecDepth 100000 in
set_option maxHeartbeats 4000000 in
theorem swG_is (v : GrV) (o : OrgV) (a : Nat) (w : World) (hb : BoxO w a o) :
    Calls Try.prog 41 #[.agg (grCells v).toArray, .pointer (some ⟨a, 0, none⟩)] w fun e w' => e = .returned (.bool (orgB v.g.org o)) ∧ Below w.heap.size w w' := by
  have hbb : Below w.heap.size w (w.alloc (.cells (grCells v).toArray 36)) := (Below.refl _ _).alloc (Nat.le_refl _) _
  have hb2 := (hbb.block _ (Array.getElem?_eq_some_iff.1 hb).1).trans hb
  have hn := heap_alloc_new w (.cells (grCells v).toArray 36)
  have HB : Hid (Below w.heap.size w (w.alloc (.cells (grCells v).toArray 36))) := hbb
  unfold grCells at hbb hb2 hn HB ⊢
  have c0 := (cell_of (i := 0) hb2)
  have c1 := (cell_of (i := 1) hb2)
  have c2 := (cell_of (i := 2) hb2)
  have n0 := cell_of (i := 0) hn
  have n1 := cell_of (i := 1) hn
  have n2 := cell_of (i := 2) hn
  simp only [List.getElem?_toArray, List.getElem?_cons_zero, List.getElem?_cons_succ] at c0 c1 c2 n0 n1 n2
  have e1 := eqOrg v.g.org o (orgB v.g.org o) rfl
  clear hb hb2 hn hbb
  go_enter Try.func41, Try.ntmps41
  obtain ⟨E1, h1⟩ : ∃ E, orgB v.g.org o = E := ⟨_, rfl⟩
  rw [h1] at e1 ⊢
  clear h1
  go_wp2
  go_ret
  exact ⟨rfl, HB.out⟩
set_option maxRecDepth 100000 in
set_option maxHeartbeats 4000000 in
theorem swW_is (v : WtV) (o : OrgV) (a : Nat) (w : World) (hb : BoxO w a o) :
    Calls Try.prog 43 #[.agg (wtCells v).toArray, .pointer (some ⟨a, 0, none⟩)] w fun e w' => e = .returned (.bool (orgB v.g.org o)) ∧ Below w.heap.size w w' := by
  have hbb : Below w.heap.size w (w.alloc (.cells (wtCells v).toArray 38)) := (Below.refl _ _).alloc (Nat.le_refl _) _
  have hb2 := (hbb.block _ (Array.getElem?_eq_some_iff.1 hb).1).trans hb
  have hn := heap_alloc_new w (.cells (wtCells v).toArray 38)
  have HB : Hid (Below w.heap.size w (w.alloc (.cells (wtCells v).toArray 38))) := hbb
  unfold wtCells at hbb hb2 hn HB ⊢
  have c0 := (cell_of (i := 0) hb2)
  have c1 := (cell_of (i := 1) hb2)
  have c2 := (cell_of (i := 2) hb2)
  have n0 := cell_of (i := 0) hn
  have n1 := cell_of (i := 1) hn
  have n2 := cell_of (i := 2) hn
  simp only [List.getElem?_toArray, List.getElem?_cons_zero, List.getElem?_cons_succ] at c0 c1 c2 n0 n1 n2
  have e1 := eqOrg v.g.org o (orgB v.g.org o) rfl
  clear hb hb2 hn hbb
  go_enter Try.func43, Try.ntmps43
  obtain ⟨E1, h1⟩ : ∃ E, orgB v.g.org o = E := ⟨_, rfl⟩
  rw [h1] at e1 ⊢
  clear h1
  go_wp2
  go_ret
  exact ⟨rfl, HB.out⟩
theorem swG_pred {w : World} {val : Value} {G : List GrV} {B a : Nat} {o : OrgV} (hown : OwnK 16 36 w B val (G.map grCells)) (hx : BoxO w a o) :
    PredK Try.prog 41 #[.pointer (some ⟨a, 0, none⟩)] (orgAt o) (G.map grCells) w val.ownBlock := by
  intro W x hm hg
  obtain ⟨v, hv, rfl⟩ := List.mem_map.1 hm
  exact swG_is v o a W (block_other hx hg hown.typed (by decide))
theorem swW_pred {w : World} {val : Value} {V : List WtV} {B a : Nat} {o : OrgV} (hown : OwnK 13 38 w B val (V.map wtCells)) (hx : BoxO w a o) :
    PredK Try.prog 43 #[.pointer (some ⟨a, 0, none⟩)] (orgAt o) (V.map wtCells) w val.ownBlock := by
  intro W x hm hg
  obtain ⟨v, hv, rfl⟩ := List.mem_map.1 hm
  exact swW_is v o a W (block_other hx hg hown.typed (by decide))
theorem swG_map (o : OrgV) (G : List GrV) : (G.map grCells).filter (fun y => !orgAt o y) = (G.filter (fun v => !orgB v.g.org o)).map grCells := by
  rw [List.filter_map]
  rfl
theorem swW_map (o : OrgV) (V : List WtV) : (V.map wtCells).filter (fun y => !orgAt o y) = (V.filter (fun v => !orgB v.g.org o)).map wtCells := by
  rw [List.filter_map]
  rfl
/-- The row of waits without an origin's. -/
theorem swW_del {B a : Nat} {V : List WtV} {wv : Value} {o : OrgV} (hl : V.length ≤ 8) (w : World) (h : OwnK 13 38 w B wv (V.map wtCells)) (hx : BoxO w a o) :
    Calls Try.prog 42 #[wv, .func (.func 43) #[] #[.pointer (some ⟨a, 0, none⟩)]] w fun e w' => ∃ p m c, e = .returned (.slice p m c) ∧ Hid (OwnK 13 38 w' B (.slice p m c) ((V.filter (fun v => !orgB v.g.org o)).map wtCells) ∧ w.grownBy w' wv.ownBlock ∧ (Value.slice p m c).ownBlock = wv.ownBlock ∧ (V.filter (fun v => !orgB v.g.org o)).length = m) := by
  have hp := swW_pred h hx
  rcases h.forms with ⟨e, e2⟩ | ⟨g, cap, e, _, _, _, _⟩
  · subst e
    refine (dlfW_none _ _).mono ?_
    rintro e w' ⟨rfl, rfl⟩
    have h0 : V = [] := List.map_eq_nil_iff.1 e2
    subst h0
    exact ⟨_, _, _, rfl, ⟨h, ⟨rfl, rfl, rfl, Nat.le_refl _, fun _ _ _ => rfl⟩, rfl, rfl⟩⟩
  · subst e
    refine (dlfW_any g _ cap B _ rfl (by rw [List.length_map]; omega) w h _ _ _ (enters_at Try.func43 (by kernel_rfl) rfl) hp).mono ?_
    rintro e w' ⟨m, rfl, H⟩
    obtain ⟨h1, h2, h3⟩ := H.out
    rw [swW_map] at h1 h2
    rw [List.length_map] at h2
    exact ⟨_, _, _, rfl, ⟨h1, h3, rfl, h2⟩⟩
/-- The row of grants without an origin's. -/
theorem swG_del {B a : Nat} {V : List GrV} {wv : Value} {o : OrgV} (hl : V.length ≤ 8) (w : World) (h : OwnK 16 36 w B wv (V.map grCells)) (hx : BoxO w a o) :
    Calls Try.prog 17 #[wv, .func (.func 41) #[] #[.pointer (some ⟨a, 0, none⟩)]] w fun e w' => ∃ p m c, e = .returned (.slice p m c) ∧ Hid (OwnK 16 36 w' B (.slice p m c) ((V.filter (fun v => !orgB v.g.org o)).map grCells) ∧ w.grownBy w' wv.ownBlock ∧ (Value.slice p m c).ownBlock = wv.ownBlock ∧ (V.filter (fun v => !orgB v.g.org o)).length = m) := by
  have hp := swG_pred h hx
  rcases h.forms with ⟨e, e2⟩ | ⟨g, cap, e, _, _, _, _⟩
  · subst e
    refine (dlfG_none _ _).mono ?_
    rintro e w' ⟨rfl, rfl⟩
    have h0 : V = [] := List.map_eq_nil_iff.1 e2
    subst h0
    exact ⟨_, _, _, rfl, ⟨h, ⟨rfl, rfl, rfl, Nat.le_refl _, fun _ _ _ => rfl⟩, rfl, rfl⟩⟩
  · subst e
    refine (dlfG_any g _ cap B _ rfl (by rw [List.length_map]; omega) w h _ _ _ (enters_at Try.func41 (by kernel_rfl) rfl) hp).mono ?_
    rintro e w' ⟨m, rfl, H⟩
    obtain ⟨h1, h2, h3⟩ := H.out
    rw [swG_map] at h1 h2
    rw [List.length_map] at h2
    exact ⟨_, _, _, rfl, ⟨h1, h3, rfl, h2⟩⟩
end Go.Proofs.Ytjadmldnpdmamaa

/- bank.Sweep: all of an origin's go. -/
namespace Go.Proofs.Ytjadmldnpdmamaa
open Go.RowKit
set_option linter.unusedVariables false

/-- The bank behind Sweep. -/
def SwpAns (w : World) (B b : Nat) (gv wv : Value) (G : List GrP) (V : List WtP) (o : OrgV) (e : Ending) (w' : World) : Prop :=
  e = .returned (.int .i64 ((G.length : Int) - ((G.filter (fun g => !orgB g.org o)).length : Int))) ∧ ∃ gv' wv' G' V', Hid (BankW w' B b gv' wv' G' V' ∧ G'.map (·.g) = G.filter (fun g => !orgB g.org o) ∧ V'.map (·.g) = V.filter (fun v => !orgB v.org o) ∧ BankStep b gv wv w w' gv' wv')
set_option maxRecDepth 100000 in
set_option maxHeartbeats 4000000 in
theorem sweep_any {B b : Nat} {gv wv : Value} {G : List GrV} {V : List WtV} (w : World) (h : BankW w B b gv wv G V) (hB : B ≤ w.heap.size) (o : OrgV) :
    Calls Try.prog 14 #[.pointer (some ⟨b, 0, none⟩), .agg #[.bool o.sec, .string o.host, .int .i64 o.port]] w fun e w' => SwpAns w B b gv wv (G.map (·.g)) (V.map (·.g)) o e w' := by
  have HK : Hid (BankW w B b gv wv G V ∧ B ≤ w.heap.size) := ⟨h, hB⟩
  have hb1 : Below w.heap.size w (w.alloc (.cells #[.bool o.sec, .string o.host, .int .i64 o.port] 24)) := (Below.refl _ _).alloc (Nat.le_refl _) _
  have h1 := h.below hb1
  have hx1 : BoxO (w.alloc (.cells #[.bool o.sec, .string o.host, .int .i64 o.port] 24)) w.heap.size o := heap_alloc_new w _
  obtain ⟨W1, hW1⟩ : ∃ W1, W1 = w.alloc (.cells #[.bool o.sec, .string o.host, .int .i64 o.port] 24) := ⟨_, rfl⟩
  have hcb := cell_of (i := 0) h1.blk
  have hcw := cell_of (i := 1) h1.blk
  simp only [List.getElem?_toArray, List.getElem?_cons_zero, List.getElem?_cons_succ] at hcb hcw
  have H1 : Hid (BankW (w.alloc (.cells #[.bool o.sec, .string o.host, .int .i64 o.port] 24)) B b gv wv G V ∧ BoxO (w.alloc (.cells #[.bool o.sec, .string o.host, .int .i64 o.port] 24)) w.heap.size o ∧ Below w.heap.size w (w.alloc (.cells #[.bool o.sec, .string o.host, .int .i64 o.port] 24))) := ⟨h1, hx1, hb1⟩
  clear h1 hx1 hb1 h hB hW1 W1
  go_enter Try.func14, Try.ntmps14
  obtain ⟨pg, n, cg, e, hn⟩ : ∃ p n c, gv = .slice p n c ∧ G.length = n := by
    rcases HK.out.1.gs.forms with ⟨e, e2⟩ | ⟨g, cap, e, _, _, _, _⟩
    · exact ⟨_, _, _, e, by rw [List.map_eq_nil_iff.1 e2]; rfl⟩
    · exact ⟨_, _, _, e, by rw [List.length_map]⟩
  have HN : Hid (G.length = n ∧ n ≤ 8) := ⟨hn, by rw [← hn]; exact HK.out.1.glen⟩
  subst e
  clear hn
  have hdel := swG_del HK.out.1.glen _ H1.out.1.gs H1.out.2.1
  go_wp2_with fail
  refine hdel.mono ?_
  rintro e w2 ⟨p2, m, c2, rfl, H2⟩
  have hb2 := block_other H1.out.1.blk H2.out.2.1 H1.out.1.gs.typed (by decide)
  have hblt : b < w.heap.size := (Array.getElem?_eq_some_iff.1 HK.out.1.blk).1
  have H3 : Hid ((BankW (w2.setCell ⟨b, 0, none⟩ (.slice p2 m c2)) B b (.slice p2 m c2) wv (G.filter (fun v => !orgB v.g.org o)) V ∧ BankStep b (.slice pg n cg) wv w (w2.setCell ⟨b, 0, none⟩ (.slice p2 m c2)) (.slice p2 m c2) wv) ∧ BoxO (w2.setCell ⟨b, 0, none⟩ (.slice p2 m c2)) w.heap.size o ∧ (G.filter (fun v => !orgB v.g.org o)).length = m) := by
    refine ⟨bank_grants HK.out.1 H1.out.2.2 H2.out.2.1 H2.out.1 (fun k hk => .inl (H2.out.2.2.1 ▸ hk)) (fun v hv => ⟨.inl (List.mem_filter.1 hv).1, HK.out.1.gf v (List.mem_filter.1 hv).1⟩) (Nat.le_trans (List.length_filter_le _ _) HK.out.1.glen), ?_, H2.out.2.2.2⟩
    exact (Below.heap_setCell w2 ⟨b, 0, none⟩ (.slice p2 m c2) w.heap.size (by show w.heap.size ≠ b; omega)).trans (block_other H1.out.2.1 H2.out.2.1 H1.out.1.gs.typed (by decide))
  have c0 := cell_of (i := 0) hb2
  simp only [List.getElem?_toArray, List.getElem?_cons_zero] at c0
  have f2 := free_of hb2
  have c1 := cell_of (i := 1) H3.out.1.1.blk
  simp only [List.getElem?_toArray, List.getElem?_cons_zero, List.getElem?_cons_succ] at c1
  have hdel2 := swW_del H3.out.1.1.vlen _ H3.out.1.1.ws H3.out.2.1
  clear hdel hb2 hcb hcw
  go_wp2_with fail
  refine hdel2.mono ?_
  rintro e w4 ⟨p4, m4, c4, rfl, H4⟩
  have hb4 := block_other H3.out.1.1.blk H4.out.2.1 H3.out.1.1.ws.typed (by decide)
  have H5 : Hid (BankW (w4.setCell ⟨b, 1, none⟩ (.slice p4 m4 c4)) B b (.slice p2 m c2) (.slice p4 m4 c4) (G.filter (fun v => !orgB v.g.org o)) (V.filter (fun v => !orgB v.g.org o)) ∧ BankStep b (.slice p2 m c2) wv (w2.setCell ⟨b, 0, none⟩ (.slice p2 m c2)) (w4.setCell ⟨b, 1, none⟩ (.slice p4 m4 c4)) (.slice p2 m c2) (.slice p4 m4 c4)) :=
    bank_waits H3.out.1.1 (Below.refl _ _) H4.out.2.1 H4.out.1 (fun k hk => .inl (H4.out.2.2.1 ▸ hk)) (fun v hv => .inl (List.mem_filter.1 hv).1) (Nat.le_trans (List.length_filter_le _ _) H3.out.1.1.vlen)
  have d1 := cell_of (i := 1) hb4
  have d0 := cell_of (i := 0) H5.out.1.blk
  have f4 := free_of hb4
  simp only [List.getElem?_toArray, List.getElem?_cons_zero, List.getElem?_cons_succ] at d0 d1
  have hn8 : (n : Int) ≤ 8 := by have := HN.out.2; omega
  have hmn : (m : Int) ≤ (n : Int) := by
    have h1 := H3.out.2.2
    have h2 := HN.out.1
    have := List.length_filter_le (fun v : GrV => !orgB v.g.org o) G
    omega
  clear hdel2 hb4 c0 c1 f2
  go_wp2
  go_ret
  refine ⟨?_, _, _, _, _, ⟨H5.out.1, ?_, ?_, H3.out.1.2.trans H5.out.2⟩⟩
  · rw [List.length_map, HN.out.1, List.filter_map, List.length_map]
    rw [← H3.out.2.2]
    rfl
  · rw [List.filter_map]
    rfl
  · rw [List.filter_map]
    rfl
end Go.Proofs.Ytjadmldnpdmamaa

/- The law BankApart, walked. -/
namespace Go.Proofs.Ytjadmldnpdmamaa
open Go.RowKit
set_option linter.unusedVariables false

set_option maxRecDepth 100000 in
set_option maxHeartbeats 4000000 in
theorem bankApart_walk (a0 : Option Addr) (len cap b off : Nat) (gs : List GrA) (hl : len ≤ 9223372036854775807) (hz : ∀ v ∈ gs, GrZ v.g) (a1 : Option Addr) (len1 cap1 b1 off1 : Nat) (ms : List GrA) (hl1 : len1 ≤ 9223372036854775807) (hz1 : ∀ v ∈ ms, GrZ v.g) (w : World) (h : Grs w a0 len b off gs) (h1 : Grs w a1 len1 b1 off1 ms) :
    Calls Try.prog 7 #[.slice a0 len cap, .slice a1 len1 cap1] w fun e w' => e = .returned (.bool true) ∧ Below w.heap.size w w' := by
  have HG : Hid (Grs w a0 len b off gs) := h
  have HM : Hid (Grs w a1 len1 b1 off1 ms) := h1
  have HZ : Hid ((∀ v ∈ gs, GrZ v.g) ∧ ∀ v ∈ ms, GrZ v.g) := ⟨hz, hz1⟩
  clear h h1 hz hz1
  go_enter Try.func7, Try.ntmps7
  go_wp2_with fail
  refine (banked_any _).mono ?_
  rintro e w1 ⟨rfl, hb1⟩
  have HB1 : Hid (Below w.heap.size w w1) := hb1
  clear hb1
  go_wp2_with fail
  refine (held_any a0 len cap b off gs HZ.out.1 hl _ (HG.out.below HB1.out)).mono ?_
  rintro e w2 ⟨⟨t, rfl, ht⟩, hb2⟩
  have HB2 : Hid (Below w.heap.size w w2) := HB1.out.trans (hb2.mono HB1.out.size)
  clear hb2 HB1 hl
  cases t
  · go_wp2
    go_ret
    exact ⟨rfl, HB2.out⟩
  obtain ⟨hn, hsh⟩ := ht rfl
  have HSH : Hid (∀ v ∈ gs, shortB v) := hsh
  clear ht hsh
  go_wp2_with fail
  refine (held_any a1 len1 cap1 b1 off1 ms HZ.out.2 hl1 _ (HM.out.below HB2.out)).mono ?_
  rintro e w3 ⟨⟨t, rfl, ht⟩, hb3⟩
  have HB3 : Hid (Below w.heap.size w w3) := HB2.out.trans (hb3.mono HB2.out.size)
  clear hb3 HB2 hl1
  cases t
  · go_wp2
    go_ret
    exact ⟨rfl, HB3.out⟩
  obtain ⟨hn1, hsh⟩ := ht rfl
  have HSM : Hid (∀ v ∈ ms, shortB v) := hsh
  clear ht hsh
  go_wp2_with fail
  refine (filled_any a0 len cap b off gs HZ.out.1 HSH.out hn _ (HG.out.below HB3.out)).mono ?_
  rintro e w4 ⟨rfl, H4⟩
  obtain ⟨⟨gv, G, hB, hG⟩, hb4⟩ := H4.out
  obtain ⟨lb, HLB⟩ : ∃ x, Hid (w3.heap.size = x) := ⟨_, rfl⟩
  rw [HLB.out] at hB ⊢
  have HB4 : Hid (Below w.heap.size w w4 ∧ BankW w4 lb lb gv (.slice none 0 0) G []) := ⟨HB3.out.trans (hb4.mono HB3.out.size), hB⟩
  clear H4 hB hG hb4 HB3 HLB
  go_wp2_with fail
  refine (copy_any _ HB4.out.2 (fun v hv => by cases hv)).mono ?_
  rintro e w5 ⟨c, gvc, wvc, Gc, Vc, rfl, H5⟩
  obtain ⟨bc, HBC⟩ : ∃ x, Hid (w4.heap.size = x) := ⟨_, rfl⟩
  have HB5 : Hid (Below w.heap.size w w5 ∧ BankW w5 lb lb gv (.slice none 0 0) G [] ∧ BankW w5 bc c gvc wvc Gc Vc ∧ Gc.map (·.g) = G.map (·.g) ∧ bc ≤ w5.heap.size) := ⟨HB4.out.1.trans (H5.out.2.2.2.mono HB4.out.1.size), HB4.out.2.below H5.out.2.2.2, by rw [← HBC.out]; exact H5.out.1, H5.out.2.1, by rw [← HBC.out]; exact H5.out.2.2.2.size⟩
  have HKB : Hid (∀ W, Below bc w5 W → BankW W lb lb gv (.slice none 0 0) G [] ∧ Below w.heap.size w W) := fun W hW => by
    rw [← HBC.out] at hW
    have h45 : Below w4.heap.size w4 W := H5.out.2.2.2.trans hW
    exact ⟨HB4.out.2.below h45, HB4.out.1.trans (h45.mono HB4.out.1.size)⟩
  have hbw : w.heap.size ≤ bc := by rw [← HBC.out]; exact HB4.out.1.size
  clear H5 HBC HB4
  have HFG : Hid (∀ g ∈ G.map (·.g), g.ask.dom.length ≤ 1000 ∧ g.paths.length ≤ 1000) := fun g hg => by
    obtain ⟨v, hv, rfl⟩ := List.mem_map.1 hg
    exact fit_small (HB5.out.2.1.gf v hv)
  have HGL : Hid ((G.map (·.g)).length ≤ 1000) := by have := HB5.out.2.1.glen; show _ ≤ _; rw [List.length_map]; omega
  obtain ⟨s5, HS5⟩ : ∃ x, Hid (w5.heap.size = x) := ⟨_, rfl⟩
  have HGV : Hid (c < s5 ∧ (∀ x, gvc.ownBlock = some x → x < s5) ∧ ∀ x, wvc.ownBlock = some x → x < s5) := by
    rw [← HS5.out]
    exact ⟨(Array.getElem?_eq_some_iff.1 HB5.out.2.2.1.blk).1, fun x e => (HB5.out.2.2.1.gs.lt x e).2, fun x e => (HB5.out.2.2.1.ws.lt x e).2⟩
  go_wp2_with fail
  refine (grants_any _ HB5.out.2.1).mono ?_
  rintro e w6 ⟨⟨wasv, us, rfl, hown6, his6, hea6⟩, hb6⟩
  rw [HS5.out] at hown6 hea6
  have HR6 : Hid (RowG w6 s5 wasv us (G.map (·.g))) := ⟨hown6, his6, hea6⟩
  have HB6 : Hid (Below bc w5 w6) := hb6.mono HB5.out.2.2.2.2
  have hb6' : Hid (BankW w6 bc c gvc wvc Gc Vc) := HB5.out.2.2.1.below hb6
  clear hown6 his6 hea6 hb6 HS5
  go_wp2_with fail
  refine (grants_any _ hb6'.out).mono ?_
  rintro e w7 ⟨⟨cv, us7, rfl, hown7, his7, hea7⟩, hb7⟩
  have HR7 : Hid (RowG w7 s5 wasv us (G.map (·.g)) ∧ ∃ B, RowG w7 B cv us7 (G.map (·.g))) :=
    ⟨HR6.out.below hb7, ⟨_, hown7, his7.trans HB5.out.2.2.2.1, hea7⟩⟩
  have HB7 : Hid (Below bc w5 w7 ∧ BankW w7 bc c gvc wvc Gc Vc) := ⟨HB6.out.trans (hb7.mono (Nat.le_trans HB5.out.2.2.2.2 HB6.out.size)), hb6'.out.below hb7⟩
  clear hown7 his7 hea7 hb7 HR6 HB6 hb6'
  obtain ⟨hr1, B2, hr2⟩ := HR7.out
  go_wp2_with fail
  refine (eqf_rows _ hr2 hr1 HFG.out HGL.out).mono ?_
  rintro e w8 ⟨rfl, hb8⟩
  have HR8 : Hid (RowG w8 s5 wasv us (G.map (·.g))) := hr1.below hb8
  have HB8 : Hid (Below bc w5 w8 ∧ BankW w8 bc c gvc wvc Gc Vc ∧ bc ≤ w8.heap.size) := ⟨HB7.out.1.trans (hb8.mono (Nat.le_trans HB5.out.2.2.2.2 HB7.out.1.size)), HB7.out.2.below hb8, Nat.le_trans HB5.out.2.2.2.2 (Nat.le_trans HB7.out.1.size hb8.size)⟩
  clear hr1 hr2 hb8 HR7 HB7 HB5
  have HLM : Hid (ms.length = len1) := HM.out.len_eq
  go_wp2
  go_loopw [8] (fun i wr => ∃ (k : Nat) (gq wq : Value) (Gq : List GrV) (Vq : List WtV), k ≤ len1 ∧ i = .int .i64 k ∧ Hid (BankW wr bc c gq wq Gq Vq ∧ BankStep c gvc wvc w8 wr gq wq)) (fun i _ => len1 - (intOf i).toNat)
  case atStart => exact ⟨0, gvc, wvc, Gc, Vc, Nat.zero_le _, rfl, HB8.out.2.1, BankStep.of_below (Below.refl _ _)⟩
  case round =>
    obtain ⟨k, gq, wq, Gq, Vq, hk, rfl, HI⟩ := hrel
    have HBE : Hid (Below bc w5 wr ∧ bc ≤ wr.heap.size) := by
      have h8 := step_low HB8.out.2.1 HB8.out.2.2 HI.out.2
      exact ⟨HB8.out.1.trans h8, Nat.le_trans HB8.out.2.2 h8.size⟩
    by_cases hlt : k < len1
    · have hkL : (k : Int) < (len1 : Int) := by omega
      obtain ⟨v, hv⟩ : ∃ v, ms[k]? = some v := ⟨ms[k]'(by have := HLM.out; omega), List.getElem?_eq_getElem _⟩
      have hvm : v ∈ ms := List.mem_of_getElem? hv
      obtain ⟨ha0, _⟩ := HM.out.lies (by omega)
      subst ha0
      have hW := HM.out.below (HKB.out wr HBE.out.1).2
      obtain ⟨c0, c1, c2, c3, c4, c5, c6, c7, c8, c9, c10, c11, c12, c13, c14, c15⟩ := hW.all hv
      have hsh := HSM.out v hvm
      have hcall := put_at v.g (fit_of (HZ.out.2 v hvm) hsh.1 hsh.2) v.da v.pa v.g.ask.dom.length v.dc v.g.paths.length v.pc v.db v.doff v.pb v.poff wr (hW.dom v hvm) (hW.paths v hvm) bc c gq wq Gq Vq HI.out.1 HBE.out.2
      have HALL : Hid (∀ W, Below bc wr W → W.cell? ⟨b1, off1 + k * 16, none⟩ = some (.bool v.g.org.sec) ∧ W.cell? ⟨b1, off1 + k * 16 + 1, none⟩ = some (.string v.g.org.host) ∧ W.cell? ⟨b1, off1 + k * 16 + 2, none⟩ = some (.int .i64 v.g.org.port)) := fun W hWb => by
        have hW2 := HM.out.below (HKB.out W (HBE.out.1.trans hWb)).2
        obtain ⟨d0, d1, d2, _⟩ := hW2.all hv
        exact ⟨d0, d1, d2⟩
      clear hsh
      obtain ⟨⟨⟨os, oh, op⟩, px, us', pw, ⟨sc, re, no, oq, se, qo, st, dm⟩, ct, pt⟩, da, dc, db, doff, pa, pc, pb, poff⟩ := v
      simp only at hcall c0 c1 c2 c3 c4 c5 c6 c7 c8 c9 c10 c11 c12 c13 c14 c15 HALL
      clear hv hvm hW
      go_wp2_with fail
      refine hcall.mono ?_
      rintro e w9 ⟨rfl, gv', G', H'⟩
      have h9 := step_low HI.out.1 HBE.out.2 H'.out.2.2
      have H9 : Hid (BankW w9 bc c gv' wq G' Vq ∧ bc ≤ w9.heap.size ∧ BankStep c gvc wvc w8 w9 gv' wq) := ⟨H'.out.1, Nat.le_trans HBE.out.2 h9.size, HI.out.2.trans H'.out.2.2⟩
      clear c0 c1 c2 c3 c4 c5 c6 c7 c8 c9 c10 c11 c12 c13 c14 c15
      obtain ⟨c0, c1, c2⟩ := HALL.out w9 h9
      clear H' hcall h9
      go_wp2_with fail
      refine (sweep_any _ H9.out.1 H9.out.2.1 ⟨os, oh, op⟩).mono ?_
      rintro e w10 ⟨rfl, gv2, wv2, G2, V2, H2⟩
      have HR : Hid (BankW w10 bc c gv2 wv2 G2 V2 ∧ BankStep c gvc wvc w8 w10 gv2 wv2) := ⟨H2.out.1, H9.out.2.2.trans H2.out.2.2.2⟩
      clear H2 H9 c0 c1 c2 HALL
      go_wp2
      go_roundw
      case rel => exact ⟨k + 1, gv2, wv2, G2, V2, by omega, by go_num, HR.out⟩
      case measure => simp [intOf]; omega
    · have hkL : ¬ (k : Int) < (len1 : Int) := by omega
      have hkb := HKB.out wr HBE.out.1
      have HR9 : Hid (RowG wr s5 wasv us (G.map (·.g))) := HR8.out.step HI.out.2 HGV.out.1 HGV.out.2.1 HGV.out.2.2
      have HKW : Hid (BankW wr lb lb gv (.slice none 0 0) G [] ∧ Below w.heap.size w wr) := hkb
      clear hkb
      go_wp2_with fail
      refine (grants_any _ HKW.out.1).mono ?_
      rintro e w10 ⟨⟨bv, us10, rfl, hown10, his10, hea10⟩, hb10⟩
      have HRA : Hid (RowG w10 s5 wasv us (G.map (·.g)) ∧ RowG w10 wr.heap.size bv us10 (G.map (·.g))) := ⟨HR9.out.below hb10, hown10, his10, hea10⟩
      have HBA : Hid (Below w.heap.size w w10) := HKW.out.2.trans (hb10.mono HKW.out.2.size)
      clear hown10 his10 hea10 hb10
      go_wp2_with fail
      refine (eqf_rows _ HRA.out.2 HRA.out.1 HFG.out HGL.out).mono ?_
      rintro e w11 ⟨rfl, hb11⟩
      have HBZ : Hid (Below w.heap.size w w11) := HBA.out.trans (hb11.mono HBA.out.size)
      clear hb11 HRA HBA
      go_wp2
      go_ret
      exact ⟨rfl, HBZ.out⟩
end Go.Proofs.Ytjadmldnpdmamaa

/- What came in: no text of it is longer than a machine can hold. -/
namespace Go.Proofs.Ytjadmldnpdmamaa
open Go.ChangeShapes Go.WideShapes Go.ChangeAt Go.RowKit Go.Joins

theorem laidOutP : laidOutB Try.prog = true := by kernel_rfl
theorem weightsAll_mem {H : Type} {P : Program} {e : TypeId} : ∀ {ds : List (DataW H)} {d : DataW H}, d ∈ ds → ∀ n ∈ d.weights P e, n ∈ DataW.weightsAll P e ds
  | d0 :: ds, d, hd, n, hn => by
    rw [DataW.weightsAll, List.mem_append]
    rcases List.mem_cons.1 hd with rfl | h
    · exact .inl hn
    · exact .inr (weightsAll_mem h n hn)
theorem weights_slice {H : Type} {t e : TypeId} (ht : Try.prog.underlying t = some (.slice e)) {ds es : List (DataW H)} {d : DataW H} (hd : d ∈ ds) : ∀ n ∈ d.weights Try.prog e, n ∈ (DataW.slice ds es).weights Try.prog t := by
  intro n hn
  rw [DataW.weights, ht]
  simp only [List.mem_cons, List.mem_append]
  exact .inr (.inl (weightsAll_mem hd n hn))
/-- No text of it is longer than a machine can hold. -/
def Reach {H : Type} (t : TypeId) (d : DataW H) : Prop := ∀ n ∈ d.weights Try.prog t, n ≤ 140737488355328
theorem reach_all {H : Type} {ts : List TypeId} {ds : List (DataW H)} (h : (DataW.weightsEach Try.prog ts ds).all (· ≤ reachBytes) = true) {j : Nat} {t : TypeId} {d : DataW H} (ht : ts[j]? = some t) (hd : ds[j]? = some d) : Reach t d := fun n hn => by
  have h1 := List.all_eq_true.1 h _ (DataW.weights_mem_each ht hd n hn)
  have h2 : n ≤ reachBytes := of_decide_eq_true h1
  have := reachBytes_lt
  have e3 : (2 : Nat) ^ 47 = 140737488355328 := by decide
  omega
theorem reach_string {H : Type} {t : TypeId} {s : ByteArray} (h : Reach (H := H) t (.lit (.string s.data.toList))) : s.size ≤ 140737488355328 := by
  have := h s.data.toList.length (by simp [DataW.weights])
  rw [Array.length_toList] at this
  exact this
def strOf : Value → ByteArray
  | .string s => s
  | _ => ⟨#[]⟩
end Go.Proofs.Ytjadmldnpdmamaa

/- Rows of grants that came in: opened down to their lists. -/
namespace Go.Proofs.Ytjadmldnpdmamaa
open Go.ChangeShapes Go.WideShapes Go.ChangeAt Go.RowKit Go.Joins
set_option linter.unusedVariables false

instance : Inhabited GrA := ⟨⟨⟨⟨false, ⟨#[]⟩, 0⟩, false, ⟨#[]⟩, ⟨#[]⟩, ⟨0, ⟨#[]⟩, ⟨#[]⟩, ⟨#[]⟩, false, ⟨#[]⟩, false, []⟩, 0, []⟩, none, 0, 0, 0, none, 0, 0, 0⟩⟩
theorem lst2 {α : Type} {l : List α} (h : l.length = 2) : ∃ c0 c1, l = [c0, c1] := by
  match l, h with
  | [c0, c1], _ => exact ⟨c0, c1, rfl⟩
theorem lst3 {α : Type} {l : List α} (h : l.length = 3) : ∃ c0 c1 c2, l = [c0, c1, c2] := by
  match l, h with
  | [c0, c1, c2], _ => exact ⟨c0, c1, c2, rfl⟩
theorem lst6 {α : Type} {l : List α} (h : l.length = 6) : ∃ c0 c1 c2 c3 c4 c5, l = [c0, c1, c2, c3, c4, c5] := by
  match l, h with
  | [c0, c1, c2, c3, c4, c5], _ => exact ⟨c0, c1, c2, c3, c4, c5, rfl⟩
theorem lst8 {α : Type} {l : List α} (h : l.length = 8) : ∃ c0 c1 c2 c3 c4 c5 c6 c7, l = [c0, c1, c2, c3, c4, c5, c6, c7] := by
  match l, h with
  | [c0, c1, c2, c3, c4, c5, c6, c7], _ => exact ⟨c0, c1, c2, c3, c4, c5, c6, c7, rfl⟩
section
variable {H : Type} {enc : TypeId × Value → H} {W : World}
theorem open_strsAt {fuel : Nat} {v : Value} {x : DataW H × List MemPlace} (h : DataW.trod enc Try.prog W 0 (fun _ => true) true fuel 32 [v] = some x) :
    ∃ (a0 : Option Addr) (cap b off : Nat) (xs : List ByteArray), v = .slice a0 xs.length cap ∧ Strs W a0 xs.length b off xs ∧ (Reach 32 x.1 → ∀ s ∈ xs, s.size ≤ 140737488355328) := by
  rcases Go.Deep.open_strs Try.underlying32 Try.underlying9 (by kernel_rfl) h with ⟨hcs, hx⟩ | ⟨a, len, cap, m, Sx, hcs, _, hl, hm, hmm, hx, hall⟩
  · simp only [List.cons.injEq, and_true] at hcs
    exact ⟨none, 0, 0, 0, [], hcs, ⟨rfl, fun h => absurd h (by simp), (fun j p hp => by simp at hp)⟩, fun _ s hs => by cases hs⟩
  · simp only [List.cons.injEq, and_true] at hcs
    simp only [if_true] at hmm
    obtain rfl := hmm.symm
    obtain ⟨b, off, spot⟩ := a
    have hspot : 0 < len → spot = none := fun h0 => by simpa [Addr.add] using World.cell?_spot (hall 0 (by omega)).1
    refine ⟨some ⟨b, off, spot⟩, cap, b, off, (List.range len).map Sx, by simpa using hcs, ⟨rfl, fun h0 => ?_, fun j p hp => ?_⟩, fun hr s hs => ?_⟩
    · have h0' : 0 < len := by simpa using h0
      obtain rfl := hspot h0'
      refine ⟨rfl, ?_⟩
      have hc := (hall 0 (by omega)).1
      rcases Nat.lt_or_ge b W.heap.size with h1 | h1
      · exact h1
      · simp [World.cell?, Addr.add, Array.getElem?_eq_none h1] at hc
    · rw [List.getElem?_map] at hp
      by_cases hj : j < len
      · rw [List.getElem?_range hj] at hp
        simp only [Option.map_some, Option.some.injEq] at hp
        subst hp
        obtain rfl := hspot (by omega)
        rw [← add_plain]
        exact (hall j (by omega)).1
      · rw [List.getElem?_eq_none (by simp; omega)] at hp
        cases hp
    · obtain ⟨i, hi, rfl⟩ := List.mem_map.1 hs
      have h1 := hr (Sx i).data.toList.length (by
        rw [hx]
        exact weights_slice Try.underlying32 (List.mem_map.2 ⟨i, hi, rfl⟩) _ (by simp [DataW.weights]))
      rw [Array.length_toList] at h1
      exact h1
set_option maxRecDepth 100000 in
set_option maxHeartbeats 4000000 in
/-- A grant among the cells of a row. -/
theorem open_grantAt {fuel : Nat} {c0 c1 c2 c3 c4 c5 c6 c7 c8 c9 c10 c11 c12 c13 c14 c15 : Value} {x : DataW H × List MemPlace} (h : DataW.trod enc Try.prog W 0 (fun _ => true) true fuel 36 [c0, c1, c2, c3, c4, c5, c6, c7, c8, c9, c10, c11, c12, c13, c14, c15] = some x) :
    ∃ v : GrA, [c0, c1, c2, c3, c4, c5, c6, c7, c8, c9, c10, c11, c12, c13, c14, c15] = grCells v.val ∧ Strs W v.da v.g.ask.dom.length v.db v.doff v.g.ask.dom ∧ Strs W v.pa v.g.paths.length v.pb v.poff v.g.paths ∧ (Reach 36 x.1 → GrZ v.g) := by
  obtain ⟨xs, n, rfl, rfl, _, hlen, hff⟩ := DataW.trod_struct Try.underlying36 h
  obtain ⟨y0, y1, y2, y3, y4, y5, rfl⟩ := lst6 (hlen.trans rfl)
  have g0 : DataW.trod enc Try.prog W 0 (fun _ => true) true n 24 [c0, c1, c2] = some y0 := hff 0 _ rfl
  have g1 : DataW.trod enc Try.prog W 0 (fun _ => true) true n 4 [c3] = some y1 := hff 1 _ rfl
  have g2 : DataW.trod enc Try.prog W 0 (fun _ => true) true n 31 [c4, c5] = some y2 := hff 2 _ rfl
  have g3 : DataW.trod enc Try.prog W 0 (fun _ => true) true n 34 [c6, c7, c8, c9, c10, c11, c12, c13] = some y3 := hff 3 _ rfl
  have g4 : DataW.trod enc Try.prog W 0 (fun _ => true) true n 3 [c14] = some y4 := hff 4 _ rfl
  have g5 : DataW.trod enc Try.prog W 0 (fun _ => true) true n 32 [c15] = some y5 := hff 5 _ rfl
  clear hff h
  obtain ⟨os', n0, _, ho, _, hl0, hf0⟩ := DataW.trod_struct Try.underlying24 g0
  obtain ⟨o0, o1, o2, rfl⟩ := lst3 (hl0.trans rfl)
  have p0 : DataW.trod enc Try.prog W 0 (fun _ => true) true n0 4 [c0] = some o0 := hf0 0 _ rfl
  have p1 : DataW.trod enc Try.prog W 0 (fun _ => true) true n0 9 [c1] = some o1 := hf0 1 _ rfl
  have p2 : DataW.trod enc Try.prog W 0 (fun _ => true) true n0 3 [c2] = some o2 := hf0 2 _ rfl
  clear hf0
  obtain ⟨sec, e0, rfl⟩ := DataW.trod_bool Try.underlying4 p0
  obtain ⟨host, e1, rfl, _⟩ := DataW.trod_string Try.underlying9 p1
  obtain ⟨port, e2, rfl, _⟩ := DataW.trod_int Try.underlying3 p2
  obtain ⟨px, e3, rfl⟩ := DataW.trod_bool Try.underlying4 g1
  obtain ⟨cs', n1, _, hc, _, hl1, hf1⟩ := DataW.trod_struct Try.underlying31 g2
  obtain ⟨r0, r1, rfl⟩ := lst2 (hl1.trans rfl)
  have q0 : DataW.trod enc Try.prog W 0 (fun _ => true) true n1 9 [c4] = some r0 := hf1 0 _ rfl
  have q1 : DataW.trod enc Try.prog W 0 (fun _ => true) true n1 9 [c5] = some r1 := hf1 1 _ rfl
  clear hf1
  obtain ⟨us, e4, rfl, _⟩ := DataW.trod_string Try.underlying9 q0
  obtain ⟨pw, e5, rfl, _⟩ := DataW.trod_string Try.underlying9 q1
  obtain ⟨as', n2, _, ha, _, hl2, hf2⟩ := DataW.trod_struct Try.underlying34 g3
  obtain ⟨s0, s1, s2, s3, s4, s5, s6, s7, rfl⟩ := lst8 (hl2.trans rfl)
  have t0 : DataW.trod enc Try.prog W 0 (fun _ => true) true n2 3 [c6] = some s0 := hf2 0 _ rfl
  have t1 : DataW.trod enc Try.prog W 0 (fun _ => true) true n2 9 [c7] = some s1 := hf2 1 _ rfl
  have t2 : DataW.trod enc Try.prog W 0 (fun _ => true) true n2 9 [c8] = some s2 := hf2 2 _ rfl
  have t3 : DataW.trod enc Try.prog W 0 (fun _ => true) true n2 9 [c9] = some s3 := hf2 3 _ rfl
  have t4 : DataW.trod enc Try.prog W 0 (fun _ => true) true n2 4 [c10] = some s4 := hf2 4 _ rfl
  have t5 : DataW.trod enc Try.prog W 0 (fun _ => true) true n2 9 [c11] = some s5 := hf2 5 _ rfl
  have t6 : DataW.trod enc Try.prog W 0 (fun _ => true) true n2 4 [c12] = some s6 := hf2 6 _ rfl
  have t7 : DataW.trod enc Try.prog W 0 (fun _ => true) true n2 32 [c13] = some s7 := hf2 7 _ rfl
  clear hf2
  obtain ⟨sch, e6, rfl, _⟩ := DataW.trod_int Try.underlying3 t0
  obtain ⟨rlm, e7, rfl, _⟩ := DataW.trod_string Try.underlying9 t1
  obtain ⟨non, e8, rfl, _⟩ := DataW.trod_string Try.underlying9 t2
  obtain ⟨opq, e9, rfl, _⟩ := DataW.trod_string Try.underlying9 t3
  obtain ⟨ses, e10, rfl⟩ := DataW.trod_bool Try.underlying4 t4
  obtain ⟨qop, e11, rfl, _⟩ := DataW.trod_string Try.underlying9 t5
  obtain ⟨stl, e12, rfl⟩ := DataW.trod_bool Try.underlying4 t6
  obtain ⟨da, dc, db, doff, dm, rfl, hdm, rdm⟩ := open_strsAt t7
  obtain ⟨cnt, e14, rfl, wcnt⟩ := DataW.trod_int Try.underlying3 g4
  obtain ⟨pa, pc, pb, poff, pt, rfl, hpt, rpt⟩ := open_strsAt g5
  simp only [List.cons.injEq, and_true] at e0 e1 e2 e3 e4 e5 e6 e7 e8 e9 e10 e11 e12 e14
  subst e0 e1 e2 e3 e4 e5 e6 e7 e8 e9 e10 e11 e12 e14
  refine ⟨⟨⟨⟨sec, host, port⟩, px, us, pw, ⟨sch, rlm, non, opq, ses, qop, stl, dm⟩, cnt, pt⟩, da, dc, db, doff, pa, pc, pb, poff⟩, rfl, hdm, hpt, fun hr => ?_⟩
  subst ho hc ha
  have w0 := hr host.data.toList.length (by simp [DataW.weights, DataW.weightsEach, Try.underlying36, Try.underlying24])
  have w1 := hr us.data.toList.length (by simp [DataW.weights, DataW.weightsEach, Try.underlying36, Try.underlying31])
  have w2 := hr pw.data.toList.length (by simp [DataW.weights, DataW.weightsEach, Try.underlying36, Try.underlying31])
  have w3 := hr rlm.data.toList.length (by simp [DataW.weights, DataW.weightsEach, Try.underlying36, Try.underlying34])
  have w4 := hr non.data.toList.length (by simp [DataW.weights, DataW.weightsEach, Try.underlying36, Try.underlying34])
  have w5 := hr opq.data.toList.length (by simp [DataW.weights, DataW.weightsEach, Try.underlying36, Try.underlying34])
  have w6 := hr qop.data.toList.length (by simp [DataW.weights, DataW.weightsEach, Try.underlying36, Try.underlying34])
  rw [Array.length_toList] at w0 w1 w2 w3 w4 w5 w6
  have d1 := rdm fun k hk => hr k (by simp [DataW.weights, DataW.weightsEach, Try.underlying36, Try.underlying34, hk])
  have d2 := rpt fun k hk => hr k (by simp [DataW.weights, DataW.weightsEach, Try.underlying36, hk])
  refine ⟨w0, w1, w2, w3, w4, w5, w6, d1, d2, ?_⟩
  simp only [Lit.wf, Bool.and_eq_true, decide_eq_true_eq] at wcnt
  have e1 : IntKind.i64.min = -9223372036854775808 := by decide
  show -9223372036854775808 ≤ cnt
  omega
theorem cells16 : Try.prog.cellsOf 36 = 16 := by kernel_rfl
set_option maxRecDepth 100000 in
set_option maxHeartbeats 2000000 in
theorem open_grants {fuel : Nat} {v : Value} {x : DataW H × List MemPlace} (h : DataW.trod enc Try.prog W 0 (fun _ => true) true fuel 22 [v] = some x) :
    ∃ (a0 : Option Addr) (len cap b off : Nat) (gs : List GrA), v = .slice a0 len cap ∧ len ≤ 9223372036854775807 ∧ Grs W a0 len b off gs ∧ (Reach 22 x.1 → ∀ g ∈ gs, GrZ g.g) := by
  rcases Go.Deep.open_slice Try.underlying22 h with ⟨hcs, hx⟩ | ⟨a, len, cap, m, n, D, Pl, hcs, _, hl, hm, hmm, hx, hall⟩
  · simp only [List.cons.injEq, and_true] at hcs
    exact ⟨none, 0, 0, 0, 0, [], hcs, by omega, ⟨rfl, fun h => absurd h (by omega), (fun j p hp => by simp at hp), (fun c hc => by cases hc), fun c hc => by cases hc⟩, fun _ c hc => by cases hc⟩
  · simp only [List.cons.injEq, and_true] at hcs
    simp only [if_true] at hmm
    obtain rfl := hmm.symm
    unfold maxLen at hm
    rw [cells16] at hall
    have each : ∀ i, i < cap → ∃ g : GrA, (∀ (j : Nat) (u : Value), (grCells g.val)[j]? = some u → W.cell? (a.add (i * 16 + j)) = some u) ∧ Strs W g.da g.g.ask.dom.length g.db g.doff g.g.ask.dom ∧ Strs W g.pa g.g.paths.length g.pb g.poff g.g.paths ∧ (Reach 36 (D i) → GrZ g.g) := fun i hi => by
      obtain ⟨cs', h1, h2⟩ := hall i hi
      obtain ⟨_, hlen, hcell⟩ := World.cells?_some h1
      match cs', hlen with
      | [c0, c1, c2, c3, c4, c5, c6, c7, c8, c9, c10, c11, c12, c13, c14, c15], _ =>
        obtain ⟨g, e, k1, k2, k3⟩ := open_grantAt h2
        refine ⟨g, fun j u hj => ?_, k1, k2, k3⟩
        have hj16 : j < 16 := (List.getElem?_eq_some_iff.1 hj).1
        have e0 := hcell j hj16
        rw [Go.Deep.add_add] at e0
        rw [e0, e, hj]
    obtain ⟨C, hC⟩ := Go.Deep.choose_lt each
    obtain ⟨b, off, spot⟩ := a
    have hget : ∀ (j : Nat) (c : GrA), ((List.range len).map C)[j]? = some c → j < len ∧ c = C j := fun j p hp => by
      rw [List.getElem?_map] at hp
      by_cases hj : j < len
      · rw [List.getElem?_range hj] at hp
        simp only [Option.map_some, Option.some.injEq] at hp
        exact ⟨hj, hp.symm⟩
      · rw [List.getElem?_eq_none (by simp; omega)] at hp
        cases hp
    have hspot : 0 < len → spot = none := fun h0 => by simpa [Addr.add] using World.cell?_spot ((hC 0 (by omega)).1 0 _ rfl)
    refine ⟨some ⟨b, off, spot⟩, len, cap, b, off, (List.range len).map C, hcs, by omega, ⟨by simp, fun h0 => ?_, fun j c hc i u hu => ?_, fun c hc => ?_, fun c hc => ?_⟩, fun hr c hc => ?_⟩
    · obtain rfl := hspot h0
      refine ⟨rfl, ?_⟩
      have hc := (hC 0 (by omega)).1 0 _ rfl
      rcases Nat.lt_or_ge b W.heap.size with h1 | h1
      · exact h1
      · simp [World.cell?, Addr.add, Array.getElem?_eq_none h1] at hc
    · obtain ⟨hj, rfl⟩ := hget j c hc
      obtain rfl := hspot (by omega)
      rw [Nat.add_assoc, ← add_plain]
      exact (hC j (by omega)).1 i u hu
    · obtain ⟨i, hi, rfl⟩ := List.mem_map.1 hc
      exact (hC i (by have := List.mem_range.1 hi; omega)).2.1
    · obtain ⟨i, hi, rfl⟩ := List.mem_map.1 hc
      exact (hC i (by have := List.mem_range.1 hi; omega)).2.2.1
    · obtain ⟨i, hi, rfl⟩ := List.mem_map.1 hc
      refine (hC i (by have := List.mem_range.1 hi; omega)).2.2.2 fun n hn => hr n ?_
      rw [hx]
      exact weights_slice Try.underlying22 (List.mem_map.2 ⟨i, hi, rfl⟩) n hn
/-- A row of grants that came in. -/
theorem open_grantsT {v : Value} {d : DataW H} {p : List MemPlace} {a : Option Addr} {n k : Nat} (h : DataW.Trod enc Try.prog W 0 (fun _ => true) true 22 v d p) (hv : v = .slice a n k) :
    ∃ (b off : Nat) (gs : List GrA), n ≤ 9223372036854775807 ∧ Grs W a n b off gs ∧ (Reach 22 d → ∀ g ∈ gs, GrZ g.g) := by
  subst hv
  obtain ⟨fuel, hf⟩ := h
  obtain ⟨a0, len, cap, b, off, gs, e, h1, h2, h3⟩ := open_grants (v := .slice a n k) hf
  injection e with e1 e2 e3
  subst e1 e2 e3
  exact ⟨b, off, gs, h1, h2, h3⟩
end
end Go.Proofs.Ytjadmldnpdmamaa
