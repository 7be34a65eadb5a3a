/- Rows of structs: without those of a kind, by the library's own function; whatever the program. -/
import Derived.Test.YtdnnlfklanaliabIdkG
import Derived.WalkKit
import Derived.Shelf.RegionOpenPlain
namespace Go.Proofs.Ytdnnlfklanaliab
open Go.RowKit
set_option linter.unusedVariables false

/-- What stands ahead of place i is what is kept of the first j; what stands from j on is as it was. -/
structure DlfI (p : List Value → Bool) (xs L : List (List Value)) (i j : Nat) : Prop where
  len : L.length = xs.length
  done : L.take i = (xs.take j).filter (fun y => !p y)
  rest : L.drop j = xs.drop j
  lt : i < j
  le : j ≤ xs.length
theorem DlfI.start {p : List Value → Bool} {xs : List (List Value)} {k : Nat} {x : List Value} (h : (xs.take k).all (fun y => !p y) = true) (hk : xs[k]? = some x) (hx : p x = true) : DlfI p xs xs k (k + 1) := by
  obtain ⟨hk1, e⟩ := List.getElem?_eq_some_iff.1 hk
  refine ⟨rfl, ?_, rfl, by omega, by omega⟩
  rw [List.take_succ_eq_append_getElem hk1, List.filter_append, e, List.filter_eq_self.2 (List.all_eq_true.1 h)]
  simp [hx]
theorem DlfI.skip {p : List Value → Bool} {xs L : List (List Value)} {i j : Nat} {x : List Value} (h : DlfI p xs L i j) (hj : xs[j]? = some x) (hx : p x = true) : DlfI p xs L i (j + 1) := by
  obtain ⟨hk1, e⟩ := List.getElem?_eq_some_iff.1 hj
  refine ⟨h.len, ?_, ?_, by have := h.lt; omega, by omega⟩
  · rw [h.done, List.take_succ_eq_append_getElem hk1, List.filter_append, e]
    simp [hx]
  · rw [← List.drop_drop, h.rest, List.drop_drop]
theorem DlfI.keep {p : List Value → Bool} {xs L : List (List Value)} {i j : Nat} {x : List Value} (h : DlfI p xs L i j) (hj : xs[j]? = some x) (hx : p x = false) : DlfI p xs (L.set i x) (i + 1) (j + 1) := by
  obtain ⟨hk1, e⟩ := List.getElem?_eq_some_iff.1 hj
  have hi := h.lt
  have hl := h.len
  refine ⟨by rw [List.length_set, hl], ?_, ?_, by omega, by omega⟩
  · rw [List.take_succ_eq_append_getElem hk1, List.filter_append, e, ← h.done, List.take_succ_eq_append_getElem (by rw [List.length_set]; omega), List.getElem_set_self, List.take_set_of_le (Nat.le_refl _)]
    simp [hx]
  · rw [List.drop_set_of_lt (by omega), ← List.drop_drop, h.rest, List.drop_drop]
theorem DlfI.read {p : List Value → Bool} {xs L : List (List Value)} {i j : Nat} {x : List Value} (h : DlfI p xs L i j) (hj : xs[j]? = some x) : L[j]? = some x := by
  have e := congrArg (fun l => l[0]?) h.rest
  simpa [hj] using e
theorem boxed (w : World) (zc : Array Value) (t : TypeId) (x : List Value) (hz : zc.size = x.length) : (w.alloc (.cells zc t)).setCells w.heap.size 0 x = w.alloc (.cells x.toArray t) := by
  have H : ∀ (r pre : List Value) (c : Array Value), c.toList = pre ++ (c.toList.drop pre.length) → c.size = pre.length + r.length → (w.alloc (.cells c t)).setCells w.heap.size pre.length r = w.alloc (.cells (pre ++ r).toArray t) := by
    intro r
    induction r with
    | nil =>
      intro pre c h1 h2
      have : c.toList.drop pre.length = [] := List.drop_of_length_le (by rw [List.length_nil, Nat.add_zero] at h2; rw [Array.length_toList, h2]; exact Nat.le_refl _)
      rw [this, List.append_nil] at h1
      show w.alloc (.cells c t) = _
      congr 1
      rw [List.append_nil, ← h1]
    | cons v r ih =>
      intro pre c h1 h2
      simp only [List.length_cons] at h2
      have hs : (w.alloc (.cells c t)).setCell ⟨w.heap.size, pre.length, none⟩ v = w.alloc (.cells (c.setIfInBounds pre.length v) t) := by
        simp only [World.setCell, World.alloc]
        congr 1
        apply Array.ext_getElem?
        intro i
        rw [Array.getElem?_modify, Array.getElem?_push, Array.getElem?_push]
        by_cases e : i = w.heap.size
        · subst e
          simp
        · rw [if_neg (fun h => e h.symm), if_neg e, if_neg e]
      have := ih (pre ++ [v]) (c.setIfInBounds pre.length v) (by
        rw [Array.toList_setIfInBounds, List.length_append, List.length_singleton, List.drop_set_of_lt (by omega)]
        conv => lhs; rw [h1]
        rw [List.set_append_right _ _ (Nat.le_refl _), Nat.sub_self, List.append_assoc]
        congr 1
        have e0 : c.toList.length = c.size := Array.length_toList
        have hd : pre.length < c.toList.length := by omega
        rw [List.drop_eq_getElem_cons hd]
        rfl) (by simp; omega)
      rw [List.length_append, List.length_singleton] at this
      show ((w.alloc (.cells c t)).setCell ⟨w.heap.size, pre.length, none⟩ v).setCells w.heap.size (pre.length + 1) r = _
      rw [hs, this]
      simp
  have := H x [] zc (by simp) (by simpa using hz)
  simpa using this
theorem run_boxed (P : Program) (w : World) (zc : Array Value) (t : TypeId) (x : List Value) (hz : zc.size = x.length) (h1 : ∀ u ∈ x, u.oneCell' = true) :
    Sem.run P (storeCells ⟨w.heap.size, 0, none⟩ x 0) (w.alloc (.cells zc t)) = .ok () (w.alloc (.cells x.toArray t)) := by
  have hh := heap_alloc_new w (.cells zc t)
  have := run_storeCells_cells (P := P) w.heap.size 0 x 0 (w.alloc (.cells zc t)) (fun j hj => by
    rw [Nat.add_zero, Nat.zero_add, World.cell?_alloc_mark, Array.getElem?_eq_getElem (by omega)]
    rfl) (fun j _ => frozen_of_row _ w.heap.size _ zc t hh) h1
  rw [this, Nat.add_zero, boxed w zc t x hz]
theorem run_unboxed (P : Program) {w w' : World} {b : Nat} {t : TypeId} {x : List Value} {k : Nat} (hk : x.length = k) (h : w.heap[b]? = some (.cells x.toArray t (0, 0))) (hb : Below w.heap.size w w') : Sem.run P (loadCellsFrom ⟨b, 0, none⟩ 0 k #[]) w' = .ok x.toArray w' :=
  run_loadCellsFrom_list P w' _ x k hk (fun i u hi => by
    rw [Addr.add_lit, Nat.zero_add, hb.cell (p := ⟨b, i, none⟩) (Array.getElem?_eq_some_iff.1 h).1, cell_of_row w b i x.toArray t (0, 0) h]
    simpa using hi)
theorem run_clear_K (P : Program) (w : World) (t e ty : TypeId) (z : Value) (k : Nat) (ht : P.underlying t = some (.slice e)) (hv : ∀ w, (zeroValue e).run P w = .ok z w) (hz : z.cells.size = k) (h1 : ∀ u ∈ z.cells, u.oneCell' = true) (b o n c : Nat) (hn : 0 < n)
    (hc : ∀ j, j < n * k → (w.cell? ⟨b, o + j, none⟩).isSome = true) (hf : ∀ j, j < n * k → w.frozen? ⟨b, o + j, none⟩ = false) :
    (Builtin.clear_ #[t] ty #[.slice (some ⟨b, o, none⟩) n c]).run P w = .ok (.tuple #[]) (w.setCells b o (Builtin.zeroCells z.cells n).toList) := by
  have hl : (Builtin.zeroCells z.cells n).toList.length = n * k := by simp [Builtin.zeroCells, hz]
  have h1' : ∀ u ∈ (Builtin.zeroCells z.cells n).toList, u.oneCell' = true := by
    intro u hu
    rcases Nat.eq_zero_or_pos k with h0 | h0
    · rw [List.eq_nil_of_length_eq_zero (l := (Builtin.zeroCells z.cells n).toList) (by rw [hl, h0]; rfl)] at hu
      cases hu
    · simp only [Builtin.zeroCells, Array.toList_map, List.mem_map] at hu
      obtain ⟨i, _, rfl⟩ := hu
      have hm : i % z.cells.size < z.cells.size := Nat.mod_lt _ (by omega)
      rw [getElem!_pos z.cells _ hm]
      exact h1 _ (Array.getElem_mem hm)
  have hst := run_storeCells_cells (P := P) b o (Builtin.zeroCells z.cells n).toList 0 w (by rw [hl]; simpa using hc) (by rw [hl]; simpa using hf) h1'
  simp only [Nat.add_zero] at hst
  obtain ⟨m, rfl⟩ : ∃ m, n = m + 1 := ⟨n - 1, by omega⟩
  simp [Builtin.clear_, run_underlying ht, hv, hst]
set_option maxRecDepth 100000 in
set_option maxHeartbeats 4000000 in
theorem dlfG_of (P : Program) (hf : P.funcs[17]? = some Try.f17) (hfi : P.funcs[44]? = some Try.f44)
    (e6 : ∀ args w, (callFunc 44 args).run P w = .ok (.enter 44 args) w) (mixed : P.follows .mixedOrders = true)
    (tS : P.underlying 22 = some (TypeDesc.slice 36)) (aS : ∀ w, (isAgg 22).run P w = .ok false w) (zS : ∀ w, (Go.sizeOf 22).run P w = .ok 1 w)
    (t3 : P.underlying 3 = some (TypeDesc.int IntKind.i64)) (a3 : ∀ w, (isAgg 3).run P w = .ok false w) (z3 : ∀ w, (Go.sizeOf 3).run P w = .ok 1 w) (v3 : ∀ w, (zeroValue 3).run P w = .ok (Value.int IntKind.i64 0) w)
    (t4 : P.underlying 4 = some TypeDesc.bool) (a4 : ∀ w, (isAgg 4).run P w = .ok false w) (z4 : ∀ w, (Go.sizeOf 4).run P w = .ok 1 w)
    (k : Nat) (hk0 : 0 < k) (aE : ∀ w, (isAgg 36).run P w = .ok true w) (zE : ∀ w, (Go.sizeOf 36).run P w = .ok k w) (zc : Array Value) (vE : ∀ w, (zeroValue 36).run P w = .ok (.agg zc) w) (hzc : zc.size = k) (hz1 : ∀ u ∈ zc, u.oneCell' = true)
    (g n cap B : Nat) (xs : List (List Value)) (hn : xs.length = n) (hbig : n ≤ 9223372036854775807) (w : World) (hown : OwnK k 36 w B (.slice (some ⟨g, 0, none⟩) n cap) xs)
    (p : List Value → Bool) (fn : Nat) (lb : Array Value) (eg : ∀ args w, (callFunc fn args).run P w = .ok (.enter fn args) w) (hp : PredK P fn lb p xs w (some g)) :
    Calls P 17 #[.slice (some ⟨g, 0, none⟩) n cap, .func (.func fn) #[] lb] w fun e w' => ∃ m, e = .returned (.slice (some ⟨g, 0, none⟩) m cap) ∧ Hid (OwnK k 36 w' B (.slice (some ⟨g, 0, none⟩) m cap) (xs.filter (fun y => !p y)) ∧ (xs.filter (fun y => !p y)).length = m ∧ w.grownBy w' (some g)) := by
  have hIF := idxG_of P hfi mixed tS aS zS t3 a3 z3 v3 t4 a4 z4 k aE zE g n cap B xs hn hbig w hown p fn lb eg hp
  have HO : Hid (OwnK k 36 w B (.slice (some ⟨g, 0, none⟩) n cap) xs) := hown
  have HN : Hid (xs.length = n) := hn
  have HP : Hid (PredK P fn lb p xs w (some g)) := hp
  have HZ : Hid (zc.size = k) := hzc
  have hncap : n ≤ cap := by
    rcases hown.forms with ⟨e, _⟩ | ⟨g', cap', e, _, _, h1, _⟩
    · cases e
    · injection e with _ _ e3
      rw [e3, ← hn]; exact h1
  have HZ1 : Hid (∀ u ∈ zc, u.oneCell' = true) := hz1
  clear hown hn hp hzc hz1
  by_cases hall : xs.all (fun y => !p y) = true
  · rw [fidx_miss hall] at hIF
    have HA : Hid (xs.all (fun y => !p y) = true) := hall
    clear hall
    go_enter hf, Try.ntmps17
    go_wp2_with (go_at_fn 44; refine hIF.mono ?_; rintro e w' ⟨rfl, hb⟩)
    go_ret
    have e : xs.filter (fun y => !p y) = xs := List.filter_eq_self.2 (List.all_eq_true.1 HA.out)
    exact ⟨n, rfl, by rw [e]; exact HO.out.below hb, by rw [e]; exact HN.out, below_grown hb _⟩
  obtain ⟨k0, x0, hx0, hpx0, hmiss⟩ : ∃ k0 x0, xs[k0]? = some x0 ∧ p x0 = true ∧ (xs.take k0).all (fun y => !p y) = true := by
    cases hfi : xs.findIdx? p with
    | none =>
      exfalso
      apply hall
      rw [List.findIdx?_eq_none_iff] at hfi
      exact List.all_eq_true.2 fun x hx => by simp [hfi x hx]
    | some i =>
      obtain ⟨h1, h2, h3⟩ := List.findIdx?_eq_some_iff_getElem.1 hfi
      refine ⟨i, xs[i], List.getElem?_eq_getElem h1, h2, List.all_eq_true.2 fun x hx => ?_⟩
      obtain ⟨j, hj, rfl⟩ := List.mem_take_iff_getElem.1 hx
      have := h3 j (by omega)
      simpa using this
  rw [fidx_hit hmiss hx0 hpx0] at hIF
  have hk0n : k0 < n := by have := (List.getElem?_eq_some_iff.1 hx0).1; have := HN.out; omega
  have HST : Hid (DlfI p xs xs k0 (k0 + 1)) := DlfI.start hmiss hx0 hpx0
  have hne1 : ((k0 : Int) == -1) = false := beq_eq_false_iff_ne.2 (by omega)
  clear hall hx0 hpx0 hmiss
  go_enter hf, Try.ntmps17
  go_wp2_with (go_at_fn 44; refine hIF.mono ?_; rintro e w' ⟨rfl, hb⟩)
  have HB0 : Hid (Below w.heap.size w w') := hb
  clear hb
  go_loopg [5, 6, 7] n (fun gg s5 s6 _ wr => ∃ (i j : Nat) (L : List (List Value)), s5 = .int .i64 i ∧ s6 = .int .i64 j ∧ i < j ∧ j ≤ n ∧ n - j ≤ gg ∧ Hid (DlfI p xs L i j ∧ OwnK k 36 wr B (.slice (some ⟨g, 0, none⟩) n cap) L ∧ w.grownBy wr (some g)))
  case atStart => exact ⟨k0, k0 + 1, xs, rfl, by go_num, by omega, by omega, by omega, ⟨HST.out, HO.out.below HB0.out, below_grown HB0.out _⟩⟩
  case round =>
    obtain ⟨i, j, L, rfl, rfl, hij, hjn, hgg, HI⟩ := hrel
    by_cases hlt : j < n
    · have hltz : (j : Int) < (n : Int) := by omega
      obtain ⟨x, hx⟩ : ∃ x, xs[j]? = some x := ⟨xs[j]'(by have := HN.out; omega), List.getElem?_eq_getElem _⟩
      have HX : Hid (xs[j]? = some x) := hx
      have hLj := HI.out.1.read hx
      have hxm : x ∈ L := List.mem_of_getElem? hLj
      have hxl : x.length = k := HI.out.2.1.len x hxm
      have hx1 : ∀ u ∈ x, u.oneCell' = true := HI.out.2.1.one x hxm
      have l1 := HI.out.2.1.load P hLj
      have hb1 : Below wr.heap.size wr (wr.alloc (.cells x.toArray 36)) := (Below.refl _ _).alloc (Nat.le_refl _) _
      have s1 := run_boxed P wr zc 36 x (by rw [HZ.out, hxl]) hx1
      have l2 := run_unboxed P (w := wr.alloc (.cells x.toArray 36)) (w' := wr.alloc (.cells x.toArray 36)) (b := wr.heap.size) hxl (heap_alloc_new wr _) (Below.refl _ _)
      have L2 : Hid (∀ w', Below (wr.alloc (.cells x.toArray 36)).heap.size (wr.alloc (.cells x.toArray 36)) w' → Sem.run P (loadCellsFrom ⟨wr.heap.size, 0, none⟩ 0 k #[]) w' = .ok x.toArray w') := fun w' hb => run_unboxed P (w := wr.alloc (.cells x.toArray 36)) (b := wr.heap.size) hxl (heap_alloc_new wr _) hb
      have HGB : Hid (w.grownBy (wr.alloc (.cells x.toArray 36)) (some g) ∧ OwnK k 36 (wr.alloc (.cells x.toArray 36)) B (.slice (some ⟨g, 0, none⟩) n cap) L) := ⟨gtrans HI.out.2.2 (World.grownBy_alloc wr _ _), HI.out.2.1.below hb1⟩
      have hcall := HP.out _ x (List.mem_of_getElem? hx) HGB.out.1
      have HXL : Hid (x.length = k ∧ ∀ u ∈ x, u.oneCell' = true) := ⟨hxl, hx1⟩
      have hxa : x.toArray.size = k := by simp [hxl]
      clear hx hLj hxm hb1 hx1
      generalize hWX : wr.alloc (.cells x.toArray 36) = WX at s1 l2 L2 HGB hcall
      cases hq : p x with
      | true =>
        rw [hq] at hcall
        have HQ : Hid (p x = true) := hq
        clear hq
        go_wp2_with (go_at_fn fn; refine hcall.mono ?_; rintro e w' ⟨rfl, hb'⟩)
        go_roundg (n - (j + 1))
        case measure => omega
        case rel => exact ⟨i, j + 1, L, rfl, by go_num, by omega, by omega, Nat.le_refl _, ⟨HI.out.1.skip HX.out HQ.out, HGB.out.2.below hb', gtrans HGB.out.1 (below_grown hb' _)⟩⟩
      | false =>
        rw [hq] at hcall
        have HQ : Hid (p x = false) := hq
        clear hq
        have hik : i * k + k ≤ cap * k := by
          rw [← Nat.succ_mul]
          exact Nat.mul_le_mul_right _ (by omega)
        have HIK : Hid (i * k + k ≤ cap * k) := hik
        clear hik
        have HS2 : Hid (∀ w', Below WX.heap.size WX w' → Sem.run P (storeCells ⟨g, i * k, none⟩ x 0) w' = .ok () (w'.setCells g (i * k) x)) := by
          intro w' hb'
          have ho := HGB.out.2.below hb'
          have h := run_storeCells_cells (P := P) g (i * k) x 0 w' (fun j hj => ho.there _ (by have := HXL.out.1; have := HIK.out; omega)) (fun j hj => ho.frozen _) HXL.out.2
          rwa [Nat.add_zero] at h
        go_wp2_with (go_at_fn fn; refine hcall.mono ?_; rintro e w' ⟨rfl, hb'⟩; have l3 := L2.out w' hb'; have s2 := HS2.out w' hb')
        go_roundg (n - (j + 1))
        case measure => omega
        case rel => exact ⟨i + 1, j + 1, L.set i x, by go_num, by go_num, by omega, by omega, Nat.le_refl _, ⟨HI.out.1.keep HX.out HQ.out, (HGB.out.2.below hb').set i x HXL.out.1 HXL.out.2 (by have := HI.out.1.len; have := HN.out; omega), gtrans (gtrans HGB.out.1 (below_grown hb' _)) (grown_setCells _ _ _ _)⟩⟩
    · have hltz : ¬ (j : Int) < (n : Int) := by omega
      have hin : i < n := by omega
      have hLn : L.length = n := by rw [HI.out.1.len]; exact HN.out
      have hb : i * k + (n - i) * k ≤ cap * k := by
        rw [← Nat.add_mul]
        exact Nat.mul_le_mul_right _ (by omega)
      have hzl : (Builtin.zeroCells zc (n - i)).toList.length = (n - i) * k := by simp [Builtin.zeroCells, HZ.out]
      have hcl : ∀ ty, (Builtin.clear_ #[22] ty #[.slice (some ⟨g, i * k, none⟩) (n - i) (cap - i)]).run P wr = .ok (.tuple #[]) (wr.setCells g (i * k) (Builtin.zeroCells zc (n - i)).toList) :=
        fun ty => run_clear_K P wr _ _ ty (.agg zc) k tS vE HZ.out HZ1.out g (i * k) (n - i) _ (by omega) (fun t ht => HI.out.2.1.there _ (by omega)) (fun t ht => HI.out.2.1.frozen _)
      have HE : Hid (OwnK k 36 (wr.setCells g (i * k) (Builtin.zeroCells zc (n - i)).toList) B (.slice (some ⟨g, 0, none⟩) i cap) (xs.filter (fun y => !p y)) ∧ (xs.filter (fun y => !p y)).length = i ∧ w.grownBy (wr.setCells g (i * k) (Builtin.zeroCells zc (n - i)).toList) (some g)) := by
        have e : xs.filter (fun y => !p y) = L.take i := by
          rw [HI.out.1.done, List.take_of_length_le (by rw [HN.out]; omega)]
        rw [e]
        exact ⟨HI.out.2.1.wipe i (by omega) _ (by rw [hzl]; exact hb), by rw [List.length_take]; omega, gtrans HI.out.2.2 (grown_setCells _ _ _ _)⟩
      generalize (Builtin.zeroCells zc (n - i)).toList = zs at hcl HE
      clear hb hzl hLn
      go_wp2
      go_ret
      exact ⟨i, rfl, HE⟩
set_option maxHeartbeats 2000000 in
theorem dlfG_any (g n cap B : Nat) (xs : List (List Value)) (hn : xs.length = n) (hbig : n ≤ 9223372036854775807) (w : World) (hown : OwnK 16 36 w B (.slice (some ⟨g, 0, none⟩) n cap) xs)
    (p : List Value → Bool) (fn : Nat) (lb : Array Value) (eg : ∀ args w, (callFunc fn args).run Try.prog w = .ok (.enter fn args) w) (hp : PredK Try.prog fn lb p xs w (some g)) :
    Calls Try.prog 17 #[.slice (some ⟨g, 0, none⟩) n cap, .func (.func fn) #[] lb] w fun e w' => ∃ m, e = .returned (.slice (some ⟨g, 0, none⟩) m cap) ∧ Hid (OwnK 16 36 w' B (.slice (some ⟨g, 0, none⟩) m cap) (xs.filter (fun y => !p y)) ∧ (xs.filter (fun y => !p y)).length = m ∧ w.grownBy w' (some g)) :=
  dlfG_of Try.prog Try.func17 Try.func44 (enters_at Try.func44 (by kernel_rfl) rfl) (by kernel_rfl) Try.underlying22 Try.isAgg22 Try.sizeOf22 Try.underlying3 Try.isAgg3 Try.sizeOf3 Try.zeroValue3 Try.underlying4 Try.isAgg4 Try.sizeOf4 16 (by omega) Try.isAgg36 Try.sizeOf36 _ Try.zeroValue36 rfl (by decide) g n cap B xs hn hbig w hown p fn lb eg hp
set_option maxHeartbeats 1000000 in
theorem dlfG_none (w : World) (F : Value) : Calls Try.prog 17 #[.slice none 0 0, F] w fun e w' => e = .returned (.slice none 0 0) ∧ w' = w := by
  go_enter Try.func17, Try.ntmps17
  go_wp2_with fail
  refine (idxG_none _ _).mono ?_
  rintro e w1 ⟨rfl, hw⟩
  obtain rfl := hw.symm
  go_wp2
  go_ret
  exact ⟨rfl, rfl⟩
end Go.Proofs.Ytdnnlfklanaliab
