/- A row of structs, each made anew by a function; whatever the program. -/
import Derived.Test.YtdnnlfklanaliabDlfG
import Derived.Deep.AppendLies
namespace Go.Proofs.Ytdnnlfklanaliab
open Go.RowKit
set_option linter.unusedVariables false

/-- What stays where blocks are laid, and where a row of structs of this type is written into. -/
def Stays {α : Type} (t : TypeId) (Q : World → α → Prop) : Prop := ∀ (W W' : World) (row : Option Nat) (u : α), W.grownBy W' row → (∀ b, row = some b → ∃ cs, W.heap[b]? = some (.cells cs t (0, 0))) → Q W u → Q W' u
theorem Stays.below {α : Type} {t : TypeId} {Q : World → α → Prop} (h : Stays t Q) {W W' : World} {u : α} (hb : Below W.heap.size W W') (hq : Q W u) : Q W' u := h W W' none u (below_grown hb none) (fun b e => by cases e) hq
theorem ownK_typed {k B : Nat} {t : TypeId} {w : World} {v : Value} {xs : List (List Value)} (h : OwnK k t w B v xs) : ∀ b, v.ownBlock = some b → ∃ cs, w.heap[b]? = some (.cells cs t (0, 0)) := by
  intro b hb
  rcases h.row.2 with ⟨e, _⟩ | ⟨g', cap', cur, e, _, hh, _⟩
  · subst e
    cases hb
  · subst e
    have : g' = b := by simpa [Value.ownBlock] using hb
    subst this
    exact ⟨cur, hh⟩
theorem fold_at : ∀ (l pre : List Value) (c : Array Value), c.size = pre.length + l.length → c.toList.take pre.length = pre → ((l.zipIdx pre.length).foldl (fun cs x => cs.setIfInBounds x.2 x.1) c).toList = pre ++ l
  | [], pre, c, h1, h2 => by
    have e0 : c.toList.length = c.size := Array.length_toList
    rw [List.length_nil, Nat.add_zero] at h1
    rw [List.take_of_length_le (by omega)] at h2
    simpa using h2
  | v :: r, pre, c, h1, h2 => by
    have e0 : c.toList.length = c.size := Array.length_toList
    rw [List.length_cons] at h1
    have ih := fold_at r (pre ++ [v]) (c.setIfInBounds pre.length v) (by rw [Array.size_setIfInBounds, List.length_append, List.length_singleton]; omega) (by
      rw [Array.toList_setIfInBounds, List.length_append, List.length_singleton, List.take_succ_eq_append_getElem (by rw [List.length_set]; omega), List.getElem_set_self, List.take_set_of_le (Nat.le_refl _), h2])
    rw [List.length_append, List.length_singleton] at ih
    rw [List.zipIdx_cons, List.foldl_cons, ih]
    simp
theorem run_bs1 (P : Program) (w : World) (t e : TypeId) (k : Nat) (hk0 : 0 < k) (hk1 : k ≤ 1000) (zc : Array Value) (ht : P.underlying t = some (.slice e)) (hs : ∀ w, (Go.sizeOf e).run P w = .ok k w) (hv : ∀ w, (zeroValue e).run P w = .ok (.agg zc) w) (hz : zc.size = k) (cs : List Value) (hc : cs.length = k) :
    (Instr.buildSlice t 1 #[(0, .agg cs.toArray)]).run P w = .ok (.slice (some ⟨w.heap.size, 0, none⟩) 1 1) (w.alloc (.cells cs.toArray e)) := by
  have hfill : Instr.fill (fun i => some (i * k, k)) ((Array.range (1 * k)).map ((Value.agg zc).cells[· % (Value.agg zc).cells.size]!)) [(0, .agg cs.toArray)] = some cs.toArray := by
    have hsz : ((Array.range (1 * k)).map ((Value.agg zc).cells[· % (Value.agg zc).cells.size]!)).size = k := by simp
    generalize ((Array.range (1 * k)).map ((Value.agg zc).cells[· % (Value.agg zc).cells.size]!)) = Z at hsz
    have h0 : (Value.agg cs.toArray).cells = cs.toArray := rfl
    simp only [Instr.fill, h0]
    have hn : ¬ (cs.toArray.size ≠ k || decide (0 * k + cs.toArray.size > Z.size)) = true := by simp [hc, hsz]
    rw [if_neg (by simpa using hn)]
    congr 1
    apply Array.toList_inj.1
    have := fold_at cs [] Z (by simp; omega) (by simp)
    simp only [List.length_nil, List.nil_append] at this
    simp only [Nat.zero_mul, Nat.zero_add]
    rw [← Array.foldl_toList, Array.toList_zipIdx]
    exact this
  have e1 : ¬ (1 * k > 2 ^ 24) := by omega
  have e2 : ¬ (1 * k = 0) := by omega
  unfold Instr.buildSlice
  simp only [Sem.run_bind, run_underlying ht, Result.andThen_ok, hs, if_neg e1, if_neg e2, hv, Sem.run_pure]
  have hfill' : Instr.fill (fun i => some (i * k, k)) ((Array.range (1 * k)).map (fun x => (Value.agg zc).cells[x % (Value.agg zc).cells.size]!)) [(0, .agg cs.toArray)] = some cs.toArray := hfill
  rw [hfill']
  simp [newRow, go_sem]
theorem wpList_bs1 {P : Program} {ops : Array Oper} {rest : List Oper} {o : Oper} {a : Act} {w : World} {Q : Exit → Act → World → Prop} (hgd : o.guard = none) (t : TypeId) (x : Operand) (ho : o.op = .buildSlice t 1 #[(0, x)]) (e : TypeId) (k : Nat) (hk0 : 0 < k) (hk1 : k ≤ 1000) (zc : Array Value) (ht : P.underlying t = some (.slice e)) (hs : ∀ w, (Go.sizeOf e).run P w = .ok k w) (hv : ∀ w, (zeroValue e).run P w = .ok (.agg zc) w) (hz : zc.size = k) (cs : List Value) (hx : a.eval x = .agg cs.toArray) (hc : cs.length = k)
    (h : wpList P ops Q rest (a.put o.dst (.slice (some ⟨w.heap.size, 0, none⟩) 1 1)) (w.alloc (.cells cs.toArray e))) : wpList P ops Q (o :: rest) a w := by
  have hr := run_bs1 P w t e k hk0 hk1 zc ht hs hv hz cs hc
  refine wpList_plain hgd fun _ hK => ?_
  unfold Oper.wp execOp
  simp only [ho, List.map_toArray, List.map_cons, List.map_nil, hx, Sem.run_bind, hr, Result.andThen_ok, Sem.run_pure]
  exact hK _ _ h
theorem OwnK.appended {k n B : Nat} {t : TypeId} {w w' : World} {v u : Value} {xs : List (List Value)} {y : List Value} (h : OwnK k t w B v xs) (hn : xs.length = n) (hy : y.length = k) (hy1 : ∀ u ∈ y, u.oneCell' = true) (hr : w'.ownsRow B t k u (n + 1) (xs.flatten ++ y)) : OwnK k t w' B u (xs ++ [y]) := by
  refine ⟨?_, fun x hx => ?_, fun x hx => ?_⟩
  · rw [List.length_append, List.length_singleton, hn, List.flatten_append]
    simpa using hr
  · rcases List.mem_append.1 hx with hx | hx
    · exact h.len x hx
    · rw [List.mem_singleton.1 hx]; exact hy
  · rcases List.mem_append.1 hx with hx | hx
    · exact h.one x hx
    · rw [List.mem_singleton.1 hx]; exact hy1
theorem wpList_appK {P : Program} {ops : Array Oper} {rest : List Oper} {o : Oper} {a : Act} {Q : Exit → Act → World → Prop} (hgd : o.guard = none) (s x : Operand) (t : TypeId)
    (ho : o.op = .call { callee := .builtin .append, args := #[s, x], argTypes := #[t, t] }) (e : TypeId) (k : Nat) (hk0 : 0 < k) (zc : Array Value) (ht : P.underlying t = some (.slice e)) (hzc : zc.size = k)
    (i0 : TypeInfo) (hi0 : P.info? e = some i0) (hi1 : i0.size = k) (hi2 : i0.zero = some (.agg zc)) (hi4 : i0.bytes ≤ 1000)
    (B : Nat) (wr : World) (v : Value) (xs : List (List Value)) (n : Nat) (hs : a.eval s = v) (hown : OwnK k e wr B v xs) (hn : xs.length = n) (hl : n ≤ 100000) (hB : B ≤ wr.heap.size) (y : List Value) (hy : y.length = k) (hy1 : ∀ u ∈ y, u.oneCell' = true)
    (hx : a.eval x = .slice (some ⟨wr.heap.size, 0, none⟩) 1 1)
    (h : ∀ g cap w', OwnK k e w' B (.slice (some ⟨g, 0, none⟩) (n + 1) cap) (xs ++ [y]) → (wr.alloc (.cells y.toArray e)).grownBy w' v.ownBlock → g < w'.heap.size → wpList P ops Q rest (a.put o.dst (.slice (some ⟨g, 0, none⟩) (n + 1) cap)) w') :
    wpList P ops Q (o :: rest) a (wr.alloc (.cells y.toArray e)) := by
  have hrow := hown.row
  rw [hn] at hrow
  refine wpList_append_lies _ hgd s x t ho B e i0 (.agg zc) k i0.bytes ht hi0 hi2 hi1 rfl hzc hk0 v n _ hs (World.ownsRow.alloc hrow _) ⟨wr.heap.size, 0, none⟩ 1 1 y hx (by rw [hy, Nat.one_mul])
    (World.news_of_block (cs := y.toArray) (t := e) (fr := (0, 0)) (heap_alloc_new wr _)) hy1 (by omega) (by unfold maxLen; omega) (by have := Nat.mul_le_mul (show n + 1 ≤ 100001 by omega) hi4; omega) (by simp; omega) _ rfl ?_
  intro g cap w' hown1 hgrow _ hlt
  exact h g cap w' (hown.appended hn hy hy1 hown1) hgrow hlt
theorem Below.grownK {w0 w w' : World} {k B : Nat} {t : TypeId} {v : Value} {xs : List (List Value)} (h : Below w0.heap.size w0 w) (hown : OwnK k t w w0.heap.size v xs) (hg : w.grownBy w' v.ownBlock) : Below w0.heap.size w0 w' :=
  h.grown hg h.size (fun i hi => (hown.lt i hi).1)
theorem ech_step {α β : Type} {cl : α → List Value} {f : α → β} {Q : World → α → Prop} {t : TypeId} {k kk cap2 cap4 g4 : Nat} {a : Option Addr} {w w2 w4 : World} {us vs : List α} {u v : α} {cs : Array Value} (hb2 : Below w.heap.size w w2) (h2 : OwnK k t w2 w.heap.size (.slice a kk cap2) (us.map cl))
    (hown4 : OwnK k t w4 w.heap.size (.slice (some ⟨g4, 0, none⟩) (kk + 1) cap4) (us.map cl ++ [cl u])) (hg4 : (w2.alloc (.cells cs t)).grownBy w4 (Value.slice a kk cap2).ownBlock) (hl : us.length = kk) (hf : us.map f = (vs.take kk).map f) (hv : vs[kk]? = some v) (hfu : f u = f v) (hqu : Q w2 u) (hqs : ∀ u ∈ us, Q w2 u) (hQ : Stays t Q) :
    Below w.heap.size w w4 ∧ ∃ us : List α, us.length = kk + 1 ∧ OwnK k t w4 w.heap.size (.slice (some ⟨g4, 0, none⟩) (kk + 1) cap4) (us.map cl) ∧ us.map f = (vs.take (kk + 1)).map f ∧ ∀ u ∈ us, Q w4 u := by
  have hb3 : Below w2.heap.size w2 (w2.alloc (.cells cs t)) := (Below.refl _ _).alloc (Nat.le_refl _) _
  have h3 := h2.below hb3
  have hty := ownK_typed h3
  have keep : ∀ u, Q w2 u → Q w4 u := fun u hu => hQ _ _ _ u hg4 hty (hQ.below hb3 hu)
  obtain ⟨hk1, e⟩ := List.getElem?_eq_some_iff.1 hv
  refine ⟨(hb2.trans (hb3.mono hb2.size)).grown hg4 (Nat.le_trans hb2.size (by simp)) (fun i hi => (h3.lt i hi).1), us ++ [u], by simp [hl], by rw [List.map_append]; exact hown4, ?_, fun x hx => ?_⟩
  · rw [List.take_succ_eq_append_getElem hk1, List.map_append, List.map_append, hf, e]
    simp [hfu]
  · rcases List.mem_append.1 hx with hx | hx
    · exact keep x (hqs x hx)
    · rw [List.mem_singleton.1 hx]; exact keep u hqu
set_option maxRecDepth 100000 in
set_option maxHeartbeats 4000000 in
theorem echG_of (P : Program) (hf : P.funcs[29]? = some Try.f29) (mixed : P.follows .mixedOrders = true)
    (tS : P.underlying 22 = some (TypeDesc.slice 36)) (aS : ∀ w, (isAgg 22).run P w = .ok false w) (zS : ∀ w, (Go.sizeOf 22).run P w = .ok 1 w)
    (t3 : P.underlying 3 = some (TypeDesc.int IntKind.i64)) (a3 : ∀ w, (isAgg 3).run P w = .ok false w) (z3 : ∀ w, (Go.sizeOf 3).run P w = .ok 1 w) (v3 : ∀ w, (zeroValue 3).run P w = .ok (Value.int IntKind.i64 0) w)
    (t4 : P.underlying 4 = some TypeDesc.bool) (a4 : ∀ w, (isAgg 4).run P w = .ok false w) (z4 : ∀ w, (Go.sizeOf 4).run P w = .ok 1 w)
    (k : Nat) (hk0 : 0 < k) (hk1 : k ≤ 1000) (aE : ∀ w, (isAgg 36).run P w = .ok true w) (zE : ∀ w, (Go.sizeOf 36).run P w = .ok k w) (zc : Array Value) (vE : ∀ w, (zeroValue 36).run P w = .ok (.agg zc) w) (hzc : zc.size = k) (hz1 : ∀ u ∈ zc, u.oneCell' = true)
    (i0 : TypeInfo) (hi0 : P.info? 36 = some i0) (hi1 : i0.size = k) (hi2 : i0.zero = some (.agg zc)) (by0 : Nat) (hi3 : i0.bytes = by0) (hi4 : by0 ≤ 1000)
    {α β : Type} (cl : α → List Value) (f : α → β) (hcl : ∀ v, (cl v).length = k) (Q : World → α → Prop) (hQ : Stays 36 Q) (hQ1 : ∀ W u, Q W u → ∀ x ∈ cl u, x.oneCell' = true)
    (g n cap B : Nat) (vs : List α) (hn : vs.length = n) (hbig : n ≤ 1000) (w : World) (hown : OwnK k 36 w B (.slice (some ⟨g, 0, none⟩) n cap) (vs.map cl))
    (fn : Nat) (eg : ∀ args w, (callFunc fn args).run P w = .ok (.enter fn args) w)
    (hm : ∀ W v, v ∈ vs → Below w.heap.size w W → Calls P fn #[.agg (cl v).toArray] W fun e w' => (∃ u, e = .returned (.agg (cl u).toArray) ∧ f u = f v ∧ Q w' u) ∧ Below W.heap.size W w') :
    Calls P 29 #[.slice (some ⟨g, 0, none⟩) n cap, .func (.func fn) #[] #[]] w fun e w' => (∃ (val : Value) (us : List α), e = .returned val ∧ OwnK k 36 w' w.heap.size val (us.map cl) ∧ us.map f = vs.map f ∧ ∀ u ∈ us, Q w' u) ∧ Below w.heap.size w w' := by
  have HO : Hid (OwnK k 36 w B (.slice (some ⟨g, 0, none⟩) n cap) (vs.map cl)) := hown
  have HN : Hid (vs.length = n) := hn
  have HM : Hid (∀ W v, v ∈ vs → Below w.heap.size w W → Calls P fn #[.agg (cl v).toArray] W fun e w' => (∃ u, e = .returned (.agg (cl u).toArray) ∧ f u = f v ∧ Q w' u) ∧ Below W.heap.size W w') := hm
  have HZ : Hid (zc.size = k ∧ (∀ u ∈ zc, u.oneCell' = true) ∧ i0.size = k ∧ i0.zero = some (.agg zc) ∧ i0.bytes = by0) := ⟨hzc, hz1, hi1, hi2, hi3⟩
  have HC : Hid ((∀ v, (cl v).length = k) ∧ Stays 36 Q ∧ (∀ W u, Q W u → ∀ x ∈ cl u, x.oneCell' = true)) := ⟨hcl, hQ, hQ1⟩
  clear hown hn hm hzc hz1 hi1 hi2 hi3 hcl hQ hQ1
  go_enter hf, Try.ntmps29
  go_wp2
  go_loopw [5, 10] (fun o i wr => ∃ (kk cap2 : Nat) (a : Option Addr), kk ≤ n ∧ i = .int .i64 kk ∧ o = .slice a kk cap2 ∧ Hid (Below w.heap.size w wr ∧ ∃ us : List α, us.length = kk ∧ OwnK k 36 wr w.heap.size (.slice a kk cap2) (us.map cl) ∧ us.map f = (vs.take kk).map f ∧ ∀ u ∈ us, Q wr u)) (fun _ i _ => n - (intOf i).toNat)
  case atStart => exact ⟨0, 0, none, Nat.zero_le _, rfl, rfl, ⟨Below.refl _ _, [], rfl, ownK_nil _ _ _ _, by simp, fun u hu => by cases hu⟩⟩
  case round =>
    obtain ⟨kk, cap2, a, hkk, rfl, rfl, HI⟩ := hrel
    by_cases hlt : kk < n
    · have hltz : (kk : Int) < (n : Int) := by omega
      obtain ⟨v, hv⟩ : ∃ v, vs[kk]? = some v := ⟨vs[kk]'(by have := HN.out; omega), List.getElem?_eq_getElem _⟩
      have HV : Hid (vs[kk]? = some v) := hv
      have hvm : (vs.map cl)[kk]? = some (cl v) := by rw [List.getElem?_map, hv]; rfl
      obtain ⟨x, hx⟩ : ∃ x, cl v = x := ⟨_, rfl⟩
      have HXV : Hid (cl v = x) := hx
      rw [hx] at hvm
      have hxm : x ∈ vs.map cl := List.mem_of_getElem? hvm
      have hxl : x.length = k := HO.out.len x hxm
      have hx1 : ∀ u ∈ x, u.oneCell' = true := HO.out.one x hxm
      have l1 := (HO.out.below HI.out.1).load P hvm
      have hb1 : Below wr.heap.size wr (wr.alloc (.cells x.toArray 36)) := (Below.refl _ _).alloc (Nat.le_refl _) _
      have s1 := run_boxed P wr zc 36 x (by rw [HZ.out.1, hxl]) hx1
      have l2 := run_unboxed P (w := wr.alloc (.cells x.toArray 36)) (w' := wr.alloc (.cells x.toArray 36)) (b := wr.heap.size) hxl (heap_alloc_new wr _) (Below.refl _ _)
      have HB1 : Hid (Below w.heap.size w (wr.alloc (.cells x.toArray 36)) ∧ Below wr.heap.size wr (wr.alloc (.cells x.toArray 36))) := ⟨HI.out.1.trans (hb1.mono HI.out.1.size), hb1⟩
      have hcall := HM.out _ v (List.mem_of_getElem? hv) HB1.out.1
      rw [hx] at hcall
      have hxa : x.toArray.size = k := by simp [hxl]
      clear hv hvm hxm hx hb1 hx1
      generalize hWX : wr.alloc (.cells x.toArray 36) = WX at s1 l2 HB1 hcall
      obtain ⟨hi1, hi2, hi3⟩ := HZ.out.2.2
      obtain ⟨us, hul, huo, huf, huq⟩ := HI.out.2
      have HU : Hid (us.length = kk ∧ OwnK k 36 wr w.heap.size (.slice a kk cap2) (us.map cl) ∧ us.map f = (vs.take kk).map f ∧ ∀ u ∈ us, Q wr u) := ⟨hul, huo, huf, huq⟩
      clear hul huo huf huq
      have HH : Hid (i0.size = k ∧ i0.zero = some (.agg zc) ∧ i0.bytes ≤ 1000) := ⟨hi1, hi2, by omega⟩
      clear hi1 hi2 hi3
      go_wp2_with (first
        | (go_at_fn fn; refine hcall.mono ?_; rintro e w2 ⟨⟨u, rfl, hfu, hqu⟩, hb2⟩; have HB2 : Hid (Below w.heap.size w w2 ∧ OwnK k 36 w2 w.heap.size (.slice a kk cap2) (us.map cl) ∧ f u = f v ∧ Q w2 u ∧ ∀ u ∈ us, Q w2 u) := ⟨HB1.out.1.trans (hb2.mono HB1.out.1.size), (HU.out.2.1.below HB1.out.2).below hb2, hfu, hqu, fun u hu => HC.out.2.1.below hb2 (HC.out.2.1.below HB1.out.2 (HU.out.2.2.2 u hu))⟩; clear hb2 hfu hqu)
        | (at_builtin; refine wpList_appK rfl _ _ 22 rfl 36 k hk0 zc tS HZ.out.1 i0 hi0 HH.out.1 HH.out.2.1 HH.out.2.2 w.heap.size w2 (.slice a kk cap2) (us.map cl) kk rfl HB2.out.2.1 (by rw [List.length_map]; exact HU.out.1) (by omega) HB2.out.1.size (cl u) (HC.out.1 u) (HC.out.2.2 w2 u HB2.out.2.2.2.1) rfl ?_; intro g4 cap4 w4 hown4 hg4 hlt4; have HF : Hid (Below w.heap.size w w4 ∧ ∃ us : List α, us.length = kk + 1 ∧ OwnK k 36 w4 w.heap.size (.slice (some ⟨g4, 0, none⟩) (kk + 1) cap4) (us.map cl) ∧ us.map f = (vs.take (kk + 1)).map f ∧ ∀ u ∈ us, Q w4 u) := ech_step HB2.out.1 HB2.out.2.1 hown4 hg4 HU.out.1 HU.out.2.2.1 HV.out HB2.out.2.2.1 HB2.out.2.2.2.1 HB2.out.2.2.2.2 HC.out.2.1; clear hown4 hg4 hlt4)
        | (refine wpList_bs1 rfl 22 _ rfl 36 k hk0 hk1 zc tS zE vE HZ.out.1 (cl u) rfl (HC.out.1 u) ?_))
      go_roundw
      case rel => exact ⟨kk + 1, _, _, by omega, by go_num, rfl, HF⟩
      case measure => simp [intOf]; omega
    · have hltz : ¬ (kk : Int) < (n : Int) := by omega
      go_wp2
      go_ret
      obtain ⟨us, hul, huo, huf, huq⟩ := HI.out.2
      exact ⟨⟨_, rfl, us, huo, by rw [huf, List.take_of_length_le (by rw [HN.out]; omega)], huq⟩, HI.out.1⟩
end Go.Proofs.Ytdnnlfklanaliab
