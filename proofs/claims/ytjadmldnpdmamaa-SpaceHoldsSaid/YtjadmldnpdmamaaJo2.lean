/- Texts of one claim, joined: each begins with what it proves. -/
import Derived.Test.YtjadmldnpdmamaaJo1
import Derived.Deep.AppendLies
import Derived.Deep.RegionHeld3
import Derived.Deep.QuietTactic
import Derived.BigQuiet
/- A block of an argument's and one of an answer's own. -/
namespace Go.Proofs.Ytjadmldnpdmamaa
open Go.RowKit
set_option linter.unusedVariables false

/-- All cells anew: what stands there, and what may have turned. -/
theorem setAll {wi : World} {g : Nat} {cur : Array Value} {T : TypeId} (vs : List Value) (h : wi.heap[g]? = some (.cells cur T (0, 0))) (hs : cur.size = vs.length) : (wi.setCells g 0 vs).heap[g]? = some (.cells vs.toArray T (0, 0)) ∧ wi.grownBy (wi.setCells g 0 vs) (some g) := ⟨heap_setAll g T vs wi cur h hs, grown_setCells _ _ _ _⟩
theorem boxes2 (w : World) (x y : Array Value) (t u : TypeId) : Below w.heap.size w ((w.alloc (.cells x t)).alloc (.cells y u)) ∧ ((w.alloc (.cells x t)).alloc (.cells y u)).heap[w.heap.size]? = some (.cells x t (0, 0)) ∧ ((w.alloc (.cells x t)).alloc (.cells y u)).heap[w.heap.size + 1]? = some (.cells y u (0, 0)) := by
  refine ⟨((Below.refl _ _).alloc (Nat.le_refl _) _).alloc (by simp) _, ?_, ?_⟩
  · rw [heap_alloc_old _ _ (by simp)]
    exact heap_alloc_new w _
  · have := heap_alloc_new (w.alloc (.cells x t)) (.cells y u)
    simpa using this
/-- What is kept of a box, and of the result's, by a call. -/
structure BoxF (w w1 : World) (x y : Array Value) (t : TypeId) : Prop where
  bel : Below w.heap.size w w1
  box : w1.heap[w.heap.size]? = some (.cells x t (0, 0))
  res : w1.heap[w.heap.size + 1]? = some (.cells y t (0, 0))
theorem boxF_start (w : World) (x y : Array Value) (t : TypeId) : BoxF w ((w.alloc (.cells x t)).alloc (.cells y t)) x y t := ⟨(boxes2 w x y t t).1, (boxes2 w x y t t).2.1, (boxes2 w x y t t).2.2⟩
theorem BoxF.below {w w1 w2 : World} {x y : Array Value} {t : TypeId} (h : BoxF w w1 x y t) (hb : Below w1.heap.size w1 w2) : BoxF w w2 x y t := by
  have h2 : w.heap.size + 1 < w1.heap.size := (Array.getElem?_eq_some_iff.1 h.res).1
  exact ⟨h.bel.trans (hb.mono h.bel.size), by rw [hb.block _ (by omega)]; exact h.box, by rw [hb.block _ h2]; exact h.res⟩
theorem BoxF.set {w w1 : World} {x y : Array Value} {t : TypeId} (h : BoxF w w1 x y t) (i : Nat) (v : Value) : BoxF w (w1.setCell ⟨w.heap.size, i, none⟩ v) (x.setIfInBounds i v) y t :=
  ⟨h.bel.setCell (Nat.le_refl _) v, heap_setCell_same w1 _ i x t v h.box, (Below.heap_setCell w1 ⟨w.heap.size, i, none⟩ v _ (by show w.heap.size + 1 ≠ w.heap.size; omega)).trans h.res⟩
theorem BoxF.same {w w1 : World} {x y : Array Value} {t : TypeId} (h : BoxF w w1 x y t) {i : Nat} {v : Value} (hv : x[i]? = some v) : w1.setCell ⟨w.heap.size, i, none⟩ v = w1 := setCell_same h.box hv
theorem BoxF.at {w w1 : World} {x y : Array Value} {t : TypeId} (h : BoxF w w1 x y t) (i : Nat) {v : Value} (hv : x[i]? = some v) : w1.cell? ⟨w.heap.size, i, none⟩ = some v := (cell_of h.box).trans hv
/-- What a function answers whose result lies in a block. -/
theorem res_cell {P : Program} {fn : Func} {tmps : Array Value} {W : World} {a : Tmp} {t u : TypeId} {g : Nat} {vs : List Value} {k : Nat} (hf : fn.results = #[.cell a t]) (hp : tmps.getD a undef = .pointer (some ⟨g, 0, none⟩)) (ha : ∀ w, (isAgg t).run P w = .ok true w) (hs : ∀ w, (Go.sizeOf t).run P w = .ok k w) (hk : vs.length = k) (h : W.heap[g]? = some (.cells vs.toArray u (0, 0))) :
    (results fn tmps).run P W = .ok (.agg vs.toArray) W := by
  have hl := run_loadCellsFrom_list P W ⟨g, 0, none⟩ vs k hk (fun i v hi => by
    rw [Addr.add_lit, Nat.zero_add, cell_of h]
    simpa using hi)
  simp only [Array.getD_eq_getD_getElem?] at hp
  unfold results
  rw [hf]
  simp [hp, loadVar, ha, hs, asAddr, loadCells, hl]
end Go.Proofs.Ytjadmldnpdmamaa

/- An origin, and what is asked for, cloned. -/
namespace Go.Proofs.Ytjadmldnpdmamaa
open Go.RowKit
set_option linter.unusedVariables false

set_option maxRecDepth 100000 in
set_option maxHeartbeats 2000000 in
theorem freshO_any (o : OrgV) (ho : o.host.size ≤ 140737488355328) (w : World) :
    Calls Try.prog 60 #[.agg #[.bool o.sec, .string o.host, .int .i64 o.port]] w fun e w' => e = .returned (.agg #[.bool o.sec, .string o.host, .int .i64 o.port]) ∧ Below w.heap.size w w' := by
  have hb0 : Below w.heap.size w ((w.alloc (.cells #[.bool o.sec, .string o.host, .int .i64 o.port] 24)).alloc (.cells #[.bool false, .string ⟨#[]⟩, .int .i64 0] 24)) := ((Below.refl _ _).alloc (Nat.le_refl _) _).alloc (by simp) _
  have h1 : ((w.alloc (.cells #[.bool o.sec, .string o.host, .int .i64 o.port] 24)).alloc (.cells #[.bool false, .string ⟨#[]⟩, .int .i64 0] 24)).heap[w.heap.size]? = some (.cells #[.bool o.sec, .string o.host, .int .i64 o.port] 24 (0, 0)) := by
    rw [heap_alloc_old _ _ (by simp)]
    exact heap_alloc_new w _
  have h2 : ((w.alloc (.cells #[.bool o.sec, .string o.host, .int .i64 o.port] 24)).alloc (.cells #[.bool false, .string ⟨#[]⟩, .int .i64 0] 24)).heap[w.heap.size + 1]? = some (.cells #[.bool false, .string ⟨#[]⟩, .int .i64 0] 24 (0, 0)) := by
    have := heap_alloc_new (w.alloc (.cells #[.bool o.sec, .string o.host, .int .i64 o.port] 24)) (.cells #[.bool false, .string ⟨#[]⟩, .int .i64 0] 24)
    simpa using this
  have HW : Hid (Below w.heap.size w ((w.alloc (.cells #[.bool o.sec, .string o.host, .int .i64 o.port] 24)).alloc (.cells #[.bool false, .string ⟨#[]⟩, .int .i64 0] 24)) ∧ _ ∧ _) := ⟨hb0, h1, h2⟩
  clear hb0 h1 h2
  go_enter Try.func60, Try.ntmps60
  go_wp2_with fail
  refine (cloneS_any _ ho _).mono ?_
  rintro e w1 ⟨rfl, hb1⟩
  have HB : Hid (Below w.heap.size w w1 ∧ w1.heap[w.heap.size]? = some (.cells #[.bool o.sec, .string o.host, .int .i64 o.port] 24 (0, 0)) ∧ w1.heap[w.heap.size + 1]? = some (.cells #[.bool false, .string ⟨#[]⟩, .int .i64 0] 24 (0, 0))) :=
    ⟨HW.out.1.trans (hb1.mono HW.out.1.size), by rw [hb1.block _ (by simp; omega)]; exact HW.out.2.1, by rw [hb1.block _ (by simp)]; exact HW.out.2.2⟩
  clear hb1 HW
  have c0 := cell_of (i := 0) HB.out.2.1
  have c1 := cell_of (i := 1) HB.out.2.1
  have c2 := cell_of (i := 2) HB.out.2.1
  have d0 := cell_of (i := 0) HB.out.2.2
  have d1 := cell_of (i := 1) HB.out.2.2
  have d2 := cell_of (i := 2) HB.out.2.2
  have f0 := free_of HB.out.2.1
  have f1 := free_of HB.out.2.2
  have s1 : w1.setCell ⟨w.heap.size, 1, none⟩ (.string o.host) = w1 := setCell_same HB.out.2.1 rfl
  simp only [List.getElem?_toArray, List.getElem?_cons_zero, List.getElem?_cons_succ] at c0 c1 c2 d0 d1 d2
  go_wp2
  obtain ⟨z1, z2⟩ := setAll [.bool o.sec, .string o.host, .int .i64 o.port] HB.out.2.2 rfl
  simp only [World.setCells, Nat.reduceAdd] at z1 z2
  have e0 := cell_of (i := 0) z1
  have e1 := cell_of (i := 1) z1
  have e2 := cell_of (i := 2) z1
  simp only [List.getElem?_toArray, List.getElem?_cons_zero, List.getElem?_cons_succ] at e0 e1 e2
  exact bodyPost_ret (v := .agg #[.bool o.sec, .string o.host, .int .i64 o.port]) (by simp [results, Try.f60, go_sem, e0, e1, e2]) rfl ⟨rfl, HB.out.1.grown z2 HB.out.1.size (fun i hi => by injection hi with hi; omega)⟩
end Go.Proofs.Ytjadmldnpdmamaa

/- What is asked for, cloned. -/
namespace Go.Proofs.Ytjadmldnpdmamaa
open Go.RowKit
set_option linter.unusedVariables false

/-- Texts of an ask are no longer than a machine can hold. -/
def AskFit (a : AskP) : Prop := a.realm.size ≤ 140737488355328 ∧ a.nonce.size ≤ 140737488355328 ∧ a.opq.size ≤ 140737488355328 ∧ a.qop.size ≤ 140737488355328 ∧ a.dom.length ≤ 1000 ∧ ∀ x ∈ a.dom, x.size ≤ 140737488355328
set_option maxRecDepth 100000 in
set_option maxHeartbeats 4000000 in
theorem freshA_any (a : AskP) (ha : AskFit a) (a0 : Option Addr) (len cap b off : Nat) (w : World) (hx : Strs w a0 len b off a.dom) :
    Calls Try.prog 61 #[.agg #[.int .i64 a.sch, .string a.realm, .string a.nonce, .string a.opq, .bool a.sess, .string a.qop, .bool a.stale, .slice a0 len cap]] w fun e w' => (∃ v, e = .returned (.agg #[.int .i64 a.sch, .string a.realm, .string a.nonce, .string a.opq, .bool a.sess, .string a.qop, .bool a.stale, v]) ∧ OwnS w' w.heap.size v a.dom) ∧ Below w.heap.size w w' := by
  obtain ⟨z1, z2, z3, z4, z5, z6⟩ := ha
  have hlen : len ≤ 1000 := by rw [← hx.len_eq]; exact z5
  have hs0 := boxF_start w #[.int .i64 a.sch, .string a.realm, .string a.nonce, .string a.opq, .bool a.sess, .string a.qop, .bool a.stale, .slice a0 len cap] #[.int .i64 0, .string ⟨#[]⟩, .string ⟨#[]⟩, .string ⟨#[]⟩, .bool false, .string ⟨#[]⟩, .bool false, .slice none 0 0] 34
  have HX : Hid (Strs w a0 len b off a.dom ∧ ∀ x ∈ a.dom, x.size ≤ 140737488355328) := ⟨hx, z6⟩
  have HW : Hid (BoxF w ((w.alloc (.cells #[.int .i64 a.sch, .string a.realm, .string a.nonce, .string a.opq, .bool a.sess, .string a.qop, .bool a.stale, .slice a0 len cap] 34)).alloc (.cells #[.int .i64 0, .string ⟨#[]⟩, .string ⟨#[]⟩, .string ⟨#[]⟩, .bool false, .string ⟨#[]⟩, .bool false, .slice none 0 0] 34)) _ _ 34) := hs0
  clear hs0 hx z5 z6
  go_enter Try.func61, Try.ntmps61
  go_wp2_with fail
  refine (cloneS_any _ z1 _).mono ?_
  rintro e w1 ⟨rfl, hb1⟩
  have H1 := (show BoxF _ _ _ _ _ from HW.out).below hb1
  have HH1 : Hid (BoxF w w1 _ _ 34) := H1
  have s1 := H1.same (i := 1) (v := .string a.realm) rfl
  have c1 := H1.at 2 (v := .string a.nonce) rfl
  have c1' := H1.at 1 (v := .string a.realm) rfl
  have f1 := free_of H1.box
  clear hb1 HW H1
  go_wp2_with fail
  refine (cloneS_any _ z2 _).mono ?_
  rintro e w2 ⟨rfl, hb2⟩
  have H2 := (show BoxF _ _ _ _ _ from HH1.out).below hb2
  have HH2 : Hid (BoxF w w2 _ _ 34) := H2
  have s2 := H2.same (i := 2) (v := .string a.nonce) rfl
  have c2 := H2.at 3 (v := .string a.opq) rfl
  have f2 := free_of H2.box
  have c2' := H2.at 2 (v := .string a.nonce) rfl
  clear hb2 H2 s1 c1 c1' f1 HH1
  go_wp2_with fail
  refine (cloneS_any _ z3 _).mono ?_
  rintro e w3 ⟨rfl, hb3⟩
  have H3 := (show BoxF _ _ _ _ _ from HH2.out).below hb3
  have HH3 : Hid (BoxF w w3 _ _ 34) := H3
  have s3 := H3.same (i := 3) (v := .string a.opq) rfl
  have c3 := H3.at 5 (v := .string a.qop) rfl
  have f3 := free_of H3.box
  have c3' := H3.at 3 (v := .string a.opq) rfl
  clear hb3 H3 s2 c2 f2 c2' HH2
  go_wp2_with fail
  refine (cloneS_any _ z4 _).mono ?_
  rintro e w4 ⟨rfl, hb4⟩
  have H4 := (show BoxF _ _ _ _ _ from HH3.out).below hb4
  have HH4 : Hid (BoxF w w4 _ _ 34) := H4
  have s4 := H4.same (i := 5) (v := .string a.qop) rfl
  have c4 := H4.at 7 (v := .slice a0 len cap) rfl
  have c4' := H4.at 5 (v := .string a.qop) rfl
  have f4 := free_of H4.box
  have HX4 : Hid (Strs w4 a0 len b off a.dom) := HX.out.1.below H4.bel
  clear hb4 H4 s3 c3 f3 c3' HH3
  go_wp2_with fail
  refine (eachS_any a.dom HX.out.2 a0 len cap b off hlen _ HX4.out).mono ?_
  rintro e w5 ⟨⟨v, rfl, hown⟩, hb5⟩
  obtain ⟨va, vc, vg, rfl, _⟩ := hown.strs
  obtain ⟨vn, HVN⟩ : ∃ vn, Hid (a.dom.length = vn) := ⟨_, rfl⟩
  rw [HVN.out] at hown ⊢
  have H5 := (show BoxF _ _ _ _ _ from HH4.out).below hb5
  have H6 := H5.set 7 (.slice va vn vc)
  have HW4 : Hid (w.heap.size + 1 < w4.heap.size) := (Array.getElem?_eq_some_iff.1 (show BoxF _ _ _ _ _ from HH4.out).res).1
  have HO : Hid (OwnS w5 w4.heap.size (.slice va vn vc) a.dom) := hown
  have f5 := free_of H5.box
  have t7 := H5.at 7 (v := .slice a0 len cap) rfl
  have g0 := H6.at 0 (v := .int .i64 a.sch) rfl
  have g1 := H6.at 1 (v := .string a.realm) rfl
  have g2 := H6.at 2 (v := .string a.nonce) rfl
  have g3 := H6.at 3 (v := .string a.opq) rfl
  have g4 := H6.at 4 (v := .bool a.sess) rfl
  have g5 := H6.at 5 (v := .string a.qop) rfl
  have g6 := H6.at 6 (v := .bool a.stale) rfl
  have g7 := H6.at 7 (v := .slice va vn vc) rfl
  have d0 : (w5.setCell ⟨w.heap.size, 7, none⟩ (.slice va vn vc)).cell? ⟨w.heap.size + 1, 0, none⟩ = some (.int .i64 0) := cell_of H6.res
  have d1 : (w5.setCell ⟨w.heap.size, 7, none⟩ (.slice va vn vc)).cell? ⟨w.heap.size + 1, 1, none⟩ = some (.string ⟨#[]⟩) := cell_of H6.res
  have d2 : (w5.setCell ⟨w.heap.size, 7, none⟩ (.slice va vn vc)).cell? ⟨w.heap.size + 1, 2, none⟩ = some (.string ⟨#[]⟩) := cell_of H6.res
  have d3 : (w5.setCell ⟨w.heap.size, 7, none⟩ (.slice va vn vc)).cell? ⟨w.heap.size + 1, 3, none⟩ = some (.string ⟨#[]⟩) := cell_of H6.res
  have d4 : (w5.setCell ⟨w.heap.size, 7, none⟩ (.slice va vn vc)).cell? ⟨w.heap.size + 1, 4, none⟩ = some (.bool false) := cell_of H6.res
  have d5 : (w5.setCell ⟨w.heap.size, 7, none⟩ (.slice va vn vc)).cell? ⟨w.heap.size + 1, 5, none⟩ = some (.string ⟨#[]⟩) := cell_of H6.res
  have d6 : (w5.setCell ⟨w.heap.size, 7, none⟩ (.slice va vn vc)).cell? ⟨w.heap.size + 1, 6, none⟩ = some (.bool false) := cell_of H6.res
  have d7 : (w5.setCell ⟨w.heap.size, 7, none⟩ (.slice va vn vc)).cell? ⟨w.heap.size + 1, 7, none⟩ = some (.slice none 0 0) := cell_of H6.res
  have fr := free_of H6.res
  have HH5 : Hid (BoxF w (w5.setCell ⟨w.heap.size, 7, none⟩ (.slice va vn vc)) _ _ 34) := H6
  have HG5 : Hid (w5.grownBy (w5.setCell ⟨w.heap.size, 7, none⟩ (.slice va vn vc)) (some w.heap.size)) := grown_setCells w5 w.heap.size 7 [.slice va vn vc]
  clear hb5 H5 H6 s4 c4 f4 c4' HH4 hown
  go_wp2_with fail
  obtain ⟨z1, z2⟩ := setAll [.int .i64 a.sch, .string a.realm, .string a.nonce, .string a.opq, .bool a.sess, .string a.qop, .bool a.stale, .slice va vn vc] (show BoxF _ _ _ _ _ from HH5.out).res rfl
  simp only [World.setCells, Nat.reduceAdd] at z1 z2
  have HZ : Hid (w5.grownBy (w5.setCell ⟨w.heap.size, 7, none⟩ (.slice va vn vc)) (some w.heap.size)) := HG5.out
  have hb5 := (show BoxF _ _ _ _ _ from HH5.out).bel
  have hres := (show BoxF _ _ _ _ _ from HH5.out).res
  clear d0 d1 d2 d3 d4 d5 d6 d7 g0 g1 g2 g3 g4 g5 g6 g7 f5 fr t7
  refine bodyPost_ret (v := .agg #[.int .i64 a.sch, .string a.realm, .string a.nonce, .string a.opq, .bool a.sess, .string a.qop, .bool a.stale, .slice va vn vc]) (res_cell rfl rfl Try.isAgg34 Try.sizeOf34 rfl z1) rfl ?_
  refine ⟨⟨_, rfl, ?_⟩, hb5.grown z2 hb5.size (fun i hi => by injection hi with hi; omega)⟩
  have h1 := HO.out.grown HZ.out (by have := HW4.out; omega)
  have h2 := h1.grown z2 (by have := HW4.out; omega)
  exact ownS_mono h2 (by have := HW4.out; omega)
end Go.Proofs.Ytjadmldnpdmamaa

/- A row of structs with one more as its last one, without what that takes the place of, and without the first ones, if there are more than eight. -/
namespace Go.Proofs.Ytjadmldnpdmamaa
open Go.RowKit
set_option linter.unusedVariables false

theorem gcomp {w w1 w2 : World} {row row2 : Option Nat} (h1 : w.grownBy w1 row) (h2 : w1.grownBy w2 row2) (hr : ∀ k, row2 = some k → row = some k ∨ w.heap.size ≤ k) : w.grownBy w2 row :=
  ⟨h2.os.trans h1.os, h2.tape.trans h1.tape, h2.output.trans h1.output, Nat.le_trans h1.size h2.size, fun i hi hne => (h2.block i (Nat.lt_of_lt_of_le hi h1.size) (fun e => by
    rcases hr i e.symm with h | h
    · exact hne h.symm
    · omega)).trans (h1.block i hi hne)⟩
/-- The last eight. -/
def last8 {α : Type} (l : List α) : List α := l.drop (l.length - 8)
theorem last8_map {α β : Type} (f : α → β) (l : List α) : (last8 l).map f = last8 (l.map f) := by unfold last8; rw [List.map_drop, List.length_map]
theorem box_alloc {w : World} {g : Nat} {cs : Array Value} {t : TypeId} (h : w.heap[g]? = some (.cells cs t (0, 0))) (o : Obj) : (w.alloc o).heap[g]? = some (.cells cs t (0, 0)) := (Below.heap_alloc w o g (Array.getElem?_eq_some_iff.1 h).1).trans h
/-- The row behind slices.DeleteFunc, whatever it is. -/
theorem dlfG_all (val : Value) (xs : List (List Value)) (B : Nat) (hbig : xs.length ≤ 1000) (w : World) (hown : OwnK 16 36 w B val xs)
    (p : List Value → Bool) (fn : Nat) (lb : Array Value) (eg : ∀ args w, (callFunc fn args).run Try.prog w = .ok (.enter fn args) w) (hp : PredK Try.prog fn lb p xs w val.ownBlock) :
    Calls Try.prog 17 #[val, .func (.func fn) #[] lb] w fun e w' => ∃ v, e = .returned v ∧ Hid (OwnK 16 36 w' B v (xs.filter (fun y => !p y)) ∧ v.ownBlock = val.ownBlock ∧ w.grownBy w' val.ownBlock) := by
  rcases hown.forms with ⟨rfl, rfl⟩ | ⟨g, cap, rfl, _, _, _, _⟩
  · refine (dlfG_none w _).mono ?_
    rintro e w' ⟨rfl, rfl⟩
    exact ⟨_, rfl, ⟨hown, rfl, below_grown (Below.refl _ _) _⟩⟩
  · refine (dlfG_any g _ cap B xs rfl (by omega) w hown p fn lb eg hp).mono ?_
    rintro e w' ⟨m, rfl, H⟩
    exact ⟨_, rfl, ⟨H.out.1, rfl, H.out.2.2⟩⟩
set_option maxRecDepth 100000 in
theorem infoFG : (Try.prog.info? 36).map (fun i => (i.zero, i.size, i.bytes)) = some (some (.agg #[.bool false, .string ⟨#[]⟩, .int .i64 0, .bool false, .string ⟨#[]⟩, .string ⟨#[]⟩, .int .i64 0, .string ⟨#[]⟩, .string ⟨#[]⟩, .string ⟨#[]⟩, .bool false, .string ⟨#[]⟩, .bool false, .slice none 0 0, .int .i64 0, .slice none 0 0]), 16, 216) := by kernel_rfl
/-- A row behind slices.Delete of its first ones, whatever it is. -/
theorem cut8G (g n cap B : Nat) (xs : List (List Value)) (hn : xs.length = n) (hbig : cap ≤ 9223372036854775807) (w : World) (hown : OwnK 16 36 w B (.slice (some ⟨g, 0, none⟩) n cap) xs) (z : Int) (hz : z = ((n - 8 : Nat) : Int)) :
    Calls Try.prog 59 #[.slice (some ⟨g, 0, none⟩) n cap, .int .i64 0, .int .i64 z] w fun e w' => ∃ k, e = .returned (.slice (some ⟨g, 0, none⟩) k cap) ∧ Hid (OwnK 16 36 w' B (.slice (some ⟨g, 0, none⟩) k cap) (last8 xs) ∧ w.grownBy w' (some g)) := by
  have hnc : n ≤ cap := by
    rcases hown.forms with ⟨e, _⟩ | ⟨g', cap', e, _, _, h1, _⟩
    · cases e
    · injection e with _ _ e3
      rw [e3, ← hn]; exact h1
  obtain ⟨m, hm⟩ : ∃ m, m = n - 8 := ⟨_, rfl⟩
  rw [← hm] at hz
  subst hz
  rcases Nat.eq_zero_or_pos m with h0 | h0
  · subst h0
    refine (dltG_same (some ⟨g, 0, none⟩) n cap 0 (Nat.zero_le _) hnc w).mono ?_
    rintro e w' ⟨rfl, rfl⟩
    refine ⟨n, rfl, ⟨?_, below_grown (Below.refl _ _) _⟩⟩
    unfold last8
    rw [hn, ← hm]
    exact hown
  · refine (dltG_any g n cap B xs hn hbig w hown 0 m h0 (by omega)).mono ?_
    rintro e w' ⟨rfl, H⟩
    refine ⟨_, rfl, ⟨?_, H.out.2⟩⟩
    have h := H.out.1
    unfold last8
    rw [hn, ← hm]
    simpa using h
/-- What slices.DeleteFunc leaves, ahead of one more. -/
structure RenG (w W w2 : World) (B : Nat) (val u : Value) (ys : List (List Value)) (v : GrV) : Prop where
  own : OwnK 16 36 w2 B u ys
  row : u.ownBlock = val.ownBlock
  grown : w.grownBy w2 val.ownBlock
  grownW : W.grownBy w2 val.ownBlock
  box : w2.heap[w.heap.size]? = some (.cells #[.bool v.g.org.sec, .string v.g.org.host, .int .i64 v.g.org.port, .bool v.g.proxy, .string v.g.user, .string v.g.pass, .int .i64 v.g.ask.sch, .string v.g.ask.realm, .string v.g.ask.nonce, .string v.g.ask.opq, .bool v.g.ask.sess, .string v.g.ask.qop, .bool v.g.ask.stale, v.dv, .int .i64 v.g.count, v.pv] 36 (0, 0))
theorem renG_call (val : Value) (xs : List (List Value)) (B : Nat) (hbig : xs.length ≤ 1000) (w : World) (hown : OwnK 16 36 w B val xs) (v : GrV)
    (p : List Value → Bool) (fn : Nat) (lb : Array Value) (eg : ∀ args w, (callFunc fn args).run Try.prog w = .ok (.enter fn args) w) (hp : PredK Try.prog fn lb p xs w val.ownBlock) (W : World) (hb : Below (w.alloc (.cells #[.bool v.g.org.sec, .string v.g.org.host, .int .i64 v.g.org.port, .bool v.g.proxy, .string v.g.user, .string v.g.pass, .int .i64 v.g.ask.sch, .string v.g.ask.realm, .string v.g.ask.nonce, .string v.g.ask.opq, .bool v.g.ask.sess, .string v.g.ask.qop, .bool v.g.ask.stale, v.dv, .int .i64 v.g.count, v.pv] 36)).heap.size (w.alloc (.cells #[.bool v.g.org.sec, .string v.g.org.host, .int .i64 v.g.org.port, .bool v.g.proxy, .string v.g.user, .string v.g.pass, .int .i64 v.g.ask.sch, .string v.g.ask.realm, .string v.g.ask.nonce, .string v.g.ask.opq, .bool v.g.ask.sess, .string v.g.ask.qop, .bool v.g.ask.stale, v.dv, .int .i64 v.g.count, v.pv] 36)) W) :
    Calls Try.prog 17 #[val, .func (.func fn) #[] lb] W fun e w2 => ∃ u, e = .returned u ∧ Hid (RenG w W w2 B val u (xs.filter (fun y => !p y)) v) := by
  have hbb : Below w.heap.size w (w.alloc (.cells #[.bool v.g.org.sec, .string v.g.org.host, .int .i64 v.g.org.port, .bool v.g.proxy, .string v.g.user, .string v.g.pass, .int .i64 v.g.ask.sch, .string v.g.ask.realm, .string v.g.ask.nonce, .string v.g.ask.opq, .bool v.g.ask.sess, .string v.g.ask.qop, .bool v.g.ask.stale, v.dv, .int .i64 v.g.count, v.pv] 36)) := (Below.refl _ _).alloc (Nat.le_refl _) _
  have hbW : Below w.heap.size w W := hbb.trans (hb.mono hbb.size)
  have hbox := (hb.block w.heap.size (by simp)).trans (heap_alloc_new w (.cells #[.bool v.g.org.sec, .string v.g.org.host, .int .i64 v.g.org.port, .bool v.g.proxy, .string v.g.user, .string v.g.pass, .int .i64 v.g.ask.sch, .string v.g.ask.realm, .string v.g.ask.nonce, .string v.g.ask.opq, .bool v.g.ask.sess, .string v.g.ask.qop, .bool v.g.ask.stale, v.dv, .int .i64 v.g.count, v.pv] 36))
  refine (dlfG_all val xs B hbig W (hown.below hbW) p fn lb eg (fun W' x hx hg => hp W' x hx (gcomp (below_grown hbW _) hg (fun k hk => .inl hk)))).mono ?_
  rintro e w2 ⟨u, rfl, H⟩
  refine ⟨u, rfl, ⟨H.out.1, H.out.2.1, gcomp (below_grown hbW _) H.out.2.2 (fun k hk => .inl hk), H.out.2.2, (H.out.2.2.block _ (Array.getElem?_eq_some_iff.1 hbox).1 (fun e => ?_)).trans hbox⟩⟩
  have := (hown.lt _ e.symm).2
  omega
theorem renG_news {val u : Value} {xs ys : List (List Value)} {B : Nat} {w w2 : World} {v : GrV} (hown : OwnK 16 36 w B val xs) (h : RenG w ((w.alloc (.cells #[.bool v.g.org.sec, .string v.g.org.host, .int .i64 v.g.org.port, .bool v.g.proxy, .string v.g.user, .string v.g.pass, .int .i64 v.g.ask.sch, .string v.g.ask.realm, .string v.g.ask.nonce, .string v.g.ask.opq, .bool v.g.ask.sess, .string v.g.ask.qop, .bool v.g.ask.stale, v.dv, .int .i64 v.g.count, v.pv] 36)).alloc (.cells #[.bool v.g.org.sec, .string v.g.org.host, .int .i64 v.g.org.port, .bool v.g.proxy, .string v.g.user, .string v.g.pass, .int .i64 v.g.ask.sch, .string v.g.ask.realm, .string v.g.ask.nonce, .string v.g.ask.opq, .bool v.g.ask.sess, .string v.g.ask.qop, .bool v.g.ask.stale, v.dv, .int .i64 v.g.count, v.pv] 36)).drew w2 B val u ys v) : w2.heap[w.heap.size + 1]? = some (.cells #[.bool v.g.org.sec, .string v.g.org.host, .int .i64 v.g.org.port, .bool v.g.proxy, .string v.g.user, .string v.g.pass, .int .i64 v.g.ask.sch, .string v.g.ask.realm, .string v.g.ask.nonce, .string v.g.ask.opq, .bool v.g.ask.sess, .string v.g.ask.qop, .bool v.g.ask.stale, v.dv, .int .i64 v.g.count, v.pv] 36 (0, 0)) := by
  have e : ((w.alloc (.cells #[.bool v.g.org.sec, .string v.g.org.host, .int .i64 v.g.org.port, .bool v.g.proxy, .string v.g.user, .string v.g.pass, .int .i64 v.g.ask.sch, .string v.g.ask.realm, .string v.g.ask.nonce, .string v.g.ask.opq, .bool v.g.ask.sess, .string v.g.ask.qop, .bool v.g.ask.stale, v.dv, .int .i64 v.g.count, v.pv] 36)).alloc (.cells #[.bool v.g.org.sec, .string v.g.org.host, .int .i64 v.g.org.port, .bool v.g.proxy, .string v.g.user, .string v.g.pass, .int .i64 v.g.ask.sch, .string v.g.ask.realm, .string v.g.ask.nonce, .string v.g.ask.opq, .bool v.g.ask.sess, .string v.g.ask.qop, .bool v.g.ask.stale, v.dv, .int .i64 v.g.count, v.pv] 36)).drew.heap[w.heap.size + 1]? = some (.cells #[.bool v.g.org.sec, .string v.g.org.host, .int .i64 v.g.org.port, .bool v.g.proxy, .string v.g.user, .string v.g.pass, .int .i64 v.g.ask.sch, .string v.g.ask.realm, .string v.g.ask.nonce, .string v.g.ask.opq, .bool v.g.ask.sess, .string v.g.ask.qop, .bool v.g.ask.stale, v.dv, .int .i64 v.g.count, v.pv] 36 (0, 0)) := by
    have := heap_alloc_new (w.alloc (.cells #[.bool v.g.org.sec, .string v.g.org.host, .int .i64 v.g.org.port, .bool v.g.proxy, .string v.g.user, .string v.g.pass, .int .i64 v.g.ask.sch, .string v.g.ask.realm, .string v.g.ask.nonce, .string v.g.ask.opq, .bool v.g.ask.sess, .string v.g.ask.qop, .bool v.g.ask.stale, v.dv, .int .i64 v.g.count, v.pv] 36)) (.cells #[.bool v.g.org.sec, .string v.g.org.host, .int .i64 v.g.org.port, .bool v.g.proxy, .string v.g.user, .string v.g.pass, .int .i64 v.g.ask.sch, .string v.g.ask.realm, .string v.g.ask.nonce, .string v.g.ask.opq, .bool v.g.ask.sess, .string v.g.ask.qop, .bool v.g.ask.stale, v.dv, .int .i64 v.g.count, v.pv] 36)
    rw [World.size_alloc] at this
    exact this
  refine (h.grownW.block _ (Array.getElem?_eq_some_iff.1 e).1 (fun e2 => ?_)).trans e
  have := (hown.lt _ e2.symm).2
  omega
/-- Behind the append. -/
theorem renG_end {val u u4 : Value} {xs ys zs : List (List Value)} {B : Nat} {w W w2 w3 w4 : World} {v : GrV} (hown : OwnK 16 36 w B val xs) (hB : Hid (B ≤ w.heap.size)) (h : RenG w W w2 B val u ys v) (h3 : w2.grownBy w3 val.ownBlock) (h4 : w3.grownBy w4 u.ownBlock) (hu : OwnK 16 36 w4 B u4 zs) {g4 H : Nat} (hat : u.ownBlock = some g4 ∨ g4 = H) (hH : w.heap.size ≤ H) :
    Hid (OwnK 16 36 w4 B u4 zs ∧ w.grownBy w4 val.ownBlock ∧ w4.heap[w.heap.size]? = some (.cells #[.bool v.g.org.sec, .string v.g.org.host, .int .i64 v.g.org.port, .bool v.g.proxy, .string v.g.user, .string v.g.pass, .int .i64 v.g.ask.sch, .string v.g.ask.realm, .string v.g.ask.nonce, .string v.g.ask.opq, .bool v.g.ask.sess, .string v.g.ask.qop, .bool v.g.ask.stale, v.dv, .int .i64 v.g.count, v.pv] 36 (0, 0)) ∧ (val.ownBlock = some g4 ∨ w.heap.size ≤ g4)) := by
  have hlt : w.heap.size < w2.heap.size := (Array.getElem?_eq_some_iff.1 h.box).1
  have hne : some w.heap.size ≠ val.ownBlock := fun e => by
    have := (hown.lt _ e.symm).2
    omega
  refine ⟨hu, gcomp (gcomp h.grown h3 (fun k hk => .inl hk)) h4 (fun k hk => .inl (by rw [← h.row]; exact hk)), ?_, ?_⟩
  rotate_left
  · rcases hat with e | rfl
    · rw [h.row] at e; exact .inl e
    · exact .inr hH
  rw [h4.block _ (Nat.lt_of_lt_of_le hlt h3.size) (by rw [h.row]; exact hne), h3.block _ hlt hne]
  exact h.box
set_option maxRecDepth 100000 in
set_option maxHeartbeats 2000000 in
theorem renG_any (val : Value) (xs : List (List Value)) (B : Nat) (hbig : xs.length ≤ 1000) (w : World) (hB : B ≤ w.heap.size) (hown : OwnK 16 36 w B val xs) (v : GrV) (hx1 : ∀ u ∈ grCells v, u.oneCell' = true)
    (p : List Value → Bool) (fn : Nat) (lb : Array Value) (eg : ∀ args w, (callFunc fn args).run Try.prog w = .ok (.enter fn args) w) (hp : PredK Try.prog fn lb p xs w val.ownBlock) :
    Calls Try.prog 52 #[val, .agg (grCells v).toArray, .func (.func fn) #[] lb] w fun e w' => ∃ u, e = .returned u ∧ Hid (OwnK 16 36 w' B u (last8 (xs.filter (fun y => !p y) ++ [grCells v])) ∧ w.grownBy w' val.ownBlock ∧ ∀ k, u.ownBlock = some k → val.ownBlock = some k ∨ w.heap.size ≤ k) := by
  have HB : Hid (B ≤ w.heap.size) := hB
  have HP : Hid (OwnK 16 36 w B val xs ∧ PredK Try.prog fn lb p xs w val.ownBlock ∧ (∀ u ∈ grCells v, u.oneCell' = true) ∧ (∀ args w, (callFunc fn args).run Try.prog w = .ok (.enter fn args) w)) := ⟨hown, hp, hx1, eg⟩
  have hcall := renG_call val xs B hbig w hown v p fn lb eg hp
  have hQ : (w.alloc (.cells #[.bool v.g.org.sec, .string v.g.org.host, .int .i64 v.g.org.port, .bool v.g.proxy, .string v.g.user, .string v.g.pass, .int .i64 v.g.ask.sch, .string v.g.ask.realm, .string v.g.ask.nonce, .string v.g.ask.opq, .bool v.g.ask.sess, .string v.g.ask.qop, .bool v.g.ask.stale, v.dv, .int .i64 v.g.count, v.pv] 36)).drew.cell? ⟨w.heap.size, 0, none⟩ = some (.bool v.g.org.sec) ∧ (w.alloc (.cells #[.bool v.g.org.sec, .string v.g.org.host, .int .i64 v.g.org.port, .bool v.g.proxy, .string v.g.user, .string v.g.pass, .int .i64 v.g.ask.sch, .string v.g.ask.realm, .string v.g.ask.nonce, .string v.g.ask.opq, .bool v.g.ask.sess, .string v.g.ask.qop, .bool v.g.ask.stale, v.dv, .int .i64 v.g.count, v.pv] 36)).drew.cell? ⟨w.heap.size, 1, none⟩ = some (.string v.g.org.host) ∧ (w.alloc (.cells #[.bool v.g.org.sec, .string v.g.org.host, .int .i64 v.g.org.port, .bool v.g.proxy, .string v.g.user, .string v.g.pass, .int .i64 v.g.ask.sch, .string v.g.ask.realm, .string v.g.ask.nonce, .string v.g.ask.opq, .bool v.g.ask.sess, .string v.g.ask.qop, .bool v.g.ask.stale, v.dv, .int .i64 v.g.count, v.pv] 36)).drew.cell? ⟨w.heap.size, 2, none⟩ = some (.int .i64 v.g.org.port) ∧ (w.alloc (.cells #[.bool v.g.org.sec, .string v.g.org.host, .int .i64 v.g.org.port, .bool v.g.proxy, .string v.g.user, .string v.g.pass, .int .i64 v.g.ask.sch, .string v.g.ask.realm, .string v.g.ask.nonce, .string v.g.ask.opq, .bool v.g.ask.sess, .string v.g.ask.qop, .bool v.g.ask.stale, v.dv, .int .i64 v.g.count, v.pv] 36)).drew.cell? ⟨w.heap.size, 3, none⟩ = some (.bool v.g.proxy) ∧ (w.alloc (.cells #[.bool v.g.org.sec, .string v.g.org.host, .int .i64 v.g.org.port, .bool v.g.proxy, .string v.g.user, .string v.g.pass, .int .i64 v.g.ask.sch, .string v.g.ask.realm, .string v.g.ask.nonce, .string v.g.ask.opq, .bool v.g.ask.sess, .string v.g.ask.qop, .bool v.g.ask.stale, v.dv, .int .i64 v.g.count, v.pv] 36)).drew.cell? ⟨w.heap.size, 4, none⟩ = some (.string v.g.user) ∧ (w.alloc (.cells #[.bool v.g.org.sec, .string v.g.org.host, .int .i64 v.g.org.port, .bool v.g.proxy, .string v.g.user, .string v.g.pass, .int .i64 v.g.ask.sch, .string v.g.ask.realm, .string v.g.ask.nonce, .string v.g.ask.opq, .bool v.g.ask.sess, .string v.g.ask.qop, .bool v.g.ask.stale, v.dv, .int .i64 v.g.count, v.pv] 36)).drew.cell? ⟨w.heap.size, 5, none⟩ = some (.string v.g.pass) ∧ (w.alloc (.cells #[.bool v.g.org.sec, .string v.g.org.host, .int .i64 v.g.org.port, .bool v.g.proxy, .string v.g.user, .string v.g.pass, .int .i64 v.g.ask.sch, .string v.g.ask.realm, .string v.g.ask.nonce, .string v.g.ask.opq, .bool v.g.ask.sess, .string v.g.ask.qop, .bool v.g.ask.stale, v.dv, .int .i64 v.g.count, v.pv] 36)).drew.cell? ⟨w.heap.size, 6, none⟩ = some (.int .i64 v.g.ask.sch) ∧ (w.alloc (.cells #[.bool v.g.org.sec, .string v.g.org.host, .int .i64 v.g.org.port, .bool v.g.proxy, .string v.g.user, .string v.g.pass, .int .i64 v.g.ask.sch, .string v.g.ask.realm, .string v.g.ask.nonce, .string v.g.ask.opq, .bool v.g.ask.sess, .string v.g.ask.qop, .bool v.g.ask.stale, v.dv, .int .i64 v.g.count, v.pv] 36)).drew.cell? ⟨w.heap.size, 7, none⟩ = some (.string v.g.ask.realm) ∧ (w.alloc (.cells #[.bool v.g.org.sec, .string v.g.org.host, .int .i64 v.g.org.port, .bool v.g.proxy, .string v.g.user, .string v.g.pass, .int .i64 v.g.ask.sch, .string v.g.ask.realm, .string v.g.ask.nonce, .string v.g.ask.opq, .bool v.g.ask.sess, .string v.g.ask.qop, .bool v.g.ask.stale, v.dv, .int .i64 v.g.count, v.pv] 36)).drew.cell? ⟨w.heap.size, 8, none⟩ = some (.string v.g.ask.nonce) ∧ (w.alloc (.cells #[.bool v.g.org.sec, .string v.g.org.host, .int .i64 v.g.org.port, .bool v.g.proxy, .string v.g.user, .string v.g.pass, .int .i64 v.g.ask.sch, .string v.g.ask.realm, .string v.g.ask.nonce, .string v.g.ask.opq, .bool v.g.ask.sess, .string v.g.ask.qop, .bool v.g.ask.stale, v.dv, .int .i64 v.g.count, v.pv] 36)).drew.cell? ⟨w.heap.size, 9, none⟩ = some (.string v.g.ask.opq) ∧ (w.alloc (.cells #[.bool v.g.org.sec, .string v.g.org.host, .int .i64 v.g.org.port, .bool v.g.proxy, .string v.g.user, .string v.g.pass, .int .i64 v.g.ask.sch, .string v.g.ask.realm, .string v.g.ask.nonce, .string v.g.ask.opq, .bool v.g.ask.sess, .string v.g.ask.qop, .bool v.g.ask.stale, v.dv, .int .i64 v.g.count, v.pv] 36)).drew.cell? ⟨w.heap.size, 10, none⟩ = some (.bool v.g.ask.sess) ∧ (w.alloc (.cells #[.bool v.g.org.sec, .string v.g.org.host, .int .i64 v.g.org.port, .bool v.g.proxy, .string v.g.user, .string v.g.pass, .int .i64 v.g.ask.sch, .string v.g.ask.realm, .string v.g.ask.nonce, .string v.g.ask.opq, .bool v.g.ask.sess, .string v.g.ask.qop, .bool v.g.ask.stale, v.dv, .int .i64 v.g.count, v.pv] 36)).drew.cell? ⟨w.heap.size, 11, none⟩ = some (.string v.g.ask.qop) ∧ (w.alloc (.cells #[.bool v.g.org.sec, .string v.g.org.host, .int .i64 v.g.org.port, .bool v.g.proxy, .string v.g.user, .string v.g.pass, .int .i64 v.g.ask.sch, .string v.g.ask.realm, .string v.g.ask.nonce, .string v.g.ask.opq, .bool v.g.ask.sess, .string v.g.ask.qop, .bool v.g.ask.stale, v.dv, .int .i64 v.g.count, v.pv] 36)).drew.cell? ⟨w.heap.size, 12, none⟩ = some (.bool v.g.ask.stale) ∧ (w.alloc (.cells #[.bool v.g.org.sec, .string v.g.org.host, .int .i64 v.g.org.port, .bool v.g.proxy, .string v.g.user, .string v.g.pass, .int .i64 v.g.ask.sch, .string v.g.ask.realm, .string v.g.ask.nonce, .string v.g.ask.opq, .bool v.g.ask.sess, .string v.g.ask.qop, .bool v.g.ask.stale, v.dv, .int .i64 v.g.count, v.pv] 36)).drew.cell? ⟨w.heap.size, 13, none⟩ = some (v.dv) ∧ (w.alloc (.cells #[.bool v.g.org.sec, .string v.g.org.host, .int .i64 v.g.org.port, .bool v.g.proxy, .string v.g.user, .string v.g.pass, .int .i64 v.g.ask.sch, .string v.g.ask.realm, .string v.g.ask.nonce, .string v.g.ask.opq, .bool v.g.ask.sess, .string v.g.ask.qop, .bool v.g.ask.stale, v.dv, .int .i64 v.g.count, v.pv] 36)).drew.cell? ⟨w.heap.size, 14, none⟩ = some (.int .i64 v.g.count) ∧ (w.alloc (.cells #[.bool v.g.org.sec, .string v.g.org.host, .int .i64 v.g.org.port, .bool v.g.proxy, .string v.g.user, .string v.g.pass, .int .i64 v.g.ask.sch, .string v.g.ask.realm, .string v.g.ask.nonce, .string v.g.ask.opq, .bool v.g.ask.sess, .string v.g.ask.qop, .bool v.g.ask.stale, v.dv, .int .i64 v.g.count, v.pv] 36)).drew.cell? ⟨w.heap.size, 15, none⟩ = some (v.pv) := by
    have hn := heap_alloc_new w (.cells #[.bool v.g.org.sec, .string v.g.org.host, .int .i64 v.g.org.port, .bool v.g.proxy, .string v.g.user, .string v.g.pass, .int .i64 v.g.ask.sch, .string v.g.ask.realm, .string v.g.ask.nonce, .string v.g.ask.opq, .bool v.g.ask.sess, .string v.g.ask.qop, .bool v.g.ask.stale, v.dv, .int .i64 v.g.count, v.pv] 36)
    exact ⟨(cell_of (i := 0) hn).trans rfl, (cell_of (i := 1) hn).trans rfl, (cell_of (i := 2) hn).trans rfl, (cell_of (i := 3) hn).trans rfl, (cell_of (i := 4) hn).trans rfl, (cell_of (i := 5) hn).trans rfl, (cell_of (i := 6) hn).trans rfl, (cell_of (i := 7) hn).trans rfl, (cell_of (i := 8) hn).trans rfl, (cell_of (i := 9) hn).trans rfl, (cell_of (i := 10) hn).trans rfl, (cell_of (i := 11) hn).trans rfl, (cell_of (i := 12) hn).trans rfl, (cell_of (i := 13) hn).trans rfl, (cell_of (i := 14) hn).trans rfl, (cell_of (i := 15) hn).trans rfl⟩
  have hQB : ((w.alloc (.cells #[.bool v.g.org.sec, .string v.g.org.host, .int .i64 v.g.org.port, .bool v.g.proxy, .string v.g.user, .string v.g.pass, .int .i64 v.g.ask.sch, .string v.g.ask.realm, .string v.g.ask.nonce, .string v.g.ask.opq, .bool v.g.ask.sess, .string v.g.ask.qop, .bool v.g.ask.stale, v.dv, .int .i64 v.g.count, v.pv] 36)).alloc (.cells #[.bool v.g.org.sec, .string v.g.org.host, .int .i64 v.g.org.port, .bool v.g.proxy, .string v.g.user, .string v.g.pass, .int .i64 v.g.ask.sch, .string v.g.ask.realm, .string v.g.ask.nonce, .string v.g.ask.opq, .bool v.g.ask.sess, .string v.g.ask.qop, .bool v.g.ask.stale, v.dv, .int .i64 v.g.count, v.pv] 36)).drew.cell? ⟨w.heap.size, 0, none⟩ = some (.bool v.g.org.sec) ∧ ((w.alloc (.cells #[.bool v.g.org.sec, .string v.g.org.host, .int .i64 v.g.org.port, .bool v.g.proxy, .string v.g.user, .string v.g.pass, .int .i64 v.g.ask.sch, .string v.g.ask.realm, .string v.g.ask.nonce, .string v.g.ask.opq, .bool v.g.ask.sess, .string v.g.ask.qop, .bool v.g.ask.stale, v.dv, .int .i64 v.g.count, v.pv] 36)).alloc (.cells #[.bool v.g.org.sec, .string v.g.org.host, .int .i64 v.g.org.port, .bool v.g.proxy, .string v.g.user, .string v.g.pass, .int .i64 v.g.ask.sch, .string v.g.ask.realm, .string v.g.ask.nonce, .string v.g.ask.opq, .bool v.g.ask.sess, .string v.g.ask.qop, .bool v.g.ask.stale, v.dv, .int .i64 v.g.count, v.pv] 36)).drew.cell? ⟨w.heap.size, 1, none⟩ = some (.string v.g.org.host) ∧ ((w.alloc (.cells #[.bool v.g.org.sec, .string v.g.org.host, .int .i64 v.g.org.port, .bool v.g.proxy, .string v.g.user, .string v.g.pass, .int .i64 v.g.ask.sch, .string v.g.ask.realm, .string v.g.ask.nonce, .string v.g.ask.opq, .bool v.g.ask.sess, .string v.g.ask.qop, .bool v.g.ask.stale, v.dv, .int .i64 v.g.count, v.pv] 36)).alloc (.cells #[.bool v.g.org.sec, .string v.g.org.host, .int .i64 v.g.org.port, .bool v.g.proxy, .string v.g.user, .string v.g.pass, .int .i64 v.g.ask.sch, .string v.g.ask.realm, .string v.g.ask.nonce, .string v.g.ask.opq, .bool v.g.ask.sess, .string v.g.ask.qop, .bool v.g.ask.stale, v.dv, .int .i64 v.g.count, v.pv] 36)).drew.cell? ⟨w.heap.size, 2, none⟩ = some (.int .i64 v.g.org.port) ∧ ((w.alloc (.cells #[.bool v.g.org.sec, .string v.g.org.host, .int .i64 v.g.org.port, .bool v.g.proxy, .string v.g.user, .string v.g.pass, .int .i64 v.g.ask.sch, .string v.g.ask.realm, .string v.g.ask.nonce, .string v.g.ask.opq, .bool v.g.ask.sess, .string v.g.ask.qop, .bool v.g.ask.stale, v.dv, .int .i64 v.g.count, v.pv] 36)).alloc (.cells #[.bool v.g.org.sec, .string v.g.org.host, .int .i64 v.g.org.port, .bool v.g.proxy, .string v.g.user, .string v.g.pass, .int .i64 v.g.ask.sch, .string v.g.ask.realm, .string v.g.ask.nonce, .string v.g.ask.opq, .bool v.g.ask.sess, .string v.g.ask.qop, .bool v.g.ask.stale, v.dv, .int .i64 v.g.count, v.pv] 36)).drew.cell? ⟨w.heap.size, 3, none⟩ = some (.bool v.g.proxy) ∧ ((w.alloc (.cells #[.bool v.g.org.sec, .string v.g.org.host, .int .i64 v.g.org.port, .bool v.g.proxy, .string v.g.user, .string v.g.pass, .int .i64 v.g.ask.sch, .string v.g.ask.realm, .string v.g.ask.nonce, .string v.g.ask.opq, .bool v.g.ask.sess, .string v.g.ask.qop, .bool v.g.ask.stale, v.dv, .int .i64 v.g.count, v.pv] 36)).alloc (.cells #[.bool v.g.org.sec, .string v.g.org.host, .int .i64 v.g.org.port, .bool v.g.proxy, .string v.g.user, .string v.g.pass, .int .i64 v.g.ask.sch, .string v.g.ask.realm, .string v.g.ask.nonce, .string v.g.ask.opq, .bool v.g.ask.sess, .string v.g.ask.qop, .bool v.g.ask.stale, v.dv, .int .i64 v.g.count, v.pv] 36)).drew.cell? ⟨w.heap.size, 4, none⟩ = some (.string v.g.user) ∧ ((w.alloc (.cells #[.bool v.g.org.sec, .string v.g.org.host, .int .i64 v.g.org.port, .bool v.g.proxy, .string v.g.user, .string v.g.pass, .int .i64 v.g.ask.sch, .string v.g.ask.realm, .string v.g.ask.nonce, .string v.g.ask.opq, .bool v.g.ask.sess, .string v.g.ask.qop, .bool v.g.ask.stale, v.dv, .int .i64 v.g.count, v.pv] 36)).alloc (.cells #[.bool v.g.org.sec, .string v.g.org.host, .int .i64 v.g.org.port, .bool v.g.proxy, .string v.g.user, .string v.g.pass, .int .i64 v.g.ask.sch, .string v.g.ask.realm, .string v.g.ask.nonce, .string v.g.ask.opq, .bool v.g.ask.sess, .string v.g.ask.qop, .bool v.g.ask.stale, v.dv, .int .i64 v.g.count, v.pv] 36)).drew.cell? ⟨w.heap.size, 5, none⟩ = some (.string v.g.pass) ∧ ((w.alloc (.cells #[.bool v.g.org.sec, .string v.g.org.host, .int .i64 v.g.org.port, .bool v.g.proxy, .string v.g.user, .string v.g.pass, .int .i64 v.g.ask.sch, .string v.g.ask.realm, .string v.g.ask.nonce, .string v.g.ask.opq, .bool v.g.ask.sess, .string v.g.ask.qop, .bool v.g.ask.stale, v.dv, .int .i64 v.g.count, v.pv] 36)).alloc (.cells #[.bool v.g.org.sec, .string v.g.org.host, .int .i64 v.g.org.port, .bool v.g.proxy, .string v.g.user, .string v.g.pass, .int .i64 v.g.ask.sch, .string v.g.ask.realm, .string v.g.ask.nonce, .string v.g.ask.opq, .bool v.g.ask.sess, .string v.g.ask.qop, .bool v.g.ask.stale, v.dv, .int .i64 v.g.count, v.pv] 36)).drew.cell? ⟨w.heap.size, 6, none⟩ = some (.int .i64 v.g.ask.sch) ∧ ((w.alloc (.cells #[.bool v.g.org.sec, .string v.g.org.host, .int .i64 v.g.org.port, .bool v.g.proxy, .string v.g.user, .string v.g.pass, .int .i64 v.g.ask.sch, .string v.g.ask.realm, .string v.g.ask.nonce, .string v.g.ask.opq, .bool v.g.ask.sess, .string v.g.ask.qop, .bool v.g.ask.stale, v.dv, .int .i64 v.g.count, v.pv] 36)).alloc (.cells #[.bool v.g.org.sec, .string v.g.org.host, .int .i64 v.g.org.port, .bool v.g.proxy, .string v.g.user, .string v.g.pass, .int .i64 v.g.ask.sch, .string v.g.ask.realm, .string v.g.ask.nonce, .string v.g.ask.opq, .bool v.g.ask.sess, .string v.g.ask.qop, .bool v.g.ask.stale, v.dv, .int .i64 v.g.count, v.pv] 36)).drew.cell? ⟨w.heap.size, 7, none⟩ = some (.string v.g.ask.realm) ∧ ((w.alloc (.cells #[.bool v.g.org.sec, .string v.g.org.host, .int .i64 v.g.org.port, .bool v.g.proxy, .string v.g.user, .string v.g.pass, .int .i64 v.g.ask.sch, .string v.g.ask.realm, .string v.g.ask.nonce, .string v.g.ask.opq, .bool v.g.ask.sess, .string v.g.ask.qop, .bool v.g.ask.stale, v.dv, .int .i64 v.g.count, v.pv] 36)).alloc (.cells #[.bool v.g.org.sec, .string v.g.org.host, .int .i64 v.g.org.port, .bool v.g.proxy, .string v.g.user, .string v.g.pass, .int .i64 v.g.ask.sch, .string v.g.ask.realm, .string v.g.ask.nonce, .string v.g.ask.opq, .bool v.g.ask.sess, .string v.g.ask.qop, .bool v.g.ask.stale, v.dv, .int .i64 v.g.count, v.pv] 36)).drew.cell? ⟨w.heap.size, 8, none⟩ = some (.string v.g.ask.nonce) ∧ ((w.alloc (.cells #[.bool v.g.org.sec, .string v.g.org.host, .int .i64 v.g.org.port, .bool v.g.proxy, .string v.g.user, .string v.g.pass, .int .i64 v.g.ask.sch, .string v.g.ask.realm, .string v.g.ask.nonce, .string v.g.ask.opq, .bool v.g.ask.sess, .string v.g.ask.qop, .bool v.g.ask.stale, v.dv, .int .i64 v.g.count, v.pv] 36)).alloc (.cells #[.bool v.g.org.sec, .string v.g.org.host, .int .i64 v.g.org.port, .bool v.g.proxy, .string v.g.user, .string v.g.pass, .int .i64 v.g.ask.sch, .string v.g.ask.realm, .string v.g.ask.nonce, .string v.g.ask.opq, .bool v.g.ask.sess, .string v.g.ask.qop, .bool v.g.ask.stale, v.dv, .int .i64 v.g.count, v.pv] 36)).drew.cell? ⟨w.heap.size, 9, none⟩ = some (.string v.g.ask.opq) ∧ ((w.alloc (.cells #[.bool v.g.org.sec, .string v.g.org.host, .int .i64 v.g.org.port, .bool v.g.proxy, .string v.g.user, .string v.g.pass, .int .i64 v.g.ask.sch, .string v.g.ask.realm, .string v.g.ask.nonce, .string v.g.ask.opq, .bool v.g.ask.sess, .string v.g.ask.qop, .bool v.g.ask.stale, v.dv, .int .i64 v.g.count, v.pv] 36)).alloc (.cells #[.bool v.g.org.sec, .string v.g.org.host, .int .i64 v.g.org.port, .bool v.g.proxy, .string v.g.user, .string v.g.pass, .int .i64 v.g.ask.sch, .string v.g.ask.realm, .string v.g.ask.nonce, .string v.g.ask.opq, .bool v.g.ask.sess, .string v.g.ask.qop, .bool v.g.ask.stale, v.dv, .int .i64 v.g.count, v.pv] 36)).drew.cell? ⟨w.heap.size, 10, none⟩ = some (.bool v.g.ask.sess) ∧ ((w.alloc (.cells #[.bool v.g.org.sec, .string v.g.org.host, .int .i64 v.g.org.port, .bool v.g.proxy, .string v.g.user, .string v.g.pass, .int .i64 v.g.ask.sch, .string v.g.ask.realm, .string v.g.ask.nonce, .string v.g.ask.opq, .bool v.g.ask.sess, .string v.g.ask.qop, .bool v.g.ask.stale, v.dv, .int .i64 v.g.count, v.pv] 36)).alloc (.cells #[.bool v.g.org.sec, .string v.g.org.host, .int .i64 v.g.org.port, .bool v.g.proxy, .string v.g.user, .string v.g.pass, .int .i64 v.g.ask.sch, .string v.g.ask.realm, .string v.g.ask.nonce, .string v.g.ask.opq, .bool v.g.ask.sess, .string v.g.ask.qop, .bool v.g.ask.stale, v.dv, .int .i64 v.g.count, v.pv] 36)).drew.cell? ⟨w.heap.size, 11, none⟩ = some (.string v.g.ask.qop) ∧ ((w.alloc (.cells #[.bool v.g.org.sec, .string v.g.org.host, .int .i64 v.g.org.port, .bool v.g.proxy, .string v.g.user, .string v.g.pass, .int .i64 v.g.ask.sch, .string v.g.ask.realm, .string v.g.ask.nonce, .string v.g.ask.opq, .bool v.g.ask.sess, .string v.g.ask.qop, .bool v.g.ask.stale, v.dv, .int .i64 v.g.count, v.pv] 36)).alloc (.cells #[.bool v.g.org.sec, .string v.g.org.host, .int .i64 v.g.org.port, .bool v.g.proxy, .string v.g.user, .string v.g.pass, .int .i64 v.g.ask.sch, .string v.g.ask.realm, .string v.g.ask.nonce, .string v.g.ask.opq, .bool v.g.ask.sess, .string v.g.ask.qop, .bool v.g.ask.stale, v.dv, .int .i64 v.g.count, v.pv] 36)).drew.cell? ⟨w.heap.size, 12, none⟩ = some (.bool v.g.ask.stale) ∧ ((w.alloc (.cells #[.bool v.g.org.sec, .string v.g.org.host, .int .i64 v.g.org.port, .bool v.g.proxy, .string v.g.user, .string v.g.pass, .int .i64 v.g.ask.sch, .string v.g.ask.realm, .string v.g.ask.nonce, .string v.g.ask.opq, .bool v.g.ask.sess, .string v.g.ask.qop, .bool v.g.ask.stale, v.dv, .int .i64 v.g.count, v.pv] 36)).alloc (.cells #[.bool v.g.org.sec, .string v.g.org.host, .int .i64 v.g.org.port, .bool v.g.proxy, .string v.g.user, .string v.g.pass, .int .i64 v.g.ask.sch, .string v.g.ask.realm, .string v.g.ask.nonce, .string v.g.ask.opq, .bool v.g.ask.sess, .string v.g.ask.qop, .bool v.g.ask.stale, v.dv, .int .i64 v.g.count, v.pv] 36)).drew.cell? ⟨w.heap.size, 13, none⟩ = some (v.dv) ∧ ((w.alloc (.cells #[.bool v.g.org.sec, .string v.g.org.host, .int .i64 v.g.org.port, .bool v.g.proxy, .string v.g.user, .string v.g.pass, .int .i64 v.g.ask.sch, .string v.g.ask.realm, .string v.g.ask.nonce, .string v.g.ask.opq, .bool v.g.ask.sess, .string v.g.ask.qop, .bool v.g.ask.stale, v.dv, .int .i64 v.g.count, v.pv] 36)).alloc (.cells #[.bool v.g.org.sec, .string v.g.org.host, .int .i64 v.g.org.port, .bool v.g.proxy, .string v.g.user, .string v.g.pass, .int .i64 v.g.ask.sch, .string v.g.ask.realm, .string v.g.ask.nonce, .string v.g.ask.opq, .bool v.g.ask.sess, .string v.g.ask.qop, .bool v.g.ask.stale, v.dv, .int .i64 v.g.count, v.pv] 36)).drew.cell? ⟨w.heap.size, 14, none⟩ = some (.int .i64 v.g.count) ∧ ((w.alloc (.cells #[.bool v.g.org.sec, .string v.g.org.host, .int .i64 v.g.org.port, .bool v.g.proxy, .string v.g.user, .string v.g.pass, .int .i64 v.g.ask.sch, .string v.g.ask.realm, .string v.g.ask.nonce, .string v.g.ask.opq, .bool v.g.ask.sess, .string v.g.ask.qop, .bool v.g.ask.stale, v.dv, .int .i64 v.g.count, v.pv] 36)).alloc (.cells #[.bool v.g.org.sec, .string v.g.org.host, .int .i64 v.g.org.port, .bool v.g.proxy, .string v.g.user, .string v.g.pass, .int .i64 v.g.ask.sch, .string v.g.ask.realm, .string v.g.ask.nonce, .string v.g.ask.opq, .bool v.g.ask.sess, .string v.g.ask.qop, .bool v.g.ask.stale, v.dv, .int .i64 v.g.count, v.pv] 36)).drew.cell? ⟨w.heap.size, 15, none⟩ = some (v.pv) := by
    have hn := box_alloc (heap_alloc_new w (.cells #[.bool v.g.org.sec, .string v.g.org.host, .int .i64 v.g.org.port, .bool v.g.proxy, .string v.g.user, .string v.g.pass, .int .i64 v.g.ask.sch, .string v.g.ask.realm, .string v.g.ask.nonce, .string v.g.ask.opq, .bool v.g.ask.sess, .string v.g.ask.qop, .bool v.g.ask.stale, v.dv, .int .i64 v.g.count, v.pv] 36)) (.cells #[.bool v.g.org.sec, .string v.g.org.host, .int .i64 v.g.org.port, .bool v.g.proxy, .string v.g.user, .string v.g.pass, .int .i64 v.g.ask.sch, .string v.g.ask.realm, .string v.g.ask.nonce, .string v.g.ask.opq, .bool v.g.ask.sess, .string v.g.ask.qop, .bool v.g.ask.stale, v.dv, .int .i64 v.g.count, v.pv] 36)
    exact ⟨(cell_of (i := 0) hn).trans rfl, (cell_of (i := 1) hn).trans rfl, (cell_of (i := 2) hn).trans rfl, (cell_of (i := 3) hn).trans rfl, (cell_of (i := 4) hn).trans rfl, (cell_of (i := 5) hn).trans rfl, (cell_of (i := 6) hn).trans rfl, (cell_of (i := 7) hn).trans rfl, (cell_of (i := 8) hn).trans rfl, (cell_of (i := 9) hn).trans rfl, (cell_of (i := 10) hn).trans rfl, (cell_of (i := 11) hn).trans rfl, (cell_of (i := 12) hn).trans rfl, (cell_of (i := 13) hn).trans rfl, (cell_of (i := 14) hn).trans rfl, (cell_of (i := 15) hn).trans rfl⟩
  generalize hys : xs.filter (fun y => !p y) = ys at hcall ⊢
  have HL : Hid (ys.length ≤ xs.length) := by show _ ≤ _; rw [← hys]; exact List.length_filter_le _ _
  clear hown hp hx1 eg hys
  obtain ⟨i0, hi0, hz0, hz1, hz2⟩ := info_parts infoFG
  unfold grCells
  go_enter Try.func52, Try.ntmps52
  go_wp2_with fail
  go_region_held3 (fun W => W.cell? ⟨w.heap.size, 0, none⟩ = some (.bool v.g.org.sec) ∧ W.cell? ⟨w.heap.size, 1, none⟩ = some (.string v.g.org.host) ∧ W.cell? ⟨w.heap.size, 2, none⟩ = some (.int .i64 v.g.org.port) ∧ W.cell? ⟨w.heap.size, 3, none⟩ = some (.bool v.g.proxy) ∧ W.cell? ⟨w.heap.size, 4, none⟩ = some (.string v.g.user) ∧ W.cell? ⟨w.heap.size, 5, none⟩ = some (.string v.g.pass) ∧ W.cell? ⟨w.heap.size, 6, none⟩ = some (.int .i64 v.g.ask.sch) ∧ W.cell? ⟨w.heap.size, 7, none⟩ = some (.string v.g.ask.realm) ∧ W.cell? ⟨w.heap.size, 8, none⟩ = some (.string v.g.ask.nonce) ∧ W.cell? ⟨w.heap.size, 9, none⟩ = some (.string v.g.ask.opq) ∧ W.cell? ⟨w.heap.size, 10, none⟩ = some (.bool v.g.ask.sess) ∧ W.cell? ⟨w.heap.size, 11, none⟩ = some (.string v.g.ask.qop) ∧ W.cell? ⟨w.heap.size, 12, none⟩ = some (.bool v.g.ask.stale) ∧ W.cell? ⟨w.heap.size, 13, none⟩ = some (v.dv) ∧ W.cell? ⟨w.heap.size, 14, none⟩ = some (.int .i64 v.g.count) ∧ W.cell? ⟨w.heap.size, 15, none⟩ = some (v.pv)) (with_reducible assumption) (first
    | (have hoA := World.ownsRow.alloc HR.out.own.row (.cells #[.bool v.g.org.sec, .string v.g.org.host, .int .i64 v.g.org.port, .bool v.g.proxy, .string v.g.user, .string v.g.pass, .int .i64 v.g.ask.sch, .string v.g.ask.realm, .string v.g.ask.nonce, .string v.g.ask.opq, .bool v.g.ask.sess, .string v.g.ask.qop, .bool v.g.ask.stale, v.dv, .int .i64 v.g.count, v.pv] 36); refine step_append_lies (w2.alloc (.cells #[.bool v.g.org.sec, .string v.g.org.host, .int .i64 v.g.org.port, .bool v.g.proxy, .string v.g.user, .string v.g.pass, .int .i64 v.g.ask.sch, .string v.g.ask.realm, .string v.g.ask.nonce, .string v.g.ask.opq, .bool v.g.ask.sess, .string v.g.ask.qop, .bool v.g.ask.stale, v.dv, .int .i64 v.g.count, v.pv] 36)) rfl (.tmp 9) (.tmp 11) 22 rfl B 36 i0 (.agg #[.bool false, .string ⟨#[]⟩, .int .i64 0, .bool false, .string ⟨#[]⟩, .string ⟨#[]⟩, .int .i64 0, .string ⟨#[]⟩, .string ⟨#[]⟩, .string ⟨#[]⟩, .bool false, .string ⟨#[]⟩, .bool false, .slice none 0 0, .int .i64 0, .slice none 0 0]) 16 216 Try.underlying22 hi0 hz0 hz1 hz2 rfl ?_ u ys.length ys.flatten ?_ hoA ⟨w2.heap.size, 0, none⟩ 1 1 [.bool v.g.org.sec, .string v.g.org.host, .int .i64 v.g.org.port, .bool v.g.proxy, .string v.g.user, .string v.g.pass, .int .i64 v.g.ask.sch, .string v.g.ask.realm, .string v.g.ask.nonce, .string v.g.ask.opq, .bool v.g.ask.sess, .string v.g.ask.qop, .bool v.g.ask.stale, v.dv, .int .i64 v.g.count, v.pv] ?_ ?_ ?_ ?_ ?_ ?_ ?_ ?_ (w2.heap.size + 1) ?_ ?_; (· omega); (· rfl); (· rfl); (· rfl); (· exact World.news_of_block (cs := #[.bool v.g.org.sec, .string v.g.org.host, .int .i64 v.g.org.port, .bool v.g.proxy, .string v.g.user, .string v.g.pass, .int .i64 v.g.ask.sch, .string v.g.ask.realm, .string v.g.ask.nonce, .string v.g.ask.opq, .bool v.g.ask.sess, .string v.g.ask.qop, .bool v.g.ask.stale, v.dv, .int .i64 v.g.count, v.pv]) (t := 36) (fr := (0, 0)) (heap_alloc_new w2 _)); (· exact HP.out.2.2.1); (· omega); (· unfold maxLen; have := HL.out; omega); (· have := HL.out; omega); (· have := HR.out.grown.size; simp; omega); (· simp); intro g4 cap4 w4 hown4 hg4 hat4 hlt4; have HF := renG_end HP.out.1 HB HR.out (below_grown ((Below.refl _ _).alloc (Nat.le_refl _) _) _) hg4 (HR.out.own.appended rfl rfl HP.out.2.2.1 hown4) hat4 (by have := HR.out.grown.size; omega); have hbx4 := HF.out.2.2.1; have hQ4 : w4.cell? ⟨w.heap.size, 0, none⟩ = some (.bool v.g.org.sec) ∧ w4.cell? ⟨w.heap.size, 1, none⟩ = some (.string v.g.org.host) ∧ w4.cell? ⟨w.heap.size, 2, none⟩ = some (.int .i64 v.g.org.port) ∧ w4.cell? ⟨w.heap.size, 3, none⟩ = some (.bool v.g.proxy) ∧ w4.cell? ⟨w.heap.size, 4, none⟩ = some (.string v.g.user) ∧ w4.cell? ⟨w.heap.size, 5, none⟩ = some (.string v.g.pass) ∧ w4.cell? ⟨w.heap.size, 6, none⟩ = some (.int .i64 v.g.ask.sch) ∧ w4.cell? ⟨w.heap.size, 7, none⟩ = some (.string v.g.ask.realm) ∧ w4.cell? ⟨w.heap.size, 8, none⟩ = some (.string v.g.ask.nonce) ∧ w4.cell? ⟨w.heap.size, 9, none⟩ = some (.string v.g.ask.opq) ∧ w4.cell? ⟨w.heap.size, 10, none⟩ = some (.bool v.g.ask.sess) ∧ w4.cell? ⟨w.heap.size, 11, none⟩ = some (.string v.g.ask.qop) ∧ w4.cell? ⟨w.heap.size, 12, none⟩ = some (.bool v.g.ask.stale) ∧ w4.cell? ⟨w.heap.size, 13, none⟩ = some (v.dv) ∧ w4.cell? ⟨w.heap.size, 14, none⟩ = some (.int .i64 v.g.count) ∧ w4.cell? ⟨w.heap.size, 15, none⟩ = some (v.pv) := ⟨(cell_of (i := 0) hbx4).trans rfl, (cell_of (i := 1) hbx4).trans rfl, (cell_of (i := 2) hbx4).trans rfl, (cell_of (i := 3) hbx4).trans rfl, (cell_of (i := 4) hbx4).trans rfl, (cell_of (i := 5) hbx4).trans rfl, (cell_of (i := 6) hbx4).trans rfl, (cell_of (i := 7) hbx4).trans rfl, (cell_of (i := 8) hbx4).trans rfl, (cell_of (i := 9) hbx4).trans rfl, (cell_of (i := 10) hbx4).trans rfl, (cell_of (i := 11) hbx4).trans rfl, (cell_of (i := 12) hbx4).trans rfl, (cell_of (i := 13) hbx4).trans rfl, (cell_of (i := 14) hbx4).trans rfl, (cell_of (i := 15) hbx4).trans rfl⟩; clear hbx4 hown4 hg4 hat4 hlt4 hoA)
    | (have hoA := HR.out.own.row; refine step_append_lies w2 rfl (.tmp 9) (.tmp 11) 22 rfl B 36 i0 (.agg #[.bool false, .string ⟨#[]⟩, .int .i64 0, .bool false, .string ⟨#[]⟩, .string ⟨#[]⟩, .int .i64 0, .string ⟨#[]⟩, .string ⟨#[]⟩, .string ⟨#[]⟩, .bool false, .string ⟨#[]⟩, .bool false, .slice none 0 0, .int .i64 0, .slice none 0 0]) 16 216 Try.underlying22 hi0 hz0 hz1 hz2 rfl ?_ u ys.length ys.flatten ?_ hoA ⟨w.heap.size + 1, 0, none⟩ 1 1 [.bool v.g.org.sec, .string v.g.org.host, .int .i64 v.g.org.port, .bool v.g.proxy, .string v.g.user, .string v.g.pass, .int .i64 v.g.ask.sch, .string v.g.ask.realm, .string v.g.ask.nonce, .string v.g.ask.opq, .bool v.g.ask.sess, .string v.g.ask.qop, .bool v.g.ask.stale, v.dv, .int .i64 v.g.count, v.pv] ?_ ?_ ?_ ?_ ?_ ?_ ?_ ?_ w2.heap.size ?_ ?_; (· omega); (· rfl); (· rfl); (· rfl); (· exact World.news_of_block (cs := #[.bool v.g.org.sec, .string v.g.org.host, .int .i64 v.g.org.port, .bool v.g.proxy, .string v.g.user, .string v.g.pass, .int .i64 v.g.ask.sch, .string v.g.ask.realm, .string v.g.ask.nonce, .string v.g.ask.opq, .bool v.g.ask.sess, .string v.g.ask.qop, .bool v.g.ask.stale, v.dv, .int .i64 v.g.count, v.pv]) (t := 36) (fr := (0, 0)) (renG_news HP.out.1 HR.out)); (· exact HP.out.2.2.1); (· omega); (· unfold maxLen; have := HL.out; omega); (· have := HL.out; omega); (· have := HR.out.grown.size; omega); (· rfl); intro g4 cap4 w4 hown4 hg4 hat4 hlt4; have HF := renG_end HP.out.1 HB HR.out (below_grown (Below.refl _ _) _) hg4 (HR.out.own.appended rfl rfl HP.out.2.2.1 hown4) hat4 (by have := HR.out.grown.size; omega); have hbx4 := HF.out.2.2.1; have hQ4 : w4.cell? ⟨w.heap.size, 0, none⟩ = some (.bool v.g.org.sec) ∧ w4.cell? ⟨w.heap.size, 1, none⟩ = some (.string v.g.org.host) ∧ w4.cell? ⟨w.heap.size, 2, none⟩ = some (.int .i64 v.g.org.port) ∧ w4.cell? ⟨w.heap.size, 3, none⟩ = some (.bool v.g.proxy) ∧ w4.cell? ⟨w.heap.size, 4, none⟩ = some (.string v.g.user) ∧ w4.cell? ⟨w.heap.size, 5, none⟩ = some (.string v.g.pass) ∧ w4.cell? ⟨w.heap.size, 6, none⟩ = some (.int .i64 v.g.ask.sch) ∧ w4.cell? ⟨w.heap.size, 7, none⟩ = some (.string v.g.ask.realm) ∧ w4.cell? ⟨w.heap.size, 8, none⟩ = some (.string v.g.ask.nonce) ∧ w4.cell? ⟨w.heap.size, 9, none⟩ = some (.string v.g.ask.opq) ∧ w4.cell? ⟨w.heap.size, 10, none⟩ = some (.bool v.g.ask.sess) ∧ w4.cell? ⟨w.heap.size, 11, none⟩ = some (.string v.g.ask.qop) ∧ w4.cell? ⟨w.heap.size, 12, none⟩ = some (.bool v.g.ask.stale) ∧ w4.cell? ⟨w.heap.size, 13, none⟩ = some (v.dv) ∧ w4.cell? ⟨w.heap.size, 14, none⟩ = some (.int .i64 v.g.count) ∧ w4.cell? ⟨w.heap.size, 15, none⟩ = some (v.pv) := ⟨(cell_of (i := 0) hbx4).trans rfl, (cell_of (i := 1) hbx4).trans rfl, (cell_of (i := 2) hbx4).trans rfl, (cell_of (i := 3) hbx4).trans rfl, (cell_of (i := 4) hbx4).trans rfl, (cell_of (i := 5) hbx4).trans rfl, (cell_of (i := 6) hbx4).trans rfl, (cell_of (i := 7) hbx4).trans rfl, (cell_of (i := 8) hbx4).trans rfl, (cell_of (i := 9) hbx4).trans rfl, (cell_of (i := 10) hbx4).trans rfl, (cell_of (i := 11) hbx4).trans rfl, (cell_of (i := 12) hbx4).trans rfl, (cell_of (i := 13) hbx4).trans rfl, (cell_of (i := 14) hbx4).trans rfl, (cell_of (i := 15) hbx4).trans rfl⟩; clear hbx4 hown4 hg4 hat4 hlt4 hoA)
    | (go_at_call 17; refine (hcall (w.alloc (.cells #[.bool v.g.org.sec, .string v.g.org.host, .int .i64 v.g.org.port, .bool v.g.proxy, .string v.g.user, .string v.g.pass, .int .i64 v.g.ask.sch, .string v.g.ask.realm, .string v.g.ask.nonce, .string v.g.ask.opq, .bool v.g.ask.sess, .string v.g.ask.qop, .bool v.g.ask.stale, v.dv, .int .i64 v.g.count, v.pv] 36)).drew (Below.refl _ _).drew).mono ?_; rintro e w2 ⟨u, rfl, HR⟩; have hbx := HR.out.box; have hQ2 : w2.cell? ⟨w.heap.size, 0, none⟩ = some (.bool v.g.org.sec) ∧ w2.cell? ⟨w.heap.size, 1, none⟩ = some (.string v.g.org.host) ∧ w2.cell? ⟨w.heap.size, 2, none⟩ = some (.int .i64 v.g.org.port) ∧ w2.cell? ⟨w.heap.size, 3, none⟩ = some (.bool v.g.proxy) ∧ w2.cell? ⟨w.heap.size, 4, none⟩ = some (.string v.g.user) ∧ w2.cell? ⟨w.heap.size, 5, none⟩ = some (.string v.g.pass) ∧ w2.cell? ⟨w.heap.size, 6, none⟩ = some (.int .i64 v.g.ask.sch) ∧ w2.cell? ⟨w.heap.size, 7, none⟩ = some (.string v.g.ask.realm) ∧ w2.cell? ⟨w.heap.size, 8, none⟩ = some (.string v.g.ask.nonce) ∧ w2.cell? ⟨w.heap.size, 9, none⟩ = some (.string v.g.ask.opq) ∧ w2.cell? ⟨w.heap.size, 10, none⟩ = some (.bool v.g.ask.sess) ∧ w2.cell? ⟨w.heap.size, 11, none⟩ = some (.string v.g.ask.qop) ∧ w2.cell? ⟨w.heap.size, 12, none⟩ = some (.bool v.g.ask.stale) ∧ w2.cell? ⟨w.heap.size, 13, none⟩ = some (v.dv) ∧ w2.cell? ⟨w.heap.size, 14, none⟩ = some (.int .i64 v.g.count) ∧ w2.cell? ⟨w.heap.size, 15, none⟩ = some (v.pv) := ⟨(cell_of (i := 0) hbx).trans rfl, (cell_of (i := 1) hbx).trans rfl, (cell_of (i := 2) hbx).trans rfl, (cell_of (i := 3) hbx).trans rfl, (cell_of (i := 4) hbx).trans rfl, (cell_of (i := 5) hbx).trans rfl, (cell_of (i := 6) hbx).trans rfl, (cell_of (i := 7) hbx).trans rfl, (cell_of (i := 8) hbx).trans rfl, (cell_of (i := 9) hbx).trans rfl, (cell_of (i := 10) hbx).trans rfl, (cell_of (i := 11) hbx).trans rfl, (cell_of (i := 12) hbx).trans rfl, (cell_of (i := 13) hbx).trans rfl, (cell_of (i := 14) hbx).trans rfl, (cell_of (i := 15) hbx).trans rfl⟩; have hbx2 := box_alloc hbx (.cells #[.bool v.g.org.sec, .string v.g.org.host, .int .i64 v.g.org.port, .bool v.g.proxy, .string v.g.user, .string v.g.pass, .int .i64 v.g.ask.sch, .string v.g.ask.realm, .string v.g.ask.nonce, .string v.g.ask.opq, .bool v.g.ask.sess, .string v.g.ask.qop, .bool v.g.ask.stale, v.dv, .int .i64 v.g.count, v.pv] 36); have hQ3 : (w2.alloc (.cells #[.bool v.g.org.sec, .string v.g.org.host, .int .i64 v.g.org.port, .bool v.g.proxy, .string v.g.user, .string v.g.pass, .int .i64 v.g.ask.sch, .string v.g.ask.realm, .string v.g.ask.nonce, .string v.g.ask.opq, .bool v.g.ask.sess, .string v.g.ask.qop, .bool v.g.ask.stale, v.dv, .int .i64 v.g.count, v.pv] 36)).cell? ⟨w.heap.size, 0, none⟩ = some (.bool v.g.org.sec) ∧ (w2.alloc (.cells #[.bool v.g.org.sec, .string v.g.org.host, .int .i64 v.g.org.port, .bool v.g.proxy, .string v.g.user, .string v.g.pass, .int .i64 v.g.ask.sch, .string v.g.ask.realm, .string v.g.ask.nonce, .string v.g.ask.opq, .bool v.g.ask.sess, .string v.g.ask.qop, .bool v.g.ask.stale, v.dv, .int .i64 v.g.count, v.pv] 36)).cell? ⟨w.heap.size, 1, none⟩ = some (.string v.g.org.host) ∧ (w2.alloc (.cells #[.bool v.g.org.sec, .string v.g.org.host, .int .i64 v.g.org.port, .bool v.g.proxy, .string v.g.user, .string v.g.pass, .int .i64 v.g.ask.sch, .string v.g.ask.realm, .string v.g.ask.nonce, .string v.g.ask.opq, .bool v.g.ask.sess, .string v.g.ask.qop, .bool v.g.ask.stale, v.dv, .int .i64 v.g.count, v.pv] 36)).cell? ⟨w.heap.size, 2, none⟩ = some (.int .i64 v.g.org.port) ∧ (w2.alloc (.cells #[.bool v.g.org.sec, .string v.g.org.host, .int .i64 v.g.org.port, .bool v.g.proxy, .string v.g.user, .string v.g.pass, .int .i64 v.g.ask.sch, .string v.g.ask.realm, .string v.g.ask.nonce, .string v.g.ask.opq, .bool v.g.ask.sess, .string v.g.ask.qop, .bool v.g.ask.stale, v.dv, .int .i64 v.g.count, v.pv] 36)).cell? ⟨w.heap.size, 3, none⟩ = some (.bool v.g.proxy) ∧ (w2.alloc (.cells #[.bool v.g.org.sec, .string v.g.org.host, .int .i64 v.g.org.port, .bool v.g.proxy, .string v.g.user, .string v.g.pass, .int .i64 v.g.ask.sch, .string v.g.ask.realm, .string v.g.ask.nonce, .string v.g.ask.opq, .bool v.g.ask.sess, .string v.g.ask.qop, .bool v.g.ask.stale, v.dv, .int .i64 v.g.count, v.pv] 36)).cell? ⟨w.heap.size, 4, none⟩ = some (.string v.g.user) ∧ (w2.alloc (.cells #[.bool v.g.org.sec, .string v.g.org.host, .int .i64 v.g.org.port, .bool v.g.proxy, .string v.g.user, .string v.g.pass, .int .i64 v.g.ask.sch, .string v.g.ask.realm, .string v.g.ask.nonce, .string v.g.ask.opq, .bool v.g.ask.sess, .string v.g.ask.qop, .bool v.g.ask.stale, v.dv, .int .i64 v.g.count, v.pv] 36)).cell? ⟨w.heap.size, 5, none⟩ = some (.string v.g.pass) ∧ (w2.alloc (.cells #[.bool v.g.org.sec, .string v.g.org.host, .int .i64 v.g.org.port, .bool v.g.proxy, .string v.g.user, .string v.g.pass, .int .i64 v.g.ask.sch, .string v.g.ask.realm, .string v.g.ask.nonce, .string v.g.ask.opq, .bool v.g.ask.sess, .string v.g.ask.qop, .bool v.g.ask.stale, v.dv, .int .i64 v.g.count, v.pv] 36)).cell? ⟨w.heap.size, 6, none⟩ = some (.int .i64 v.g.ask.sch) ∧ (w2.alloc (.cells #[.bool v.g.org.sec, .string v.g.org.host, .int .i64 v.g.org.port, .bool v.g.proxy, .string v.g.user, .string v.g.pass, .int .i64 v.g.ask.sch, .string v.g.ask.realm, .string v.g.ask.nonce, .string v.g.ask.opq, .bool v.g.ask.sess, .string v.g.ask.qop, .bool v.g.ask.stale, v.dv, .int .i64 v.g.count, v.pv] 36)).cell? ⟨w.heap.size, 7, none⟩ = some (.string v.g.ask.realm) ∧ (w2.alloc (.cells #[.bool v.g.org.sec, .string v.g.org.host, .int .i64 v.g.org.port, .bool v.g.proxy, .string v.g.user, .string v.g.pass, .int .i64 v.g.ask.sch, .string v.g.ask.realm, .string v.g.ask.nonce, .string v.g.ask.opq, .bool v.g.ask.sess, .string v.g.ask.qop, .bool v.g.ask.stale, v.dv, .int .i64 v.g.count, v.pv] 36)).cell? ⟨w.heap.size, 8, none⟩ = some (.string v.g.ask.nonce) ∧ (w2.alloc (.cells #[.bool v.g.org.sec, .string v.g.org.host, .int .i64 v.g.org.port, .bool v.g.proxy, .string v.g.user, .string v.g.pass, .int .i64 v.g.ask.sch, .string v.g.ask.realm, .string v.g.ask.nonce, .string v.g.ask.opq, .bool v.g.ask.sess, .string v.g.ask.qop, .bool v.g.ask.stale, v.dv, .int .i64 v.g.count, v.pv] 36)).cell? ⟨w.heap.size, 9, none⟩ = some (.string v.g.ask.opq) ∧ (w2.alloc (.cells #[.bool v.g.org.sec, .string v.g.org.host, .int .i64 v.g.org.port, .bool v.g.proxy, .string v.g.user, .string v.g.pass, .int .i64 v.g.ask.sch, .string v.g.ask.realm, .string v.g.ask.nonce, .string v.g.ask.opq, .bool v.g.ask.sess, .string v.g.ask.qop, .bool v.g.ask.stale, v.dv, .int .i64 v.g.count, v.pv] 36)).cell? ⟨w.heap.size, 10, none⟩ = some (.bool v.g.ask.sess) ∧ (w2.alloc (.cells #[.bool v.g.org.sec, .string v.g.org.host, .int .i64 v.g.org.port, .bool v.g.proxy, .string v.g.user, .string v.g.pass, .int .i64 v.g.ask.sch, .string v.g.ask.realm, .string v.g.ask.nonce, .string v.g.ask.opq, .bool v.g.ask.sess, .string v.g.ask.qop, .bool v.g.ask.stale, v.dv, .int .i64 v.g.count, v.pv] 36)).cell? ⟨w.heap.size, 11, none⟩ = some (.string v.g.ask.qop) ∧ (w2.alloc (.cells #[.bool v.g.org.sec, .string v.g.org.host, .int .i64 v.g.org.port, .bool v.g.proxy, .string v.g.user, .string v.g.pass, .int .i64 v.g.ask.sch, .string v.g.ask.realm, .string v.g.ask.nonce, .string v.g.ask.opq, .bool v.g.ask.sess, .string v.g.ask.qop, .bool v.g.ask.stale, v.dv, .int .i64 v.g.count, v.pv] 36)).cell? ⟨w.heap.size, 12, none⟩ = some (.bool v.g.ask.stale) ∧ (w2.alloc (.cells #[.bool v.g.org.sec, .string v.g.org.host, .int .i64 v.g.org.port, .bool v.g.proxy, .string v.g.user, .string v.g.pass, .int .i64 v.g.ask.sch, .string v.g.ask.realm, .string v.g.ask.nonce, .string v.g.ask.opq, .bool v.g.ask.sess, .string v.g.ask.qop, .bool v.g.ask.stale, v.dv, .int .i64 v.g.count, v.pv] 36)).cell? ⟨w.heap.size, 13, none⟩ = some (v.dv) ∧ (w2.alloc (.cells #[.bool v.g.org.sec, .string v.g.org.host, .int .i64 v.g.org.port, .bool v.g.proxy, .string v.g.user, .string v.g.pass, .int .i64 v.g.ask.sch, .string v.g.ask.realm, .string v.g.ask.nonce, .string v.g.ask.opq, .bool v.g.ask.sess, .string v.g.ask.qop, .bool v.g.ask.stale, v.dv, .int .i64 v.g.count, v.pv] 36)).cell? ⟨w.heap.size, 14, none⟩ = some (.int .i64 v.g.count) ∧ (w2.alloc (.cells #[.bool v.g.org.sec, .string v.g.org.host, .int .i64 v.g.org.port, .bool v.g.proxy, .string v.g.user, .string v.g.pass, .int .i64 v.g.ask.sch, .string v.g.ask.realm, .string v.g.ask.nonce, .string v.g.ask.opq, .bool v.g.ask.sess, .string v.g.ask.qop, .bool v.g.ask.stale, v.dv, .int .i64 v.g.count, v.pv] 36)).cell? ⟨w.heap.size, 15, none⟩ = some (v.pv) := ⟨(cell_of (i := 0) hbx2).trans rfl, (cell_of (i := 1) hbx2).trans rfl, (cell_of (i := 2) hbx2).trans rfl, (cell_of (i := 3) hbx2).trans rfl, (cell_of (i := 4) hbx2).trans rfl, (cell_of (i := 5) hbx2).trans rfl, (cell_of (i := 6) hbx2).trans rfl, (cell_of (i := 7) hbx2).trans rfl, (cell_of (i := 8) hbx2).trans rfl, (cell_of (i := 9) hbx2).trans rfl, (cell_of (i := 10) hbx2).trans rfl, (cell_of (i := 11) hbx2).trans rfl, (cell_of (i := 12) hbx2).trans rfl, (cell_of (i := 13) hbx2).trans rfl, (cell_of (i := 14) hbx2).trans rfl, (cell_of (i := 15) hbx2).trans rfl⟩; clear hbx hbx2)
    | (go_at_call 17; refine (hcall ((w.alloc (.cells #[.bool v.g.org.sec, .string v.g.org.host, .int .i64 v.g.org.port, .bool v.g.proxy, .string v.g.user, .string v.g.pass, .int .i64 v.g.ask.sch, .string v.g.ask.realm, .string v.g.ask.nonce, .string v.g.ask.opq, .bool v.g.ask.sess, .string v.g.ask.qop, .bool v.g.ask.stale, v.dv, .int .i64 v.g.count, v.pv] 36)).alloc (.cells #[.bool v.g.org.sec, .string v.g.org.host, .int .i64 v.g.org.port, .bool v.g.proxy, .string v.g.user, .string v.g.pass, .int .i64 v.g.ask.sch, .string v.g.ask.realm, .string v.g.ask.nonce, .string v.g.ask.opq, .bool v.g.ask.sess, .string v.g.ask.qop, .bool v.g.ask.stale, v.dv, .int .i64 v.g.count, v.pv] 36)).drew ((Below.refl _ _).alloc (Nat.le_refl _) _).drew).mono ?_; rintro e w2 ⟨u, rfl, HR⟩; have hbx := HR.out.box; have hQ2 : w2.cell? ⟨w.heap.size, 0, none⟩ = some (.bool v.g.org.sec) ∧ w2.cell? ⟨w.heap.size, 1, none⟩ = some (.string v.g.org.host) ∧ w2.cell? ⟨w.heap.size, 2, none⟩ = some (.int .i64 v.g.org.port) ∧ w2.cell? ⟨w.heap.size, 3, none⟩ = some (.bool v.g.proxy) ∧ w2.cell? ⟨w.heap.size, 4, none⟩ = some (.string v.g.user) ∧ w2.cell? ⟨w.heap.size, 5, none⟩ = some (.string v.g.pass) ∧ w2.cell? ⟨w.heap.size, 6, none⟩ = some (.int .i64 v.g.ask.sch) ∧ w2.cell? ⟨w.heap.size, 7, none⟩ = some (.string v.g.ask.realm) ∧ w2.cell? ⟨w.heap.size, 8, none⟩ = some (.string v.g.ask.nonce) ∧ w2.cell? ⟨w.heap.size, 9, none⟩ = some (.string v.g.ask.opq) ∧ w2.cell? ⟨w.heap.size, 10, none⟩ = some (.bool v.g.ask.sess) ∧ w2.cell? ⟨w.heap.size, 11, none⟩ = some (.string v.g.ask.qop) ∧ w2.cell? ⟨w.heap.size, 12, none⟩ = some (.bool v.g.ask.stale) ∧ w2.cell? ⟨w.heap.size, 13, none⟩ = some (v.dv) ∧ w2.cell? ⟨w.heap.size, 14, none⟩ = some (.int .i64 v.g.count) ∧ w2.cell? ⟨w.heap.size, 15, none⟩ = some (v.pv) := ⟨(cell_of (i := 0) hbx).trans rfl, (cell_of (i := 1) hbx).trans rfl, (cell_of (i := 2) hbx).trans rfl, (cell_of (i := 3) hbx).trans rfl, (cell_of (i := 4) hbx).trans rfl, (cell_of (i := 5) hbx).trans rfl, (cell_of (i := 6) hbx).trans rfl, (cell_of (i := 7) hbx).trans rfl, (cell_of (i := 8) hbx).trans rfl, (cell_of (i := 9) hbx).trans rfl, (cell_of (i := 10) hbx).trans rfl, (cell_of (i := 11) hbx).trans rfl, (cell_of (i := 12) hbx).trans rfl, (cell_of (i := 13) hbx).trans rfl, (cell_of (i := 14) hbx).trans rfl, (cell_of (i := 15) hbx).trans rfl⟩; have hbx2 := box_alloc hbx (.cells #[.bool v.g.org.sec, .string v.g.org.host, .int .i64 v.g.org.port, .bool v.g.proxy, .string v.g.user, .string v.g.pass, .int .i64 v.g.ask.sch, .string v.g.ask.realm, .string v.g.ask.nonce, .string v.g.ask.opq, .bool v.g.ask.sess, .string v.g.ask.qop, .bool v.g.ask.stale, v.dv, .int .i64 v.g.count, v.pv] 36); have hQ3 : (w2.alloc (.cells #[.bool v.g.org.sec, .string v.g.org.host, .int .i64 v.g.org.port, .bool v.g.proxy, .string v.g.user, .string v.g.pass, .int .i64 v.g.ask.sch, .string v.g.ask.realm, .string v.g.ask.nonce, .string v.g.ask.opq, .bool v.g.ask.sess, .string v.g.ask.qop, .bool v.g.ask.stale, v.dv, .int .i64 v.g.count, v.pv] 36)).cell? ⟨w.heap.size, 0, none⟩ = some (.bool v.g.org.sec) ∧ (w2.alloc (.cells #[.bool v.g.org.sec, .string v.g.org.host, .int .i64 v.g.org.port, .bool v.g.proxy, .string v.g.user, .string v.g.pass, .int .i64 v.g.ask.sch, .string v.g.ask.realm, .string v.g.ask.nonce, .string v.g.ask.opq, .bool v.g.ask.sess, .string v.g.ask.qop, .bool v.g.ask.stale, v.dv, .int .i64 v.g.count, v.pv] 36)).cell? ⟨w.heap.size, 1, none⟩ = some (.string v.g.org.host) ∧ (w2.alloc (.cells #[.bool v.g.org.sec, .string v.g.org.host, .int .i64 v.g.org.port, .bool v.g.proxy, .string v.g.user, .string v.g.pass, .int .i64 v.g.ask.sch, .string v.g.ask.realm, .string v.g.ask.nonce, .string v.g.ask.opq, .bool v.g.ask.sess, .string v.g.ask.qop, .bool v.g.ask.stale, v.dv, .int .i64 v.g.count, v.pv] 36)).cell? ⟨w.heap.size, 2, none⟩ = some (.int .i64 v.g.org.port) ∧ (w2.alloc (.cells #[.bool v.g.org.sec, .string v.g.org.host, .int .i64 v.g.org.port, .bool v.g.proxy, .string v.g.user, .string v.g.pass, .int .i64 v.g.ask.sch, .string v.g.ask.realm, .string v.g.ask.nonce, .string v.g.ask.opq, .bool v.g.ask.sess, .string v.g.ask.qop, .bool v.g.ask.stale, v.dv, .int .i64 v.g.count, v.pv] 36)).cell? ⟨w.heap.size, 3, none⟩ = some (.bool v.g.proxy) ∧ (w2.alloc (.cells #[.bool v.g.org.sec, .string v.g.org.host, .int .i64 v.g.org.port, .bool v.g.proxy, .string v.g.user, .string v.g.pass, .int .i64 v.g.ask.sch, .string v.g.ask.realm, .string v.g.ask.nonce, .string v.g.ask.opq, .bool v.g.ask.sess, .string v.g.ask.qop, .bool v.g.ask.stale, v.dv, .int .i64 v.g.count, v.pv] 36)).cell? ⟨w.heap.size, 4, none⟩ = some (.string v.g.user) ∧ (w2.alloc (.cells #[.bool v.g.org.sec, .string v.g.org.host, .int .i64 v.g.org.port, .bool v.g.proxy, .string v.g.user, .string v.g.pass, .int .i64 v.g.ask.sch, .string v.g.ask.realm, .string v.g.ask.nonce, .string v.g.ask.opq, .bool v.g.ask.sess, .string v.g.ask.qop, .bool v.g.ask.stale, v.dv, .int .i64 v.g.count, v.pv] 36)).cell? ⟨w.heap.size, 5, none⟩ = some (.string v.g.pass) ∧ (w2.alloc (.cells #[.bool v.g.org.sec, .string v.g.org.host, .int .i64 v.g.org.port, .bool v.g.proxy, .string v.g.user, .string v.g.pass, .int .i64 v.g.ask.sch, .string v.g.ask.realm, .string v.g.ask.nonce, .string v.g.ask.opq, .bool v.g.ask.sess, .string v.g.ask.qop, .bool v.g.ask.stale, v.dv, .int .i64 v.g.count, v.pv] 36)).cell? ⟨w.heap.size, 6, none⟩ = some (.int .i64 v.g.ask.sch) ∧ (w2.alloc (.cells #[.bool v.g.org.sec, .string v.g.org.host, .int .i64 v.g.org.port, .bool v.g.proxy, .string v.g.user, .string v.g.pass, .int .i64 v.g.ask.sch, .string v.g.ask.realm, .string v.g.ask.nonce, .string v.g.ask.opq, .bool v.g.ask.sess, .string v.g.ask.qop, .bool v.g.ask.stale, v.dv, .int .i64 v.g.count, v.pv] 36)).cell? ⟨w.heap.size, 7, none⟩ = some (.string v.g.ask.realm) ∧ (w2.alloc (.cells #[.bool v.g.org.sec, .string v.g.org.host, .int .i64 v.g.org.port, .bool v.g.proxy, .string v.g.user, .string v.g.pass, .int .i64 v.g.ask.sch, .string v.g.ask.realm, .string v.g.ask.nonce, .string v.g.ask.opq, .bool v.g.ask.sess, .string v.g.ask.qop, .bool v.g.ask.stale, v.dv, .int .i64 v.g.count, v.pv] 36)).cell? ⟨w.heap.size, 8, none⟩ = some (.string v.g.ask.nonce) ∧ (w2.alloc (.cells #[.bool v.g.org.sec, .string v.g.org.host, .int .i64 v.g.org.port, .bool v.g.proxy, .string v.g.user, .string v.g.pass, .int .i64 v.g.ask.sch, .string v.g.ask.realm, .string v.g.ask.nonce, .string v.g.ask.opq, .bool v.g.ask.sess, .string v.g.ask.qop, .bool v.g.ask.stale, v.dv, .int .i64 v.g.count, v.pv] 36)).cell? ⟨w.heap.size, 9, none⟩ = some (.string v.g.ask.opq) ∧ (w2.alloc (.cells #[.bool v.g.org.sec, .string v.g.org.host, .int .i64 v.g.org.port, .bool v.g.proxy, .string v.g.user, .string v.g.pass, .int .i64 v.g.ask.sch, .string v.g.ask.realm, .string v.g.ask.nonce, .string v.g.ask.opq, .bool v.g.ask.sess, .string v.g.ask.qop, .bool v.g.ask.stale, v.dv, .int .i64 v.g.count, v.pv] 36)).cell? ⟨w.heap.size, 10, none⟩ = some (.bool v.g.ask.sess) ∧ (w2.alloc (.cells #[.bool v.g.org.sec, .string v.g.org.host, .int .i64 v.g.org.port, .bool v.g.proxy, .string v.g.user, .string v.g.pass, .int .i64 v.g.ask.sch, .string v.g.ask.realm, .string v.g.ask.nonce, .string v.g.ask.opq, .bool v.g.ask.sess, .string v.g.ask.qop, .bool v.g.ask.stale, v.dv, .int .i64 v.g.count, v.pv] 36)).cell? ⟨w.heap.size, 11, none⟩ = some (.string v.g.ask.qop) ∧ (w2.alloc (.cells #[.bool v.g.org.sec, .string v.g.org.host, .int .i64 v.g.org.port, .bool v.g.proxy, .string v.g.user, .string v.g.pass, .int .i64 v.g.ask.sch, .string v.g.ask.realm, .string v.g.ask.nonce, .string v.g.ask.opq, .bool v.g.ask.sess, .string v.g.ask.qop, .bool v.g.ask.stale, v.dv, .int .i64 v.g.count, v.pv] 36)).cell? ⟨w.heap.size, 12, none⟩ = some (.bool v.g.ask.stale) ∧ (w2.alloc (.cells #[.bool v.g.org.sec, .string v.g.org.host, .int .i64 v.g.org.port, .bool v.g.proxy, .string v.g.user, .string v.g.pass, .int .i64 v.g.ask.sch, .string v.g.ask.realm, .string v.g.ask.nonce, .string v.g.ask.opq, .bool v.g.ask.sess, .string v.g.ask.qop, .bool v.g.ask.stale, v.dv, .int .i64 v.g.count, v.pv] 36)).cell? ⟨w.heap.size, 13, none⟩ = some (v.dv) ∧ (w2.alloc (.cells #[.bool v.g.org.sec, .string v.g.org.host, .int .i64 v.g.org.port, .bool v.g.proxy, .string v.g.user, .string v.g.pass, .int .i64 v.g.ask.sch, .string v.g.ask.realm, .string v.g.ask.nonce, .string v.g.ask.opq, .bool v.g.ask.sess, .string v.g.ask.qop, .bool v.g.ask.stale, v.dv, .int .i64 v.g.count, v.pv] 36)).cell? ⟨w.heap.size, 14, none⟩ = some (.int .i64 v.g.count) ∧ (w2.alloc (.cells #[.bool v.g.org.sec, .string v.g.org.host, .int .i64 v.g.org.port, .bool v.g.proxy, .string v.g.user, .string v.g.pass, .int .i64 v.g.ask.sch, .string v.g.ask.realm, .string v.g.ask.nonce, .string v.g.ask.opq, .bool v.g.ask.sess, .string v.g.ask.qop, .bool v.g.ask.stale, v.dv, .int .i64 v.g.count, v.pv] 36)).cell? ⟨w.heap.size, 15, none⟩ = some (v.pv) := ⟨(cell_of (i := 0) hbx2).trans rfl, (cell_of (i := 1) hbx2).trans rfl, (cell_of (i := 2) hbx2).trans rfl, (cell_of (i := 3) hbx2).trans rfl, (cell_of (i := 4) hbx2).trans rfl, (cell_of (i := 5) hbx2).trans rfl, (cell_of (i := 6) hbx2).trans rfl, (cell_of (i := 7) hbx2).trans rfl, (cell_of (i := 8) hbx2).trans rfl, (cell_of (i := 9) hbx2).trans rfl, (cell_of (i := 10) hbx2).trans rfl, (cell_of (i := 11) hbx2).trans rfl, (cell_of (i := 12) hbx2).trans rfl, (cell_of (i := 13) hbx2).trans rfl, (cell_of (i := 14) hbx2).trans rfl, (cell_of (i := 15) hbx2).trans rfl⟩; clear hbx hbx2))
  all_goals
    obtain ⟨n1, HN1⟩ : ∃ n1, Hid (ys.length + 1 = n1) := ⟨_, rfl⟩
    rw [HN1.out] at HF ⊢
    have HN2 : Hid ((ys ++ [[.bool v.g.org.sec, .string v.g.org.host, .int .i64 v.g.org.port, .bool v.g.proxy, .string v.g.user, .string v.g.pass, .int .i64 v.g.ask.sch, .string v.g.ask.realm, .string v.g.ask.nonce, .string v.g.ask.opq, .bool v.g.ask.sess, .string v.g.ask.qop, .bool v.g.ask.stale, v.dv, .int .i64 v.g.count, v.pv]]).length = n1 ∧ cap4 ≤ 9223372036854775807) := by
      refine ⟨by rw [List.length_append, List.length_singleton]; exact HN1.out, ?_⟩
      rcases HF.out.1.forms with ⟨e, _⟩ | ⟨g', cap', e, _, _, _, h2⟩
      · cases e
      · injection e with _ _ e3
        rw [e3]
        unfold maxLen at h2
        omega
    have HE : Hid (∀ k w5, OwnK 16 36 w5 B (.slice (some ⟨g4, 0, none⟩) k cap4) (last8 (ys ++ [[.bool v.g.org.sec, .string v.g.org.host, .int .i64 v.g.org.port, .bool v.g.proxy, .string v.g.user, .string v.g.pass, .int .i64 v.g.ask.sch, .string v.g.ask.realm, .string v.g.ask.nonce, .string v.g.ask.opq, .bool v.g.ask.sess, .string v.g.ask.qop, .bool v.g.ask.stale, v.dv, .int .i64 v.g.count, v.pv]])) → w4.grownBy w5 (some g4) → OwnK 16 36 w5 B (.slice (some ⟨g4, 0, none⟩) k cap4) (last8 (ys ++ [[.bool v.g.org.sec, .string v.g.org.host, .int .i64 v.g.org.port, .bool v.g.proxy, .string v.g.user, .string v.g.pass, .int .i64 v.g.ask.sch, .string v.g.ask.realm, .string v.g.ask.nonce, .string v.g.ask.opq, .bool v.g.ask.sess, .string v.g.ask.qop, .bool v.g.ask.stale, v.dv, .int .i64 v.g.count, v.pv]])) ∧ w.grownBy w5 val.ownBlock ∧ ∀ j, (Value.slice (some ⟨g4, 0, none⟩) k cap4).ownBlock = some j → val.ownBlock = some j ∨ w.heap.size ≤ j) := fun k w5 h1 h2 => ⟨h1, gcomp HF.out.2.1 h2 (fun j hj => by injection hj with hj; subst hj; exact HF.out.2.2.2), fun j hj => by
      have e : g4 = j := by simpa [Value.ownBlock] using hj
      subst e
      exact HF.out.2.2.2⟩
    have HNL : Hid ((n1 : Int) ≤ 100000) := by show _ ≤ _; have := HL.out; have := HN1.out; omega
    clear hcall
    go_wp2_with fail
    refine (cut8G g4 n1 cap4 B _ HN2.out.1 HN2.out.2 _ HF.out.1 _ ?hz).mono ?_
    case hz =>
      unfold wrap64
      have := HNL.out
      omega
    rintro e w5 ⟨k, rfl, H5⟩
    go_wp2
    go_ret
    exact ⟨_, rfl, HE.out k w5 H5.out.1 H5.out.2⟩
end Go.Proofs.Ytjadmldnpdmamaa

/- The bank's closures that find grants. -/
namespace Go.Proofs.Ytjadmldnpdmamaa
open Go.RowKit
set_option linter.unusedVariables false

def orgB (a b : OrgV) : Bool := a.sec == b.sec && (a.host.toList == b.host.toList && a.port == b.port)
theorem eqOrg (a b : OrgV) (E : Bool) (hE : orgB a b = E) (w : World) :
    (Op.equalIn 10000 24 (.agg #[.bool a.sec, .string a.host, .int .i64 a.port]) (.agg #[.bool b.sec, .string b.host, .int .i64 b.port])).run Try.prog w = .ok E w := by
  have u3 := Try.underlying3
  have u4 := Try.underlying4
  have u9 := Try.underlying9
  have a3 := Try.isAgg3
  have z3 := Try.sizeOf3
  have hS : Try.prog.underlying 24 = some (.struct (Try.prog.fieldsOf 24)) := by kernel_rfl
  have hp : Try.prog.stoodInHeld 24 = false := by kernel_rfl
  rw [show (10000 : Nat) = 9999 + 1 from rfl, run_equalIn_agg w 9999 24 _ _ hS hp, ← hE]
  unfold orgB
  simp only [Program.fieldsOf, Try.underlying24]
  go_simp
  by_cases h1 : a.sec = b.sec <;> by_cases h2 : a.host.toList = b.host.toList <;> by_cases h3 : a.port = b.port <;> simp [h1, h2, h3]
/-- Whether a grant is an origin's, of a proxy or not, and of a realm. -/
def realmB (o : OrgV) (p : Bool) (r : ByteArray) (g : GrP) : Bool := orgB g.org o && (g.proxy == p && g.ask.realm.toList == r.toList)
/-- What a function of origin, proxy and realm says of a grant's cells. -/
def onG (q : OrgV → Bool → ByteArray → Bool) : List Value → Bool
  | .bool s :: .string h :: .int _ n :: .bool p :: _ :: _ :: _ :: .string r :: _ => q ⟨s, h, n⟩ p r
  | _ => false
theorem onG_at (q : OrgV → Bool → ByteArray → Bool) (v : GrV) : onG q (grCells v) = q v.g.org v.g.proxy v.g.ask.realm := rfl
/-- Three boxes of an origin, a proxy, and a text. -/
structure Box3 (w : World) (a b c : Nat) (o : OrgV) (p : Bool) (r : ByteArray) : Prop where
  org : w.heap[a]? = some (.cells #[.bool o.sec, .string o.host, .int .i64 o.port] 24 (0, 0))
  prx : w.heap[b]? = some (.cells #[.bool p] 4 (0, 0))
  txt : w.heap[c]? = some (.cells #[.string r] 9 (0, 0))
theorem Box3.below {w w' : World} {a b c : Nat} {o : OrgV} {p : Bool} {r : ByteArray} (h : Box3 w a b c o p r) (hb : Below w.heap.size w w') : Box3 w' a b c o p r :=
  ⟨(hb.block _ (Array.getElem?_eq_some_iff.1 h.org).1).trans h.org, (hb.block _ (Array.getElem?_eq_some_iff.1 h.prx).1).trans h.prx, (hb.block _ (Array.getElem?_eq_some_iff.1 h.txt).1).trans h.txt⟩
theorem Box3.grown {w w' : World} {a b c g : Nat} {o : OrgV} {p : Bool} {r : ByteArray} {cs : Array Value} (h : Box3 w a b c o p r) (hg : w.grownBy w' (some g)) (hh : w.heap[g]? = some (.cells cs 36 (0, 0))) : Box3 w' a b c o p r := by
  have ne : ∀ {x : Nat} {cur : Array Value} {t : TypeId}, w.heap[x]? = some (.cells cur t (0, 0)) → t ≠ 36 → some x ≠ some g := fun hx ht e => by
    injection e with e
    subst e
    rw [hx] at hh
    injection hh with hh
    injection hh with _ h3
    exact ht h3
  exact ⟨(hg.block _ (Array.getElem?_eq_some_iff.1 h.org).1 (ne h.org (by decide))).trans h.org, (hg.block _ (Array.getElem?_eq_some_iff.1 h.prx).1 (ne h.prx (by decide))).trans h.prx, (hg.block _ (Array.getElem?_eq_some_iff.1 h.txt).1 (ne h.txt (by decide))).trans h.txt⟩
set_option maxRecDepth 100000 in
set_option maxHeartbeats 4000000 in
theorem grantIs_any (v : GrV) (hone : ∀ u ∈ grCells v, u.oneCell' = true) (o : OrgV) (p : Bool) (r : ByteArray) (a b c : Nat) (w : World) (hb : Box3 w a b c o p r) :
    Calls Try.prog 64 #[.agg (grCells v).toArray, .pointer (some ⟨a, 0, none⟩), .pointer (some ⟨b, 0, none⟩), .pointer (some ⟨c, 0, none⟩)] w fun e w' => e = .returned (.bool (realmB o p r v.g)) ∧ Below w.heap.size w w' := by
  have hbb : Below w.heap.size w (w.alloc (.cells (grCells v).toArray 36)) := (Below.refl _ _).alloc (Nat.le_refl _) _
  have hb2 := hb.below hbb
  have hn := heap_alloc_new w (.cells (grCells v).toArray 36)
  unfold grCells at hbb hb2 hn ⊢
  have HB : Hid (Below w.heap.size w (w.alloc (.cells [Value.bool v.g.org.sec, .string v.g.org.host, .int .i64 v.g.org.port, .bool v.g.proxy, .string v.g.user, .string v.g.pass, .int .i64 v.g.ask.sch, .string v.g.ask.realm, .string v.g.ask.nonce, .string v.g.ask.opq, .bool v.g.ask.sess, .string v.g.ask.qop, .bool v.g.ask.stale, v.dv, .int .i64 v.g.count, v.pv].toArray 36))) := hbb
  have c0 := (cell_of (i := 0) hb2.org)
  have c1 := (cell_of (i := 1) hb2.org)
  have c2 := (cell_of (i := 2) hb2.org)
  have c3 := (cell_of (i := 0) hb2.prx)
  have c4 := (cell_of (i := 0) hb2.txt)
  have n0 := cell_of (i := 0) hn
  have n1 := cell_of (i := 1) hn
  have n2 := cell_of (i := 2) hn
  have n3 := cell_of (i := 3) hn
  have n7 := cell_of (i := 7) hn
  simp only [List.getElem?_toArray, List.getElem?_cons_zero, List.getElem?_cons_succ] at c0 c1 c2 c3 c4 n0 n1 n2 n3 n7
  have e1 := eqOrg v.g.org o (orgB v.g.org o) rfl
  clear hb hb2 hn hbb hone
  go_enter Try.func64, Try.ntmps64
  obtain ⟨E1, h1⟩ : ∃ E, orgB v.g.org o = E := ⟨_, rfl⟩
  obtain ⟨E2, h2⟩ : ∃ E, (v.g.proxy == p) = E := ⟨_, rfl⟩
  obtain ⟨E3, h3⟩ : ∃ E, (v.g.ask.realm.toList == r.toList) = E := ⟨_, rfl⟩
  have HE : Hid (realmB o p r v.g = (E1 && (E2 && E3))) := by show _ = _; unfold realmB; rw [h1, h2, h3]
  rw [h1] at e1
  clear h1
  rw [HE.out]
  cases E1
  · go_wp2
    go_ret
    exact ⟨rfl, HB.out⟩
  · cases E2
    · go_wp2
      go_ret
      exact ⟨rfl, HB.out⟩
    · cases E3
      · go_wp2
        go_ret
        exact ⟨rfl, HB.out⟩
      · go_wp2
        go_ret
        exact ⟨rfl, HB.out⟩
set_option maxRecDepth 100000 in
set_option maxHeartbeats 2000000 in
theorem grantOf_any (o : OrgV) (p : Bool) (r : ByteArray) (w : World) :
    Calls Try.prog 53 #[.agg #[.bool o.sec, .string o.host, .int .i64 o.port], .bool p, .string r] w fun e w' => (∃ a b c, e = .returned (.func (.func 64) #[] #[.pointer (some ⟨a, 0, none⟩), .pointer (some ⟨b, 0, none⟩), .pointer (some ⟨c, 0, none⟩)]) ∧ Hid (Box3 w' a b c o p r)) ∧ Below w.heap.size w w' := by
  have hb1 : Below w.heap.size w (((w.alloc (.cells #[.bool o.sec, .string o.host, .int .i64 o.port] 24)).alloc (.cells #[.bool p] 4)).alloc (.cells #[.string r] 9)) := (((Below.refl _ _).alloc (Nat.le_refl _) _).alloc (by simp) _).alloc (by simp; omega) _
  have h1 : Hid (Box3 (((w.alloc (.cells #[.bool o.sec, .string o.host, .int .i64 o.port] 24)).alloc (.cells #[.bool p] 4)).alloc (.cells #[.string r] 9)) w.heap.size (w.heap.size + 1) (w.heap.size + 2) o p r) := by
    have e1 := heap_alloc_new w (.cells #[.bool o.sec, .string o.host, .int .i64 o.port] 24)
    have e2 := heap_alloc_new (w.alloc (.cells #[.bool o.sec, .string o.host, .int .i64 o.port] 24)) (.cells #[.bool p] 4)
    have e3 := heap_alloc_new ((w.alloc (.cells #[.bool o.sec, .string o.host, .int .i64 o.port] 24)).alloc (.cells #[.bool p] 4)) (.cells #[.string r] 9)
    simp only [World.size_alloc] at e2 e3
    refine ⟨?_, ?_, e3⟩
    · rw [heap_alloc_old _ _ (by simp; omega), heap_alloc_old _ _ (by simp)]
      exact e1
    · rw [heap_alloc_old _ _ (by simp)]
      exact e2
  go_enter Try.func53, Try.ntmps53
  go_wp2
  go_ret
  exact ⟨⟨_, _, _, rfl, h1⟩, hb1⟩
end Go.Proofs.Ytjadmldnpdmamaa

/- A grant, cloned. -/
namespace Go.Proofs.Ytjadmldnpdmamaa
open Go.RowKit
set_option linter.unusedVariables false

def GrFit (g : GrP) : Prop := g.org.host.size ≤ 140737488355328 ∧ g.user.size ≤ 140737488355328 ∧ g.pass.size ≤ 140737488355328 ∧ AskFit g.ask ∧ g.paths.length ≤ 1000 ∧ (∀ x ∈ g.paths, x.size ≤ 140737488355328) ∧ -9223372036854775808 ≤ g.count
set_option maxRecDepth 100000 in
set_option maxHeartbeats 4000000 in
theorem freshG_at (g : GrP) (hg : GrFit g) (da pa : Option Addr) (dl dc pl pc db doff pb poff : Nat) (w : World) (hd : Strs w da dl db doff g.ask.dom) (hp : Strs w pa pl pb poff g.paths) :
    Calls Try.prog 40 #[.agg #[.bool g.org.sec, .string g.org.host, .int .i64 g.org.port, .bool g.proxy, .string g.user, .string g.pass, .int .i64 g.ask.sch, .string g.ask.realm, .string g.ask.nonce, .string g.ask.opq, .bool g.ask.sess, .string g.ask.qop, .bool g.ask.stale, .slice da dl dc, .int .i64 g.count, .slice pa pl pc]] w fun e w' => (∃ v u, e = .returned (.agg #[.bool g.org.sec, .string g.org.host, .int .i64 g.org.port, .bool g.proxy, .string g.user, .string g.pass, .int .i64 g.ask.sch, .string g.ask.realm, .string g.ask.nonce, .string g.ask.opq, .bool g.ask.sess, .string g.ask.qop, .bool g.ask.stale, v, .int .i64 g.count, u]) ∧ OwnS w' w.heap.size v g.ask.dom ∧ OwnS w' w.heap.size u g.paths) ∧ Below w.heap.size w w' := by
  obtain ⟨z1, z2, z3, z4, z5, z6, _⟩ := hg
  have hlen : pl ≤ 1000 := by rw [← hp.len_eq]; exact z5
  have hs0 := boxF_start w #[.bool g.org.sec, .string g.org.host, .int .i64 g.org.port, .bool g.proxy, .string g.user, .string g.pass, .int .i64 g.ask.sch, .string g.ask.realm, .string g.ask.nonce, .string g.ask.opq, .bool g.ask.sess, .string g.ask.qop, .bool g.ask.stale, .slice da dl dc, .int .i64 g.count, .slice pa pl pc] #[.bool false, .string ⟨#[]⟩, .int .i64 0, .bool false, .string ⟨#[]⟩, .string ⟨#[]⟩, .int .i64 0, .string ⟨#[]⟩, .string ⟨#[]⟩, .string ⟨#[]⟩, .bool false, .string ⟨#[]⟩, .bool false, .slice none 0 0, .int .i64 0, .slice none 0 0] 36
  have HX : Hid (Strs w da dl db doff g.ask.dom ∧ Strs w pa pl pb poff g.paths ∧ (∀ x ∈ g.paths, x.size ≤ 140737488355328) ∧ AskFit g.ask) := ⟨hd, hp, z6, z4⟩
  have HW : Hid (BoxF w ((w.alloc (.cells #[.bool g.org.sec, .string g.org.host, .int .i64 g.org.port, .bool g.proxy, .string g.user, .string g.pass, .int .i64 g.ask.sch, .string g.ask.realm, .string g.ask.nonce, .string g.ask.opq, .bool g.ask.sess, .string g.ask.qop, .bool g.ask.stale, .slice da dl dc, .int .i64 g.count, .slice pa pl pc] 36)).alloc (.cells #[.bool false, .string ⟨#[]⟩, .int .i64 0, .bool false, .string ⟨#[]⟩, .string ⟨#[]⟩, .int .i64 0, .string ⟨#[]⟩, .string ⟨#[]⟩, .string ⟨#[]⟩, .bool false, .string ⟨#[]⟩, .bool false, .slice none 0 0, .int .i64 0, .slice none 0 0] 36)) _ _ 36) := hs0
  clear hs0 hd hp z4 z5 z6
  go_enter Try.func40, Try.ntmps40
  go_wp2_with fail
  refine (freshO_any g.org z1 _).mono ?_
  rintro e w1 ⟨rfl, hb1⟩
  have H1 := (show BoxF _ _ _ _ _ from HW.out).below hb1
  have HH1 : Hid (BoxF w w1 _ _ 36) := H1
  have c0 := H1.at 0 (v := .bool g.org.sec) rfl
  have c1 := H1.at 1 (v := .string g.org.host) rfl
  have c2 := H1.at 2 (v := .int .i64 g.org.port) rfl
  have c4 := H1.at 4 (v := .string g.user) rfl
  have c5 := H1.at 5 (v := .string g.pass) rfl
  have f1 := free_of H1.box
  have s0 := H1.same (i := 0) (v := .bool g.org.sec) rfl
  have s1 := H1.same (i := 1) (v := .string g.org.host) rfl
  have s2 := H1.same (i := 2) (v := .int .i64 g.org.port) rfl
  clear hb1 HW H1
  go_wp2_with fail
  clear c0 c1 c2 c4 c5 f1 s0 s1 s2
  have H1d := (show BoxF _ _ _ _ _ from HH1.out).below (Below.refl _ _).drew
  have hQ : w1.drew.cell? ⟨w.heap.size, 4, none⟩ = some (.string g.user) ∧ w1.drew.cell? ⟨w.heap.size, 5, none⟩ = some (.string g.pass) ∧ Hid (BoxF w w1.drew #[.bool g.org.sec, .string g.org.host, .int .i64 g.org.port, .bool g.proxy, .string g.user, .string g.pass, .int .i64 g.ask.sch, .string g.ask.realm, .string g.ask.nonce, .string g.ask.opq, .bool g.ask.sess, .string g.ask.qop, .bool g.ask.stale, .slice da dl dc, .int .i64 g.count, .slice pa pl pc] #[.bool false, .string ⟨#[]⟩, .int .i64 0, .bool false, .string ⟨#[]⟩, .string ⟨#[]⟩, .int .i64 0, .string ⟨#[]⟩, .string ⟨#[]⟩, .string ⟨#[]⟩, .bool false, .string ⟨#[]⟩, .bool false, .slice none 0 0, .int .i64 0, .slice none 0 0] 36) := ⟨H1d.at 4 rfl, H1d.at 5 rfl, H1d⟩
  clear H1d
  go_region_held3 (fun W => W.cell? ⟨w.heap.size, 4, none⟩ = some (.string g.user) ∧ W.cell? ⟨w.heap.size, 5, none⟩ = some (.string g.pass) ∧ Hid (BoxF w W #[.bool g.org.sec, .string g.org.host, .int .i64 g.org.port, .bool g.proxy, .string g.user, .string g.pass, .int .i64 g.ask.sch, .string g.ask.realm, .string g.ask.nonce, .string g.ask.opq, .bool g.ask.sess, .string g.ask.qop, .bool g.ask.stale, .slice da dl dc, .int .i64 g.count, .slice pa pl pc] #[.bool false, .string ⟨#[]⟩, .int .i64 0, .bool false, .string ⟨#[]⟩, .string ⟨#[]⟩, .int .i64 0, .string ⟨#[]⟩, .string ⟨#[]⟩, .string ⟨#[]⟩, .bool false, .string ⟨#[]⟩, .bool false, .slice none 0 0, .int .i64 0, .slice none 0 0] 36)) (with_reducible assumption) (first
    | (go_at_call 58; refine (cloneS_any g.pass z3 _).mono ?_; rintro e w3 ⟨rfl, hb3⟩; have H3 := (show BoxF _ _ _ _ _ from hQ2.2.2.out).below hb3; have HH3 : Hid (BoxF w w3 #[.bool g.org.sec, .string g.org.host, .int .i64 g.org.port, .bool g.proxy, .string g.user, .string g.pass, .int .i64 g.ask.sch, .string g.ask.realm, .string g.ask.nonce, .string g.ask.opq, .bool g.ask.sess, .string g.ask.qop, .bool g.ask.stale, .slice da dl dc, .int .i64 g.count, .slice pa pl pc] #[.bool false, .string ⟨#[]⟩, .int .i64 0, .bool false, .string ⟨#[]⟩, .string ⟨#[]⟩, .int .i64 0, .string ⟨#[]⟩, .string ⟨#[]⟩, .string ⟨#[]⟩, .bool false, .string ⟨#[]⟩, .bool false, .slice none 0 0, .int .i64 0, .slice none 0 0] 36) := H3; have f3 := free_of H3.box; have c4 := H3.at 4 (v := .string g.user) rfl; have c5 := H3.at 5 (v := .string g.pass) rfl; have s4 := H3.same (i := 4) (v := .string g.user) rfl; have s5 := H3.same (i := 5) (v := .string g.pass) rfl; have hQ3 : w3.cell? ⟨w.heap.size, 4, none⟩ = some (.string g.user) ∧ w3.cell? ⟨w.heap.size, 5, none⟩ = some (.string g.pass) ∧ Hid (BoxF w w3 #[.bool g.org.sec, .string g.org.host, .int .i64 g.org.port, .bool g.proxy, .string g.user, .string g.pass, .int .i64 g.ask.sch, .string g.ask.realm, .string g.ask.nonce, .string g.ask.opq, .bool g.ask.sess, .string g.ask.qop, .bool g.ask.stale, .slice da dl dc, .int .i64 g.count, .slice pa pl pc] #[.bool false, .string ⟨#[]⟩, .int .i64 0, .bool false, .string ⟨#[]⟩, .string ⟨#[]⟩, .int .i64 0, .string ⟨#[]⟩, .string ⟨#[]⟩, .string ⟨#[]⟩, .bool false, .string ⟨#[]⟩, .bool false, .slice none 0 0, .int .i64 0, .slice none 0 0] 36) := ⟨H3.at 4 rfl, H3.at 5 rfl, H3⟩; clear H3 hb3)
    | (go_at_call 58; refine (cloneS_any g.user z2 _).mono ?_; rintro e w2 ⟨rfl, hb2⟩; have H2 := (show BoxF _ _ _ _ _ from hQ.2.2.out).below hb2; have hQ2 : w2.cell? ⟨w.heap.size, 4, none⟩ = some (.string g.user) ∧ w2.cell? ⟨w.heap.size, 5, none⟩ = some (.string g.pass) ∧ Hid (BoxF w w2 #[.bool g.org.sec, .string g.org.host, .int .i64 g.org.port, .bool g.proxy, .string g.user, .string g.pass, .int .i64 g.ask.sch, .string g.ask.realm, .string g.ask.nonce, .string g.ask.opq, .bool g.ask.sess, .string g.ask.qop, .bool g.ask.stale, .slice da dl dc, .int .i64 g.count, .slice pa pl pc] #[.bool false, .string ⟨#[]⟩, .int .i64 0, .bool false, .string ⟨#[]⟩, .string ⟨#[]⟩, .int .i64 0, .string ⟨#[]⟩, .string ⟨#[]⟩, .string ⟨#[]⟩, .bool false, .string ⟨#[]⟩, .bool false, .slice none 0 0, .int .i64 0, .slice none 0 0] 36) := ⟨H2.at 4 rfl, H2.at 5 rfl, H2⟩; clear H2 hb2))
  have H3 := (show BoxF _ _ _ _ _ from HH3.out)
  have q6 := H3.at 6 (v := .int .i64 g.ask.sch) rfl
  have q7 := H3.at 7 (v := .string g.ask.realm) rfl
  have q8 := H3.at 8 (v := .string g.ask.nonce) rfl
  have q9 := H3.at 9 (v := .string g.ask.opq) rfl
  have q10 := H3.at 10 (v := .bool g.ask.sess) rfl
  have q11 := H3.at 11 (v := .string g.ask.qop) rfl
  have q12 := H3.at 12 (v := .bool g.ask.stale) rfl
  have q13 := H3.at 13 (v := .slice da dl dc) rfl
  clear H3
  go_wp2_with fail
  refine (freshA_any g.ask HX.out.2.2.2 da dl dc db doff _ (HX.out.1.below (show BoxF _ _ _ _ _ from HH3.out).bel)).mono ?_
  rintro e w4 ⟨⟨v, rfl, hown⟩, hb4⟩
  obtain ⟨va, vc, vg, rfl, _⟩ := hown.strs
  obtain ⟨vn, HVN⟩ : ∃ vn, Hid (g.ask.dom.length = vn) := ⟨_, rfl⟩
  rw [HVN.out] at hown ⊢
  have H4 := (show BoxF _ _ _ _ _ from HH3.out).below hb4
  have H5 := H4.set 13 (.slice va vn vc)
  have HG4 : Hid (w4.grownBy (w4.setCell ⟨w.heap.size, 13, none⟩ (.slice va vn vc)) (some w.heap.size)) := grown_setCells w4 w.heap.size 13 [.slice va vn vc]
  have HO4 : Hid (OwnS w4 w3.heap.size (.slice va vn vc) g.ask.dom ∧ w.heap.size + 1 < w3.heap.size ∧ w3.heap.size ≤ w4.heap.size) := ⟨hown, (Array.getElem?_eq_some_iff.1 (show BoxF _ _ _ _ _ from HH3.out).res).1, hb4.size⟩
  have HH4 : Hid (BoxF w w4 _ _ 36) := H4
  have HH5 : Hid (BoxF w (w4.setCell ⟨w.heap.size, 13, none⟩ (.slice va vn vc)) _ _ 36) := H5
  have s6 := H4.same (i := 6) (v := .int .i64 g.ask.sch) rfl
  have s7 := H4.same (i := 7) (v := .string g.ask.realm) rfl
  have s8 := H4.same (i := 8) (v := .string g.ask.nonce) rfl
  have s9 := H4.same (i := 9) (v := .string g.ask.opq) rfl
  have s10 := H4.same (i := 10) (v := .bool g.ask.sess) rfl
  have s11 := H4.same (i := 11) (v := .string g.ask.qop) rfl
  have s12 := H4.same (i := 12) (v := .bool g.ask.stale) rfl
  have t6 := H4.at 6 (v := .int .i64 g.ask.sch) rfl
  have t7 := H4.at 7 (v := .string g.ask.realm) rfl
  have t8 := H4.at 8 (v := .string g.ask.nonce) rfl
  have t9 := H4.at 9 (v := .string g.ask.opq) rfl
  have t10 := H4.at 10 (v := .bool g.ask.sess) rfl
  have t11 := H4.at 11 (v := .string g.ask.qop) rfl
  have t12 := H4.at 12 (v := .bool g.ask.stale) rfl
  have t13 := H4.at 13 (v := .slice da dl dc) rfl
  have t15 := H4.at 15 (v := .slice pa pl pc) rfl
  have f4 := free_of H4.box
  clear hb4 H4 H5 hown q6 q7 q8 q9 q10 q11 q12 q13
  go_wp2_with fail
  refine (eachS_any g.paths HX.out.2.2.1 pa pl pc pb poff hlen _ (HX.out.2.1.below (show BoxF _ _ _ _ _ from HH5.out).bel)).mono ?_
  rintro e w5 ⟨⟨u, rfl, hown5⟩, hb5⟩
  obtain ⟨ua, uc, ug, rfl, _⟩ := hown5.strs
  obtain ⟨un, HUN⟩ : ∃ un, Hid (g.paths.length = un) := ⟨_, rfl⟩
  rw [HUN.out] at hown5 ⊢
  have H6 := (show BoxF _ _ _ _ _ from HH5.out).below hb5
  have H7 := H6.set 15 (.slice ua un uc)
  have HH7 : Hid (BoxF w (w5.setCell ⟨w.heap.size, 15, none⟩ (.slice ua un uc)) _ _ 36) := H7
  have HG7 : Hid (w5.grownBy (w5.setCell ⟨w.heap.size, 15, none⟩ (.slice ua un uc)) (some w.heap.size)) := grown_setCells w5 w.heap.size 15 [.slice ua un uc]
  have HO5 : Hid (OwnS w5 w4.heap.size (.slice ua un uc) g.paths ∧ OwnS w5 w3.heap.size (.slice va vn vc) g.ask.dom) := ⟨ownS_mono hown5 (by simp [World.setCell]), (HO4.out.1.grown HG4.out (by have := HO4.out.2.1; omega)).below hb5⟩
  have f6 := free_of H6.box
  have r15 := H6.at 15 (v := .slice pa pl pc) rfl
  have g0 := H7.at 0 (v := .bool g.org.sec) rfl
  have g1 := H7.at 1 (v := .string g.org.host) rfl
  have g2 := H7.at 2 (v := .int .i64 g.org.port) rfl
  have g3 := H7.at 3 (v := .bool g.proxy) rfl
  have g4 := H7.at 4 (v := .string g.user) rfl
  have g5 := H7.at 5 (v := .string g.pass) rfl
  have g6 := H7.at 6 (v := .int .i64 g.ask.sch) rfl
  have g7 := H7.at 7 (v := .string g.ask.realm) rfl
  have g8 := H7.at 8 (v := .string g.ask.nonce) rfl
  have g9 := H7.at 9 (v := .string g.ask.opq) rfl
  have g10 := H7.at 10 (v := .bool g.ask.sess) rfl
  have g11 := H7.at 11 (v := .string g.ask.qop) rfl
  have g12 := H7.at 12 (v := .bool g.ask.stale) rfl
  have g13 := H7.at 13 (v := .slice va vn vc) rfl
  have g14 := H7.at 14 (v := .int .i64 g.count) rfl
  have g15 := H7.at 15 (v := .slice ua un uc) rfl
  have d0 : (w5.setCell ⟨w.heap.size, 15, none⟩ (.slice ua un uc)).cell? ⟨w.heap.size + 1, 0, none⟩ = some (.bool false) := cell_of H7.res
  have d1 : (w5.setCell ⟨w.heap.size, 15, none⟩ (.slice ua un uc)).cell? ⟨w.heap.size + 1, 1, none⟩ = some (.string ⟨#[]⟩) := cell_of H7.res
  have d2 : (w5.setCell ⟨w.heap.size, 15, none⟩ (.slice ua un uc)).cell? ⟨w.heap.size + 1, 2, none⟩ = some (.int .i64 0) := cell_of H7.res
  have d3 : (w5.setCell ⟨w.heap.size, 15, none⟩ (.slice ua un uc)).cell? ⟨w.heap.size + 1, 3, none⟩ = some (.bool false) := cell_of H7.res
  have d4 : (w5.setCell ⟨w.heap.size, 15, none⟩ (.slice ua un uc)).cell? ⟨w.heap.size + 1, 4, none⟩ = some (.string ⟨#[]⟩) := cell_of H7.res
  have d5 : (w5.setCell ⟨w.heap.size, 15, none⟩ (.slice ua un uc)).cell? ⟨w.heap.size + 1, 5, none⟩ = some (.string ⟨#[]⟩) := cell_of H7.res
  have d6 : (w5.setCell ⟨w.heap.size, 15, none⟩ (.slice ua un uc)).cell? ⟨w.heap.size + 1, 6, none⟩ = some (.int .i64 0) := cell_of H7.res
  have d7 : (w5.setCell ⟨w.heap.size, 15, none⟩ (.slice ua un uc)).cell? ⟨w.heap.size + 1, 7, none⟩ = some (.string ⟨#[]⟩) := cell_of H7.res
  have d8 : (w5.setCell ⟨w.heap.size, 15, none⟩ (.slice ua un uc)).cell? ⟨w.heap.size + 1, 8, none⟩ = some (.string ⟨#[]⟩) := cell_of H7.res
  have d9 : (w5.setCell ⟨w.heap.size, 15, none⟩ (.slice ua un uc)).cell? ⟨w.heap.size + 1, 9, none⟩ = some (.string ⟨#[]⟩) := cell_of H7.res
  have d10 : (w5.setCell ⟨w.heap.size, 15, none⟩ (.slice ua un uc)).cell? ⟨w.heap.size + 1, 10, none⟩ = some (.bool false) := cell_of H7.res
  have d11 : (w5.setCell ⟨w.heap.size, 15, none⟩ (.slice ua un uc)).cell? ⟨w.heap.size + 1, 11, none⟩ = some (.string ⟨#[]⟩) := cell_of H7.res
  have d12 : (w5.setCell ⟨w.heap.size, 15, none⟩ (.slice ua un uc)).cell? ⟨w.heap.size + 1, 12, none⟩ = some (.bool false) := cell_of H7.res
  have d13 : (w5.setCell ⟨w.heap.size, 15, none⟩ (.slice ua un uc)).cell? ⟨w.heap.size + 1, 13, none⟩ = some (.slice none 0 0) := cell_of H7.res
  have d14 : (w5.setCell ⟨w.heap.size, 15, none⟩ (.slice ua un uc)).cell? ⟨w.heap.size + 1, 14, none⟩ = some (.int .i64 0) := cell_of H7.res
  have d15 : (w5.setCell ⟨w.heap.size, 15, none⟩ (.slice ua un uc)).cell? ⟨w.heap.size + 1, 15, none⟩ = some (.slice none 0 0) := cell_of H7.res
  have fr := free_of H7.res
  clear hb5 H6 H7 hown5 f4 s6 s7 s8 s9 s10 s11 s12 t6 t7 t8 t9 t10 t11 t12 t13 t15
  go_wp2_with fail
  obtain ⟨z1, z2⟩ := setAll [.bool g.org.sec, .string g.org.host, .int .i64 g.org.port, .bool g.proxy, .string g.user, .string g.pass, .int .i64 g.ask.sch, .string g.ask.realm, .string g.ask.nonce, .string g.ask.opq, .bool g.ask.sess, .string g.ask.qop, .bool g.ask.stale, .slice va vn vc, .int .i64 g.count, .slice ua un uc] (show BoxF _ _ _ _ _ from HH7.out).res rfl
  simp only [World.setCells, Nat.reduceAdd] at z1 z2
  have hb9 := (show BoxF _ _ _ _ _ from HH7.out).bel
  clear g0 g1 g2 g3 g4 g5 g6 g7 g8 g9 g10 g11 g12 g13 g14 g15 d0 d1 d2 d3 d4 d5 d6 d7 d8 d9 d10 d11 d12 d13 d14 d15 fr
  refine bodyPost_ret (v := .agg #[.bool g.org.sec, .string g.org.host, .int .i64 g.org.port, .bool g.proxy, .string g.user, .string g.pass, .int .i64 g.ask.sch, .string g.ask.realm, .string g.ask.nonce, .string g.ask.opq, .bool g.ask.sess, .string g.ask.qop, .bool g.ask.stale, .slice va vn vc, .int .i64 g.count, .slice ua un uc]) (res_cell rfl rfl Try.isAgg36 Try.sizeOf36 rfl z1) rfl ?_
  refine ⟨⟨_, _, rfl, ?_, ?_⟩, hb9.grown z2 hb9.size (fun i hi => by injection hi with hi; omega)⟩
  · exact ownS_mono ((HO5.out.2.grown HG7.out (by have := HO4.out.2.1; omega)).grown z2 (by have := HO4.out.2.1; omega)) (by have := HO4.out.2.1; omega)
  · exact ownS_mono ((HO5.out.1.grown HG7.out (by have := HO4.out.2; omega)).grown z2 (by have := HO4.out.2; omega)) (by have := HO4.out.2; omega)
end Go.Proofs.Ytjadmldnpdmamaa

/- A bank: what it has, where it lies, and what may turn. -/
namespace Go.Proofs.Ytjadmldnpdmamaa
open Go.RowKit
set_option linter.unusedVariables false

/-- A bank lies in block b; its rows hold these. -/
structure BankW (w : World) (B b : Nat) (gv wv : Value) (G : List GrV) (V : List WtV) : Prop where
  blk : w.heap[b]? = some (.cells #[gv, wv] 52 (0, 0))
  low : B ≤ b
  gs : OwnK 16 36 w B gv (G.map grCells)
  ws : OwnK 13 38 w B wv (V.map wtCells)
  go : ∀ v ∈ G, GrOwn w B v
  wo : ∀ v ∈ V, WtOwn w B v
  gf : ∀ v ∈ G, GrFit v.g
  glen : G.length ≤ 8
  vlen : V.length ≤ 8
/-- What an operation of the bank may turn: its block, and its rows'; what these are then is new, or was theirs. -/
structure BankStep (b : Nat) (gv wv : Value) (w w' : World) (gv' wv' : Value) : Prop where
  os : w'.os = w.os
  tape : w'.tape = w.tape
  output : w'.output = w.output
  size : w.heap.size ≤ w'.heap.size
  keep : ∀ x, x < w.heap.size → x ≠ b → gv.ownBlock ≠ some x → wv.ownBlock ≠ some x → w'.heap[x]? = w.heap[x]? ∧ gv'.ownBlock ≠ some x ∧ wv'.ownBlock ≠ some x
theorem BankStep.trans {b : Nat} {gv wv gv' wv' gv2 wv2 : Value} {w w' w2 : World} (h : BankStep b gv wv w w' gv' wv') (k : BankStep b gv' wv' w' w2 gv2 wv2) : BankStep b gv wv w w2 gv2 wv2 :=
  ⟨k.os.trans h.os, k.tape.trans h.tape, k.output.trans h.output, Nat.le_trans h.size k.size, fun x hx h1 h2 h3 => by
    obtain ⟨e1, e2, e3⟩ := h.keep x hx h1 h2 h3
    obtain ⟨f1, f2, f3⟩ := k.keep x (Nat.lt_of_lt_of_le hx h.size) h1 e2 e3
    exact ⟨f1.trans e1, f2, f3⟩⟩
theorem BankStep.of_below {b : Nat} {gv wv : Value} {w w' : World} (hb : Below w.heap.size w w') : BankStep b gv wv w w' gv wv :=
  ⟨hb.os, hb.tape, hb.output, hb.size, fun x hx _ h2 h3 => ⟨hb.block x hx, h2, h3⟩⟩
/-- Of what lay below the bank nothing turns. -/
theorem BankStep.below {b B : Nat} {gv wv gv' wv' : Value} {w w' : World} (h : BankStep b gv wv w w' gv' wv') (hb : B ≤ b) (hg : ∀ x, gv.ownBlock = some x → B ≤ x) (hw : ∀ x, wv.ownBlock = some x → B ≤ x) (hB : B ≤ w.heap.size) : Below B w w' :=
  ⟨h.os, h.tape, h.output, h.size, fun x hx => (h.keep x (by omega) (by omega) (fun e => by have := hg x e; omega) (fun e => by have := hw x e; omega)).1⟩
theorem BankW.below {w w' : World} {B b : Nat} {gv wv : Value} {G : List GrV} {V : List WtV} (h : BankW w B b gv wv G V) (hb : Below w.heap.size w w') : BankW w' B b gv wv G V :=
  ⟨(hb.block b (Array.getElem?_eq_some_iff.1 h.blk).1).trans h.blk, h.low, h.gs.below hb, h.ws.below hb, fun v hv => (h.go v hv).below hb, fun v hv => OwnS.below (h.wo v hv) hb, h.gf, h.glen, h.vlen⟩
def realmP (g x : GrP) : Bool := realmB g.org g.proxy g.ask.realm x
/-- A grant kept, in the place of one of its realm. -/
def putL (l : List GrP) (g : GrP) : List GrP := last8 (l.filter (fun x => !realmP g x) ++ [g])
theorem step_trans' {w w' : World} {row : Option Nat} {b : Nat} {gv wv : Value} (hg : w.grownBy w' row) (hr : ∀ x, row = some x → gv.ownBlock = some x ∨ wv.ownBlock = some x ∨ x = b) : BankStep b gv wv w w' gv wv :=
  ⟨hg.os, hg.tape, hg.output, hg.size, fun x hx h1 h2 h3 => ⟨hg.block x hx (fun e => by
    rcases hr x e.symm with h | h | h
    · exact h2 h
    · exact h3 h
    · exact h1 h), h2, h3⟩⟩
/-- What is written into is of another type. -/
def Typed (w : World) (row : Option Nat) (t : TypeId) : Prop := ∀ b, row = some b → ∃ cs, w.heap[b]? = some (.cells cs t (0, 0))
theorem OwnK.typed {k B : Nat} {t : TypeId} {w : World} {v : Value} {xs : List (List Value)} (h : OwnK k t w B v xs) : Typed w v.ownBlock t := ownK_typed h
theorem OwnK.other {k B : Nat} {t u : TypeId} {w w' : World} {v : Value} {xs : List (List Value)} {row : Option Nat} (h : OwnK k t w B v xs) (hg : w.grownBy w' row) (ht : Typed w row u) (hne : u ≠ t) : OwnK k t w' B v xs := by
  refine h.kept hg ?_
  cases hv : v.ownBlock with
  | none => exact .inl rfl
  | some x =>
    refine .inr fun e => ?_
    obtain ⟨c1, h1⟩ := h.typed x hv
    obtain ⟨c2, h2⟩ := ht x e.symm
    rw [h1] at h2
    injection h2 with h2
    injection h2 with _ h3
    exact hne h3.symm
theorem OwnS.other {B : Nat} {u : TypeId} {w w' : World} {v : Value} {xs : List ByteArray} {row : Option Nat} (h : OwnS w B v xs) (hg : w.grownBy w' row) (ht : Typed w row u) (hne : u ≠ 9) : OwnS w' B v xs := by
  cases hr : row with
  | none =>
    subst hr
    refine World.ownsRow.kept h hg ?_
    cases v.ownBlock with
    | none => exact .inl rfl
    | some x => exact .inr (by simp)
  | some x =>
    subst hr
    obtain ⟨cs, hc⟩ := ht x rfl
    exact ownS_grownB h hc hne hg
theorem GrOwn.other {B : Nat} {u : TypeId} {w w' : World} {v : GrV} {row : Option Nat} (h : GrOwn w B v) (hg : w.grownBy w' row) (ht : Typed w row u) (hne : u ≠ 9) : GrOwn w' B v := ⟨h.dom.other hg ht hne, h.paths.other hg ht hne⟩
theorem block_other {w w' : World} {row : Option Nat} {t u : TypeId} {b : Nat} {cs : Array Value} (h : w.heap[b]? = some (.cells cs t (0, 0))) (hg : w.grownBy w' row) (ht : Typed w row u) (hne : u ≠ t) : w'.heap[b]? = some (.cells cs t (0, 0)) := by
  refine (hg.block b (Array.getElem?_eq_some_iff.1 h).1 (fun e => ?_)).trans h
  obtain ⟨c2, h2⟩ := ht b e.symm
  rw [h] at h2
  injection h2 with h2
  injection h2 with _ h3
  exact hne h3.symm
theorem apart_of {w : World} {k B b : Nat} {t u : TypeId} {v : Value} {xs : List (List Value)} {cs : Array Value} (h : OwnK k t w B v xs) (hb : w.heap[b]? = some (.cells cs u (0, 0))) (hne : u ≠ t) : v.ownBlock ≠ some b := fun e => by
  obtain ⟨c2, h2⟩ := h.typed b e
  rw [hb] at h2
  injection h2 with h2
  injection h2 with _ h3
  exact hne h3
theorem Typed.block {w : World} {b : Nat} {t : TypeId} {cs : Array Value} (h : w.heap[b]? = some (.cells cs t (0, 0))) : Typed w (some b) t := fun x hx => by
  injection hx with hx
  subst hx
  exact ⟨cs, h⟩
/-- The bank's row of grants anew. -/
theorem bank_grants {w w2 w3 : World} {B b : Nat} {gv wv gv' : Value} {G G' : List GrV} {V : List WtV} (h : BankW w B b gv wv G V) (hb : Below w.heap.size w w2) (hg : w2.grownBy w3 gv.ownBlock) (hown : OwnK 16 36 w3 B gv' (G'.map grCells))
    (hnew : ∀ k, gv'.ownBlock = some k → gv.ownBlock = some k ∨ w2.heap.size ≤ k) (hG : ∀ v ∈ G', (v ∈ G ∨ GrOwn w2 B v) ∧ GrFit v.g) (hl : G'.length ≤ 8) :
    BankW (w3.setCell ⟨b, 0, none⟩ gv') B b gv' wv G' V ∧ BankStep b gv wv w (w3.setCell ⟨b, 0, none⟩ gv') gv' wv := by
  have h2 := h.below hb
  have t2 := h2.gs.typed
  have hb3 := block_other h2.blk hg t2 (by decide)
  have hw3 := h2.ws.other hg t2 (by decide)
  have hb4 : (w3.setCell ⟨b, 0, none⟩ gv').heap[b]? = some (.cells #[gv', wv] 52 (0, 0)) := heap_setCell_same w3 b 0 _ _ gv' hb3
  have g34 : w3.grownBy (w3.setCell ⟨b, 0, none⟩ gv') (some b) := grown_setCells w3 b 0 [gv']
  have t3 := Typed.block hb3
  refine ⟨⟨hb4, h.low, hown.other g34 t3 (by decide), hw3.other g34 t3 (by decide), fun v hv => ?_, fun v hv => OwnS.other (OwnS.other (h2.wo v hv) hg t2 (by decide)) g34 t3 (by decide), fun v hv => (hG v hv).2, hl, h.vlen⟩, ?_⟩
  · rcases (hG v hv).1 with h1 | h1
    · exact ((h2.go v h1).other hg t2 (by decide)).other g34 t3 (by decide)
    · exact (h1.other hg t2 (by decide)).other g34 t3 (by decide)
  · refine ⟨g34.os.trans (hg.os.trans hb.os), g34.tape.trans (hg.tape.trans hb.tape), g34.output.trans (hg.output.trans hb.output), Nat.le_trans hb.size (Nat.le_trans hg.size g34.size), fun x hx h1 h2' h3 => ⟨?_, fun e => ?_, h3⟩⟩
    · have hx2 := Nat.lt_of_lt_of_le hx hb.size
      rw [g34.block x (Nat.lt_of_lt_of_le hx2 hg.size) (fun e => h1 (by injection e)), hg.block x hx2 (fun e => h2' e.symm), hb.block x hx]
    · rcases hnew x e with h4 | h4
      · exact h2' h4
      · have := hb.size
        omega
end Go.Proofs.Ytjadmldnpdmamaa

/- Whether a text begins with another one, by the program. -/
namespace Go.Proofs.Ytjadmldnpdmamaa
open Go.RowKit

/-- Whether a text begins with another one. -/
def begins (s p : ByteArray) : Bool := decide (p.size ≤ s.size) && ((s.extract 0 p.size).toList == p.toList)
set_option maxHeartbeats 1000000 in
theorem within_p (s p : ByteArray) (w : World) :
    Calls Try.prog 30 #[.string s, .string p] w fun e w' => e = .returned (.bool (begins s p)) ∧ w' = w := by
  by_cases h : p.size ≤ s.size
  · have hb : begins s p = ((s.extract 0 p.size).toList == p.toList) := by unfold begins; rw [decide_eq_true h]; rfl
    rw [hb]
    go_enter Try.func30, Try.ntmps30
    go_wp2
    go_ret
    exact ⟨rfl, rfl⟩
  · have hb : begins s p = false := by unfold begins; rw [decide_eq_false h]; rfl
    rw [hb]
    go_enter Try.func30, Try.ntmps30
    go_wp2
    go_ret
    exact ⟨rfl, rfl⟩
end Go.Proofs.Ytjadmldnpdmamaa

/- How far a grant reaches for a path. -/
namespace Go.Proofs.Ytjadmldnpdmamaa
open Go.RowKit
set_option linter.unusedVariables false

def farStep (path : ByteArray) (m : Int) (s : ByteArray) : Int := if begins path s then max m (s.size : Int) else m
/-- How long the longest of its spaces is that the path is in; below 0: the grant is not for it. -/
def reachI (o : OrgV) (p : Bool) (path : ByteArray) (g : GrP) : Int := if orgB g.org o && g.proxy == p then g.paths.foldl (farStep path) (-1) else -1
theorem far_take {path : ByteArray} {ps : List ByteArray} {k : Nat} {s : ByteArray} (h : ps[k]? = some s) : (ps.take (k + 1)).foldl (farStep path) (-1) = farStep path ((ps.take k).foldl (farStep path) (-1)) s := by
  obtain ⟨hk, e⟩ := List.getElem?_eq_some_iff.1 h
  rw [List.take_succ_eq_append_getElem hk, List.foldl_append, e]
  rfl
set_option maxRecDepth 100000 in
set_option maxHeartbeats 4000000 in
theorem reach_any (v : GrV) (B : Nat) (hfit : GrFit v.g) (o : OrgV) (p : Bool) (path : ByteArray) (a b c : Nat) (w : World) (hb : Box3 w a b c o p path) (hown : GrOwn w B v) :
    Calls Try.prog 63 #[.agg (grCells v).toArray, .pointer (some ⟨a, 0, none⟩), .pointer (some ⟨b, 0, none⟩), .pointer (some ⟨c, 0, none⟩)] w fun e w' => e = .returned (.int .i64 (reachI o p path v.g)) ∧ Below w.heap.size w w' := by
  obtain ⟨pa, pc, pg, hpv, hps⟩ := hown.paths.strs
  obtain ⟨pn, HPN⟩ : ∃ pn, Hid (v.g.paths.length = pn) := ⟨_, rfl⟩
  rw [HPN.out] at hpv hps
  have hpn : pn ≤ 1000 := by rw [← HPN.out]; exact hfit.2.2.2.2.1
  have hbb : Below w.heap.size w (w.alloc (.cells (grCells v).toArray 36)) := (Below.refl _ _).alloc (Nat.le_refl _) _
  have hb2 := hb.below hbb
  have hn := heap_alloc_new w (.cells (grCells v).toArray 36)
  unfold grCells at hbb hb2 hn ⊢
  rw [hpv] at hbb hb2 hn ⊢
  have HB : Hid (Below w.heap.size w (w.alloc (.cells [Value.bool v.g.org.sec, .string v.g.org.host, .int .i64 v.g.org.port, .bool v.g.proxy, .string v.g.user, .string v.g.pass, .int .i64 v.g.ask.sch, .string v.g.ask.realm, .string v.g.ask.nonce, .string v.g.ask.opq, .bool v.g.ask.sess, .string v.g.ask.qop, .bool v.g.ask.stale, v.dv, .int .i64 v.g.count, .slice pa pn pc].toArray 36)) ∧ Strs w pa pn pg 0 v.g.paths) := ⟨hbb, hps⟩
  have c0 := (cell_of (i := 0) hb2.org)
  have c1 := (cell_of (i := 1) hb2.org)
  have c2 := (cell_of (i := 2) hb2.org)
  have c3 := (cell_of (i := 0) hb2.prx)
  have n0 := cell_of (i := 0) hn
  have n1 := cell_of (i := 1) hn
  have n2 := cell_of (i := 2) hn
  have n3 := cell_of (i := 3) hn
  have n15 := cell_of (i := 15) hn
  simp only [List.getElem?_toArray, List.getElem?_cons_zero, List.getElem?_cons_succ] at c0 c1 c2 c3 n0 n1 n2 n3 n15
  have e1 := eqOrg v.g.org o (orgB v.g.org o) rfl
  have HC4 : Hid (Box3 w a b c o p path) := hb
  obtain ⟨E1, h1⟩ : ∃ E, orgB v.g.org o = E := ⟨_, rfl⟩
  obtain ⟨E2, h2⟩ : ∃ E, (v.g.proxy == p) = E := ⟨_, rfl⟩
  have HE : Hid (reachI o p path v.g = if E1 && E2 then v.g.paths.foldl (farStep path) (-1) else -1) := by show _ = _; unfold reachI; rw [h1, h2]
  have h2' : (v.g.proxy != p) = !E2 := by rw [← h2]; rfl
  rw [h1] at e1
  clear h1 hb hb2 hn hbb hps hown hpv hfit
  obtain ⟨R, HR⟩ : ∃ R, Hid (reachI o p path v.g = R) := ⟨_, rfl⟩
  rw [HR.out]
  go_enter Try.func63, Try.ntmps63
  cases E1
  · obtain rfl : R = -1 := by rw [← HR.out, HE.out]; rfl
    go_wp2
    go_ret
    exact ⟨rfl, HB.out.1⟩
  · cases E2
    · obtain rfl : R = -1 := by rw [← HR.out, HE.out]; rfl
      go_wp2
      go_ret
      exact ⟨rfl, HB.out.1⟩
    · have HRF : Hid (v.g.paths.foldl (farStep path) (-1) = R) := by show _ = _; rw [← HR.out, HE.out]; rfl
      go_wp2
      go_loopw [6, 23] (fun m i wr => ∃ (k : Nat) (mi : Int), k ≤ pn ∧ i = .int .i64 k ∧ m = .int .i64 mi ∧ Hid ((v.g.paths.take k).foldl (farStep path) (-1) = mi ∧ Below w.heap.size w wr)) (fun _ i _ => pn - (intOf i).toNat)
      case atStart => exact ⟨0, -1, Nat.zero_le _, rfl, rfl, ⟨rfl, HB.out.1⟩⟩
      case round =>
        obtain ⟨k, mi, hk, rfl, rfl, HK⟩ := hrel
        by_cases hlt : k < pn
        · have hkL : (k : Int) < (pn : Int) := by omega
          obtain ⟨s, hs⟩ : ∃ s, v.g.paths[k]? = some s := ⟨v.g.paths[k]'(by have := HPN.out; omega), List.getElem?_eq_getElem _⟩
          have hS := HB.out.2.below HK.out.2
          obtain ⟨ha0, hbl⟩ := hS.lies (by omega)
          have hc1 := hS.cells k s hs
          rw [Nat.zero_add] at hc1
          have hc4 := cell_of (i := 0) (HC4.out.below HK.out.2).txt
          simp only [List.getElem?_toArray, List.getElem?_cons_zero] at hc4
          have HF : Hid ((v.g.paths.take (k + 1)).foldl (farStep path) (-1) = farStep path mi s) := by
            show _ = _
            rw [far_take hs, HK.out.1]
          subst ha0
          clear hs hS
          cases hbg : begins path s
          · have HG : Hid ((v.g.paths.take (k + 1)).foldl (farStep path) (-1) = mi) := by
              show _ = _
              rw [HF.out]; unfold farStep; rw [hbg]; rfl
            go_wp2_with fail
            refine (within_p path s _).mono ?_
            rintro e w2 ⟨rfl, hw⟩
            obtain rfl := hw.symm
            rw [hbg]
            clear hbg
            go_wp2
            go_roundw
            case rel => exact ⟨k + 1, mi, by omega, by go_num, rfl, ⟨HG.out, HK.out.2⟩⟩
            case measure => simp [intOf]; omega
          · have HG : Hid ((v.g.paths.take (k + 1)).foldl (farStep path) (-1) = max mi (s.size : Int)) := by
              show _ = _
              rw [HF.out]; unfold farStep; rw [hbg]; rfl
            go_wp2_with fail
            refine (within_p path s _).mono ?_
            rintro e w2 ⟨rfl, hw⟩
            obtain rfl := hw.symm
            rw [hbg]
            clear hbg
            go_wp2
            go_roundw
            case rel => exact ⟨k + 1, _, by omega, by go_num, rfl, ⟨HG.out, HK.out.2⟩⟩
            case measure => simp [intOf]; omega
        · have hkL : ¬ (k : Int) < (pn : Int) := by omega
          obtain rfl : mi = R := by rw [← HK.out.1, ← HRF.out, List.take_of_length_le (by rw [HPN.out]; omega)]
          go_wp2
          go_ret
          exact ⟨rfl, HK.out.2⟩
end Go.Proofs.Ytjadmldnpdmamaa

/- The number of the grant that reaches farthest; whatever the program. -/
namespace Go.Proofs.Ytjadmldnpdmamaa
open Go.RowKit
set_option linter.unusedVariables false

def farGo : List Int → Nat → Int × Int → Int × Int
  | [], _, s => s
  | r :: t, i, s => farGo t (i + 1) (if s.2 ≤ r then ((i : Int), r) else s)
/-- The number of the last one of the greatest, from 0 on; below 0: none. -/
def farI (rs : List Int) : Int := (farGo rs 0 (-1, 0)).1
theorem farGo_snoc (r : Int) : ∀ (l : List Int) (i : Nat) (s : Int × Int), farGo (l ++ [r]) i s = if (farGo l i s).2 ≤ r then (((i + l.length : Nat) : Int), r) else farGo l i s
  | [], i, s => rfl
  | x :: t, i, s => by
    show farGo (t ++ [r]) (i + 1) _ = _
    rw [farGo_snoc r t (i + 1)]
    show (if (farGo t (i + 1) _).2 ≤ r then _ else _) = _
    simp only [farGo, List.length_cons]
    congr 3
    push_cast
    omega
theorem farGo_take {rs : List Int} {k : Nat} {r : Int} (h : rs[k]? = some r) : farGo (rs.take (k + 1)) 0 (-1, 0) = if (farGo (rs.take k) 0 (-1, 0)).2 ≤ r then ((k : Int), r) else farGo (rs.take k) 0 (-1, 0) := by
  obtain ⟨hk, e⟩ := List.getElem?_eq_some_iff.1 h
  rw [List.take_succ_eq_append_getElem hk, farGo_snoc, e, List.length_take]
  rw [show 0 + min k rs.length = k by omega]
set_option maxRecDepth 100000 in
set_option maxHeartbeats 4000000 in
theorem far_of (P : Program) (hf : P.funcs[45]? = some Try.f45)
    (tS : P.underlying 22 = some (TypeDesc.slice 36)) (aS : ∀ w, (isAgg 22).run P w = .ok false w) (zS : ∀ w, (Go.sizeOf 22).run P w = .ok 1 w)
    (t3 : P.underlying 3 = some (TypeDesc.int IntKind.i64)) (a3 : ∀ w, (isAgg 3).run P w = .ok false w) (z3 : ∀ w, (Go.sizeOf 3).run P w = .ok 1 w) (v3 : ∀ w, (zeroValue 3).run P w = .ok (Value.int IntKind.i64 0) w)
    (t4 : P.underlying 4 = some TypeDesc.bool) (a4 : ∀ w, (isAgg 4).run P w = .ok false w) (z4 : ∀ w, (Go.sizeOf 4).run P w = .ok 1 w)
    (k : Nat) (hk0 : 0 < k) (aE : ∀ w, (isAgg 36).run P w = .ok true w) (zE : ∀ w, (Go.sizeOf 36).run P w = .ok k w) (zc : Array Value) (vE : ∀ w, (zeroValue 36).run P w = .ok (.agg zc) w) (hzc : zc.size = k)
    {α : Type} (cl : α → List Value) (R : α → Int)
    (g n cap B : Nat) (vs : List α) (hn : vs.length = n) (hbig : n ≤ 1000) (w : World) (hown : OwnK k 36 w B (.slice (some ⟨g, 0, none⟩) n cap) (vs.map cl))
    (fn : Nat) (lb : Array Value) (eg : ∀ args w, (callFunc fn args).run P w = .ok (.enter fn args) w)
    (hm : ∀ W v, v ∈ vs → Below w.heap.size w W → Calls P fn (#[.agg (cl v).toArray] ++ lb) W fun e w' => e = .returned (.int .i64 (R v)) ∧ Below W.heap.size W w') :
    Calls P 45 #[.slice (some ⟨g, 0, none⟩) n cap, .func (.func fn) #[] lb] w fun e w' => e = .returned (.int .i64 (farI (vs.map R))) ∧ Below w.heap.size w w' := by
  have HO : Hid (OwnK k 36 w B (.slice (some ⟨g, 0, none⟩) n cap) (vs.map cl)) := hown
  have HN : Hid (vs.length = n) := hn
  have HM : Hid (∀ W v, v ∈ vs → Below w.heap.size w W → Calls P fn (#[.agg (cl v).toArray] ++ lb) W fun e w' => e = .returned (.int .i64 (R v)) ∧ Below W.heap.size W w') := hm
  have HZ : Hid (zc.size = k) := hzc
  clear hown hn hm hzc
  go_enter hf, Try.ntmps45
  go_wp2
  go_loopw [5, 6, 12] (fun b m i wr => ∃ (kk : Nat) (bi mi : Int), kk ≤ n ∧ i = .int .i64 kk ∧ b = .int .i64 bi ∧ m = .int .i64 mi ∧ Hid (Below w.heap.size w wr ∧ farGo ((vs.map R).take kk) 0 (-1, 0) = (bi, mi))) (fun _ _ i _ => n - (intOf i).toNat)
  case atStart => exact ⟨0, -1, 0, Nat.zero_le _, rfl, rfl, rfl, ⟨Below.refl _ _, rfl⟩⟩
  case round =>
    obtain ⟨kk, bi, mi, hkk, rfl, rfl, rfl, HI⟩ := hrel
    by_cases hlt : kk < n
    · have hltz : (kk : Int) < (n : Int) := by omega
      obtain ⟨v, hv⟩ : ∃ v, vs[kk]? = some v := ⟨vs[kk]'(by have := HN.out; omega), List.getElem?_eq_getElem _⟩
      have hvm : (vs.map cl)[kk]? = some (cl v) := by rw [List.getElem?_map, hv]; rfl
      have hvr : (vs.map R)[kk]? = some (R v) := by rw [List.getElem?_map, hv]; rfl
      have HST : Hid (farGo ((vs.map R).take (kk + 1)) 0 (-1, 0) = if mi ≤ R v then ((kk : Int), R v) else (bi, mi)) := by
        show _ = _
        rw [farGo_take hvr, HI.out.2]
      obtain ⟨x, hx⟩ : ∃ x, cl v = x := ⟨_, rfl⟩
      rw [hx] at hvm
      have hxm : x ∈ vs.map cl := List.mem_of_getElem? hvm
      have hxl : x.length = k := HO.out.len x hxm
      have hx1 : ∀ u ∈ x, u.oneCell' = true := HO.out.one x hxm
      have l1 := (HO.out.below HI.out.1).load P hvm
      have hb1 : Below wr.heap.size wr (wr.alloc (.cells x.toArray 36)) := (Below.refl _ _).alloc (Nat.le_refl _) _
      have s1 := run_boxed P wr zc 36 x (by rw [HZ.out, hxl]) hx1
      have l2 := run_unboxed P (w := wr.alloc (.cells x.toArray 36)) (w' := wr.alloc (.cells x.toArray 36)) (b := wr.heap.size) hxl (heap_alloc_new wr _) (Below.refl _ _)
      have HB1 : Hid (Below w.heap.size w (wr.alloc (.cells x.toArray 36))) := HI.out.1.trans (hb1.mono HI.out.1.size)
      have hcall := HM.out _ v (List.mem_of_getElem? hv) HB1.out
      rw [hx] at hcall
      have hxa : x.toArray.size = k := by simp [hxl]
      obtain ⟨r, hr⟩ : ∃ r, R v = r := ⟨_, rfl⟩
      rw [hr] at hcall HST
      clear hv hvm hvr hxm hx hb1 hx1 hr
      generalize hWX : wr.alloc (.cells x.toArray 36) = WX at s1 l2 HB1 hcall
      by_cases hge : mi ≤ r
      · have HS2 : Hid (farGo ((vs.map R).take (kk + 1)) 0 (-1, 0) = ((kk : Int), r)) := by show _ = _; rw [HST.out, if_pos hge]
        go_wp2_with (go_at_fn fn; refine hcall.mono ?_; rintro e w2 ⟨rfl, hb2⟩)
        go_roundw
        case rel => exact ⟨kk + 1, _, _, by omega, by go_num, rfl, rfl, ⟨HB1.out.trans (hb2.mono HB1.out.size), HS2.out⟩⟩
        case measure => simp [intOf]; omega
      · have HS2 : Hid (farGo ((vs.map R).take (kk + 1)) 0 (-1, 0) = (bi, mi)) := by show _ = _; rw [HST.out, if_neg hge]
        go_wp2_with (go_at_fn fn; refine hcall.mono ?_; rintro e w2 ⟨rfl, hb2⟩)
        go_roundw
        case rel => exact ⟨kk + 1, _, _, by omega, by go_num, rfl, rfl, ⟨HB1.out.trans (hb2.mono HB1.out.size), HS2.out⟩⟩
        case measure => simp [intOf]; omega
    · have hltz : ¬ (kk : Int) < (n : Int) := by omega
      have HE : Hid (farI (vs.map R) = bi) := by
        show (farGo (vs.map R) 0 (-1, 0)).1 = _
        have := HI.out.2
        rw [List.take_of_length_le (by rw [List.length_map, HN.out]; omega)] at this
        rw [this]
      go_wp2
      go_ret
      exact ⟨by rw [HE.out]; rfl, HI.out.1⟩
set_option maxHeartbeats 2000000 in
theorem far_none (w : World) (F : Value) : Calls Try.prog 45 #[.slice none 0 0, F] w fun e w' => e = .returned (.int .i64 (-1)) ∧ w' = w := by
  go_enter Try.func45, Try.ntmps45
  go_wp2
  refine wp_loop_rounds 1 ?_
  rw [rounds_succ]
  go_wp2
  go_ret
  exact ⟨rfl, rfl⟩
/-- The same of a bank's row. -/
theorem far_any (gv : Value) (B : Nat) (G : List GrV) (R : GrV → Int) (hl : G.length ≤ 8) (w : World) (hown : OwnK 16 36 w B gv (G.map grCells)) (fn : Nat) (lb : Array Value) (eg : ∀ args w, (callFunc fn args).run Try.prog w = .ok (.enter fn args) w)
    (hm : ∀ W v, v ∈ G → Below w.heap.size w W → Calls Try.prog fn (#[.agg (grCells v).toArray] ++ lb) W fun e w' => e = .returned (.int .i64 (R v)) ∧ Below W.heap.size W w') :
    Calls Try.prog 45 #[gv, .func (.func fn) #[] lb] w fun e w' => e = .returned (.int .i64 (farI (G.map R))) ∧ Below w.heap.size w w' := by
  rcases hown.forms with ⟨rfl, e2⟩ | ⟨g, cap, rfl, _, _, _, _⟩
  · obtain rfl : G = [] := List.map_eq_nil_iff.1 e2
    refine (far_none w _).mono ?_
    rintro e w' ⟨rfl, rfl⟩
    exact ⟨rfl, Below.refl _ _⟩
  · rw [List.length_map] at hown ⊢
    exact far_of Try.prog Try.func45 Try.underlying22 Try.isAgg22 Try.sizeOf22 Try.underlying3 Try.isAgg3 Try.sizeOf3 Try.zeroValue3 Try.underlying4 Try.isAgg4 Try.sizeOf4 16 (by omega) Try.isAgg36 Try.sizeOf36 _ Try.zeroValue36 rfl grCells R g _ cap B G rfl (by omega) w hown fn lb eg hm
end Go.Proofs.Ytjadmldnpdmamaa

/- The grant of a number, cloned; all grants, cloned. -/
namespace Go.Proofs.Ytjadmldnpdmamaa
open Go.RowKit
set_option linter.unusedVariables false

def zeroAP : AskP := ⟨0, ⟨#[]⟩, ⟨#[]⟩, ⟨#[]⟩, false, ⟨#[]⟩, false, []⟩
def zeroP : GrP := ⟨⟨false, ⟨#[]⟩, 0⟩, false, ⟨#[]⟩, ⟨#[]⟩, zeroAP, 0, []⟩
def zeroV : GrV := ⟨zeroP, .slice none 0 0, .slice none 0 0⟩
theorem zeroV_own (w : World) (B : Nat) : GrOwn w B zeroV := ⟨ownS_nil w B, ownS_nil w B⟩
/-- The grant of a number; nothing below 0. -/
def toldL (l : List GrP) (i : Int) : GrP := if i < 0 then zeroP else (l[i.toNat]?).getD zeroP
theorem res_cell_tmp {P : Program} {fn : Func} {tmps : Array Value} {W : World} {a b : Tmp} {t u : TypeId} {g : Nat} {vs : List Value} {k : Nat} {r : Value} (hf : fn.results = #[.cell a t, .tmp b]) (hp : tmps.getD a undef = .pointer (some ⟨g, 0, none⟩)) (hr : tmps.getD b undef = r) (ha : ∀ w, (isAgg t).run P w = .ok true w) (hs : ∀ w, (Go.sizeOf t).run P w = .ok k w) (hk : vs.length = k) (h : W.heap[g]? = some (.cells vs.toArray u (0, 0))) :
    (results fn tmps).run P W = .ok (.tuple #[.agg vs.toArray, r]) W := by
  have hl := run_loadCellsFrom_list P W ⟨g, 0, none⟩ vs k hk (fun i v hi => by
    rw [Addr.add_lit, Nat.zero_add, cell_of h]
    simpa using hi)
  simp only [Array.getD_eq_getD_getElem?] at hp hr
  unfold results
  rw [hf]
  simp [hp, hr, loadVar, ha, hs, asAddr, loadCells, hl]
/-- Where the cells of an element of a row lie. -/
theorem row16 {w : World} {B g n cap i : Nat} {G : List GrV} {v : GrV} {da pa : Option Addr} {dn dc pn pc : Nat} (h : OwnK 16 36 w B (.slice (some ⟨g, 0, none⟩) n cap) (G.map grCells)) (hi : G[i]? = some v) (hd : v.dv = .slice da dn dc) (hp : v.pv = .slice pa pn pc) :
    w.cell? ⟨g, i * 16, none⟩ = some (.bool v.g.org.sec) ∧ w.cell? ⟨g, i * 16 + 1, none⟩ = some (.string v.g.org.host) ∧ w.cell? ⟨g, i * 16 + 2, none⟩ = some (.int .i64 v.g.org.port) ∧ w.cell? ⟨g, i * 16 + 3, none⟩ = some (.bool v.g.proxy) ∧ w.cell? ⟨g, i * 16 + 4, none⟩ = some (.string v.g.user) ∧ w.cell? ⟨g, i * 16 + 5, none⟩ = some (.string v.g.pass) ∧ w.cell? ⟨g, i * 16 + 6, none⟩ = some (.int .i64 v.g.ask.sch) ∧ w.cell? ⟨g, i * 16 + 7, none⟩ = some (.string v.g.ask.realm) ∧ w.cell? ⟨g, i * 16 + 8, none⟩ = some (.string v.g.ask.nonce) ∧ w.cell? ⟨g, i * 16 + 9, none⟩ = some (.string v.g.ask.opq) ∧ w.cell? ⟨g, i * 16 + 10, none⟩ = some (.bool v.g.ask.sess) ∧ w.cell? ⟨g, i * 16 + 11, none⟩ = some (.string v.g.ask.qop) ∧ w.cell? ⟨g, i * 16 + 12, none⟩ = some (.bool v.g.ask.stale) ∧ w.cell? ⟨g, i * 16 + 13, none⟩ = some (.slice da dn dc) ∧ w.cell? ⟨g, i * 16 + 14, none⟩ = some (.int .i64 v.g.count) ∧ w.cell? ⟨g, i * 16 + 15, none⟩ = some (.slice pa pn pc) := by
  have hx : (G.map grCells)[i]? = some [.bool v.g.org.sec, .string v.g.org.host, .int .i64 v.g.org.port, .bool v.g.proxy, .string v.g.user, .string v.g.pass, .int .i64 v.g.ask.sch, .string v.g.ask.realm, .string v.g.ask.nonce, .string v.g.ask.opq, .bool v.g.ask.sess, .string v.g.ask.qop, .bool v.g.ask.stale, .slice da dn dc, .int .i64 v.g.count, .slice pa pn pc] := by rw [List.getElem?_map, hi]; show some (grCells v) = _; unfold grCells; rw [hd, hp]
  exact ⟨h.cell (i := 0) hx rfl, h.cell (i := 1) hx rfl, h.cell (i := 2) hx rfl, h.cell (i := 3) hx rfl, h.cell (i := 4) hx rfl, h.cell (i := 5) hx rfl, h.cell (i := 6) hx rfl, h.cell (i := 7) hx rfl, h.cell (i := 8) hx rfl, h.cell (i := 9) hx rfl, h.cell (i := 10) hx rfl, h.cell (i := 11) hx rfl, h.cell (i := 12) hx rfl, h.cell (i := 13) hx rfl, h.cell (i := 14) hx rfl, h.cell (i := 15) hx rfl⟩
set_option maxRecDepth 100000 in
set_option maxHeartbeats 4000000 in
theorem told_none (gv : Value) (i : Int) (hi : i < 0) (w : World) :
    Calls Try.prog 44 #[gv, .int .i64 i] w fun e w' => e = .returned (.tuple #[.agg (grCells zeroV).toArray, .bool false]) ∧ Below w.heap.size w w' := by
  have hb0 : Below w.heap.size w (w.alloc (.cells #[.bool false, .string ⟨#[]⟩, .int .i64 0, .bool false, .string ⟨#[]⟩, .string ⟨#[]⟩, .int .i64 0, .string ⟨#[]⟩, .string ⟨#[]⟩, .string ⟨#[]⟩, .bool false, .string ⟨#[]⟩, .bool false, .slice none 0 0, .int .i64 0, .slice none 0 0] 36)) := (Below.refl _ _).alloc (Nat.le_refl _) _
  have hn0 := heap_alloc_new w (.cells #[.bool false, .string ⟨#[]⟩, .int .i64 0, .bool false, .string ⟨#[]⟩, .string ⟨#[]⟩, .int .i64 0, .string ⟨#[]⟩, .string ⟨#[]⟩, .string ⟨#[]⟩, .bool false, .string ⟨#[]⟩, .bool false, .slice none 0 0, .int .i64 0, .slice none 0 0] 36)
  have HW : Hid (Below w.heap.size w (w.alloc (.cells #[.bool false, .string ⟨#[]⟩, .int .i64 0, .bool false, .string ⟨#[]⟩, .string ⟨#[]⟩, .int .i64 0, .string ⟨#[]⟩, .string ⟨#[]⟩, .string ⟨#[]⟩, .bool false, .string ⟨#[]⟩, .bool false, .slice none 0 0, .int .i64 0, .slice none 0 0] 36)) ∧ (w.alloc (.cells #[.bool false, .string ⟨#[]⟩, .int .i64 0, .bool false, .string ⟨#[]⟩, .string ⟨#[]⟩, .int .i64 0, .string ⟨#[]⟩, .string ⟨#[]⟩, .string ⟨#[]⟩, .bool false, .string ⟨#[]⟩, .bool false, .slice none 0 0, .int .i64 0, .slice none 0 0] 36)).heap[w.heap.size]? = some (.cells #[.bool false, .string ⟨#[]⟩, .int .i64 0, .bool false, .string ⟨#[]⟩, .string ⟨#[]⟩, .int .i64 0, .string ⟨#[]⟩, .string ⟨#[]⟩, .string ⟨#[]⟩, .bool false, .string ⟨#[]⟩, .bool false, .slice none 0 0, .int .i64 0, .slice none 0 0] 36 (0, 0))) := ⟨hb0, hn0⟩
  clear hb0 hn0
  go_enter Try.func44, Try.ntmps44
  go_wp2_with fail
  first
    | exact bodyPost_ret (v := .tuple #[.agg (grCells zeroV).toArray, .bool false]) (res_cell_tmp (vs := grCells zeroV) rfl rfl rfl Try.isAgg36 Try.sizeOf36 rfl HW.out.2) rfl ⟨rfl, HW.out.1⟩
    | (obtain ⟨z1, z2⟩ := setAll [.bool false, .string ⟨#[]⟩, .int .i64 0, .bool false, .string ⟨#[]⟩, .string ⟨#[]⟩, .int .i64 0, .string ⟨#[]⟩, .string ⟨#[]⟩, .string ⟨#[]⟩, .bool false, .string ⟨#[]⟩, .bool false, .slice none 0 0, .int .i64 0, .slice none 0 0] HW.out.2 rfl
       simp only [World.setCells, Nat.reduceAdd] at z1 z2
       exact bodyPost_ret (v := .tuple #[.agg (grCells zeroV).toArray, .bool false]) (res_cell_tmp (vs := grCells zeroV) rfl rfl rfl Try.isAgg36 Try.sizeOf36 rfl z1) rfl ⟨rfl, HW.out.1.grown z2 HW.out.1.size (fun i hi => by injection hi with hi; omega)⟩)
set_option maxRecDepth 100000 in
set_option maxHeartbeats 4000000 in
theorem told_some (g n cap B i : Nat) (G : List GrV) (v : GrV) (hi : G[i]? = some v) (hn : G.length = n) (hl : n ≤ 8) (hfit : GrFit v.g) (w : World) (hown : OwnK 16 36 w B (.slice (some ⟨g, 0, none⟩) n cap) (G.map grCells)) (hv : GrOwn w B v) :
    Calls Try.prog 44 #[.slice (some ⟨g, 0, none⟩) n cap, .int .i64 i] w fun e w' => (∃ x : GrV, e = .returned (.tuple #[.agg (grCells x).toArray, .bool true]) ∧ x.g = v.g ∧ GrOwn w' w.heap.size x) ∧ Below w.heap.size w w' := by
  obtain ⟨da, dc, dg, hdv, hds⟩ := hv.dom.strs
  obtain ⟨pa, pc, pg, hpv, hps⟩ := hv.paths.strs
  obtain ⟨dn, HDN⟩ : ∃ dn, Hid (v.g.ask.dom.length = dn) := ⟨_, rfl⟩
  obtain ⟨pn, HPN⟩ : ∃ pn, Hid (v.g.paths.length = pn) := ⟨_, rfl⟩
  rw [HDN.out] at hdv hds
  rw [HPN.out] at hpv hps
  have hin : i < n := by rw [← hn]; exact (List.getElem?_eq_some_iff.1 hi).1
  have hcells := row16 hown hi hdv hpv
  have hbR : Below w.heap.size w (w.alloc (.cells #[.bool false, .string ⟨#[]⟩, .int .i64 0, .bool false, .string ⟨#[]⟩, .string ⟨#[]⟩, .int .i64 0, .string ⟨#[]⟩, .string ⟨#[]⟩, .string ⟨#[]⟩, .bool false, .string ⟨#[]⟩, .bool false, .slice none 0 0, .int .i64 0, .slice none 0 0] 36)) := (Below.refl _ _).alloc (Nat.le_refl _) _
  have hown2 := hown.below hbR
  have hnR := heap_alloc_new w (.cells #[.bool false, .string ⟨#[]⟩, .int .i64 0, .bool false, .string ⟨#[]⟩, .string ⟨#[]⟩, .int .i64 0, .string ⟨#[]⟩, .string ⟨#[]⟩, .string ⟨#[]⟩, .bool false, .string ⟨#[]⟩, .bool false, .slice none 0 0, .int .i64 0, .slice none 0 0] 36)
  have HW : Hid (Below w.heap.size w (w.alloc (.cells #[.bool false, .string ⟨#[]⟩, .int .i64 0, .bool false, .string ⟨#[]⟩, .string ⟨#[]⟩, .int .i64 0, .string ⟨#[]⟩, .string ⟨#[]⟩, .string ⟨#[]⟩, .bool false, .string ⟨#[]⟩, .bool false, .slice none 0 0, .int .i64 0, .slice none 0 0] 36)) ∧ (w.alloc (.cells #[.bool false, .string ⟨#[]⟩, .int .i64 0, .bool false, .string ⟨#[]⟩, .string ⟨#[]⟩, .int .i64 0, .string ⟨#[]⟩, .string ⟨#[]⟩, .string ⟨#[]⟩, .bool false, .string ⟨#[]⟩, .bool false, .slice none 0 0, .int .i64 0, .slice none 0 0] 36)).heap[w.heap.size]? = some (.cells #[.bool false, .string ⟨#[]⟩, .int .i64 0, .bool false, .string ⟨#[]⟩, .string ⟨#[]⟩, .int .i64 0, .string ⟨#[]⟩, .string ⟨#[]⟩, .string ⟨#[]⟩, .bool false, .string ⟨#[]⟩, .bool false, .slice none 0 0, .int .i64 0, .slice none 0 0] 36 (0, 0)) ∧ Strs (w.alloc (.cells #[.bool false, .string ⟨#[]⟩, .int .i64 0, .bool false, .string ⟨#[]⟩, .string ⟨#[]⟩, .int .i64 0, .string ⟨#[]⟩, .string ⟨#[]⟩, .string ⟨#[]⟩, .bool false, .string ⟨#[]⟩, .bool false, .slice none 0 0, .int .i64 0, .slice none 0 0] 36)) da dn dg 0 v.g.ask.dom ∧ Strs (w.alloc (.cells #[.bool false, .string ⟨#[]⟩, .int .i64 0, .bool false, .string ⟨#[]⟩, .string ⟨#[]⟩, .int .i64 0, .string ⟨#[]⟩, .string ⟨#[]⟩, .string ⟨#[]⟩, .bool false, .string ⟨#[]⟩, .bool false, .slice none 0 0, .int .i64 0, .slice none 0 0] 36)) pa pn pg 0 v.g.paths ∧ GrFit v.g) := ⟨hbR, hnR, hds.below hbR, hps.below hbR, hfit⟩
  have hcells2 := row16 hown2 hi hdv hpv
  obtain ⟨c0, c1, c2, c3, c4, c5, c6, c7, c8, c9, c10, c11, c12, c13, c14, c15⟩ := hcells2
  have hglt : g < w.heap.size := by
    rcases hown.forms with ⟨e, _⟩ | ⟨g', cap', e, _, h1, _, _⟩
    · cases e
    · injection e with e1 _ _
      injection e1 with e1
      injection e1 with e1
      omega
  have hi' : (i : Int) < (n : Int) := by omega
  have hi0 : ¬ (i : Int) < 0 := by omega
  clear hcells hbR hown hown2 hnR hds hps hfit hv hdv hpv hi hn
  generalize hWR : w.alloc (.cells #[.bool false, .string ⟨#[]⟩, .int .i64 0, .bool false, .string ⟨#[]⟩, .string ⟨#[]⟩, .int .i64 0, .string ⟨#[]⟩, .string ⟨#[]⟩, .string ⟨#[]⟩, .bool false, .string ⟨#[]⟩, .bool false, .slice none 0 0, .int .i64 0, .slice none 0 0] 36) = WR at c0 c1 c2 c3 c4 c5 c6 c7 c8 c9 c10 c11 c12 c13 c14 c15 HW
  go_enter Try.func44, Try.ntmps44
  go_wp2_with fail
  refine (freshG_at v.g HW.out.2.2.2.2 da pa dn dc pn pc dg 0 pg 0 _ HW.out.2.2.1 HW.out.2.2.2.1).mono ?_
  rintro e w2 ⟨⟨vv, uu, rfl, hvv, huu⟩, hb2⟩
  obtain ⟨va, vc, vg, rfl, _⟩ := hvv.strs
  obtain ⟨vn, HVN⟩ : ∃ vn, Hid (v.g.ask.dom.length = vn) := ⟨_, rfl⟩
  rw [HVN.out] at hvv ⊢
  obtain ⟨ua, uc, ug, rfl, _⟩ := huu.strs
  obtain ⟨un, HUN⟩ : ∃ un, Hid (v.g.paths.length = un) := ⟨_, rfl⟩
  rw [HUN.out] at huu ⊢
  have HF : Hid (Below w.heap.size w w2 ∧ w2.heap[w.heap.size]? = some (.cells #[.bool false, .string ⟨#[]⟩, .int .i64 0, .bool false, .string ⟨#[]⟩, .string ⟨#[]⟩, .int .i64 0, .string ⟨#[]⟩, .string ⟨#[]⟩, .string ⟨#[]⟩, .bool false, .string ⟨#[]⟩, .bool false, .slice none 0 0, .int .i64 0, .slice none 0 0] 36 (0, 0)) ∧ OwnS w2 WR.heap.size (.slice va vn vc) v.g.ask.dom ∧ OwnS w2 WR.heap.size (.slice ua un uc) v.g.paths ∧ w.heap.size < WR.heap.size) := ⟨HW.out.1.trans (hb2.mono HW.out.1.size), (hb2.block _ (Array.getElem?_eq_some_iff.1 HW.out.2.1).1).trans HW.out.2.1, hvv, huu, (Array.getElem?_eq_some_iff.1 HW.out.2.1).1⟩
  have d0 : w2.cell? ⟨w.heap.size, 0, none⟩ = some (.bool false) := cell_of HF.out.2.1
  have d1 : w2.cell? ⟨w.heap.size, 1, none⟩ = some (.string ⟨#[]⟩) := cell_of HF.out.2.1
  have d2 : w2.cell? ⟨w.heap.size, 2, none⟩ = some (.int .i64 0) := cell_of HF.out.2.1
  have d3 : w2.cell? ⟨w.heap.size, 3, none⟩ = some (.bool false) := cell_of HF.out.2.1
  have d4 : w2.cell? ⟨w.heap.size, 4, none⟩ = some (.string ⟨#[]⟩) := cell_of HF.out.2.1
  have d5 : w2.cell? ⟨w.heap.size, 5, none⟩ = some (.string ⟨#[]⟩) := cell_of HF.out.2.1
  have d6 : w2.cell? ⟨w.heap.size, 6, none⟩ = some (.int .i64 0) := cell_of HF.out.2.1
  have d7 : w2.cell? ⟨w.heap.size, 7, none⟩ = some (.string ⟨#[]⟩) := cell_of HF.out.2.1
  have d8 : w2.cell? ⟨w.heap.size, 8, none⟩ = some (.string ⟨#[]⟩) := cell_of HF.out.2.1
  have d9 : w2.cell? ⟨w.heap.size, 9, none⟩ = some (.string ⟨#[]⟩) := cell_of HF.out.2.1
  have d10 : w2.cell? ⟨w.heap.size, 10, none⟩ = some (.bool false) := cell_of HF.out.2.1
  have d11 : w2.cell? ⟨w.heap.size, 11, none⟩ = some (.string ⟨#[]⟩) := cell_of HF.out.2.1
  have d12 : w2.cell? ⟨w.heap.size, 12, none⟩ = some (.bool false) := cell_of HF.out.2.1
  have d13 : w2.cell? ⟨w.heap.size, 13, none⟩ = some (.slice none 0 0) := cell_of HF.out.2.1
  have d14 : w2.cell? ⟨w.heap.size, 14, none⟩ = some (.int .i64 0) := cell_of HF.out.2.1
  have d15 : w2.cell? ⟨w.heap.size, 15, none⟩ = some (.slice none 0 0) := cell_of HF.out.2.1
  have fr := free_of HF.out.2.1
  clear hb2 hvv huu c0 c1 c2 c3 c4 c5 c6 c7 c8 c9 c10 c11 c12 c13 c14 c15 HW
  go_wp2_with fail
  obtain ⟨z1, z2⟩ := setAll [.bool v.g.org.sec, .string v.g.org.host, .int .i64 v.g.org.port, .bool v.g.proxy, .string v.g.user, .string v.g.pass, .int .i64 v.g.ask.sch, .string v.g.ask.realm, .string v.g.ask.nonce, .string v.g.ask.opq, .bool v.g.ask.sess, .string v.g.ask.qop, .bool v.g.ask.stale, .slice va vn vc, .int .i64 v.g.count, .slice ua un uc] HF.out.2.1 rfl
  simp only [World.setCells, Nat.reduceAdd] at z1 z2
  clear d0 d1 d2 d3 d4 d5 d6 d7 d8 d9 d10 d11 d12 d13 d14 d15 fr
  refine bodyPost_ret (v := .tuple #[.agg (grCells ⟨v.g, .slice va vn vc, .slice ua un uc⟩).toArray, .bool true]) (res_cell_tmp (vs := grCells ⟨v.g, .slice va vn vc, .slice ua un uc⟩) rfl rfl rfl Try.isAgg36 Try.sizeOf36 rfl z1) rfl ?_
  have hs := HF.out.2.2.2.2
  exact ⟨⟨⟨v.g, .slice va vn vc, .slice ua un uc⟩, rfl, rfl, ⟨ownS_mono (HF.out.2.2.1.grown z2 hs) (by omega), ownS_mono (HF.out.2.2.2.1.grown z2 hs) (by omega)⟩⟩, HF.out.1.grown z2 HF.out.1.size (fun i hi => by injection hi with hi; omega)⟩
end Go.Proofs.Ytjadmldnpdmamaa

/- The grant that counts for a path. -/
namespace Go.Proofs.Ytjadmldnpdmamaa
open Go.RowKit
set_option linter.unusedVariables false

theorem farGo_range : ∀ (l : List Int) (i : Nat) (s : Int × Int), (farGo l i s).1 = s.1 ∨ ∃ k : Nat, (farGo l i s).1 = k ∧ k < i + l.length
  | [], i, s => .inl rfl
  | r :: t, i, s => by
    show (farGo t (i + 1) _).1 = _ ∨ _
    rcases farGo_range t (i + 1) (if s.2 ≤ r then ((i : Int), r) else s) with h | ⟨k, h1, h2⟩
    · by_cases hc : s.2 ≤ r
      · rw [if_pos hc] at h
        refine .inr ⟨i, ?_, by rw [List.length_cons]; omega⟩
        show (farGo t (i + 1) _).1 = _
        rw [if_pos hc]
        exact h
      · rw [if_neg hc] at h
        refine .inl ?_
        rw [if_neg hc]
        exact h
    · exact .inr ⟨k, h1, by rw [List.length_cons]; omega⟩
theorem farI_range (rs : List Int) : farI rs = -1 ∨ ∃ k : Nat, farI rs = k ∧ k < rs.length := by
  rcases farGo_range rs 0 (-1, 0) with h | ⟨k, h1, h2⟩
  · exact .inl h
  · exact .inr ⟨k, h1, by omega⟩
/-- The number of the grant that counts. -/
def findI (G : List GrP) (o : OrgV) (p : Bool) (path : ByteArray) : Int := farI (G.map (reachI o p path))
theorem findI_range (G : List GrP) (o : OrgV) (p : Bool) (path : ByteArray) : findI G o p path = -1 ∨ ∃ k : Nat, findI G o p path = k ∧ k < G.length := by
  have := farI_range (G.map (reachI o p path))
  rwa [List.length_map] at this
/-- A grant told: what it is, whether it is one. -/
def TldAns (l : List GrP) (i : Int) (B : Nat) (e : Ending) (w' : World) : Prop := ∃ x : GrV, e = .returned (.tuple #[.agg (grCells x).toArray, .bool (decide (0 ≤ i))]) ∧ x.g = toldL l i ∧ GrOwn w' B x
theorem told_all {B b : Nat} {gv wv : Value} {G : List GrV} {V : List WtV} (w : World) (h : BankW w B b gv wv G V) (i : Int) (hi : i = -1 ∨ ∃ k : Nat, i = k ∧ k < (G.map (·.g)).length) :
    Calls Try.prog 44 #[gv, .int .i64 i] w fun e w' => TldAns (G.map (·.g)) i w.heap.size e w' ∧ Below w.heap.size w w' := by
  rcases hi with rfl | ⟨k, rfl, hk⟩
  · refine (told_none gv (-1) (by decide) w).mono ?_
    rintro e w' ⟨rfl, hb⟩
    exact ⟨⟨zeroV, rfl, rfl, zeroV_own _ _⟩, hb⟩
  · rw [List.length_map] at hk
    have hv := List.getElem?_eq_getElem hk
    have hg := h.gs
    rcases hg.forms with ⟨_, e2⟩ | ⟨g, cap, rfl, _, _, _, _⟩
    · have := congrArg List.length e2
      rw [List.length_map, List.length_nil] at this
      omega
    · rw [List.length_map] at hg ⊢
      refine (told_some g _ cap B k G G[k] hv rfl h.glen (h.gf _ (List.getElem_mem hk)) w hg (h.go _ (List.getElem_mem hk))).mono ?_
      rintro e w' ⟨⟨x, rfl, hx, ho⟩, hb⟩
      refine ⟨⟨x, ?_, ?_, ho⟩, hb⟩
      · rw [decide_eq_true (by omega)]
      · unfold toldL
        rw [if_neg (by omega), hx, Int.toNat_natCast, List.getElem?_map, hv]
        rfl
/-- The index that counts, by the program. -/
theorem farthest_any {B b : Nat} {gv wv : Value} {G : List GrV} {V : List WtV} (w : World) (h : BankW w B b gv wv G V) (o : OrgV) (p : Bool) (path : ByteArray) (xa xb xc : Nat) (h3 : Box3 w xa xb xc o p path) :
    Calls Try.prog 45 #[gv, .func (.func 63) #[] #[.pointer (some ⟨xa, 0, none⟩), .pointer (some ⟨xb, 0, none⟩), .pointer (some ⟨xc, 0, none⟩)]] w fun e w' => e = .returned (.int .i64 (findI (G.map (·.g)) o p path)) ∧ Below w.heap.size w w' := by
  have hf := far_any gv B G (fun v => reachI o p path v.g) h.glen w h.gs 63 #[.pointer (some ⟨xa, 0, none⟩), .pointer (some ⟨xb, 0, none⟩), .pointer (some ⟨xc, 0, none⟩)] (enters_at Try.func63 (by kernel_rfl) rfl) (fun W v hv hb => reach_any v B (h.gf v hv) o p path xa xb xc W (h3.below hb) ((h.go v hv).below hb))
  unfold findI
  rw [List.map_map]
  exact hf
set_option maxRecDepth 100000 in
set_option maxHeartbeats 2000000 in
theorem reachFor_any (o : OrgV) (p : Bool) (r : ByteArray) (w : World) :
    Calls Try.prog 46 #[.agg #[.bool o.sec, .string o.host, .int .i64 o.port], .bool p, .string r] w fun e w' => (∃ a b c, e = .returned (.func (.func 63) #[] #[.pointer (some ⟨a, 0, none⟩), .pointer (some ⟨b, 0, none⟩), .pointer (some ⟨c, 0, none⟩)]) ∧ Hid (Box3 w' a b c o p r)) ∧ Below w.heap.size w w' := by
  have hb1 : Below w.heap.size w (((w.alloc (.cells #[.bool o.sec, .string o.host, .int .i64 o.port] 24)).alloc (.cells #[.bool p] 4)).alloc (.cells #[.string r] 9)) := (((Below.refl _ _).alloc (Nat.le_refl _) _).alloc (by simp) _).alloc (by simp; omega) _
  have h1 : Hid (Box3 (((w.alloc (.cells #[.bool o.sec, .string o.host, .int .i64 o.port] 24)).alloc (.cells #[.bool p] 4)).alloc (.cells #[.string r] 9)) w.heap.size (w.heap.size + 1) (w.heap.size + 2) o p r) := by
    have e1 := heap_alloc_new w (.cells #[.bool o.sec, .string o.host, .int .i64 o.port] 24)
    have e2 := heap_alloc_new (w.alloc (.cells #[.bool o.sec, .string o.host, .int .i64 o.port] 24)) (.cells #[.bool p] 4)
    have e3 := heap_alloc_new ((w.alloc (.cells #[.bool o.sec, .string o.host, .int .i64 o.port] 24)).alloc (.cells #[.bool p] 4)) (.cells #[.string r] 9)
    simp only [World.size_alloc] at e2 e3
    refine ⟨?_, ?_, e3⟩
    · rw [heap_alloc_old _ _ (by simp; omega), heap_alloc_old _ _ (by simp)]
      exact e1
    · rw [heap_alloc_old _ _ (by simp)]
      exact e2
  go_enter Try.func46, Try.ntmps46
  go_wp2
  go_ret
  exact ⟨⟨_, _, _, rfl, h1⟩, hb1⟩
/-- What is kept by Find's calls: the bank, the box of the origin, the block of the result. -/
structure FndF (w w1 : World) (B b : Nat) (gv wv : Value) (G : List GrV) (V : List WtV) (o : OrgV) (Z : Array Value) : Prop where
  bel : Below w.heap.size w w1
  bank : BankW w1 B b gv wv G V
  box : w1.heap[w.heap.size]? = some (.cells #[.bool o.sec, .string o.host, .int .i64 o.port] 24 (0, 0))
  res : w1.heap[w.heap.size + 1]? = some (.cells Z 36 (0, 0))
theorem FndF.below {w w1 w2 : World} {B b : Nat} {gv wv : Value} {G : List GrV} {V : List WtV} {o : OrgV} {Z : Array Value} (h : FndF w w1 B b gv wv G V o Z) (hb : Below w1.heap.size w1 w2) : FndF w w2 B b gv wv G V o Z :=
  ⟨h.bel.trans (hb.mono h.bel.size), h.bank.below hb, (hb.block _ (Array.getElem?_eq_some_iff.1 h.box).1).trans h.box, (hb.block _ (Array.getElem?_eq_some_iff.1 h.res).1).trans h.res⟩
theorem FndF.facts {w w1 : World} {B b : Nat} {gv wv : Value} {G : List GrV} {V : List WtV} {o : OrgV} {Z : Array Value} (h : FndF w w1 B b gv wv G V o Z) : w1.cell? ⟨b, 0, none⟩ = some gv ∧ w1.cell? ⟨w.heap.size, 0, none⟩ = some (.bool o.sec) ∧ w1.cell? ⟨w.heap.size, 1, none⟩ = some (.string o.host) ∧ w1.cell? ⟨w.heap.size, 2, none⟩ = some (.int .i64 o.port) :=
  ⟨(cell_of (i := 0) h.bank.blk).trans rfl, (cell_of (i := 0) h.box).trans rfl, (cell_of (i := 1) h.box).trans rfl, (cell_of (i := 2) h.box).trans rfl⟩
theorem fnd_start (w : World) {B b : Nat} {gv wv : Value} {G : List GrV} {V : List WtV} (h : BankW w B b gv wv G V) (o : OrgV) (Z : Array Value) : FndF w ((w.alloc (.cells #[.bool o.sec, .string o.host, .int .i64 o.port] 24)).alloc (.cells Z 36)).drew B b gv wv G V o Z := by
  obtain ⟨h1, h2, h3⟩ := boxes2 w #[.bool o.sec, .string o.host, .int .i64 o.port] Z 24 36
  exact ⟨h1.drew, (h.below h1).below (Below.refl _ _).drew, h2, h3⟩
/-- A whole result stored: what stands there, and what is kept. -/
theorem fnd_store {w w4 : World} {B b : Nat} {gv wv : Value} {G : List GrV} {V : List WtV} {o : OrgV} {Z : Array Value} (h : FndF w w4 B b gv wv G V o Z) (x : List Value) (hz : Z.size = x.length) (h1 : ∀ u ∈ x, u.oneCell' = true) :
    Sem.run Try.prog (storeCells ⟨w.heap.size + 1, 0, none⟩ x 0) w4 = .ok () (w4.setCells (w.heap.size + 1) 0 x) ∧ Hid ((w4.setCells (w.heap.size + 1) 0 x).heap[w.heap.size + 1]? = some (.cells x.toArray 36 (0, 0)) ∧ w4.grownBy (w4.setCells (w.heap.size + 1) 0 x) (some (w.heap.size + 1)) ∧ (w4.setCells (w.heap.size + 1) 0 x).cell? ⟨b, 0, none⟩ = some gv ∧ (w4.setCells (w.heap.size + 1) 0 x).cell? ⟨w.heap.size, 0, none⟩ = some (.bool o.sec) ∧ (w4.setCells (w.heap.size + 1) 0 x).cell? ⟨w.heap.size, 1, none⟩ = some (.string o.host) ∧ (w4.setCells (w.heap.size + 1) 0 x).cell? ⟨w.heap.size, 2, none⟩ = some (.int .i64 o.port)) := by
  have hr := run_storeCells_cells (P := Try.prog) (w.heap.size + 1) 0 x 0 w4 (fun j hj => by
    rw [Nat.add_zero, Nat.zero_add, cell_of h.res, Array.getElem?_eq_getElem (by omega)]
    rfl) (fun j _ => free_of h.res _) h1
  rw [Nat.add_zero] at hr
  obtain ⟨z1, z2⟩ := setAll x h.res hz
  obtain ⟨f0, f1, f2, f3⟩ := h.facts
  have hbne : some b ≠ some (w.heap.size + 1) := fun e => by
    have e2 : b = w.heap.size + 1 := by injection e
    have h1 := h.bank.blk
    rw [e2, h.res] at h1
    injection h1 with h1
    injection h1 with _ h3
    exact absurd h3 (by decide)
  exact ⟨hr, z1, z2, z2.cell f0 hbne, z2.cell f1 (by show some w.heap.size ≠ _; simp), z2.cell f2 (by show some w.heap.size ≠ _; simp), z2.cell f3 (by show some w.heap.size ≠ _; simp)⟩
set_option maxRecDepth 100000 in
set_option maxHeartbeats 4000000 in
theorem find_any {B b : Nat} {gv wv : Value} {G : List GrV} {V : List WtV} (w : World) (h : BankW w B b gv wv G V) (o : OrgV) (p : Bool) (path : ByteArray) :
    Calls Try.prog 15 #[.pointer (some ⟨b, 0, none⟩), .agg #[.bool o.sec, .string o.host, .int .i64 o.port], .bool p, .string path] w fun e w' => TldAns (G.map (·.g)) (findI (G.map (·.g)) o p path) w.heap.size e w' ∧ Below w.heap.size w w' := by
  have H0 : Hid (FndF w ((w.alloc (.cells #[.bool o.sec, .string o.host, .int .i64 o.port] 24)).alloc (.cells #[.bool false, .string ⟨#[]⟩, .int .i64 0, .bool false, .string ⟨#[]⟩, .string ⟨#[]⟩, .int .i64 0, .string ⟨#[]⟩, .string ⟨#[]⟩, .string ⟨#[]⟩, .bool false, .string ⟨#[]⟩, .bool false, .slice none 0 0, .int .i64 0, .slice none 0 0] 36)).drew B b gv wv G V o _) := fnd_start w h o _
  have hQ := H0.out.facts
  obtain ⟨I, HI⟩ : ∃ I, Hid (findI (G.map (·.g)) o p path = I) := ⟨_, rfl⟩
  have HIR : Hid (I = -1 ∨ ∃ k : Nat, I = k ∧ k < (G.map (·.g)).length) := by
    have := findI_range (G.map (·.g)) o p path
    rw [HI.out, show (G.map (·.g)).length = (G.map (·.g)).length from rfl] at this
    exact this
  rw [HI.out]
  clear h
  go_enter Try.func15, Try.ntmps15
  go_wp2_with fail
  go_region_held3 (fun W => W.cell? ⟨b, 0, none⟩ = some gv ∧ W.cell? ⟨w.heap.size, 0, none⟩ = some (.bool o.sec) ∧ W.cell? ⟨w.heap.size, 1, none⟩ = some (.string o.host) ∧ W.cell? ⟨w.heap.size, 2, none⟩ = some (.int .i64 o.port)) (with_reducible assumption) (first
    | (go_at_call 46; refine (reachFor_any o p path _).mono ?_; rintro e w1 ⟨⟨xa, xb, xc, rfl, H3⟩, hb1⟩; have H1 : Hid (FndF w w1 B b gv wv G V o _) := H0.out.below hb1; have hQ1 := H1.out.facts; clear hb1)
    | (go_at_call 45; refine (farthest_any _ H1.out.bank o p path xa xb xc H3.out).mono ?_; rw [HI.out]; rintro e w2 ⟨rfl, hb2⟩; have H2 : Hid (FndF w w2 B b gv wv G V o _) := H1.out.below hb2; have hQ2 := H2.out.facts; clear hb2)
    | (go_at_call 44; refine (told_all _ H2.out.bank I HIR.out).mono ?_; rintro e w4 ⟨⟨x, rfl, hxg, hxo⟩, hb4⟩; have H4 : Hid (FndF w w4 B b gv wv G V o _) := H2.out.below hb4; have HX : Hid (x.g = toldL (G.map (·.g)) I ∧ GrOwn w4 w2.heap.size x) := ⟨hxg, hxo⟩; have hQ4 := H4.out.facts; have hxl := grCells_len x; obtain ⟨hst, HZ⟩ := fnd_store H4.out (grCells x) rfl hxo.one; have hQ5 := HZ.out.2.2; clear hxg hxo hb4))
  go_wp2
  refine bodyPost_ret (v := .tuple #[.agg (grCells x).toArray, .bool (decide (0 ≤ I))]) (res_cell_tmp (vs := grCells x) rfl rfl rfl Try.isAgg36 Try.sizeOf36 (grCells_len x) HZ.out.1) rfl ?_
  exact ⟨⟨x, rfl, HX.out.1, (HX.out.2.other HZ.out.2.1 (Typed.block H4.out.res) (by decide)).mono H2.out.bel.size⟩, H4.out.bel.grown HZ.out.2.1 H4.out.bel.size (fun i hi => by injection hi with hi; omega)⟩
end Go.Proofs.Ytjadmldnpdmamaa

/- A bank's grants, cloned. -/
namespace Go.Proofs.Ytjadmldnpdmamaa
open Go.RowKit
set_option linter.unusedVariables false

theorem freshG_any (v : GrV) (B : Nat) (hfit : GrFit v.g) (w : World) (h : GrOwn w B v) :
    Calls Try.prog 40 #[.agg (grCells v).toArray] w fun e w' => (∃ u : GrV, e = .returned (.agg (grCells u).toArray) ∧ u.g = v.g ∧ GrOwn w' w.heap.size u) ∧ Below w.heap.size w w' := by
  obtain ⟨da, dc, dg, hdv, hds⟩ := h.dom.strs
  obtain ⟨pa, pc, pg, hpv, hps⟩ := h.paths.strs
  have hc := freshG_at v.g hfit da pa _ dc _ pc dg 0 pg 0 w hds hps
  rw [← hdv, ← hpv] at hc
  refine hc.mono ?_
  rintro e w' ⟨⟨a, u, rfl, h1, h2⟩, hb⟩
  exact ⟨⟨⟨v.g, a, u⟩, rfl, rfl, ⟨h1, h2⟩⟩, hb⟩
theorem stays_own (B : Nat) : Stays 36 (fun W (u : GrV) => GrOwn W B u) := fun W W' row u hg ht h => h.other hg ht (by decide)
set_option maxHeartbeats 2000000 in
theorem ech_none (w : World) (F : Value) : Calls Try.prog 39 #[.slice none 0 0, F] w fun e w' => e = .returned (.slice none 0 0) ∧ w' = w := by
  go_enter Try.func39, Try.ntmps39
  go_wp2
  refine wp_loop_rounds 1 ?_
  rw [rounds_succ]
  go_wp2
  go_ret
  exact ⟨rfl, rfl⟩
theorem infoE : (Try.prog.info? 36).map (fun i => (i.zero, i.size, i.bytes)) = some (some (.agg #[.bool false, .string ⟨#[]⟩, .int .i64 0, .bool false, .string ⟨#[]⟩, .string ⟨#[]⟩, .int .i64 0, .string ⟨#[]⟩, .string ⟨#[]⟩, .string ⟨#[]⟩, .bool false, .string ⟨#[]⟩, .bool false, .slice none 0 0, .int .i64 0, .slice none 0 0]), 16, 216) := by kernel_rfl
/-- Grants handed out. -/
def GrtAns (l : List GrP) (B : Nat) (e : Ending) (w' : World) : Prop := ∃ (val : Value) (us : List GrV), e = .returned val ∧ OwnK 16 36 w' B val (us.map grCells) ∧ us.map (·.g) = l ∧ ∀ u ∈ us, GrOwn w' B u
theorem each_any (gv : Value) (B : Nat) (G : List GrV) (hl : G.length ≤ 1000) (w : World) (hown : OwnK 16 36 w B gv (G.map grCells)) (hgo : ∀ v ∈ G, GrOwn w B v) (hgf : ∀ v ∈ G, GrFit v.g) :
    Calls Try.prog 39 #[gv, .func (.func 40) #[] #[]] w fun e w' => GrtAns (G.map (·.g)) w.heap.size e w' ∧ Below w.heap.size w w' := by
  rcases hown.forms with ⟨rfl, e2⟩ | ⟨g, cap, rfl, _, _, _, _⟩
  · obtain rfl : G = [] := List.map_eq_nil_iff.1 e2
    refine (ech_none w _).mono ?_
    rintro e w' ⟨rfl, rfl⟩
    exact ⟨⟨_, [], rfl, ownK_nil _ _ _ _, rfl, fun u hu => (by cases hu)⟩, Below.refl _ _⟩
  · rw [List.length_map] at hown ⊢
    obtain ⟨i0, hi0, hz0, hz1, hz2⟩ := info_parts infoE
    refine (echG_of Try.prog Try.func39 (by kernel_rfl) Try.underlying22 Try.isAgg22 Try.sizeOf22 Try.underlying3 Try.isAgg3 Try.sizeOf3 Try.zeroValue3 Try.underlying4 Try.isAgg4 Try.sizeOf4 16 (by omega) (by omega) Try.isAgg36 Try.sizeOf36 _ Try.zeroValue36 rfl (by decide) i0 hi0 hz1 hz0 216 hz2 (by omega) grCells (fun v : GrV => v.g) grCells_len (fun W (u : GrV) => GrOwn W w.heap.size u) (stays_own _) (fun W u hu => hu.one) g _ cap B G rfl hl w hown 40 (enters_at Try.func40 (by kernel_rfl) rfl) (fun W v hv hb => ?_)).mono ?_
    · refine (freshG_any v B (hgf v hv) W ((hgo v hv).below hb)).mono ?_
      rintro e w' ⟨⟨u, rfl, hu, ho⟩, hb2⟩
      exact ⟨⟨u, rfl, hu, ho.mono hb.size⟩, hb2⟩
    · rintro e w' ⟨⟨val, us, rfl, h1, h2, h3⟩, hb⟩
      exact ⟨⟨val, us, rfl, h1, h2, h3⟩, hb⟩
set_option maxHeartbeats 2000000 in
theorem grants_any {B b : Nat} {gv wv : Value} {G : List GrV} {V : List WtV} (w : World) (h : BankW w B b gv wv G V) :
    Calls Try.prog 13 #[.pointer (some ⟨b, 0, none⟩)] w fun e w' => GrtAns (G.map (·.g)) w.heap.size e w' ∧ Below w.heap.size w w' := by
  have hc := cell_of (i := 0) h.blk
  simp only [List.getElem?_toArray, List.getElem?_cons_zero] at hc
  have he := each_any gv B G (by have := h.glen; omega) w h.gs h.go h.gf
  have HL : Hid (BankW w B b gv wv G V) := h
  clear h
  go_enter Try.func13, Try.ntmps13
  go_wp2_with fail
  refine he.mono ?_
  rintro e w1 ⟨⟨val, us, rfl, h1, h2, h3⟩, hb⟩
  go_wp2
  go_ret
  exact ⟨⟨val, us, rfl, h1, h2, h3⟩, hb⟩
end Go.Proofs.Ytjadmldnpdmamaa

/- A grant is used. -/
namespace Go.Proofs.Ytjadmldnpdmamaa
open Go.RowKit
set_option linter.unusedVariables false

def maxCnt : Int := 4294967295
/-- One more use. -/
def moreP (g : GrP) : GrP := { g with count := g.count + 1 }
/-- A bank's grants behind a use, the grant, and the error's number. -/
def useL (l : List GrP) (i : Int) : List GrP × GrP × Nat :=
  if i < 0 then (l, zeroP, 8)
  else if maxCnt ≤ ((l[i.toNat]?).getD zeroP).count then (l.eraseIdx i.toNat, zeroP, 12)
  else (l.eraseIdx i.toNat ++ [moreP ((l[i.toNat]?).getD zeroP)], moreP ((l[i.toNat]?).getD zeroP), 0)
/-- An error's number as a value; 0: none. -/
def errU (k : Nat) : Value := if k = 0 then .nilIface else .iface 93 (.int .i64 (k : Int))
/-- What Use answers, and leaves. -/
def UseAns (w : World) (B b : Nat) (gv wv : Value) (V : List WtV) (r : List GrP × GrP × Nat) (e : Ending) (w' : World) : Prop :=
  (∃ x : GrV, e = .returned (.tuple #[.agg (grCells x).toArray, errU r.2.2]) ∧ x.g = r.2.1 ∧ GrOwn w' w.heap.size x) ∧ ∃ gv' G', Hid (BankW w' B b gv' wv G' V ∧ G'.map (·.g) = r.1 ∧ BankStep b gv wv w w' gv' wv)
/-- A block of a grant that is no row of the bank's may be written. -/
theorem bank_off {w w' : World} {B b R : Nat} {gv wv : Value} {G : List GrV} {V : List WtV} {Z : Array Value} (h : BankW w B b gv wv G V) (hR : w.heap[R]? = some (.cells Z 36 (0, 0))) (hne : gv.ownBlock ≠ some R) (hg : w.grownBy w' (some R)) : BankW w' B b gv wv G V :=
  have t := Typed.block hR
  ⟨block_other h.blk hg t (by decide), h.low, h.gs.kept hg (.inr hne), h.ws.other hg t (by decide), fun v hv => (h.go v hv).other hg t (by decide), fun v hv => OwnS.other (h.wo v hv) hg t (by decide), h.gf, h.glen, h.vlen⟩
theorem step_off {w w1 w' : World} {b R : Nat} {gv wv gv' wv' : Value} (h : BankStep b gv wv w w1 gv' wv') (hg : w1.grownBy w' (some R)) (hR : w.heap.size ≤ R) : BankStep b gv wv w w' gv' wv' :=
  ⟨hg.os.trans h.os, hg.tape.trans h.tape, hg.output.trans h.output, Nat.le_trans h.size hg.size, fun x hx h1 h2 h3 => by
    obtain ⟨e1, e2, e3⟩ := h.keep x hx h1 h2 h3
    exact ⟨(hg.block x (Nat.lt_of_lt_of_le hx h.size) (fun e => by injection e with e; omega)).trans e1, e2, e3⟩⟩
theorem res_store {w4 : World} {R : Nat} {Z : Array Value} {t : TypeId} (h : w4.heap[R]? = some (.cells Z t (0, 0))) (x : List Value) (hz : Z.size = x.length) (h1 : ∀ u ∈ x, u.oneCell' = true) :
    Sem.run Try.prog (storeCells ⟨R, 0, none⟩ x 0) w4 = .ok () (w4.setCells R 0 x) ∧ Hid ((w4.setCells R 0 x).heap[R]? = some (.cells x.toArray t (0, 0)) ∧ w4.grownBy (w4.setCells R 0 x) (some R)) := by
  have hr := run_storeCells_cells (P := Try.prog) R 0 x 0 w4 (fun j hj => by
    rw [Nat.add_zero, Nat.zero_add, cell_of h, Array.getElem?_eq_getElem (by omega)]
    rfl) (fun j _ => free_of h _) h1
  rw [Nat.add_zero] at hr
  exact ⟨hr, setAll x h hz⟩
theorem use_one {s p se st : Bool} {h us pw r no op qo : ByteArray} {n sc c : Int} {da pa : Option Addr} {dn dc pn pc : Nat} : ∀ u ∈ [Value.bool s, .string h, .int .i64 n, .bool p, .string us, .string pw, .int .i64 sc, .string r, .string no, .string op, .bool se, .string qo, .bool st, .slice da dn dc, .int .i64 c, .slice pa pn pc], u.oneCell' = true := by
  intro u hu
  simp only [List.mem_cons, List.not_mem_nil, or_false] at hu
  rcases hu with rfl | rfl | rfl | rfl | rfl | rfl | rfl | rfl | rfl | rfl | rfl | rfl | rfl | rfl | rfl | rfl <;> rfl
/-- Behind a call that answers nothing. -/
theorem use_end {w w1 w' : World} {B b R : Nat} {gv wv gv' : Value} {G' : List GrV} {V : List WtV} {Z : Array Value} {r : List GrP × GrP × Nat} {x : GrV} (h : BankW w1 B b gv' wv G' V) (hs : BankStep b gv wv w w1 gv' wv) (hR : w1.heap[R]? = some (.cells Z 36 (0, 0))) (hne : gv'.ownBlock ≠ some R) (hRl : w.heap.size ≤ R) (hg : w1.grownBy w' (some R)) (hr : G'.map (·.g) = r.1) (hx : x.g = r.2.1) (hxo : GrOwn w1 w.heap.size x) :
    UseAns w B b gv wv V r (.returned (.tuple #[.agg (grCells x).toArray, errU r.2.2])) w' :=
  ⟨⟨x, rfl, hx, hxo.other hg (Typed.block hR) (by decide)⟩, gv', G', ⟨bank_off h hR hne hg, hr, step_off hs hg hRl⟩⟩
theorem erase_take {α : Type} (l : List α) (k : Nat) : l.take k ++ l.drop (k + 1) = l.eraseIdx k := (List.eraseIdx_eq_take_drop_succ l k).symm
/-- The row without the grant that is used. -/
theorem use_del {w w2 w3 : World} {B b g n cap k : Nat} {wv : Value} {G : List GrV} {V : List WtV} {v : GrV} (h : BankW w B b (.slice (some ⟨g, 0, none⟩) n cap) wv G V) (h2 : BankW w2 B b (.slice (some ⟨g, 0, none⟩) n cap) wv G V) (hb2 : Below w.heap.size w w2) (hn : G.length = n) (hv : G[k]? = some v) (hb : Below w2.heap.size w2 w3) (hB : B ≤ w.heap.size) :
    Calls Try.prog 59 #[.slice (some ⟨g, 0, none⟩) n cap, .int .i64 (k : Int), .int .i64 ((k : Int) + 1)] w3 fun e w4 => ∃ m, e = .returned (.slice (some ⟨g, 0, none⟩) m cap) ∧ Hid (w3.grownBy w4 (some g) ∧ BankW (w4.setCell ⟨b, 0, none⟩ (.slice (some ⟨g, 0, none⟩) m cap)) B b (.slice (some ⟨g, 0, none⟩) m cap) wv (G.eraseIdx k) V ∧ BankStep b (.slice (some ⟨g, 0, none⟩) n cap) wv w (w4.setCell ⟨b, 0, none⟩ (.slice (some ⟨g, 0, none⟩) m cap)) (.slice (some ⟨g, 0, none⟩) m cap) wv ∧ w4.heap[b]? = some (.cells #[.slice (some ⟨g, 0, none⟩) n cap, wv] 52 (0, 0))) := by
  have hk : k < n := by rw [← hn]; exact (List.getElem?_eq_some_iff.1 hv).1
  have hcap : cap ≤ 9223372036854775807 := by
    rcases h2.gs.forms with ⟨e, _⟩ | ⟨g', cap', e, _, _, _, hm⟩
    · cases e
    · injection e with _ _ e3
      rw [e3]
      unfold maxLen at hm
      omega
  have h3 := h2.below hb
  have hd := dltG_any g n cap B (G.map grCells) (by rw [List.length_map]; exact hn) hcap w3 h3.gs k (k + 1) (by omega) (by omega)
  rw [show ((k + 1 : Nat) : Int) = (k : Int) + 1 by push_cast; rfl] at hd
  refine hd.mono ?_
  rintro e w4 ⟨rfl, H⟩
  obtain ⟨hown, hg⟩ := H.out
  have e1 : (G.map grCells).take k ++ (G.map grCells).drop (k + 1) = (G.eraseIdx k).map grCells := by rw [← List.map_take, ← List.map_drop, ← List.map_append, erase_take]
  rw [e1] at hown
  have hb3 : Below w.heap.size w w3 := hb2.trans (hb.mono hb2.size)
  obtain ⟨h5, h6⟩ := bank_grants h hb3 hg hown (fun j hj => .inl hj) (fun x hx => by
    have := List.mem_of_mem_eraseIdx hx
    exact ⟨.inl this, h.gf x this⟩) (Nat.le_trans (List.length_eraseIdx_le _ _) h.glen)
  exact ⟨_, rfl, ⟨hg, h5, h6, block_other h3.blk hg h3.gs.typed (by decide)⟩⟩
set_option maxRecDepth 100000 in
set_option maxHeartbeats 8000000 in
theorem use_any {B b : Nat} {gv wv : Value} {G : List GrV} {V : List WtV} (w : World) (h : BankW w B b gv wv G V) (hB : B ≤ w.heap.size) (o : OrgV) (p : Bool) (path : ByteArray) :
    Calls Try.prog 32 #[.pointer (some ⟨b, 0, none⟩), .agg #[.bool o.sec, .string o.host, .int .i64 o.port], .bool p, .string path] w fun e w' => UseAns w B b gv wv V (useL (G.map (·.g)) (findI (G.map (·.g)) o p path)) e w' := by
  have H0 : Hid (FndF w ((w.alloc (.cells #[.bool o.sec, .string o.host, .int .i64 o.port] 24)).alloc (.cells #[.bool false, .string ⟨#[]⟩, .int .i64 0, .bool false, .string ⟨#[]⟩, .string ⟨#[]⟩, .int .i64 0, .string ⟨#[]⟩, .string ⟨#[]⟩, .string ⟨#[]⟩, .bool false, .string ⟨#[]⟩, .bool false, .slice none 0 0, .int .i64 0, .slice none 0 0] 36)).drew B b gv wv G V o _) := fnd_start w h o _
  have HK : Hid (BankW w B b gv wv G V ∧ B ≤ w.heap.size) := ⟨h, hB⟩
  have hQ := H0.out.facts
  obtain ⟨I, HI⟩ : ∃ I, Hid (findI (G.map (·.g)) o p path = I) := ⟨_, rfl⟩
  have HIR : Hid (I = -1 ∨ ∃ k : Nat, I = k ∧ k < G.length) := by
    have := findI_range (G.map (·.g)) o p path
    rw [HI.out, List.length_map] at this
    exact this
  rw [HI.out]
  clear h hB
  go_enter Try.func32, Try.ntmps32
  go_wp2_with fail
  go_region_held3 (fun W => W.cell? ⟨b, 0, none⟩ = some gv ∧ W.cell? ⟨w.heap.size, 0, none⟩ = some (.bool o.sec) ∧ W.cell? ⟨w.heap.size, 1, none⟩ = some (.string o.host) ∧ W.cell? ⟨w.heap.size, 2, none⟩ = some (.int .i64 o.port)) (with_reducible assumption) (first
    | (go_at_call 46; refine (reachFor_any o p path _).mono ?_; rintro e w1 ⟨⟨xa, xb, xc, rfl, H3⟩, hb1⟩; have H1 : Hid (FndF w w1 B b gv wv G V o _) := H0.out.below hb1; have hQ1 := H1.out.facts; clear hb1)
    | (go_at_call 45; refine (farthest_any _ H1.out.bank o p path xa xb xc H3.out).mono ?_; rw [HI.out]; rintro e w2 ⟨rfl, hb2⟩; have H2 : Hid (FndF w w2 B b gv wv G V o _) := H1.out.below hb2; have hQ2 := H2.out.facts; clear hb2))
  clear hQ hQ1 hQ2 H3 H1 H0
  rcases HIR.out with hI | ⟨k, hI, hkG⟩
  · subst hI
    have hres := H2.out.res
    have d0 : w2.cell? ⟨w.heap.size + 1, 0, none⟩ = some (.bool false) := cell_of hres
    have d1 : w2.cell? ⟨w.heap.size + 1, 1, none⟩ = some (.string ⟨#[]⟩) := cell_of hres
    have d2 : w2.cell? ⟨w.heap.size + 1, 2, none⟩ = some (.int .i64 0) := cell_of hres
    have d3 : w2.cell? ⟨w.heap.size + 1, 3, none⟩ = some (.bool false) := cell_of hres
    have d4 : w2.cell? ⟨w.heap.size + 1, 4, none⟩ = some (.string ⟨#[]⟩) := cell_of hres
    have d5 : w2.cell? ⟨w.heap.size + 1, 5, none⟩ = some (.string ⟨#[]⟩) := cell_of hres
    have d6 : w2.cell? ⟨w.heap.size + 1, 6, none⟩ = some (.int .i64 0) := cell_of hres
    have d7 : w2.cell? ⟨w.heap.size + 1, 7, none⟩ = some (.string ⟨#[]⟩) := cell_of hres
    have d8 : w2.cell? ⟨w.heap.size + 1, 8, none⟩ = some (.string ⟨#[]⟩) := cell_of hres
    have d9 : w2.cell? ⟨w.heap.size + 1, 9, none⟩ = some (.string ⟨#[]⟩) := cell_of hres
    have d10 : w2.cell? ⟨w.heap.size + 1, 10, none⟩ = some (.bool false) := cell_of hres
    have d11 : w2.cell? ⟨w.heap.size + 1, 11, none⟩ = some (.string ⟨#[]⟩) := cell_of hres
    have d12 : w2.cell? ⟨w.heap.size + 1, 12, none⟩ = some (.bool false) := cell_of hres
    have d13 : w2.cell? ⟨w.heap.size + 1, 13, none⟩ = some (.slice none 0 0) := cell_of hres
    have d14 : w2.cell? ⟨w.heap.size + 1, 14, none⟩ = some (.int .i64 0) := cell_of hres
    have d15 : w2.cell? ⟨w.heap.size + 1, 15, none⟩ = some (.slice none 0 0) := cell_of hres
    have fr := free_of hres
    clear hres
    go_wp2
    have hR := H2.out.res
    obtain ⟨z1, z2⟩ := setAll [.bool false, .string ⟨#[]⟩, .int .i64 0, .bool false, .string ⟨#[]⟩, .string ⟨#[]⟩, .int .i64 0, .string ⟨#[]⟩, .string ⟨#[]⟩, .string ⟨#[]⟩, .bool false, .string ⟨#[]⟩, .bool false, .slice none 0 0, .int .i64 0, .slice none 0 0] hR rfl
    simp only [World.setCells, Nat.reduceAdd] at z1 z2
    clear d0 d1 d2 d3 d4 d5 d6 d7 d8 d9 d10 d11 d12 d13 d14 d15 fr
    have hne : gv.ownBlock ≠ some (w.heap.size + 1) := fun e => by
      have := (HK.out.1.gs.lt _ e).2
      omega
    exact bodyPost_ret (v := .tuple #[.agg (grCells zeroV).toArray, errU 8]) (res_cell_tmp (vs := grCells zeroV) rfl rfl rfl Try.isAgg36 Try.sizeOf36 rfl z1) rfl (use_end (r := useL (G.map (·.g)) (-1)) (x := zeroV) H2.out.bank (BankStep.of_below H2.out.bel) hR hne (by omega) z2 rfl rfl (zeroV_own _ _))
  · subst hI
    obtain ⟨v, hv⟩ : ∃ v, G[k]? = some v := ⟨G[k], List.getElem?_eq_getElem hkG⟩
    have HV : Hid (G[k]? = some v ∧ k < G.length) := ⟨hv, hkG⟩
    obtain ⟨n, HN⟩ : ∃ n, Hid (G.length = n) := ⟨_, rfl⟩
    obtain ⟨g, cap, hgv, hgl⟩ : ∃ g cap, gv = .slice (some ⟨g, 0, none⟩) n cap ∧ g < w.heap.size := by
      rcases HK.out.1.gs.forms with ⟨_, e2⟩ | ⟨g, cap, e, _, h1, _, _⟩
      · have := congrArg List.length e2
        rw [List.length_map, List.length_nil] at this
        omega
      · rw [List.length_map] at e
        exact ⟨g, cap, by rw [e, HN.out], h1⟩
    subst hgv
    have hvo := H2.out.bank.go v (List.mem_of_getElem? hv)
    obtain ⟨da, dc, dg, hdv, hds⟩ := hvo.dom.strs
    obtain ⟨pa, pc, pg, hpv, hps⟩ := hvo.paths.strs
    obtain ⟨dn, HDN⟩ : ∃ dn, Hid (v.g.ask.dom.length = dn) := ⟨_, rfl⟩
    obtain ⟨pn, HPN⟩ : ∃ pn, Hid (v.g.paths.length = pn) := ⟨_, rfl⟩
    rw [HDN.out] at hdv hds
    rw [HPN.out] at hpv hps
    obtain ⟨c0, c1, c2, c3, c4, c5, c6, c7, c8, c9, c10, c11, c12, c13, c14, c15⟩ := row16 H2.out.bank.gs hv hdv hpv
    have HVV : Hid (v.dv = .slice da dn dc ∧ v.pv = .slice pa pn pc ∧ Strs w2 da dn dg 0 v.g.ask.dom ∧ Strs w2 pa pn pg 0 v.g.paths) := ⟨hdv, hpv, hds, hps⟩
    have hkn : (k : Int) < (n : Int) := by have := HN.out; omega
    have hcb : w2.cell? ⟨b, 0, none⟩ = some (.slice (some ⟨g, 0, none⟩) n cap) := by first | exact H2.out.facts.1 | (rw [← HN.out]; exact H2.out.facts.1)
    have HB2 : Hid (Below w2.heap.size w2 (w2.alloc (.cells #[.bool v.g.org.sec, .string v.g.org.host, .int .i64 v.g.org.port, .bool v.g.proxy, .string v.g.user, .string v.g.pass, .int .i64 v.g.ask.sch, .string v.g.ask.realm, .string v.g.ask.nonce, .string v.g.ask.opq, .bool v.g.ask.sess, .string v.g.ask.qop, .bool v.g.ask.stale, .slice da dn dc, .int .i64 v.g.count, .slice pa pn pc] 36)) ∧ (w2.alloc (.cells #[.bool v.g.org.sec, .string v.g.org.host, .int .i64 v.g.org.port, .bool v.g.proxy, .string v.g.user, .string v.g.pass, .int .i64 v.g.ask.sch, .string v.g.ask.realm, .string v.g.ask.nonce, .string v.g.ask.opq, .bool v.g.ask.sess, .string v.g.ask.qop, .bool v.g.ask.stale, .slice da dn dc, .int .i64 v.g.count, .slice pa pn pc] 36)).heap[w2.heap.size]? = some (.cells #[.bool v.g.org.sec, .string v.g.org.host, .int .i64 v.g.org.port, .bool v.g.proxy, .string v.g.user, .string v.g.pass, .int .i64 v.g.ask.sch, .string v.g.ask.realm, .string v.g.ask.nonce, .string v.g.ask.opq, .bool v.g.ask.sess, .string v.g.ask.qop, .bool v.g.ask.stale, .slice da dn dc, .int .i64 v.g.count, .slice pa pn pc] 36 (0, 0))) := ⟨(Below.refl _ _).alloc (Nat.le_refl _) _, heap_alloc_new w2 _⟩
    have hcb2 : (w2.alloc (.cells #[.bool v.g.org.sec, .string v.g.org.host, .int .i64 v.g.org.port, .bool v.g.proxy, .string v.g.user, .string v.g.pass, .int .i64 v.g.ask.sch, .string v.g.ask.realm, .string v.g.ask.nonce, .string v.g.ask.opq, .bool v.g.ask.sess, .string v.g.ask.qop, .bool v.g.ask.stale, .slice da dn dc, .int .i64 v.g.count, .slice pa pn pc] 36)).cell? ⟨b, 0, none⟩ = some (.slice (some ⟨g, 0, none⟩) n cap) := (HB2.out.1.cell (p := ⟨b, 0, none⟩) (Array.getElem?_eq_some_iff.1 H2.out.bank.blk).1).trans hcb
    have hn8 : (n : Int) ≤ 8 := by have := HN.out; have := HK.out.1.glen; omega
    have hdel := use_del HK.out.1 H2.out.bank H2.out.bel HN.out HV.out.1 HB2.out.1 HK.out.2
    clear hvo hds hps hdv hpv hv hkG
    go_wp2_with fail
    refine hdel.mono ?_
    rintro e w3 ⟨m3, rfl, H3⟩
    clear hdel hcb hcb2 c0 c1 c2 c3 c4 c5 c6 c7 c8 c9 c10 c11 c12 c13 c14 c15
    have HVO : Hid (GrOwn w3 B v) := ((H2.out.bank.go v (List.mem_of_getElem? HV.out.1)).below HB2.out.1).other H3.out.1 (H2.out.bank.below HB2.out.1).gs.typed (by decide)
    have hGl : w2.heap.size < (w2.alloc (.cells #[.bool v.g.org.sec, .string v.g.org.host, .int .i64 v.g.org.port, .bool v.g.proxy, .string v.g.user, .string v.g.pass, .int .i64 v.g.ask.sch, .string v.g.ask.realm, .string v.g.ask.nonce, .string v.g.ask.opq, .bool v.g.ask.sess, .string v.g.ask.qop, .bool v.g.ask.stale, .slice da dn dc, .int .i64 v.g.count, .slice pa pn pc] 36)).heap.size := by simp
    have hg3 : w3.heap[w2.heap.size]? = some (.cells #[.bool v.g.org.sec, .string v.g.org.host, .int .i64 v.g.org.port, .bool v.g.proxy, .string v.g.user, .string v.g.pass, .int .i64 v.g.ask.sch, .string v.g.ask.realm, .string v.g.ask.nonce, .string v.g.ask.opq, .bool v.g.ask.sess, .string v.g.ask.qop, .bool v.g.ask.stale, .slice da dn dc, .int .i64 v.g.count, .slice pa pn pc] 36 (0, 0)) := (H3.out.1.block _ hGl (fun e => by injection e with e; have := H2.out.bel.size; omega)).trans HB2.out.2
    have hr2 := H2.out.res
    have hr3 : w3.heap[w.heap.size + 1]? = some (.cells #[.bool false, .string ⟨#[]⟩, .int .i64 0, .bool false, .string ⟨#[]⟩, .string ⟨#[]⟩, .int .i64 0, .string ⟨#[]⟩, .string ⟨#[]⟩, .string ⟨#[]⟩, .bool false, .string ⟨#[]⟩, .bool false, .slice none 0 0, .int .i64 0, .slice none 0 0] 36 (0, 0)) := (H3.out.1.block _ (Nat.lt_of_lt_of_le (Array.getElem?_eq_some_iff.1 hr2).1 HB2.out.1.size) (fun e => by injection e with e; omega)).trans ((HB2.out.1.block _ (Array.getElem?_eq_some_iff.1 hr2).1).trans hr2)
    have hb3 := H3.out.2.2.2
    have hbG : ¬ b = w2.heap.size := fun e => by
      rw [e, hg3] at hb3
      injection hb3 with hb3
      injection hb3 with _ h3
      exact absurd h3 (by decide)
    have hbR : ¬ b = w.heap.size + 1 := fun e => by
      rw [e, hr3] at hb3
      injection hb3 with hb3
      injection hb3 with _ h3
      exact absurd h3 (by decide)
    have hGR : w.heap.size + 1 < w2.heap.size := (Array.getElem?_eq_some_iff.1 hr2).1
    have hc3 := cell_of (i := 0) hb3
    have f3 := free_of hb3
    have n14 : w3.cell? ⟨w2.heap.size, 14, none⟩ = some (.int .i64 v.g.count) := cell_of hg3
    simp only [List.getElem?_toArray, List.getElem?_cons_zero] at hc3
    have HS : Hid (w3.heap[w2.heap.size]? = some (.cells #[.bool v.g.org.sec, .string v.g.org.host, .int .i64 v.g.org.port, .bool v.g.proxy, .string v.g.user, .string v.g.pass, .int .i64 v.g.ask.sch, .string v.g.ask.realm, .string v.g.ask.nonce, .string v.g.ask.opq, .bool v.g.ask.sess, .string v.g.ask.qop, .bool v.g.ask.stale, .slice da dn dc, .int .i64 v.g.count, .slice pa pn pc] 36 (0, 0)) ∧ w3.heap[w.heap.size + 1]? = some (.cells #[.bool false, .string ⟨#[]⟩, .int .i64 0, .bool false, .string ⟨#[]⟩, .string ⟨#[]⟩, .int .i64 0, .string ⟨#[]⟩, .string ⟨#[]⟩, .string ⟨#[]⟩, .bool false, .string ⟨#[]⟩, .bool false, .slice none 0 0, .int .i64 0, .slice none 0 0] 36 (0, 0)) ∧ w3.heap[b]? = some (.cells #[.slice (some ⟨g, 0, none⟩) n cap, wv] 52 (0, 0))) := ⟨hg3, hr3, hb3⟩
    obtain ⟨cnt, HCN⟩ : ∃ c, Hid (v.g.count = c) := ⟨_, rfl⟩
    rw [HCN.out] at n14
    have HU : Hid ((G.map (·.g))[k]? = some v.g) := by show _ = _; rw [List.getElem?_map, HV.out.1]; rfl
    have hneR : (Value.slice (some ⟨g, 0, none⟩) m3 cap).ownBlock ≠ some (w.heap.size + 1) := fun e => by
      have e2 : g = w.heap.size + 1 := by simpa [Value.ownBlock] using e
      omega
    have hneG : (Value.slice (some ⟨g, 0, none⟩) m3 cap).ownBlock ≠ some w2.heap.size := fun e => by
      have e2 : g = w2.heap.size := by simpa [Value.ownBlock] using e
      omega
    have HNE : Hid ((Value.slice (some ⟨g, 0, none⟩) m3 cap).ownBlock ≠ some (w.heap.size + 1) ∧ (Value.slice (some ⟨g, 0, none⟩) m3 cap).ownBlock ≠ some w2.heap.size) := ⟨hneR, hneG⟩
    clear hneR hneG
    by_cases hfull : 4294967295 ≤ cnt
    · have d0 : w3.cell? ⟨w.heap.size + 1, 0, none⟩ = some (.bool false) := cell_of hr3
      have d1 : w3.cell? ⟨w.heap.size + 1, 1, none⟩ = some (.string ⟨#[]⟩) := cell_of hr3
      have d2 : w3.cell? ⟨w.heap.size + 1, 2, none⟩ = some (.int .i64 0) := cell_of hr3
      have d3 : w3.cell? ⟨w.heap.size + 1, 3, none⟩ = some (.bool false) := cell_of hr3
      have d4 : w3.cell? ⟨w.heap.size + 1, 4, none⟩ = some (.string ⟨#[]⟩) := cell_of hr3
      have d5 : w3.cell? ⟨w.heap.size + 1, 5, none⟩ = some (.string ⟨#[]⟩) := cell_of hr3
      have d6 : w3.cell? ⟨w.heap.size + 1, 6, none⟩ = some (.int .i64 0) := cell_of hr3
      have d7 : w3.cell? ⟨w.heap.size + 1, 7, none⟩ = some (.string ⟨#[]⟩) := cell_of hr3
      have d8 : w3.cell? ⟨w.heap.size + 1, 8, none⟩ = some (.string ⟨#[]⟩) := cell_of hr3
      have d9 : w3.cell? ⟨w.heap.size + 1, 9, none⟩ = some (.string ⟨#[]⟩) := cell_of hr3
      have d10 : w3.cell? ⟨w.heap.size + 1, 10, none⟩ = some (.bool false) := cell_of hr3
      have d11 : w3.cell? ⟨w.heap.size + 1, 11, none⟩ = some (.string ⟨#[]⟩) := cell_of hr3
      have d12 : w3.cell? ⟨w.heap.size + 1, 12, none⟩ = some (.bool false) := cell_of hr3
      have d13 : w3.cell? ⟨w.heap.size + 1, 13, none⟩ = some (.slice none 0 0) := cell_of hr3
      have d14 : w3.cell? ⟨w.heap.size + 1, 14, none⟩ = some (.int .i64 0) := cell_of hr3
      have d15 : w3.cell? ⟨w.heap.size + 1, 15, none⟩ = some (.slice none 0 0) := cell_of hr3
      have fr := free_of hr3
      clear hg3 hr2 hr3 hb3
      go_wp2
      have HU2 : Hid (useL (G.map (·.g)) k = ((G.map (·.g)).eraseIdx k, zeroP, 12)) := by
        show _ = _
        unfold useL maxCnt
        rw [if_neg (by omega), Int.toNat_natCast, HU.out]
        have h1 : (4294967295 : Int) ≤ ((some v.g).getD zeroP).count := by show _ ≤ v.g.count; rw [HCN.out]; exact hfull
        rw [if_pos h1]
      have hR4 := (Below.heap_setCell w3 ⟨b, 0, none⟩ (.slice (some ⟨g, 0, none⟩) m3 cap) (w.heap.size + 1) (fun e => hbR e.symm)).trans HS.out.2.1
      obtain ⟨z1, z2⟩ := setAll [.bool false, .string ⟨#[]⟩, .int .i64 0, .bool false, .string ⟨#[]⟩, .string ⟨#[]⟩, .int .i64 0, .string ⟨#[]⟩, .string ⟨#[]⟩, .string ⟨#[]⟩, .bool false, .string ⟨#[]⟩, .bool false, .slice none 0 0, .int .i64 0, .slice none 0 0] hR4 rfl
      simp only [World.setCells, Nat.reduceAdd] at z1 z2
      refine bodyPost_ret (v := .tuple #[.agg (grCells zeroV).toArray, errU 12]) (res_cell_tmp (vs := grCells zeroV) rfl rfl rfl Try.isAgg36 Try.sizeOf36 rfl z1) rfl ?_
      rw [HU2.out]
      exact use_end (r := ((G.map (·.g)).eraseIdx k, zeroP, 12)) (x := zeroV) H3.out.2.1 H3.out.2.2.1 hR4 HNE.out.1 (by omega) z2 (by rw [List.eraseIdx_eq_take_drop_succ, List.eraseIdx_eq_take_drop_succ, List.map_append, List.map_take, List.map_drop]) rfl (zeroV_own _ _)
    · have HU2 : Hid (useL (G.map (·.g)) k = ((G.map (·.g)).eraseIdx k ++ [moreP v.g], moreP v.g, 0)) := by
        show _ = _
        unfold useL maxCnt
        rw [if_neg (by omega), Int.toNat_natCast, HU.out]
        have h1 : ¬ (4294967295 : Int) ≤ ((some v.g).getD zeroP).count := by show ¬ _ ≤ v.g.count; rw [HCN.out]; exact hfull
        rw [if_neg h1]
        rfl
      have hcl : -9223372036854775808 ≤ cnt := by rw [← HCN.out]; exact (HK.out.1.gf v (List.mem_of_getElem? HV.out.1)).2.2.2.2.2.2
      have hg4 := (Below.heap_setCell w3 ⟨b, 0, none⟩ (.slice (some ⟨g, 0, none⟩) m3 cap) w2.heap.size (fun e => hbG e.symm)).trans HS.out.1
      have hr4 := (Below.heap_setCell w3 ⟨b, 0, none⟩ (.slice (some ⟨g, 0, none⟩) m3 cap) (w.heap.size + 1) (fun e => hbR e.symm)).trans HS.out.2.1
      have hg5 := heap_setCell_same (w3.setCell ⟨b, 0, none⟩ (.slice (some ⟨g, 0, none⟩) m3 cap)) w2.heap.size 14 _ _ (.int .i64 (cnt + 1)) hg4
      have hr5 := (Below.heap_setCell (w3.setCell ⟨b, 0, none⟩ (.slice (some ⟨g, 0, none⟩) m3 cap)) ⟨w2.heap.size, 14, none⟩ (.int .i64 (cnt + 1)) (w.heap.size + 1) (by show w.heap.size + 1 ≠ w2.heap.size; omega)).trans hr4
      have g45 : (w3.setCell ⟨b, 0, none⟩ (.slice (some ⟨g, 0, none⟩) m3 cap)).grownBy ((w3.setCell ⟨b, 0, none⟩ (.slice (some ⟨g, 0, none⟩) m3 cap)).setCell ⟨w2.heap.size, 14, none⟩ (.int .i64 (cnt + 1))) (some w2.heap.size) := grown_setCells _ w2.heap.size 14 [.int .i64 (cnt + 1)]
      have ho4 := (HVO.out.other (show w3.grownBy (w3.setCell ⟨b, 0, none⟩ (.slice (some ⟨g, 0, none⟩) m3 cap)) (some b) from grown_setCells w3 b 0 [.slice (some ⟨g, 0, none⟩) m3 cap]) (Typed.block HS.out.2.2) (by decide)).other g45 (Typed.block hg4) (by decide)
      have H5 : Hid (BankW ((w3.setCell ⟨b, 0, none⟩ (.slice (some ⟨g, 0, none⟩) m3 cap)).setCell ⟨w2.heap.size, 14, none⟩ (.int .i64 (cnt + 1))) B b (.slice (some ⟨g, 0, none⟩) m3 cap) wv (G.eraseIdx k) V ∧ BankStep b (.slice (some ⟨g, 0, none⟩) n cap) wv w ((w3.setCell ⟨b, 0, none⟩ (.slice (some ⟨g, 0, none⟩) m3 cap)).setCell ⟨w2.heap.size, 14, none⟩ (.int .i64 (cnt + 1))) (.slice (some ⟨g, 0, none⟩) m3 cap) wv ∧ ((w3.setCell ⟨b, 0, none⟩ (.slice (some ⟨g, 0, none⟩) m3 cap)).setCell ⟨w2.heap.size, 14, none⟩ (.int .i64 (cnt + 1))).heap[w2.heap.size]? = some (.cells #[.bool v.g.org.sec, .string v.g.org.host, .int .i64 v.g.org.port, .bool v.g.proxy, .string v.g.user, .string v.g.pass, .int .i64 v.g.ask.sch, .string v.g.ask.realm, .string v.g.ask.nonce, .string v.g.ask.opq, .bool v.g.ask.sess, .string v.g.ask.qop, .bool v.g.ask.stale, .slice da dn dc, .int .i64 (cnt + 1), .slice pa pn pc] 36 (0, 0)) ∧ ((w3.setCell ⟨b, 0, none⟩ (.slice (some ⟨g, 0, none⟩) m3 cap)).setCell ⟨w2.heap.size, 14, none⟩ (.int .i64 (cnt + 1))).heap[w.heap.size + 1]? = some (.cells #[.bool false, .string ⟨#[]⟩, .int .i64 0, .bool false, .string ⟨#[]⟩, .string ⟨#[]⟩, .int .i64 0, .string ⟨#[]⟩, .string ⟨#[]⟩, .string ⟨#[]⟩, .bool false, .string ⟨#[]⟩, .bool false, .slice none 0 0, .int .i64 0, .slice none 0 0] 36 (0, 0)) ∧ GrOwn (((w3.setCell ⟨b, 0, none⟩ (.slice (some ⟨g, 0, none⟩) m3 cap)).setCell ⟨w2.heap.size, 14, none⟩ (.int .i64 (cnt + 1)))) B v) := ⟨bank_off H3.out.2.1 hg4 HNE.out.2 g45, step_off H3.out.2.2.1 g45 (by omega), hg5, hr5, ho4⟩
      have fg4 := free_of hg4
      clear hg4 hr4 hg5 hr5 g45 ho4 hg3 hr2 hr3 hb3
      go_wp2_with fail
      generalize ((w3.setCell ⟨b, 0, none⟩ (.slice (some ⟨g, 0, none⟩) m3 cap)).setCell ⟨w2.heap.size, 14, none⟩ (.int .i64 (cnt + 1))) = W5 at H5 ⊢
      obtain ⟨i0, hi0, hz0, hz1, hz2⟩ := info_parts infoE
      have hm3 : (G.eraseIdx k).length = m3 := by
        rcases H5.out.1.gs.forms with ⟨e, _⟩ | ⟨g', cap', e, _, _, _, _⟩
        · cases e
        · injection e with _ e2 _
          rw [List.length_map] at e2
          exact e2.symm
      have HM3 : Hid ((G.eraseIdx k).length = m3 ∧ m3 ≤ 8) := ⟨hm3, by rw [← hm3]; exact H5.out.1.glen⟩
      have hbA : Below W5.heap.size W5 (W5.alloc (.cells #[.bool v.g.org.sec, .string v.g.org.host, .int .i64 v.g.org.port, .bool v.g.proxy, .string v.g.user, .string v.g.pass, .int .i64 v.g.ask.sch, .string v.g.ask.realm, .string v.g.ask.nonce, .string v.g.ask.opq, .bool v.g.ask.sess, .string v.g.ask.qop, .bool v.g.ask.stale, .slice da dn dc, .int .i64 (cnt + 1), .slice pa pn pc] 36)).drew := ((Below.refl _ _).alloc (Nat.le_refl _) _).drew
      have hrow := (H5.out.1.gs.below hbA).row
      rw [List.length_map, hm3] at hrow
      have HR : Hid (World.ownsRow (W5.alloc (.cells #[.bool v.g.org.sec, .string v.g.org.host, .int .i64 v.g.org.port, .bool v.g.proxy, .string v.g.user, .string v.g.pass, .int .i64 v.g.ask.sch, .string v.g.ask.realm, .string v.g.ask.nonce, .string v.g.ask.opq, .bool v.g.ask.sess, .string v.g.ask.qop, .bool v.g.ask.stale, .slice da dn dc, .int .i64 (cnt + 1), .slice pa pn pc] 36)).drew B 36 16 (.slice (some ⟨g, 0, none⟩) m3 cap) m3 ((G.eraseIdx k).map grCells).flatten ∧ Below W5.heap.size W5 (W5.alloc (.cells #[.bool v.g.org.sec, .string v.g.org.host, .int .i64 v.g.org.port, .bool v.g.proxy, .string v.g.user, .string v.g.pass, .int .i64 v.g.ask.sch, .string v.g.ask.realm, .string v.g.ask.nonce, .string v.g.ask.opq, .bool v.g.ask.sess, .string v.g.ask.qop, .bool v.g.ask.stale, .slice da dn dc, .int .i64 (cnt + 1), .slice pa pn pc] 36)).drew) := ⟨hrow, hbA⟩
      have q0 : W5.drew.cell? ⟨b, 0, none⟩ = some (.slice (some ⟨g, 0, none⟩) m3 cap) := cell_of (w := W5) (i := 0) H5.out.1.blk
      have q1 : ((W5.alloc (.cells #[.bool v.g.org.sec, .string v.g.org.host, .int .i64 v.g.org.port, .bool v.g.proxy, .string v.g.user, .string v.g.pass, .int .i64 v.g.ask.sch, .string v.g.ask.realm, .string v.g.ask.nonce, .string v.g.ask.opq, .bool v.g.ask.sess, .string v.g.ask.qop, .bool v.g.ask.stale, .slice da dn dc, .int .i64 (cnt + 1), .slice pa pn pc] 36)).drew).cell? ⟨b, 0, none⟩ = some (.slice (some ⟨g, 0, none⟩) m3 cap) := (hbA.cell (p := ⟨b, 0, none⟩) (Array.getElem?_eq_some_iff.1 H5.out.1.blk).1).trans q0
      have e0 : W5.drew.cell? ⟨w2.heap.size, 0, none⟩ = some (.bool v.g.org.sec) := cell_of (w := W5) H5.out.2.2.1
      have e1 : W5.drew.cell? ⟨w2.heap.size, 1, none⟩ = some (.string v.g.org.host) := cell_of (w := W5) H5.out.2.2.1
      have e2 : W5.drew.cell? ⟨w2.heap.size, 2, none⟩ = some (.int .i64 v.g.org.port) := cell_of (w := W5) H5.out.2.2.1
      have e3 : W5.drew.cell? ⟨w2.heap.size, 3, none⟩ = some (.bool v.g.proxy) := cell_of (w := W5) H5.out.2.2.1
      have e4 : W5.drew.cell? ⟨w2.heap.size, 4, none⟩ = some (.string v.g.user) := cell_of (w := W5) H5.out.2.2.1
      have e5 : W5.drew.cell? ⟨w2.heap.size, 5, none⟩ = some (.string v.g.pass) := cell_of (w := W5) H5.out.2.2.1
      have e6 : W5.drew.cell? ⟨w2.heap.size, 6, none⟩ = some (.int .i64 v.g.ask.sch) := cell_of (w := W5) H5.out.2.2.1
      have e7 : W5.drew.cell? ⟨w2.heap.size, 7, none⟩ = some (.string v.g.ask.realm) := cell_of (w := W5) H5.out.2.2.1
      have e8 : W5.drew.cell? ⟨w2.heap.size, 8, none⟩ = some (.string v.g.ask.nonce) := cell_of (w := W5) H5.out.2.2.1
      have e9 : W5.drew.cell? ⟨w2.heap.size, 9, none⟩ = some (.string v.g.ask.opq) := cell_of (w := W5) H5.out.2.2.1
      have e10 : W5.drew.cell? ⟨w2.heap.size, 10, none⟩ = some (.bool v.g.ask.sess) := cell_of (w := W5) H5.out.2.2.1
      have e11 : W5.drew.cell? ⟨w2.heap.size, 11, none⟩ = some (.string v.g.ask.qop) := cell_of (w := W5) H5.out.2.2.1
      have e12 : W5.drew.cell? ⟨w2.heap.size, 12, none⟩ = some (.bool v.g.ask.stale) := cell_of (w := W5) H5.out.2.2.1
      have e13 : W5.drew.cell? ⟨w2.heap.size, 13, none⟩ = some (.slice da dn dc) := cell_of (w := W5) H5.out.2.2.1
      have e14 : W5.drew.cell? ⟨w2.heap.size, 14, none⟩ = some (.int .i64 (cnt + 1)) := cell_of (w := W5) H5.out.2.2.1
      have e15 : W5.drew.cell? ⟨w2.heap.size, 15, none⟩ = some (.slice pa pn pc) := cell_of (w := W5) H5.out.2.2.1
      clear hm3 hbA hrow
      go_region_law (refine step_append_lies ((W5.alloc (.cells #[.bool v.g.org.sec, .string v.g.org.host, .int .i64 v.g.org.port, .bool v.g.proxy, .string v.g.user, .string v.g.pass, .int .i64 v.g.ask.sch, .string v.g.ask.realm, .string v.g.ask.nonce, .string v.g.ask.opq, .bool v.g.ask.sess, .string v.g.ask.qop, .bool v.g.ask.stale, .slice da dn dc, .int .i64 (cnt + 1), .slice pa pn pc] 36)).drew) rfl (.tmp 56) (.tmp 58) 22 rfl B 36 i0 (.agg #[.bool false, .string ⟨#[]⟩, .int .i64 0, .bool false, .string ⟨#[]⟩, .string ⟨#[]⟩, .int .i64 0, .string ⟨#[]⟩, .string ⟨#[]⟩, .string ⟨#[]⟩, .bool false, .string ⟨#[]⟩, .bool false, .slice none 0 0, .int .i64 0, .slice none 0 0]) 16 216 Try.underlying22 hi0 hz0 hz1 hz2 rfl ?_ (.slice (some ⟨g, 0, none⟩) m3 cap) m3 ((G.eraseIdx k).map grCells).flatten ?_ HR.out.1 ⟨W5.heap.size, 0, none⟩ 1 1 [.bool v.g.org.sec, .string v.g.org.host, .int .i64 v.g.org.port, .bool v.g.proxy, .string v.g.user, .string v.g.pass, .int .i64 v.g.ask.sch, .string v.g.ask.realm, .string v.g.ask.nonce, .string v.g.ask.opq, .bool v.g.ask.sess, .string v.g.ask.qop, .bool v.g.ask.stale, .slice da dn dc, .int .i64 (cnt + 1), .slice pa pn pc] ?_ ?_ ?_ ?_ ?_ ?_ ?_ ?_ (W5.heap.size + 1) ?_ ?_; (· omega); (· rfl); (· rfl); (· rfl); (· exact World.news_of_block (cs := #[.bool v.g.org.sec, .string v.g.org.host, .int .i64 v.g.org.port, .bool v.g.proxy, .string v.g.user, .string v.g.pass, .int .i64 v.g.ask.sch, .string v.g.ask.realm, .string v.g.ask.nonce, .string v.g.ask.opq, .bool v.g.ask.sess, .string v.g.ask.qop, .bool v.g.ask.stale, .slice da dn dc, .int .i64 (cnt + 1), .slice pa pn pc]) (t := 36) (fr := (0, 0)) (heap_alloc_new W5 _)); (· exact use_one); (· omega); (· unfold maxLen; have := HM3.out.2; omega); (· have := HM3.out.2; omega); (· have := HR.out.2.size; have := HK.out.2; have := H5.out.2.1.size; omega); (· simp); intro g6 cap6 w6 hown6 hg6 hat6 hlt6; have HF6 := HM3; have b6 : w6.heap[b]? = some (.cells #[(.slice (some ⟨g, 0, none⟩) m3 cap), wv] 52 (0, 0)) := block_other ((HR.out.2.block b (Array.getElem?_eq_some_iff.1 H5.out.1.blk).1).trans H5.out.1.blk) hg6 (H5.out.1.gs.below HR.out.2).typed (by decide); have q6 := cell_of (i := 0) b6; have f6 := free_of b6)
      all_goals as_aux_lemma =>
        have hO6 := (H5.out.1.gs.below HR.out.2).appended (by rw [List.length_map]; exact HM3.out.1) (y := [.bool v.g.org.sec, .string v.g.org.host, .int .i64 v.g.org.port, .bool v.g.proxy, .string v.g.user, .string v.g.pass, .int .i64 v.g.ask.sch, .string v.g.ask.realm, .string v.g.ask.nonce, .string v.g.ask.opq, .bool v.g.ask.sess, .string v.g.ask.qop, .bool v.g.ask.stale, .slice da dn dc, .int .i64 (cnt + 1), .slice pa pn pc]) rfl use_one hown6
        have hL1 : grCells ⟨moreP v.g, v.dv, v.pv⟩ = [.bool v.g.org.sec, .string v.g.org.host, .int .i64 v.g.org.port, .bool v.g.proxy, .string v.g.user, .string v.g.pass, .int .i64 v.g.ask.sch, .string v.g.ask.realm, .string v.g.ask.nonce, .string v.g.ask.opq, .bool v.g.ask.sess, .string v.g.ask.qop, .bool v.g.ask.stale, .slice da dn dc, .int .i64 (cnt + 1), .slice pa pn pc] := by
          unfold grCells moreP
          rw [show v.dv = _ from HVV.out.1, show v.pv = _ from HVV.out.2.1]
          simp only []
          rw [HCN.out]
        rw [← hL1, show [grCells ⟨moreP v.g, v.dv, v.pv⟩] = [(⟨moreP v.g, v.dv, v.pv⟩ : GrV)].map grCells from rfl, ← List.map_append] at hO6
        have hvfit := HK.out.1.gf v (List.mem_of_getElem? HV.out.1)
        have hfit : GrFit (moreP v.g) := ⟨hvfit.1, hvfit.2.1, hvfit.2.2.1, hvfit.2.2.2.1, hvfit.2.2.2.2.1, hvfit.2.2.2.2.2.1, by show _ ≤ v.g.count + 1; have := hvfit.2.2.2.2.2.2; omega⟩
        have hlen : (G.eraseIdx k).length + 1 ≤ 8 := by
          rw [List.length_eraseIdx, if_pos HV.out.2]
          have := HK.out.1.glen
          have := HV.out.2
          omega
        obtain ⟨hW7, hS7⟩ := bank_grants H5.out.1 HR.out.2 hg6 hO6 (fun j hj => by
          have e : g6 = j := by simpa [Value.ownBlock] using hj
          subst e
          rcases hat6 with h | h
          · exact .inl h
          · refine .inr ?_
            rw [h]
            simp) (fun x hx => by
          rcases List.mem_append.1 hx with hx | hx
          · exact ⟨.inl hx, H5.out.1.gf x hx⟩
          · rw [List.mem_singleton.1 hx]
            exact ⟨.inr ⟨(H5.out.2.2.2.2.below HR.out.2).dom, (H5.out.2.2.2.2.below HR.out.2).paths⟩, hfit⟩) (by rw [List.length_append, List.length_singleton]; exact hlen)
        have t6 := (H5.out.1.gs.below HR.out.2).typed
        have hGb6 : w6.heap[w2.heap.size]? = some (.cells #[.bool v.g.org.sec, .string v.g.org.host, .int .i64 v.g.org.port, .bool v.g.proxy, .string v.g.user, .string v.g.pass, .int .i64 v.g.ask.sch, .string v.g.ask.realm, .string v.g.ask.nonce, .string v.g.ask.opq, .bool v.g.ask.sess, .string v.g.ask.qop, .bool v.g.ask.stale, .slice da dn dc, .int .i64 (cnt + 1), .slice pa pn pc] 36 (0, 0)) := (hg6.block _ (Nat.lt_of_lt_of_le (Array.getElem?_eq_some_iff.1 H5.out.2.2.1).1 HR.out.2.size) (fun e => HNE.out.2 e.symm)).trans ((HR.out.2.block _ (Array.getElem?_eq_some_iff.1 H5.out.2.2.1).1).trans H5.out.2.2.1)
        have hR6 : w6.heap[w.heap.size + 1]? = some (.cells #[.bool false, .string ⟨#[]⟩, .int .i64 0, .bool false, .string ⟨#[]⟩, .string ⟨#[]⟩, .int .i64 0, .string ⟨#[]⟩, .string ⟨#[]⟩, .string ⟨#[]⟩, .bool false, .string ⟨#[]⟩, .bool false, .slice none 0 0, .int .i64 0, .slice none 0 0] 36 (0, 0)) := (hg6.block _ (Nat.lt_of_lt_of_le (Array.getElem?_eq_some_iff.1 H5.out.2.2.2.1).1 HR.out.2.size) (fun e => HNE.out.1 e.symm)).trans ((HR.out.2.block _ (Array.getElem?_eq_some_iff.1 H5.out.2.2.2.1).1).trans H5.out.2.2.2.1)
        have hR7 := (Below.heap_setCell w6 ⟨b, 0, none⟩ (.slice (some ⟨g6, 0, none⟩) (m3 + 1) cap6) (w.heap.size + 1) (fun e => hbR e.symm)).trans hR6
        have hGb7 := (Below.heap_setCell w6 ⟨b, 0, none⟩ (.slice (some ⟨g6, 0, none⟩) (m3 + 1) cap6) w2.heap.size (fun e => hbG e.symm)).trans hGb6
        have hne6 : (Value.slice (some ⟨g6, 0, none⟩) (m3 + 1) cap6).ownBlock ≠ some (w.heap.size + 1) := fun e => by
          have e2 : g6 = w.heap.size + 1 := by simpa [Value.ownBlock] using e
          rcases hat6 with h | h
          · rw [e2] at h; exact HNE.out.1 h
          · have := (Array.getElem?_eq_some_iff.1 H5.out.2.2.2.1).1
            omega
        have H7 : Hid (BankW (w6.setCell ⟨b, 0, none⟩ (.slice (some ⟨g6, 0, none⟩) (m3 + 1) cap6)) B b (.slice (some ⟨g6, 0, none⟩) (m3 + 1) cap6) wv (G.eraseIdx k ++ [⟨moreP v.g, v.dv, v.pv⟩]) V ∧ BankStep b (.slice (some ⟨g, 0, none⟩) n cap) wv w (w6.setCell ⟨b, 0, none⟩ (.slice (some ⟨g6, 0, none⟩) (m3 + 1) cap6)) (.slice (some ⟨g6, 0, none⟩) (m3 + 1) cap6) wv ∧ (w6.setCell ⟨b, 0, none⟩ (.slice (some ⟨g6, 0, none⟩) (m3 + 1) cap6)).heap[w.heap.size + 1]? = some (.cells #[.bool false, .string ⟨#[]⟩, .int .i64 0, .bool false, .string ⟨#[]⟩, .string ⟨#[]⟩, .int .i64 0, .string ⟨#[]⟩, .string ⟨#[]⟩, .string ⟨#[]⟩, .bool false, .string ⟨#[]⟩, .bool false, .slice none 0 0, .int .i64 0, .slice none 0 0] 36 (0, 0)) ∧ (Value.slice (some ⟨g6, 0, none⟩) (m3 + 1) cap6).ownBlock ≠ some (w.heap.size + 1)) := ⟨hW7, H5.out.2.1.trans hS7, hR7, hne6⟩
        have hfr := freshG_any ⟨moreP v.g, v.dv, v.pv⟩ B hfit _ (hW7.go _ (List.mem_append_right _ (List.mem_singleton.2 rfl)))
        rw [hL1] at hfr
        have x0 : (w6.setCell ⟨b, 0, none⟩ (.slice (some ⟨g6, 0, none⟩) (m3 + 1) cap6)).cell? ⟨w2.heap.size, 0, none⟩ = some (.bool v.g.org.sec) := cell_of hGb7
        have x1 : (w6.setCell ⟨b, 0, none⟩ (.slice (some ⟨g6, 0, none⟩) (m3 + 1) cap6)).cell? ⟨w2.heap.size, 1, none⟩ = some (.string v.g.org.host) := cell_of hGb7
        have x2 : (w6.setCell ⟨b, 0, none⟩ (.slice (some ⟨g6, 0, none⟩) (m3 + 1) cap6)).cell? ⟨w2.heap.size, 2, none⟩ = some (.int .i64 v.g.org.port) := cell_of hGb7
        have x3 : (w6.setCell ⟨b, 0, none⟩ (.slice (some ⟨g6, 0, none⟩) (m3 + 1) cap6)).cell? ⟨w2.heap.size, 3, none⟩ = some (.bool v.g.proxy) := cell_of hGb7
        have x4 : (w6.setCell ⟨b, 0, none⟩ (.slice (some ⟨g6, 0, none⟩) (m3 + 1) cap6)).cell? ⟨w2.heap.size, 4, none⟩ = some (.string v.g.user) := cell_of hGb7
        have x5 : (w6.setCell ⟨b, 0, none⟩ (.slice (some ⟨g6, 0, none⟩) (m3 + 1) cap6)).cell? ⟨w2.heap.size, 5, none⟩ = some (.string v.g.pass) := cell_of hGb7
        have x6 : (w6.setCell ⟨b, 0, none⟩ (.slice (some ⟨g6, 0, none⟩) (m3 + 1) cap6)).cell? ⟨w2.heap.size, 6, none⟩ = some (.int .i64 v.g.ask.sch) := cell_of hGb7
        have x7 : (w6.setCell ⟨b, 0, none⟩ (.slice (some ⟨g6, 0, none⟩) (m3 + 1) cap6)).cell? ⟨w2.heap.size, 7, none⟩ = some (.string v.g.ask.realm) := cell_of hGb7
        have x8 : (w6.setCell ⟨b, 0, none⟩ (.slice (some ⟨g6, 0, none⟩) (m3 + 1) cap6)).cell? ⟨w2.heap.size, 8, none⟩ = some (.string v.g.ask.nonce) := cell_of hGb7
        have x9 : (w6.setCell ⟨b, 0, none⟩ (.slice (some ⟨g6, 0, none⟩) (m3 + 1) cap6)).cell? ⟨w2.heap.size, 9, none⟩ = some (.string v.g.ask.opq) := cell_of hGb7
        have x10 : (w6.setCell ⟨b, 0, none⟩ (.slice (some ⟨g6, 0, none⟩) (m3 + 1) cap6)).cell? ⟨w2.heap.size, 10, none⟩ = some (.bool v.g.ask.sess) := cell_of hGb7
        have x11 : (w6.setCell ⟨b, 0, none⟩ (.slice (some ⟨g6, 0, none⟩) (m3 + 1) cap6)).cell? ⟨w2.heap.size, 11, none⟩ = some (.string v.g.ask.qop) := cell_of hGb7
        have x12 : (w6.setCell ⟨b, 0, none⟩ (.slice (some ⟨g6, 0, none⟩) (m3 + 1) cap6)).cell? ⟨w2.heap.size, 12, none⟩ = some (.bool v.g.ask.stale) := cell_of hGb7
        have x13 : (w6.setCell ⟨b, 0, none⟩ (.slice (some ⟨g6, 0, none⟩) (m3 + 1) cap6)).cell? ⟨w2.heap.size, 13, none⟩ = some (.slice da dn dc) := cell_of hGb7
        have x14 : (w6.setCell ⟨b, 0, none⟩ (.slice (some ⟨g6, 0, none⟩) (m3 + 1) cap6)).cell? ⟨w2.heap.size, 14, none⟩ = some (.int .i64 (cnt + 1)) := cell_of hGb7
        have x15 : (w6.setCell ⟨b, 0, none⟩ (.slice (some ⟨g6, 0, none⟩) (m3 + 1) cap6)).cell? ⟨w2.heap.size, 15, none⟩ = some (.slice pa pn pc) := cell_of hGb7
        have hHB : Hid (∀ W8, Below (w6.setCell ⟨b, 0, none⟩ (.slice (some ⟨g6, 0, none⟩) (m3 + 1) cap6)).heap.size (w6.setCell ⟨b, 0, none⟩ (.slice (some ⟨g6, 0, none⟩) (m3 + 1) cap6)) W8 → BankW W8 B b (.slice (some ⟨g6, 0, none⟩) (m3 + 1) cap6) wv (G.eraseIdx k ++ [⟨moreP v.g, v.dv, v.pv⟩]) V ∧ BankStep b (.slice (some ⟨g, 0, none⟩) n cap) wv w W8 (.slice (some ⟨g6, 0, none⟩) (m3 + 1) cap6) wv ∧ W8.heap[w.heap.size + 1]? = some (.cells #[.bool false, .string ⟨#[]⟩, .int .i64 0, .bool false, .string ⟨#[]⟩, .string ⟨#[]⟩, .int .i64 0, .string ⟨#[]⟩, .string ⟨#[]⟩, .string ⟨#[]⟩, .bool false, .string ⟨#[]⟩, .bool false, .slice none 0 0, .int .i64 0, .slice none 0 0] 36 (0, 0))) := fun W8 hb8 => ⟨hW7.below hb8, (H5.out.2.1.trans hS7).trans (BankStep.of_below hb8), (hb8.block _ (Array.getElem?_eq_some_iff.1 hR7).1).trans hR7⟩
        have hsz7 : w.heap.size ≤ (w6.setCell ⟨b, 0, none⟩ (.slice (some ⟨g6, 0, none⟩) (m3 + 1) cap6)).heap.size := H7.out.2.1.size
        clear hO6 hL1 hvfit hlen hW7 hS7 t6 hGb6 hR6 hR7 hGb7 hne6 hown6 hg6 hat6 hlt6 b6 q6 f6 e0 e1 e2 e3 e4 e5 e6 e7 e8 e9 e10 e11 e12 e13 e14 e15 q0 q1 hfit
        generalize w6.setCell ⟨b, 0, none⟩ (.slice (some ⟨g6, 0, none⟩) (m3 + 1) cap6) = W7 at hfr hHB hsz7 x0 x1 x2 x3 x4 x5 x6 x7 x8 x9 x10 x11 x12 x13 x14 x15 H7 ⊢
        go_wp2_with fail
        refine hfr.mono ?_
        rintro e w8 ⟨⟨x, rfl, hxg, hxo⟩, hb8⟩
        have H8 := hHB.out w8 hb8
        have HX : Hid (x.g = moreP v.g ∧ GrOwn w8 W7.heap.size x ∧ BankW w8 B b (.slice (some ⟨g6, 0, none⟩) (m3 + 1) cap6) wv (G.eraseIdx k ++ [⟨moreP v.g, v.dv, v.pv⟩]) V ∧ BankStep b (.slice (some ⟨g, 0, none⟩) n cap) wv w w8 (.slice (some ⟨g6, 0, none⟩) (m3 + 1) cap6) wv ∧ w8.heap[w.heap.size + 1]? = some (.cells #[.bool false, .string ⟨#[]⟩, .int .i64 0, .bool false, .string ⟨#[]⟩, .string ⟨#[]⟩, .int .i64 0, .string ⟨#[]⟩, .string ⟨#[]⟩, .string ⟨#[]⟩, .bool false, .string ⟨#[]⟩, .bool false, .slice none 0 0, .int .i64 0, .slice none 0 0] 36 (0, 0))) := ⟨hxg, hxo, H8.1, H8.2.1, H8.2.2⟩
        have hxl := grCells_len x
        obtain ⟨hst, HZ⟩ := res_store H8.2.2 (grCells x) rfl hxo.one
        clear hxg hxo hb8 H8 hfr hHB x0 x1 x2 x3 x4 x5 x6 x7 x8 x9 x10 x11 x12 x13 x14 x15
        go_wp2
        refine bodyPost_ret (v := .tuple #[.agg (grCells x).toArray, errU 0]) (res_cell_tmp (vs := grCells x) rfl rfl rfl Try.isAgg36 Try.sizeOf36 (grCells_len x) HZ.out.1) rfl ?_
        rw [HU2.out]
        exact use_end (r := ((G.map (·.g)).eraseIdx k ++ [moreP v.g], moreP v.g, 0)) (x := x) HX.out.2.2.1 HX.out.2.2.2.1 HX.out.2.2.2.2 H7.out.2.2.2 (by omega) HZ.out.2 (by rw [List.map_append, List.eraseIdx_eq_take_drop_succ, List.eraseIdx_eq_take_drop_succ, List.map_append, List.map_take, List.map_drop]; rfl) HX.out.1 (HX.out.2.1.mono hsz7)
end Go.Proofs.Ytjadmldnpdmamaa
