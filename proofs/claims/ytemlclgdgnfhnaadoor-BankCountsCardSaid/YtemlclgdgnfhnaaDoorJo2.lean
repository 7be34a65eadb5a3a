/- Texts of one claim, joined: each begins with what it proves. -/
import Derived.Test.YtemlclgdgnfhnaaDoorJo1
import Derived.Deep.LoopGhost
import Derived.Deep.RegionLaw
import Derived.Deep.AppendLies
import Derived.Deep.RegionHeld3
import Derived.Deep.QuietTactic
import Derived.BigQuiet
/- A block of an argument's and one of an answer's own. -/
namespace Go.Proofs.YtemlclgdgnfhnaaDoor
open Go.RowKit
set_option linter.unusedVariables false

/-- All cells anew: what stands there, and what may have turned. -/
theorem setAll {wi : World} {g : Nat} {cur : Array Value} {T : TypeId} (vs : List Value) (h : wi.heap[g]? = some (.cells cur T (0, 0))) (hs : cur.size = vs.length) : (wi.setCells g 0 vs).heap[g]? = some (.cells vs.toArray T (0, 0)) ∧ wi.grownBy (wi.setCells g 0 vs) (some g) := ⟨heap_setAll g T vs wi cur h hs, grown_setCells _ _ _ _⟩
theorem boxes2 (w : World) (x y : Array Value) (t u : TypeId) : Below w.heap.size w ((w.alloc (.cells x t)).alloc (.cells y u)) ∧ ((w.alloc (.cells x t)).alloc (.cells y u)).heap[w.heap.size]? = some (.cells x t (0, 0)) ∧ ((w.alloc (.cells x t)).alloc (.cells y u)).heap[w.heap.size + 1]? = some (.cells y u (0, 0)) := by
  refine ⟨((Below.refl _ _).alloc (Nat.le_refl _) _).alloc (by simp) _, ?_, ?_⟩
  · rw [heap_alloc_old _ _ (by simp)]
    exact heap_alloc_new w _
  · have := heap_alloc_new (w.alloc (.cells x t)) (.cells y u)
    simpa using this
/-- What is kept of a box, and of the result's, by a call. -/
structure BoxF (w w1 : World) (x y : Array Value) (t : TypeId) : Prop where
  bel : Below w.heap.size w w1
  box : w1.heap[w.heap.size]? = some (.cells x t (0, 0))
  res : w1.heap[w.heap.size + 1]? = some (.cells y t (0, 0))
theorem boxF_start (w : World) (x y : Array Value) (t : TypeId) : BoxF w ((w.alloc (.cells x t)).alloc (.cells y t)) x y t := ⟨(boxes2 w x y t t).1, (boxes2 w x y t t).2.1, (boxes2 w x y t t).2.2⟩
theorem BoxF.below {w w1 w2 : World} {x y : Array Value} {t : TypeId} (h : BoxF w w1 x y t) (hb : Below w1.heap.size w1 w2) : BoxF w w2 x y t := by
  have h2 : w.heap.size + 1 < w1.heap.size := (Array.getElem?_eq_some_iff.1 h.res).1
  exact ⟨h.bel.trans (hb.mono h.bel.size), by rw [hb.block _ (by omega)]; exact h.box, by rw [hb.block _ h2]; exact h.res⟩
theorem BoxF.set {w w1 : World} {x y : Array Value} {t : TypeId} (h : BoxF w w1 x y t) (i : Nat) (v : Value) : BoxF w (w1.setCell ⟨w.heap.size, i, none⟩ v) (x.setIfInBounds i v) y t :=
  ⟨h.bel.setCell (Nat.le_refl _) v, heap_setCell_same w1 _ i x t v h.box, (Below.heap_setCell w1 ⟨w.heap.size, i, none⟩ v _ (by show w.heap.size + 1 ≠ w.heap.size; omega)).trans h.res⟩
theorem BoxF.same {w w1 : World} {x y : Array Value} {t : TypeId} (h : BoxF w w1 x y t) {i : Nat} {v : Value} (hv : x[i]? = some v) : w1.setCell ⟨w.heap.size, i, none⟩ v = w1 := setCell_same h.box hv
theorem BoxF.at {w w1 : World} {x y : Array Value} {t : TypeId} (h : BoxF w w1 x y t) (i : Nat) {v : Value} (hv : x[i]? = some v) : w1.cell? ⟨w.heap.size, i, none⟩ = some v := (cell_of h.box).trans hv
/-- What a function answers whose result lies in a block. -/
theorem res_cell {P : Program} {fn : Func} {tmps : Array Value} {W : World} {a : Tmp} {t u : TypeId} {g : Nat} {vs : List Value} {k : Nat} (hf : fn.results = #[.cell a t]) (hp : tmps.getD a undef = .pointer (some ⟨g, 0, none⟩)) (ha : ∀ w, (isAgg t).run P w = .ok true w) (hs : ∀ w, (Go.sizeOf t).run P w = .ok k w) (hk : vs.length = k) (h : W.heap[g]? = some (.cells vs.toArray u (0, 0))) :
    (results fn tmps).run P W = .ok (.agg vs.toArray) W := by
  have hl := run_loadCellsFrom_list P W ⟨g, 0, none⟩ vs k hk (fun i v hi => by
    rw [Addr.add_lit, Nat.zero_add, cell_of h]
    simpa using hi)
  simp only [Array.getD_eq_getD_getElem?] at hp
  unfold results
  rw [hf]
  simp [hp, loadVar, ha, hs, asAddr, loadCells, hl]
end Go.Proofs.YtemlclgdgnfhnaaDoor

/- An origin, and what is asked for, cloned. -/
namespace Go.Proofs.YtemlclgdgnfhnaaDoor
open Go.RowKit
set_option linter.unusedVariables false

set_option maxRecDepth 100000 in
set_option maxHeartbeats 2000000 in
theorem freshO_any (o : OrgV) (ho : o.host.size ≤ 140737488355328) (w : World) :
    Calls Tryd.prog 39 #[.agg #[.bool o.sec, .string o.host, .int .i64 o.port]] w fun e w' => e = .returned (.agg #[.bool o.sec, .string o.host, .int .i64 o.port]) ∧ Below w.heap.size w w' := by
  have hb0 : Below w.heap.size w ((w.alloc (.cells #[.bool o.sec, .string o.host, .int .i64 o.port] 24)).alloc (.cells #[.bool false, .string ⟨#[]⟩, .int .i64 0] 24)) := ((Below.refl _ _).alloc (Nat.le_refl _) _).alloc (by simp) _
  have h1 : ((w.alloc (.cells #[.bool o.sec, .string o.host, .int .i64 o.port] 24)).alloc (.cells #[.bool false, .string ⟨#[]⟩, .int .i64 0] 24)).heap[w.heap.size]? = some (.cells #[.bool o.sec, .string o.host, .int .i64 o.port] 24 (0, 0)) := by
    rw [heap_alloc_old _ _ (by simp)]
    exact heap_alloc_new w _
  have h2 : ((w.alloc (.cells #[.bool o.sec, .string o.host, .int .i64 o.port] 24)).alloc (.cells #[.bool false, .string ⟨#[]⟩, .int .i64 0] 24)).heap[w.heap.size + 1]? = some (.cells #[.bool false, .string ⟨#[]⟩, .int .i64 0] 24 (0, 0)) := by
    have := heap_alloc_new (w.alloc (.cells #[.bool o.sec, .string o.host, .int .i64 o.port] 24)) (.cells #[.bool false, .string ⟨#[]⟩, .int .i64 0] 24)
    simpa using this
  have HW : Hid (Below w.heap.size w ((w.alloc (.cells #[.bool o.sec, .string o.host, .int .i64 o.port] 24)).alloc (.cells #[.bool false, .string ⟨#[]⟩, .int .i64 0] 24)) ∧ _ ∧ _) := ⟨hb0, h1, h2⟩
  clear hb0 h1 h2
  go_enter Tryd.func39, Tryd.ntmps39
  go_wp2_with fail
  refine (cloneS_any _ ho _).mono ?_
  rintro e w1 ⟨rfl, hb1⟩
  have HB : Hid (Below w.heap.size w w1 ∧ w1.heap[w.heap.size]? = some (.cells #[.bool o.sec, .string o.host, .int .i64 o.port] 24 (0, 0)) ∧ w1.heap[w.heap.size + 1]? = some (.cells #[.bool false, .string ⟨#[]⟩, .int .i64 0] 24 (0, 0))) :=
    ⟨HW.out.1.trans (hb1.mono HW.out.1.size), by rw [hb1.block _ (by simp; omega)]; exact HW.out.2.1, by rw [hb1.block _ (by simp)]; exact HW.out.2.2⟩
  clear hb1 HW
  have c0 := cell_of (i := 0) HB.out.2.1
  have c1 := cell_of (i := 1) HB.out.2.1
  have c2 := cell_of (i := 2) HB.out.2.1
  have d0 := cell_of (i := 0) HB.out.2.2
  have d1 := cell_of (i := 1) HB.out.2.2
  have d2 := cell_of (i := 2) HB.out.2.2
  have f0 := free_of HB.out.2.1
  have f1 := free_of HB.out.2.2
  have s1 : w1.setCell ⟨w.heap.size, 1, none⟩ (.string o.host) = w1 := setCell_same HB.out.2.1 rfl
  simp only [List.getElem?_toArray, List.getElem?_cons_zero, List.getElem?_cons_succ] at c0 c1 c2 d0 d1 d2
  go_wp2
  obtain ⟨z1, z2⟩ := setAll [.bool o.sec, .string o.host, .int .i64 o.port] HB.out.2.2 rfl
  simp only [World.setCells, Nat.reduceAdd] at z1 z2
  have e0 := cell_of (i := 0) z1
  have e1 := cell_of (i := 1) z1
  have e2 := cell_of (i := 2) z1
  simp only [List.getElem?_toArray, List.getElem?_cons_zero, List.getElem?_cons_succ] at e0 e1 e2
  exact bodyPost_ret (v := .agg #[.bool o.sec, .string o.host, .int .i64 o.port]) (by simp [results, Tryd.f39, go_sem, e0, e1, e2]) rfl ⟨rfl, HB.out.1.grown z2 HB.out.1.size (fun i hi => by injection hi with hi; omega)⟩
end Go.Proofs.YtemlclgdgnfhnaaDoor

/- What is asked for, cloned. -/
namespace Go.Proofs.YtemlclgdgnfhnaaDoor
open Go.RowKit
set_option linter.unusedVariables false

/-- Texts of an ask are no longer than a machine can hold. -/
def AskFit (a : AskP) : Prop := a.realm.size ≤ 140737488355328 ∧ a.nonce.size ≤ 140737488355328 ∧ a.opq.size ≤ 140737488355328 ∧ a.qop.size ≤ 140737488355328 ∧ a.dom.length ≤ 1000 ∧ ∀ x ∈ a.dom, x.size ≤ 140737488355328
set_option maxRecDepth 100000 in
set_option maxHeartbeats 4000000 in
theorem freshA_any (a : AskP) (ha : AskFit a) (a0 : Option Addr) (len cap b off : Nat) (w : World) (hx : Strs w a0 len b off a.dom) :
    Calls Tryd.prog 41 #[.agg #[.int .i64 a.sch, .string a.realm, .string a.nonce, .string a.opq, .bool a.sess, .string a.qop, .bool a.stale, .slice a0 len cap]] w fun e w' => (∃ v, e = .returned (.agg #[.int .i64 a.sch, .string a.realm, .string a.nonce, .string a.opq, .bool a.sess, .string a.qop, .bool a.stale, v]) ∧ OwnS w' w.heap.size v a.dom) ∧ Below w.heap.size w w' := by
  obtain ⟨z1, z2, z3, z4, z5, z6⟩ := ha
  have hlen : len ≤ 1000 := by rw [← hx.len_eq]; exact z5
  have hs0 := boxF_start w #[.int .i64 a.sch, .string a.realm, .string a.nonce, .string a.opq, .bool a.sess, .string a.qop, .bool a.stale, .slice a0 len cap] #[.int .i64 0, .string ⟨#[]⟩, .string ⟨#[]⟩, .string ⟨#[]⟩, .bool false, .string ⟨#[]⟩, .bool false, .slice none 0 0] 32
  have HX : Hid (Strs w a0 len b off a.dom ∧ ∀ x ∈ a.dom, x.size ≤ 140737488355328) := ⟨hx, z6⟩
  have HW : Hid (BoxF w ((w.alloc (.cells #[.int .i64 a.sch, .string a.realm, .string a.nonce, .string a.opq, .bool a.sess, .string a.qop, .bool a.stale, .slice a0 len cap] 32)).alloc (.cells #[.int .i64 0, .string ⟨#[]⟩, .string ⟨#[]⟩, .string ⟨#[]⟩, .bool false, .string ⟨#[]⟩, .bool false, .slice none 0 0] 32)) _ _ 32) := hs0
  clear hs0 hx z5 z6
  go_enter Tryd.func41, Tryd.ntmps41
  go_wp2_with fail
  refine (cloneS_any _ z1 _).mono ?_
  rintro e w1 ⟨rfl, hb1⟩
  have H1 := (show BoxF _ _ _ _ _ from HW.out).below hb1
  have HH1 : Hid (BoxF w w1 _ _ 32) := H1
  have s1 := H1.same (i := 1) (v := .string a.realm) rfl
  have c1 := H1.at 2 (v := .string a.nonce) rfl
  have c1' := H1.at 1 (v := .string a.realm) rfl
  have f1 := free_of H1.box
  clear hb1 HW H1
  go_wp2_with fail
  refine (cloneS_any _ z2 _).mono ?_
  rintro e w2 ⟨rfl, hb2⟩
  have H2 := (show BoxF _ _ _ _ _ from HH1.out).below hb2
  have HH2 : Hid (BoxF w w2 _ _ 32) := H2
  have s2 := H2.same (i := 2) (v := .string a.nonce) rfl
  have c2 := H2.at 3 (v := .string a.opq) rfl
  have f2 := free_of H2.box
  have c2' := H2.at 2 (v := .string a.nonce) rfl
  clear hb2 H2 s1 c1 c1' f1 HH1
  go_wp2_with fail
  refine (cloneS_any _ z3 _).mono ?_
  rintro e w3 ⟨rfl, hb3⟩
  have H3 := (show BoxF _ _ _ _ _ from HH2.out).below hb3
  have HH3 : Hid (BoxF w w3 _ _ 32) := H3
  have s3 := H3.same (i := 3) (v := .string a.opq) rfl
  have c3 := H3.at 5 (v := .string a.qop) rfl
  have f3 := free_of H3.box
  have c3' := H3.at 3 (v := .string a.opq) rfl
  clear hb3 H3 s2 c2 f2 c2' HH2
  go_wp2_with fail
  refine (cloneS_any _ z4 _).mono ?_
  rintro e w4 ⟨rfl, hb4⟩
  have H4 := (show BoxF _ _ _ _ _ from HH3.out).below hb4
  have HH4 : Hid (BoxF w w4 _ _ 32) := H4
  have s4 := H4.same (i := 5) (v := .string a.qop) rfl
  have c4 := H4.at 7 (v := .slice a0 len cap) rfl
  have c4' := H4.at 5 (v := .string a.qop) rfl
  have f4 := free_of H4.box
  have HX4 : Hid (Strs w4 a0 len b off a.dom) := HX.out.1.below H4.bel
  clear hb4 H4 s3 c3 f3 c3' HH3
  go_wp2_with fail
  refine (eachS_any a.dom HX.out.2 a0 len cap b off hlen _ HX4.out).mono ?_
  rintro e w5 ⟨⟨v, rfl, hown⟩, hb5⟩
  obtain ⟨va, vc, vg, rfl, _⟩ := hown.strs
  obtain ⟨vn, HVN⟩ : ∃ vn, Hid (a.dom.length = vn) := ⟨_, rfl⟩
  rw [HVN.out] at hown ⊢
  have H5 := (show BoxF _ _ _ _ _ from HH4.out).below hb5
  have H6 := H5.set 7 (.slice va vn vc)
  have HW4 : Hid (w.heap.size + 1 < w4.heap.size) := (Array.getElem?_eq_some_iff.1 (show BoxF _ _ _ _ _ from HH4.out).res).1
  have HO : Hid (OwnS w5 w4.heap.size (.slice va vn vc) a.dom) := hown
  have f5 := free_of H5.box
  have t7 := H5.at 7 (v := .slice a0 len cap) rfl
  have g0 := H6.at 0 (v := .int .i64 a.sch) rfl
  have g1 := H6.at 1 (v := .string a.realm) rfl
  have g2 := H6.at 2 (v := .string a.nonce) rfl
  have g3 := H6.at 3 (v := .string a.opq) rfl
  have g4 := H6.at 4 (v := .bool a.sess) rfl
  have g5 := H6.at 5 (v := .string a.qop) rfl
  have g6 := H6.at 6 (v := .bool a.stale) rfl
  have g7 := H6.at 7 (v := .slice va vn vc) rfl
  have d0 : (w5.setCell ⟨w.heap.size, 7, none⟩ (.slice va vn vc)).cell? ⟨w.heap.size + 1, 0, none⟩ = some (.int .i64 0) := cell_of H6.res
  have d1 : (w5.setCell ⟨w.heap.size, 7, none⟩ (.slice va vn vc)).cell? ⟨w.heap.size + 1, 1, none⟩ = some (.string ⟨#[]⟩) := cell_of H6.res
  have d2 : (w5.setCell ⟨w.heap.size, 7, none⟩ (.slice va vn vc)).cell? ⟨w.heap.size + 1, 2, none⟩ = some (.string ⟨#[]⟩) := cell_of H6.res
  have d3 : (w5.setCell ⟨w.heap.size, 7, none⟩ (.slice va vn vc)).cell? ⟨w.heap.size + 1, 3, none⟩ = some (.string ⟨#[]⟩) := cell_of H6.res
  have d4 : (w5.setCell ⟨w.heap.size, 7, none⟩ (.slice va vn vc)).cell? ⟨w.heap.size + 1, 4, none⟩ = some (.bool false) := cell_of H6.res
  have d5 : (w5.setCell ⟨w.heap.size, 7, none⟩ (.slice va vn vc)).cell? ⟨w.heap.size + 1, 5, none⟩ = some (.string ⟨#[]⟩) := cell_of H6.res
  have d6 : (w5.setCell ⟨w.heap.size, 7, none⟩ (.slice va vn vc)).cell? ⟨w.heap.size + 1, 6, none⟩ = some (.bool false) := cell_of H6.res
  have d7 : (w5.setCell ⟨w.heap.size, 7, none⟩ (.slice va vn vc)).cell? ⟨w.heap.size + 1, 7, none⟩ = some (.slice none 0 0) := cell_of H6.res
  have fr := free_of H6.res
  have HH5 : Hid (BoxF w (w5.setCell ⟨w.heap.size, 7, none⟩ (.slice va vn vc)) _ _ 32) := H6
  have HG5 : Hid (w5.grownBy (w5.setCell ⟨w.heap.size, 7, none⟩ (.slice va vn vc)) (some w.heap.size)) := grown_setCells w5 w.heap.size 7 [.slice va vn vc]
  clear hb5 H5 H6 s4 c4 f4 c4' HH4 hown
  go_wp2_with fail
  obtain ⟨z1, z2⟩ := setAll [.int .i64 a.sch, .string a.realm, .string a.nonce, .string a.opq, .bool a.sess, .string a.qop, .bool a.stale, .slice va vn vc] (show BoxF _ _ _ _ _ from HH5.out).res rfl
  simp only [World.setCells, Nat.reduceAdd] at z1 z2
  have HZ : Hid (w5.grownBy (w5.setCell ⟨w.heap.size, 7, none⟩ (.slice va vn vc)) (some w.heap.size)) := HG5.out
  have hb5 := (show BoxF _ _ _ _ _ from HH5.out).bel
  have hres := (show BoxF _ _ _ _ _ from HH5.out).res
  clear d0 d1 d2 d3 d4 d5 d6 d7 g0 g1 g2 g3 g4 g5 g6 g7 f5 fr t7
  refine bodyPost_ret (v := .agg #[.int .i64 a.sch, .string a.realm, .string a.nonce, .string a.opq, .bool a.sess, .string a.qop, .bool a.stale, .slice va vn vc]) (res_cell rfl rfl Tryd.isAgg32 Tryd.sizeOf32 rfl z1) rfl ?_
  refine ⟨⟨_, rfl, ?_⟩, hb5.grown z2 hb5.size (fun i hi => by injection hi with hi; omega)⟩
  have h1 := HO.out.grown HZ.out (by have := HW4.out; omega)
  have h2 := h1.grown z2 (by have := HW4.out; omega)
  exact ownS_mono h2 (by have := HW4.out; omega)
end Go.Proofs.YtemlclgdgnfhnaaDoor

/- gatepostkeep.held: what it says of grants (from the texts up). -/
namespace Go.Proofs.YtemlclgdgnfhnaaDoor
open Go.RowKit
set_option linter.unusedVariables false

theorem heldLen (x : ByteArray) (w : World) : Calls Tryd.prog 23 #[.string x] w fun e w' => e = .returned (.bool (decide ((100 : Int) < (x.size : Int)))) ∧ w' = w := by
  by_cases h : (100 : Int) < (x.size : Int)
  · rw [decide_eq_true h]
    go_enter Tryd.func23, Tryd.ntmps23
    go_wp2
    go_ret
    exact ⟨rfl, rfl⟩
  · rw [decide_eq_false h]
    go_enter Tryd.func23, Tryd.ntmps23
    go_wp2
    go_ret
    exact ⟨rfl, rfl⟩
set_option maxRecDepth 100000 in
set_option maxHeartbeats 4000000 in
theorem heldIdx (p : Option Addr) (n c b off : Nat) (xs : List ByteArray) (w : World) (h : Strs w p n b off xs) (hn : n ≤ 1000) :
    Calls Tryd.prog 36 #[.slice p n c, .func (.func 23) #[] #[]] w fun e w' => (∃ i : Int, e = .returned (.int .i64 i) ∧ -1 ≤ i) ∧ w' = w := by
  have HS : Hid (Strs w p n b off xs) := h
  clear h
  go_enter Tryd.func36, Tryd.ntmps36
  go_wp2
  go_loopw [8] (fun i wr => ∃ k : Nat, k ≤ n ∧ i = .int .i64 k ∧ wr = w) (fun i _ => n - (intOf i).toNat)
  case atStart => exact ⟨0, Nat.zero_le _, rfl, rfl⟩
  case round =>
    obtain ⟨k, hk, rfl, hwr⟩ := hrel
    obtain rfl := hwr.symm
    by_cases hlt : k < n
    · have hkL : (k : Int) < (n : Int) := by omega
      obtain ⟨s, hs⟩ : ∃ s, xs[k]? = some s := ⟨xs[k]'(by have := HS.out.len_eq; omega), List.getElem?_eq_getElem _⟩
      obtain ⟨ha0, hbl⟩ := HS.out.lies (by omega)
      have hc1 := HS.out.cells k s hs
      have hcall := heldLen s w
      subst ha0
      by_cases hg : (100 : Int) < (s.size : Int)
      · rw [decide_eq_true hg] at hcall
        clear hs hg
        go_wp2_with fail
        refine hcall.mono ?_
        rintro e w1 ⟨rfl, hw⟩
        obtain rfl := hw.symm
        go_wp2
        go_ret
        exact ⟨⟨_, rfl, by omega⟩, rfl⟩
      · rw [decide_eq_false hg] at hcall
        clear hs hg
        go_wp2_with fail
        refine hcall.mono ?_
        rintro e w1 ⟨rfl, hw⟩
        obtain rfl := hw.symm
        go_wp2
        go_roundw
        case rel => exact ⟨k + 1, by omega, by go_num, trivial⟩
        case measure => simp [intOf]; omega
    · have hkL : ¬ (k : Int) < (n : Int) := by omega
      go_wp2
      go_ret
      exact ⟨⟨_, rfl, by omega⟩, rfl⟩
theorem heldCtn (p : Option Addr) (n c b off : Nat) (xs : List ByteArray) (w : World) (h : Strs w p n b off xs) (hn : n ≤ 1000) :
    Calls Tryd.prog 22 #[.slice p n c, .func (.func 23) #[] #[]] w fun e w' => (∃ t : Bool, e = .returned (.bool t)) ∧ w' = w := by
  have hi := heldIdx p n c b off xs w h hn
  clear h
  go_enter Tryd.func22, Tryd.ntmps22
  go_wp2_with fail
  refine hi.mono ?_
  rintro e w1 ⟨⟨i, rfl, hi0⟩, hw⟩
  obtain rfl := hw.symm
  by_cases h0 : 0 ≤ i
  · go_wp2
    go_ret
    exact ⟨⟨_, rfl⟩, rfl⟩
  · go_wp2
    go_ret
    exact ⟨⟨_, rfl⟩, rfl⟩
end Go.Proofs.YtemlclgdgnfhnaaDoor

/- gatepostkeep.held's own closure: what it says of a grant. -/
namespace Go.Proofs.YtemlclgdgnfhnaaDoor
open Go.RowKit
set_option linter.unusedVariables false

/-- Whatever it says: where it says no, the grant's rows are short. -/
def HeldAns (n m : Nat) (B : Nat) (w : World) (e : Ending) (w' : World) : Prop := (∃ t : Bool, e = .returned (.bool t) ∧ (t = false → n ≤ 6 ∧ m ≤ 6)) ∧ Below B w w'
set_option maxRecDepth 100000 in
set_option maxHeartbeats 4000000 in
theorem heldOne (g : GrP) (dp pp : Option Addr) (n c m c' rb ro : Nat) (w : World) (hp : Strs w pp m rb ro g.paths) (s1 : g.org.host.size ≤ 140737488355328) (s2 : g.ask.realm.size ≤ 140737488355328) (s3 : g.ask.nonce.size ≤ 140737488355328) (s4 : g.user.size ≤ 140737488355328) :
    Calls Tryd.prog 21 #[.agg #[.bool g.org.sec, .string g.org.host, .int .i64 g.org.port, .bool g.proxy, .string g.user, .string g.pass, .int .i64 g.ask.sch, .string g.ask.realm, .string g.ask.nonce, .string g.ask.opq, .bool g.ask.sess, .string g.ask.qop, .bool g.ask.stale, .slice dp n c, .int .i64 g.count, .slice pp m c']] w fun e w' => HeldAns n m w.heap.size w e w' := by
  have hbb : Below w.heap.size w (w.alloc (.cells #[.bool g.org.sec, .string g.org.host, .int .i64 g.org.port, .bool g.proxy, .string g.user, .string g.pass, .int .i64 g.ask.sch, .string g.ask.realm, .string g.ask.nonce, .string g.ask.opq, .bool g.ask.sess, .string g.ask.qop, .bool g.ask.stale, .slice dp n c, .int .i64 g.count, .slice pp m c'] 34)) := (Below.refl _ _).alloc (Nat.le_refl _) _
  have hn := heap_alloc_new w (.cells #[.bool g.org.sec, .string g.org.host, .int .i64 g.org.port, .bool g.proxy, .string g.user, .string g.pass, .int .i64 g.ask.sch, .string g.ask.realm, .string g.ask.nonce, .string g.ask.opq, .bool g.ask.sess, .string g.ask.qop, .bool g.ask.stale, .slice dp n c, .int .i64 g.count, .slice pp m c'] 34)
  have HB : Hid (Below w.heap.size w (w.alloc (.cells #[.bool g.org.sec, .string g.org.host, .int .i64 g.org.port, .bool g.proxy, .string g.user, .string g.pass, .int .i64 g.ask.sch, .string g.ask.realm, .string g.ask.nonce, .string g.ask.opq, .bool g.ask.sess, .string g.ask.qop, .bool g.ask.stale, .slice dp n c, .int .i64 g.count, .slice pp m c'] 34)) ∧ Strs w pp m rb ro g.paths) := ⟨hbb, hp⟩
  have n1 := cell_of (i := 1) hn
  have n4 := cell_of (i := 4) hn
  have n7 := cell_of (i := 7) hn
  have n8 := cell_of (i := 8) hn
  have n13 := cell_of (i := 13) hn
  have n15 := cell_of (i := 15) hn
  simp only [List.getElem?_toArray, List.getElem?_cons_zero, List.getElem?_cons_succ] at n1 n4 n7 n8 n13 n15
  clear hbb hn hp
  go_enter Tryd.func21, Tryd.ntmps21
  by_cases h1 : (6 : Int) < (m : Int)
  · go_wp2
    go_ret
    exact ⟨⟨_, rfl, fun h => by cases h⟩, HB.out.1⟩
  · by_cases h2 : (6 : Int) < (n : Int)
    · go_wp2
      go_ret
      exact ⟨⟨_, rfl, fun h => by cases h⟩, HB.out.1⟩
    · have hz1 : (g.org.host.size : Int) ≤ 140737488355328 := by omega
      have hz2 : (g.ask.realm.size : Int) ≤ 140737488355328 := by omega
      have hz3 : (g.ask.nonce.size : Int) ≤ 140737488355328 := by omega
      have hz4 : (g.user.size : Int) ≤ 140737488355328 := by omega
      by_cases h3 : (200 : Int) < (g.org.host.size : Int) + (g.ask.realm.size : Int) + (g.ask.nonce.size : Int) + (g.user.size : Int)
      · go_wp2
        go_ret
        exact ⟨⟨_, rfl, fun h => by cases h⟩, HB.out.1⟩
      · have hc := heldCtn pp m c' rb ro g.paths _ (HB.out.2.below HB.out.1) (by omega)
        go_wp2_with fail
        refine hc.mono ?_
        rintro e w1 ⟨⟨t, rfl⟩, hw⟩
        obtain rfl := hw.symm
        have HE : Hid (n ≤ 6 ∧ m ≤ 6) := ⟨by omega, by omega⟩
        clear hc
        go_wp2
        go_ret
        exact ⟨⟨_, rfl, fun _ => HE.out⟩, HB.out.1⟩
end Go.Proofs.YtemlclgdgnfhnaaDoor

/- Rows of grants that lie somewhere; what held says of them. -/
namespace Go.Proofs.YtemlclgdgnfhnaaDoor
open Go.RowKit
set_option linter.unusedVariables false

/-- A grant that came in, and where its lists lie. -/
structure GrA where
  g : GrP
  da : Option Addr
  dc : Nat
  db : Nat
  doff : Nat
  pa : Option Addr
  pc : Nat
  pb : Nat
  poff : Nat
def GrA.val (v : GrA) : GrV := ⟨v.g, .slice v.da v.g.ask.dom.length v.dc, .slice v.pa v.g.paths.length v.pc⟩
/-- A row of grants that lies somewhere. -/
structure Grs (w : World) (a0 : Option Addr) (len b off : Nat) (gs : List GrA) : Prop where
  len_eq : gs.length = len
  lies : 0 < len → a0 = some ⟨b, off, none⟩ ∧ b < w.heap.size
  cells : ∀ (j : Nat) (v : GrA), gs[j]? = some v → ∀ (i : Nat) (u : Value), (grCells v.val)[i]? = some u → w.cell? ⟨b, off + j * 16 + i, none⟩ = some u
  dom : ∀ v ∈ gs, Strs w v.da v.g.ask.dom.length v.db v.doff v.g.ask.dom
  paths : ∀ v ∈ gs, Strs w v.pa v.g.paths.length v.pb v.poff v.g.paths
theorem Grs.below {w w' : World} {a0 : Option Addr} {len b off : Nat} {gs : List GrA} (h : Grs w a0 len b off gs) (hb : Below w.heap.size w w') : Grs w' a0 len b off gs := by
  refine ⟨h.len_eq, fun h0 => ⟨(h.lies h0).1, Nat.lt_of_lt_of_le (h.lies h0).2 hb.size⟩, fun j v hj i u hi => ?_, fun v hv => (h.dom v hv).below hb, fun v hv => (h.paths v hv).below hb⟩
  have := (List.getElem?_eq_some_iff.1 hj).1
  have hl := h.len_eq
  rw [hb.cell (p := ⟨b, off + j * 16 + i, none⟩) (h.lies (by omega)).2]
  exact h.cells j v hj i u hi
/-- The sixteen cells of a grant of it. -/
theorem Grs.all {w : World} {a0 : Option Addr} {len b off : Nat} {gs : List GrA} (h : Grs w a0 len b off gs) {j : Nat} {v : GrA} (hj : gs[j]? = some v) :
    w.cell? ⟨b, off + j * 16, none⟩ = some (.bool v.g.org.sec) ∧ w.cell? ⟨b, off + j * 16 + 1, none⟩ = some (.string v.g.org.host) ∧ w.cell? ⟨b, off + j * 16 + 2, none⟩ = some (.int .i64 v.g.org.port) ∧ w.cell? ⟨b, off + j * 16 + 3, none⟩ = some (.bool v.g.proxy) ∧
    w.cell? ⟨b, off + j * 16 + 4, none⟩ = some (.string v.g.user) ∧ w.cell? ⟨b, off + j * 16 + 5, none⟩ = some (.string v.g.pass) ∧ w.cell? ⟨b, off + j * 16 + 6, none⟩ = some (.int .i64 v.g.ask.sch) ∧ w.cell? ⟨b, off + j * 16 + 7, none⟩ = some (.string v.g.ask.realm) ∧
    w.cell? ⟨b, off + j * 16 + 8, none⟩ = some (.string v.g.ask.nonce) ∧ w.cell? ⟨b, off + j * 16 + 9, none⟩ = some (.string v.g.ask.opq) ∧ w.cell? ⟨b, off + j * 16 + 10, none⟩ = some (.bool v.g.ask.sess) ∧ w.cell? ⟨b, off + j * 16 + 11, none⟩ = some (.string v.g.ask.qop) ∧
    w.cell? ⟨b, off + j * 16 + 12, none⟩ = some (.bool v.g.ask.stale) ∧ w.cell? ⟨b, off + j * 16 + 13, none⟩ = some (.slice v.da v.g.ask.dom.length v.dc) ∧ w.cell? ⟨b, off + j * 16 + 14, none⟩ = some (.int .i64 v.g.count) ∧ w.cell? ⟨b, off + j * 16 + 15, none⟩ = some (.slice v.pa v.g.paths.length v.pc) :=
  ⟨h.cells j v hj 0 _ rfl, h.cells j v hj 1 _ rfl, h.cells j v hj 2 _ rfl, h.cells j v hj 3 _ rfl, h.cells j v hj 4 _ rfl, h.cells j v hj 5 _ rfl, h.cells j v hj 6 _ rfl, h.cells j v hj 7 _ rfl, h.cells j v hj 8 _ rfl, h.cells j v hj 9 _ rfl, h.cells j v hj 10 _ rfl, h.cells j v hj 11 _ rfl, h.cells j v hj 12 _ rfl, h.cells j v hj 13 _ rfl, h.cells j v hj 14 _ rfl, h.cells j v hj 15 _ rfl⟩
/-- Its texts are no longer than a machine can hold; its count is one. -/
def GrZ (g : GrP) : Prop := g.org.host.size ≤ 140737488355328 ∧ g.user.size ≤ 140737488355328 ∧ g.pass.size ≤ 140737488355328 ∧ g.ask.realm.size ≤ 140737488355328 ∧ g.ask.nonce.size ≤ 140737488355328 ∧ g.ask.opq.size ≤ 140737488355328 ∧ g.ask.qop.size ≤ 140737488355328 ∧ (∀ x ∈ g.ask.dom, x.size ≤ 140737488355328) ∧ (∀ x ∈ g.paths, x.size ≤ 140737488355328) ∧ -9223372036854775808 ≤ g.count
def shortB (v : GrA) : Prop := v.g.ask.dom.length ≤ 6 ∧ v.g.paths.length ≤ 6
set_option maxRecDepth 100000 in
set_option maxHeartbeats 4000000 in
theorem heldIdxG (a0 : Option Addr) (len cap b off : Nat) (gs : List GrA) (hz : ∀ v ∈ gs, GrZ v.g) (hn : len ≤ 1000) (w : World) (h : Grs w a0 len b off gs) :
    Calls Tryd.prog 24 #[.slice a0 len cap, .func (.func 21) #[] #[]] w fun e w' => (∃ i : Int, e = .returned (.int .i64 i) ∧ -1 ≤ i ∧ Hid (i < 0 → ∀ v ∈ gs, shortB v)) ∧ Below w.heap.size w w' := by
  have HS : Hid (Grs w a0 len b off gs) := h
  have HZ : Hid (∀ v ∈ gs, GrZ v.g) := hz
  have HL : Hid (gs.length = len) := h.len_eq
  clear h hz
  go_enter Tryd.func24, Tryd.ntmps24
  go_wp2
  go_loopw [8] (fun i wr => ∃ k : Nat, k ≤ len ∧ i = .int .i64 k ∧ Hid (Below w.heap.size w wr ∧ ∀ v ∈ gs.take k, shortB v)) (fun i _ => len - (intOf i).toNat)
  case atStart => exact ⟨0, Nat.zero_le _, rfl, Below.refl _ _, by simp⟩
  case round =>
    obtain ⟨k, hk, rfl, HI⟩ := hrel
    by_cases hlt : k < len
    · have hkL : (k : Int) < (len : Int) := by omega
      obtain ⟨v, hv⟩ : ∃ v, gs[k]? = some v := ⟨gs[k]'(by have := HL.out; omega), List.getElem?_eq_getElem _⟩
      have HV : Hid (gs[k]? = some v) := hv
      have hvm : v ∈ gs := List.mem_of_getElem? hv
      obtain ⟨ha0, _⟩ := HS.out.lies (by omega)
      subst ha0
      have hW := HS.out.below HI.out.1
      obtain ⟨c0, c1, c2, c3, c4, c5, c6, c7, c8, c9, c10, c11, c12, c13, c14, c15⟩ := hW.all hv
      have hz := HZ.out v hvm
      have hcall := heldOne v.g v.da v.pa v.g.ask.dom.length v.dc v.g.paths.length v.pc v.pb v.poff wr (hW.paths v hvm) hz.1 hz.2.2.2.1 hz.2.2.2.2.1 hz.2.1
      obtain ⟨⟨⟨os, oh, op⟩, px, us, pw, ⟨sc, re, no, oq, se, qo, st, dm⟩, ct, pt⟩, da, dc, db, doff, pa, pc, pb, poff⟩ := v
      simp only at hcall c0 c1 c2 c3 c4 c5 c6 c7 c8 c9 c10 c11 c12 c13 c14 c15
      clear hv hvm hW hz
      go_wp2_with fail
      refine hcall.mono ?_
      rintro e w1 ⟨⟨t, rfl, ht⟩, hb1⟩
      have HB1 : Hid (Below w.heap.size w w1) := HI.out.1.trans (hb1.mono HI.out.1.size)
      clear hb1 hcall c0 c1 c2 c3 c4 c5 c6 c7 c8 c9 c10 c11 c12 c13 c14 c15
      cases t
      · have HSH : Hid (∀ v ∈ gs.take (k + 1), shortB v) := by
          obtain ⟨hk1, e1⟩ := List.getElem?_eq_some_iff.1 HV.out
          intro v hv
          rw [List.take_succ_eq_append_getElem hk1, List.mem_append, e1] at hv
          rcases hv with h | h
          · exact HI.out.2 v h
          · rw [List.mem_singleton.1 h]
            exact ht rfl
        clear ht
        go_wp2
        go_roundw
        case rel => exact ⟨k + 1, by omega, by go_num, HB1.out, HSH.out⟩
        case measure => simp [intOf]; omega
      · clear ht
        go_wp2
        go_ret
        exact ⟨⟨_, rfl, by omega, fun h => by omega⟩, HB1.out⟩
    · have hkL : ¬ (k : Int) < (len : Int) := by omega
      have HE : Hid (∀ v ∈ gs, shortB v) := by
        have := HI.out.2
        rw [List.take_of_length_le (by have := HL.out; omega)] at this
        exact this
      go_wp2
      go_ret
      exact ⟨⟨_, rfl, by omega, fun _ => HE.out⟩, HI.out.1⟩
/-- Whatever held says: where it says yes, the grants are few, and their rows are short. -/
def HeldG (gs : List GrA) (len : Nat) (e : Ending) : Prop := ∃ t : Bool, e = .returned (.bool t) ∧ (t = true → len ≤ 30 ∧ ∀ v ∈ gs, shortB v)
set_option maxHeartbeats 2000000 in
theorem held_any (a0 : Option Addr) (len cap b off : Nat) (gs : List GrA) (hz : ∀ v ∈ gs, GrZ v.g) (hl : len ≤ 9223372036854775807) (w : World) (h : Grs w a0 len b off gs) :
    Calls Tryd.prog 5 #[.slice a0 len cap] w fun e w' => HeldG gs len e ∧ Below w.heap.size w w' := by
  by_cases h30 : len ≤ 30
  · have h30' : (len : Int) ≤ 30 := by omega
    have hcon : ∀ w', Grs w' a0 len b off gs → Calls Tryd.prog 6 #[.slice a0 len cap, .func (.func 21) #[] #[]] w' fun e w'' => (∃ t : Bool, e = .returned (.bool t) ∧ Hid (t = false → ∀ v ∈ gs, shortB v)) ∧ Below w'.heap.size w' w'' := fun w' hw' => by
      have hi := heldIdxG a0 len cap b off gs hz (by omega) w' hw'
      clear hw'
      go_enter Tryd.func6, Tryd.ntmps6
      go_wp2_with fail
      refine hi.mono ?_
      rintro e w1 ⟨⟨i, rfl, hi0, HI⟩, hb⟩
      by_cases h0 : 0 ≤ i
      · go_wp2
        go_ret
        exact ⟨⟨true, by first | rfl | simp [h0], fun h => by cases h⟩, hb⟩
      · go_wp2
        go_ret
        exact ⟨⟨false, by first | rfl | simp [h0], fun _ => HI.out (by omega)⟩, hb⟩
    have hc := hcon w h
    clear hcon h hz
    go_enter Tryd.func5, Tryd.ntmps5
    go_wp2_with fail
    refine hc.mono ?_
    rintro e w1 ⟨⟨t, rfl, HT⟩, hb⟩
    cases t
    · go_wp2
      go_ret
      exact ⟨⟨true, rfl, fun _ => ⟨h30, HT.out (by trivial)⟩⟩, hb⟩
    · go_wp2
      go_ret
      exact ⟨⟨false, rfl, fun h => by cases h⟩, hb⟩
  · have h30' : ¬ (len : Int) ≤ 30 := by omega
    go_enter Tryd.func5, Tryd.ntmps5
    go_wp2
    go_ret
    exact ⟨⟨false, rfl, fun h => by cases h⟩, Below.refl _ _⟩
end Go.Proofs.YtemlclgdgnfhnaaDoor

/- BankCounts: what its two closures say of a grant; whether a row has a count that is none. -/
namespace Go.Proofs.YtemlclgdgnfhnaaDoor
open Go.RowKit
set_option linter.unusedVariables false

def cntB (v : GrA) : Prop := 0 ≤ v.g.count ∧ v.g.count ≤ 1000
def CntAns (c : Int) (e : Ending) : Prop := ∃ t : Bool, e = .returned (.bool t) ∧ (t = false → 0 ≤ c ∧ c ≤ 1000)
set_option maxRecDepth 100000 in
set_option maxHeartbeats 4000000 in
theorem cntOne (v : GrV) (w : World) :
    Calls Tryd.prog 7 #[.agg (grCells v).toArray] w fun e w' => CntAns v.g.count e ∧ Below w.heap.size w w' := by
  have hbb : Below w.heap.size w (w.alloc (.cells (grCells v).toArray 34)) := (Below.refl _ _).alloc (Nat.le_refl _) _
  have hn := heap_alloc_new w (.cells (grCells v).toArray 34)
  have HB : Hid (Below w.heap.size w (w.alloc (.cells (grCells v).toArray 34))) := hbb
  unfold grCells at hbb hn HB ⊢
  have n14 := cell_of (i := 14) hn
  simp only [List.getElem?_toArray, List.getElem?_cons_zero, List.getElem?_cons_succ] at n14
  clear hn hbb
  go_enter Tryd.func7, Tryd.ntmps7
  by_cases h1 : v.g.count < 0
  · go_wp2
    go_ret
    exact ⟨⟨_, rfl, fun h => by cases h⟩, HB.out⟩
  · by_cases h2 : (1000 : Int) < v.g.count
    · go_wp2
      go_ret
      exact ⟨⟨_, rfl, fun h => by cases h⟩, HB.out⟩
    · have HE : Hid (0 ≤ v.g.count ∧ v.g.count ≤ 1000) := ⟨by omega, by omega⟩
      go_wp2
      go_ret
      exact ⟨⟨_, rfl, fun _ => HE.out⟩, HB.out⟩
set_option maxRecDepth 100000 in
set_option maxHeartbeats 4000000 in
theorem cntIdx (a0 : Option Addr) (len cap b off : Nat) (gs : List GrA) (hz : ∀ v ∈ gs, GrZ v.g) (hn : len ≤ 1000) (w : World) (h : Grs w a0 len b off gs) :
    Calls Tryd.prog 24 #[.slice a0 len cap, .func (.func 7) #[] #[]] w fun e w' => (∃ i : Int, e = .returned (.int .i64 i) ∧ -1 ≤ i ∧ Hid (i < 0 → ∀ v ∈ gs, cntB v)) ∧ Below w.heap.size w w' := by
  have HS : Hid (Grs w a0 len b off gs) := h
  have HZ : Hid (∀ v ∈ gs, GrZ v.g) := hz
  have HL : Hid (gs.length = len) := h.len_eq
  clear h hz
  go_enter Tryd.func24, Tryd.ntmps24
  go_wp2
  go_loopw [8] (fun i wr => ∃ k : Nat, k ≤ len ∧ i = .int .i64 k ∧ Hid (Below w.heap.size w wr ∧ ∀ v ∈ gs.take k, cntB v)) (fun i _ => len - (intOf i).toNat)
  case atStart => exact ⟨0, Nat.zero_le _, rfl, Below.refl _ _, by simp⟩
  case round =>
    obtain ⟨k, hk, rfl, HI⟩ := hrel
    by_cases hlt : k < len
    · have hkL : (k : Int) < (len : Int) := by omega
      obtain ⟨v, hv⟩ : ∃ v, gs[k]? = some v := ⟨gs[k]'(by have := HL.out; omega), List.getElem?_eq_getElem _⟩
      have HV : Hid (gs[k]? = some v) := hv
      have hvm : v ∈ gs := List.mem_of_getElem? hv
      obtain ⟨ha0, _⟩ := HS.out.lies (by omega)
      subst ha0
      have hW := HS.out.below HI.out.1
      obtain ⟨c0, c1, c2, c3, c4, c5, c6, c7, c8, c9, c10, c11, c12, c13, c14, c15⟩ := hW.all hv
      have hcall := cntOne v.val wr
      unfold grCells GrA.val at hcall
      obtain ⟨⟨⟨os, oh, op⟩, px, us, pw, ⟨sc, re, no, oq, se, qo, st, dm⟩, ct, pt⟩, da, dc, db, doff, pa, pc, pb, poff⟩ := v
      simp only at hcall c0 c1 c2 c3 c4 c5 c6 c7 c8 c9 c10 c11 c12 c13 c14 c15
      clear hv hvm hW
      go_wp2_with fail
      refine hcall.mono ?_
      rintro e w1 ⟨⟨t, rfl, ht⟩, hb1⟩
      have HB1 : Hid (Below w.heap.size w w1) := HI.out.1.trans (hb1.mono HI.out.1.size)
      clear hb1 hcall c0 c1 c2 c3 c4 c5 c6 c7 c8 c9 c10 c11 c12 c13 c14 c15
      cases t
      · have HSH : Hid (∀ v ∈ gs.take (k + 1), cntB v) := by
          obtain ⟨hk1, e1⟩ := List.getElem?_eq_some_iff.1 HV.out
          intro v hv
          rw [List.take_succ_eq_append_getElem hk1, List.mem_append, e1] at hv
          rcases hv with h | h
          · exact HI.out.2 v h
          · rw [List.mem_singleton.1 h]
            exact ht rfl
        clear ht
        go_wp2
        go_roundw
        case rel => exact ⟨k + 1, by omega, by go_num, HB1.out, HSH.out⟩
        case measure => simp [intOf]; omega
      · clear ht
        go_wp2
        go_ret
        exact ⟨⟨_, rfl, by omega, fun h => by omega⟩, HB1.out⟩
    · have hkL : ¬ (k : Int) < (len : Int) := by omega
      have HE : Hid (∀ v ∈ gs, cntB v) := by
        have := HI.out.2
        rw [List.take_of_length_le (by have := HL.out; omega)] at this
        exact this
      go_wp2
      go_ret
      exact ⟨⟨_, rfl, by omega, fun _ => HE.out⟩, HI.out.1⟩
/-- Whether a row has a count below 0, or above 1000. -/
theorem cntHas (a0 : Option Addr) (len cap b off : Nat) (gs : List GrA) (hz : ∀ v ∈ gs, GrZ v.g) (hn : len ≤ 1000) (w : World) (h : Grs w a0 len b off gs) :
    Calls Tryd.prog 6 #[.slice a0 len cap, .func (.func 7) #[] #[]] w fun e w' => (∃ t : Bool, e = .returned (.bool t) ∧ Hid (t = false → ∀ v ∈ gs, cntB v)) ∧ Below w.heap.size w w' := by
  have hi := cntIdx a0 len cap b off gs hz hn w h
  clear h hz
  go_enter Tryd.func6, Tryd.ntmps6
  go_wp2_with fail
  refine hi.mono ?_
  rintro e w1 ⟨⟨i, rfl, hi0, HI⟩, hb⟩
  by_cases h0 : 0 ≤ i
  · go_wp2
    go_ret
    exact ⟨⟨true, by first | rfl | simp [h0], fun h => by cases h⟩, hb⟩
  · go_wp2
    go_ret
    exact ⟨⟨false, by first | rfl | simp [h0], fun _ => HI.out (by omega)⟩, hb⟩
set_option maxRecDepth 100000 in
set_option maxHeartbeats 4000000 in
theorem cntTwo (v : GrV) (x : GrV) (a : Nat) (w : World) (hb : w.heap[a]? = some (.cells (grCells x).toArray 34 (0, 0))) :
    Calls Tryd.prog 18 #[.agg (grCells v).toArray, .pointer (some ⟨a, 0, none⟩)] w fun e w' => e = .returned (.bool (realmB x.g.org x.g.proxy x.g.ask.realm v.g)) ∧ Below w.heap.size w w' := by
  have hbb : Below w.heap.size w (w.alloc (.cells (grCells v).toArray 34)) := (Below.refl _ _).alloc (Nat.le_refl _) _
  have hb2 := (hbb.block _ (Array.getElem?_eq_some_iff.1 hb).1).trans hb
  have hn := heap_alloc_new w (.cells (grCells v).toArray 34)
  have HB : Hid (Below w.heap.size w (w.alloc (.cells (grCells v).toArray 34))) := hbb
  unfold grCells at hbb hb2 hn HB ⊢
  have c0 := (cell_of (i := 0) hb2)
  have c1 := (cell_of (i := 1) hb2)
  have c2 := (cell_of (i := 2) hb2)
  have c3 := (cell_of (i := 3) hb2)
  have c7 := (cell_of (i := 7) hb2)
  have n0 := cell_of (i := 0) hn
  have n1 := cell_of (i := 1) hn
  have n2 := cell_of (i := 2) hn
  have n3 := cell_of (i := 3) hn
  have n7 := cell_of (i := 7) hn
  simp only [List.getElem?_toArray, List.getElem?_cons_zero, List.getElem?_cons_succ] at c0 c1 c2 c3 c7 n0 n1 n2 n3 n7
  have e1 := eqOrg v.g.org x.g.org (orgB v.g.org x.g.org) rfl
  clear hb hb2 hn hbb
  go_enter Tryd.func18, Tryd.ntmps18
  obtain ⟨E1, h1⟩ : ∃ E, orgB v.g.org x.g.org = E := ⟨_, rfl⟩
  obtain ⟨E2, h2⟩ : ∃ E, (v.g.proxy == x.g.proxy) = E := ⟨_, rfl⟩
  obtain ⟨E3, h3⟩ : ∃ E, (v.g.ask.realm.toList == x.g.ask.realm.toList) = E := ⟨_, rfl⟩
  have HE : Hid (realmB x.g.org x.g.proxy x.g.ask.realm v.g = (E1 && (E2 && E3))) := by show _ = _; unfold realmB; rw [h1, h2, h3]
  rw [h1] at e1
  clear h1
  rw [HE.out]
  cases E1
  · go_wp2
    go_ret
    exact ⟨rfl, HB.out⟩
  · cases E2
    · go_wp2
      go_ret
      exact ⟨rfl, HB.out⟩
    · cases E3
      · go_wp2
        go_ret
        exact ⟨rfl, HB.out⟩
      · go_wp2
        go_ret
        exact ⟨rfl, HB.out⟩
end Go.Proofs.YtemlclgdgnfhnaaDoor

/- Rows of structs: without those from one place to another, by the library's own function; whatever the program. -/
namespace Go.Proofs.YtemlclgdgnfhnaaDoor
open Go.RowKit
set_option linter.unusedVariables false

set_option maxRecDepth 100000 in
set_option maxHeartbeats 4000000 in
theorem dltG_of (P : Program) (hf : P.funcs[30]? = some Tryd.f30) (mixed : P.follows .mixedOrders = true)
    (tS : P.underlying 22 = some (TypeDesc.slice 34)) (aS : ∀ w, (isAgg 22).run P w = .ok false w) (zS : ∀ w, (Go.sizeOf 22).run P w = .ok 1 w)
    (t3 : P.underlying 3 = some (TypeDesc.int IntKind.i64)) (a3 : ∀ w, (isAgg 3).run P w = .ok false w) (z3 : ∀ w, (Go.sizeOf 3).run P w = .ok 1 w) (v3 : ∀ w, (zeroValue 3).run P w = .ok (Value.int IntKind.i64 0) w)
    (t4 : P.underlying 4 = some TypeDesc.bool) (a4 : ∀ w, (isAgg 4).run P w = .ok false w) (z4 : ∀ w, (Go.sizeOf 4).run P w = .ok 1 w)
    (k : Nat) (hk0 : 0 < k) (aE : ∀ w, (isAgg 34).run P w = .ok true w) (zE : ∀ w, (Go.sizeOf 34).run P w = .ok k w) (zc : Array Value) (vE : ∀ w, (zeroValue 34).run P w = .ok (.agg zc) w) (hzc : zc.size = k) (hz1 : ∀ u ∈ zc, u.oneCell' = true)
    (i0 : TypeInfo) (hi0 : P.info? 34 = some i0) (hi1 : i0.size = k)
    (g n cap B : Nat) (xs : List (List Value)) (hn : xs.length = n) (hbig : cap ≤ 9223372036854775807) (w : World) (hown : OwnK k 34 w B (.slice (some ⟨g, 0, none⟩) n cap) xs) (i j : Nat) (hij : i < j) (hj : j ≤ n) :
    Calls P 30 #[.slice (some ⟨g, 0, none⟩) n cap, .int .i64 i, .int .i64 j] w fun e w' => e = .returned (.slice (some ⟨g, 0, none⟩) (i + (n - j)) cap) ∧ Hid (OwnK k 34 w' B (.slice (some ⟨g, 0, none⟩) (i + (n - j)) cap) (xs.take i ++ xs.drop j) ∧ w.grownBy w' (some g)) := by
  have hncap : n ≤ cap := by
    rcases hown.forms with ⟨e, _⟩ | ⟨g', cap', e, _, _, h1, _⟩
    · cases e
    · injection e with _ _ e3
      rw [e3, ← hn]; exact h1
  have mul := fun {a b : Nat} (h : a ≤ b) => Nat.mul_le_mul_right k h
  have hyl : ∀ y ∈ xs.drop j, y.length = k := fun y hy => hown.len y (List.mem_of_mem_drop hy)
  have hy1 : ∀ y ∈ xs.drop j, ∀ u ∈ y, u.oneCell' = true := fun y hy => hown.one y (List.mem_of_mem_drop hy)
  obtain ⟨news, hnews⟩ : ∃ news, news = (xs.drop j).flatten := ⟨_, rfl⟩
  have hlen : news.length = (n - j) * k := by rw [hnews, flat_len hyl, List.length_drop, hn]
  obtain ⟨A, hA, hsrc⟩ : ∃ A : Addr, (if cap = j then some (⟨g, 0, none⟩ : Addr) else some ⟨g, j * k, none⟩) = some A ∧ Hid (∀ t u, news[t]? = some u → w.drew.cell? (A.add t) = some u) := by
    by_cases h : cap = j
    · refine ⟨⟨g, 0, none⟩, by simp [h], fun t u hu => ?_⟩
      have h0 : news.length = 0 := by rw [hlen, show n - j = 0 by omega]; simp
      rw [List.length_eq_zero_iff.1 h0] at hu
      simp at hu
    · refine ⟨⟨g, j * k, none⟩, by simp [h], fun t u hu => ?_⟩
      rw [hnews, ← flat_drop hown.len, List.getElem?_drop] at hu
      have hc := World.ownsRow.cells hown.row (g := g) rfl (j * k + t) u hu
      rw [Addr.add_lit, Nat.zero_add] at hc
      rw [Addr.add_lit]
      exact hc
  have s1 : Hid (news.length = (n - j) * k) := hlen
  have s2 : Hid (∀ u ∈ news, u.oneCell' = true) := by
    intro u hu
    rw [hnews, List.mem_flatten] at hu
    obtain ⟨y, hy, hu⟩ := hu
    exact hy1 y hy u hu
  have hbnd : i * k + (n - j) * k ≤ cap * k := by rw [← Nat.add_mul]; exact mul (by omega)
  have s3 : Hid (∀ t, t < news.length → (w.drew.cell? ⟨g, 0 + i * k + t, none⟩).isSome = true ∧ w.drew.frozen? ⟨g, 0 + i * k + t, none⟩ = false) := by
    intro t ht
    rw [hlen] at ht
    exact ⟨hown.there _ (by omega), hown.frozen _⟩
  obtain ⟨W1, hW1⟩ : ∃ W1, W1 = w.drew.setCells g (i * k) news := ⟨_, rfl⟩
  have hput : OwnK k 34 W1 B (.slice (some ⟨g, 0, none⟩) (xs.take i ++ xs.drop j ++ xs.drop (i + (xs.drop j).length)).length cap) (xs.take i ++ xs.drop j ++ xs.drop (i + (xs.drop j).length)) := by
    rw [hW1, hnews]
    have h := (show OwnK k 34 w.drew B (.slice (some ⟨g, 0, none⟩) n cap) xs from hown.drewN 1).put i (xs.drop j) hyl hy1 (by omega) (by rw [List.length_drop]; omega)
    exact h
  have hLl : (xs.take i ++ xs.drop j ++ xs.drop (i + (xs.drop j).length)).length = n := by simp; omega
  rw [hLl] at hput
  have htk : (xs.take i ++ xs.drop j ++ xs.drop (i + (xs.drop j).length)).take (i + (n - j)) = xs.take i ++ xs.drop j := by
    have : (xs.take i ++ xs.drop j).length = i + (n - j) := by simp; omega
    rw [← this, List.take_left']
    rfl
  have hb2 : (i + (n - j)) * k + (j - i) * k ≤ cap * k := by rw [← Nat.add_mul]; exact mul (by omega)
  have hzl : (Builtin.zeroCells zc (j - i)).toList.length = (j - i) * k := by simp [Builtin.zeroCells, hzc]
  have e1 : n - (i + (n - j)) = j - i := by omega
  have hcl : ∀ ty, (Builtin.clear_ #[22] ty #[.slice (some ⟨g, (i + (n - j)) * k, none⟩) (n - (i + (n - j))) (cap - (i + (n - j)))]).run P W1 = .ok (.tuple #[]) (W1.setCells g ((i + (n - j)) * k) (Builtin.zeroCells zc (j - i)).toList) :=
    fun ty => by
      rw [e1]
      exact run_clear_K P W1 _ _ ty (.agg zc) k tS vE hzc hz1 g ((i + (n - j)) * k) (j - i) _ (by omega) (fun t ht => hput.there _ (by omega)) (fun t ht => hput.frozen _)
  have HE : Hid (OwnK k 34 (W1.setCells g ((i + (n - j)) * k) (Builtin.zeroCells zc (j - i)).toList) B (.slice (some ⟨g, 0, none⟩) (i + (n - j)) cap) (xs.take i ++ xs.drop j) ∧ w.grownBy (W1.setCells g ((i + (n - j)) * k) (Builtin.zeroCells zc (j - i)).toList) (some g)) := by
    have h := hput.wipe (i + (n - j)) (by rw [hLl]; omega) (Builtin.zeroCells zc (j - i)).toList (by rw [hzl]; exact hb2)
    rw [htk] at h
    refine ⟨h, gtrans ?_ (grown_setCells _ _ _ _)⟩
    rw [hW1]
    exact gtrans (show w.grownBy w.drew (some g) from below_grown (Below.refl _ _).drew _) (grown_setCells _ _ _ _)
  have hW : Hid (W1 = w.drew.setCells g (0 + i * k) news) := by show _ = _; rw [Nat.zero_add]; exact hW1
  generalize (Builtin.zeroCells zc (j - i)).toList = zs at hcl HE
  have hic : i ≤ cap := by omega
  have hjc : j ≤ cap := by omega
  have hneq : ((i : Int) == (j : Int)) = false := beq_eq_false_iff_ne.2 (by omega)
  have hij' : (i : Int) ≤ (j : Int) := by omega
  clear hW1 hput hown hnews hlen hLl htk hb2 hzl hzc hz1 hbnd hyl hy1 mul hn e1
  go_enter hf, Tryd.ntmps30
  go_wp2_with fail
  go_region_law_o (refine step_append_room rfl (.tmp 22) (.tmp 25) 22 rfl 34 i0 k tS hi0 hi1 g 0 i cap (by simp [Act.eval, Act.put]) A (n - j) (cap - j) news (by simp [Act.eval, Act.put]) s1.out hsrc.out s2.out (by omega) s3.out ?_; rw [← hW.out])
  go_wp2
  go_ret
  exact ⟨rfl, HE⟩
set_option maxHeartbeats 2000000 in
theorem infoG : (Tryd.prog.info? 34).map (fun i => i.size) = some 16 := by kernel_rfl
theorem dltG_any (g n cap B : Nat) (xs : List (List Value)) (hn : xs.length = n) (hbig : cap ≤ 9223372036854775807) (w : World) (hown : OwnK 16 34 w B (.slice (some ⟨g, 0, none⟩) n cap) xs) (i j : Nat) (hij : i < j) (hj : j ≤ n) :
    Calls Tryd.prog 30 #[.slice (some ⟨g, 0, none⟩) n cap, .int .i64 i, .int .i64 j] w fun e w' => e = .returned (.slice (some ⟨g, 0, none⟩) (i + (n - j)) cap) ∧ Hid (OwnK 16 34 w' B (.slice (some ⟨g, 0, none⟩) (i + (n - j)) cap) (xs.take i ++ xs.drop j) ∧ w.grownBy w' (some g)) := by
  obtain ⟨i0, hi0, hi1⟩ := Option.map_eq_some_iff.1 infoG
  exact dltG_of Tryd.prog Tryd.func30 (by kernel_rfl) Tryd.underlying22 Tryd.isAgg22 Tryd.sizeOf22 Tryd.underlying3 Tryd.isAgg3 Tryd.sizeOf3 Tryd.zeroValue3 Tryd.underlying4 Tryd.isAgg4 Tryd.sizeOf4 16 (by omega) Tryd.isAgg34 Tryd.sizeOf34 _ Tryd.zeroValue34 rfl (by decide) i0 hi0 hi1 g n cap B xs hn hbig w hown i j hij hj
set_option maxHeartbeats 1000000 in
theorem dltG_same (a : Option Addr) (n cap i : Nat) (hi : i ≤ n) (hn : n ≤ cap) (w : World) : Calls Tryd.prog 30 #[.slice a n cap, .int .i64 i, .int .i64 i] w fun e w' => e = .returned (.slice a n cap) ∧ w' = w := by
  have hic : i ≤ cap := by omega
  cases a with
  | none =>
    go_enter Tryd.func30, Tryd.ntmps30
    go_wp2
    all_goals (go_ret; exact ⟨rfl, rfl⟩)
  | some p =>
    go_enter Tryd.func30, Tryd.ntmps30
    go_wp2
    all_goals (go_ret; exact ⟨rfl, rfl⟩)
end Go.Proofs.YtemlclgdgnfhnaaDoor

/- A row of structs, each made anew by a function; whatever the program. -/
namespace Go.Proofs.YtemlclgdgnfhnaaDoor
open Go.RowKit
set_option linter.unusedVariables false

/-- What stays where blocks are laid, and where a row of structs of this type is written into. -/
def Stays {α : Type} (t : TypeId) (Q : World → α → Prop) : Prop := ∀ (W W' : World) (row : Option Nat) (u : α), W.grownBy W' row → (∀ b, row = some b → ∃ cs, W.heap[b]? = some (.cells cs t (0, 0))) → Q W u → Q W' u
theorem Stays.below {α : Type} {t : TypeId} {Q : World → α → Prop} (h : Stays t Q) {W W' : World} {u : α} (hb : Below W.heap.size W W') (hq : Q W u) : Q W' u := h W W' none u (below_grown hb none) (fun b e => by cases e) hq
theorem ownK_typed {k B : Nat} {t : TypeId} {w : World} {v : Value} {xs : List (List Value)} (h : OwnK k t w B v xs) : ∀ b, v.ownBlock = some b → ∃ cs, w.heap[b]? = some (.cells cs t (0, 0)) := by
  intro b hb
  rcases h.row.2 with ⟨e, _⟩ | ⟨g', cap', cur, e, _, hh, _⟩
  · subst e
    cases hb
  · subst e
    have : g' = b := by simpa [Value.ownBlock] using hb
    subst this
    exact ⟨cur, hh⟩
theorem fold_at : ∀ (l pre : List Value) (c : Array Value), c.size = pre.length + l.length → c.toList.take pre.length = pre → ((l.zipIdx pre.length).foldl (fun cs x => cs.setIfInBounds x.2 x.1) c).toList = pre ++ l
  | [], pre, c, h1, h2 => by
    have e0 : c.toList.length = c.size := Array.length_toList
    rw [List.length_nil, Nat.add_zero] at h1
    rw [List.take_of_length_le (by omega)] at h2
    simpa using h2
  | v :: r, pre, c, h1, h2 => by
    have e0 : c.toList.length = c.size := Array.length_toList
    rw [List.length_cons] at h1
    have ih := fold_at r (pre ++ [v]) (c.setIfInBounds pre.length v) (by rw [Array.size_setIfInBounds, List.length_append, List.length_singleton]; omega) (by
      rw [Array.toList_setIfInBounds, List.length_append, List.length_singleton, List.take_succ_eq_append_getElem (by rw [List.length_set]; omega), List.getElem_set_self, List.take_set_of_le (Nat.le_refl _), h2])
    rw [List.length_append, List.length_singleton] at ih
    rw [List.zipIdx_cons, List.foldl_cons, ih]
    simp
theorem run_bs1 (P : Program) (w : World) (t e : TypeId) (k : Nat) (hk0 : 0 < k) (hk1 : k ≤ 1000) (zc : Array Value) (ht : P.underlying t = some (.slice e)) (hs : ∀ w, (Go.sizeOf e).run P w = .ok k w) (hv : ∀ w, (zeroValue e).run P w = .ok (.agg zc) w) (hz : zc.size = k) (cs : List Value) (hc : cs.length = k) :
    (Instr.buildSlice t 1 #[(0, .agg cs.toArray)]).run P w = .ok (.slice (some ⟨w.heap.size, 0, none⟩) 1 1) (w.alloc (.cells cs.toArray e)) := by
  have hfill : Instr.fill (fun i => some (i * k, k)) ((Array.range (1 * k)).map ((Value.agg zc).cells[· % (Value.agg zc).cells.size]!)) [(0, .agg cs.toArray)] = some cs.toArray := by
    have hsz : ((Array.range (1 * k)).map ((Value.agg zc).cells[· % (Value.agg zc).cells.size]!)).size = k := by simp
    generalize ((Array.range (1 * k)).map ((Value.agg zc).cells[· % (Value.agg zc).cells.size]!)) = Z at hsz
    have h0 : (Value.agg cs.toArray).cells = cs.toArray := rfl
    simp only [Instr.fill, h0]
    have hn : ¬ (cs.toArray.size ≠ k || decide (0 * k + cs.toArray.size > Z.size)) = true := by simp [hc, hsz]
    rw [if_neg (by simpa using hn)]
    congr 1
    apply Array.toList_inj.1
    have := fold_at cs [] Z (by simp; omega) (by simp)
    simp only [List.length_nil, List.nil_append] at this
    simp only [Nat.zero_mul, Nat.zero_add]
    rw [← Array.foldl_toList, Array.toList_zipIdx]
    exact this
  have e1 : ¬ (1 * k > 2 ^ 24) := by omega
  have e2 : ¬ (1 * k = 0) := by omega
  unfold Instr.buildSlice
  simp only [Sem.run_bind, run_underlying ht, Result.andThen_ok, hs, if_neg e1, if_neg e2, hv, Sem.run_pure]
  have hfill' : Instr.fill (fun i => some (i * k, k)) ((Array.range (1 * k)).map (fun x => (Value.agg zc).cells[x % (Value.agg zc).cells.size]!)) [(0, .agg cs.toArray)] = some cs.toArray := hfill
  rw [hfill']
  simp [newRow, go_sem]
theorem wpList_bs1 {P : Program} {ops : Array Oper} {rest : List Oper} {o : Oper} {a : Act} {w : World} {Q : Exit → Act → World → Prop} (hgd : o.guard = none) (t : TypeId) (x : Operand) (ho : o.op = .buildSlice t 1 #[(0, x)]) (e : TypeId) (k : Nat) (hk0 : 0 < k) (hk1 : k ≤ 1000) (zc : Array Value) (ht : P.underlying t = some (.slice e)) (hs : ∀ w, (Go.sizeOf e).run P w = .ok k w) (hv : ∀ w, (zeroValue e).run P w = .ok (.agg zc) w) (hz : zc.size = k) (cs : List Value) (hx : a.eval x = .agg cs.toArray) (hc : cs.length = k)
    (h : wpList P ops Q rest (a.put o.dst (.slice (some ⟨w.heap.size, 0, none⟩) 1 1)) (w.alloc (.cells cs.toArray e))) : wpList P ops Q (o :: rest) a w := by
  have hr := run_bs1 P w t e k hk0 hk1 zc ht hs hv hz cs hc
  refine wpList_plain hgd fun _ hK => ?_
  unfold Oper.wp execOp
  simp only [ho, List.map_toArray, List.map_cons, List.map_nil, hx, Sem.run_bind, hr, Result.andThen_ok, Sem.run_pure]
  exact hK _ _ h
theorem OwnK.appended {k n B : Nat} {t : TypeId} {w w' : World} {v u : Value} {xs : List (List Value)} {y : List Value} (h : OwnK k t w B v xs) (hn : xs.length = n) (hy : y.length = k) (hy1 : ∀ u ∈ y, u.oneCell' = true) (hr : w'.ownsRow B t k u (n + 1) (xs.flatten ++ y)) : OwnK k t w' B u (xs ++ [y]) := by
  refine ⟨?_, fun x hx => ?_, fun x hx => ?_⟩
  · rw [List.length_append, List.length_singleton, hn, List.flatten_append]
    simpa using hr
  · rcases List.mem_append.1 hx with hx | hx
    · exact h.len x hx
    · rw [List.mem_singleton.1 hx]; exact hy
  · rcases List.mem_append.1 hx with hx | hx
    · exact h.one x hx
    · rw [List.mem_singleton.1 hx]; exact hy1
theorem wpList_appK {P : Program} {ops : Array Oper} {rest : List Oper} {o : Oper} {a : Act} {Q : Exit → Act → World → Prop} (hgd : o.guard = none) (s x : Operand) (t : TypeId)
    (ho : o.op = .call { callee := .builtin .append, args := #[s, x], argTypes := #[t, t] }) (e : TypeId) (k : Nat) (hk0 : 0 < k) (zc : Array Value) (ht : P.underlying t = some (.slice e)) (hzc : zc.size = k)
    (i0 : TypeInfo) (hi0 : P.info? e = some i0) (hi1 : i0.size = k) (hi2 : i0.zero = some (.agg zc)) (hi4 : i0.bytes ≤ 1000)
    (B : Nat) (wr : World) (v : Value) (xs : List (List Value)) (n : Nat) (hs : a.eval s = v) (hown : OwnK k e wr B v xs) (hn : xs.length = n) (hl : n ≤ 100000) (hB : B ≤ wr.heap.size) (y : List Value) (hy : y.length = k) (hy1 : ∀ u ∈ y, u.oneCell' = true)
    (hx : a.eval x = .slice (some ⟨wr.heap.size, 0, none⟩) 1 1)
    (h : ∀ g cap w', OwnK k e w' B (.slice (some ⟨g, 0, none⟩) (n + 1) cap) (xs ++ [y]) → (wr.alloc (.cells y.toArray e)).grownBy w' v.ownBlock → g < w'.heap.size → wpList P ops Q rest (a.put o.dst (.slice (some ⟨g, 0, none⟩) (n + 1) cap)) w') :
    wpList P ops Q (o :: rest) a (wr.alloc (.cells y.toArray e)) := by
  have hrow := hown.row
  rw [hn] at hrow
  refine wpList_append_lies _ hgd s x t ho B e i0 (.agg zc) k i0.bytes ht hi0 hi2 hi1 rfl hzc hk0 v n _ hs (World.ownsRow.alloc hrow _) ⟨wr.heap.size, 0, none⟩ 1 1 y hx (by rw [hy, Nat.one_mul])
    (World.news_of_block (cs := y.toArray) (t := e) (fr := (0, 0)) (heap_alloc_new wr _)) hy1 (by omega) (by unfold maxLen; omega) (by have := Nat.mul_le_mul (show n + 1 ≤ 100001 by omega) hi4; omega) (by simp; omega) _ rfl ?_
  intro g cap w' hown1 hgrow _ hlt
  exact h g cap w' (hown.appended hn hy hy1 hown1) hgrow hlt
theorem Below.grownK {w0 w w' : World} {k B : Nat} {t : TypeId} {v : Value} {xs : List (List Value)} (h : Below w0.heap.size w0 w) (hown : OwnK k t w w0.heap.size v xs) (hg : w.grownBy w' v.ownBlock) : Below w0.heap.size w0 w' :=
  h.grown hg h.size (fun i hi => (hown.lt i hi).1)
theorem ech_step {α β : Type} {cl : α → List Value} {f : α → β} {Q : World → α → Prop} {t : TypeId} {k kk cap2 cap4 g4 : Nat} {a : Option Addr} {w w2 w4 : World} {us vs : List α} {u v : α} {cs : Array Value} (hb2 : Below w.heap.size w w2) (h2 : OwnK k t w2 w.heap.size (.slice a kk cap2) (us.map cl))
    (hown4 : OwnK k t w4 w.heap.size (.slice (some ⟨g4, 0, none⟩) (kk + 1) cap4) (us.map cl ++ [cl u])) (hg4 : (w2.alloc (.cells cs t)).grownBy w4 (Value.slice a kk cap2).ownBlock) (hl : us.length = kk) (hf : us.map f = (vs.take kk).map f) (hv : vs[kk]? = some v) (hfu : f u = f v) (hqu : Q w2 u) (hqs : ∀ u ∈ us, Q w2 u) (hQ : Stays t Q) :
    Below w.heap.size w w4 ∧ ∃ us : List α, us.length = kk + 1 ∧ OwnK k t w4 w.heap.size (.slice (some ⟨g4, 0, none⟩) (kk + 1) cap4) (us.map cl) ∧ us.map f = (vs.take (kk + 1)).map f ∧ ∀ u ∈ us, Q w4 u := by
  have hb3 : Below w2.heap.size w2 (w2.alloc (.cells cs t)) := (Below.refl _ _).alloc (Nat.le_refl _) _
  have h3 := h2.below hb3
  have hty := ownK_typed h3
  have keep : ∀ u, Q w2 u → Q w4 u := fun u hu => hQ _ _ _ u hg4 hty (hQ.below hb3 hu)
  obtain ⟨hk1, e⟩ := List.getElem?_eq_some_iff.1 hv
  refine ⟨(hb2.trans (hb3.mono hb2.size)).grown hg4 (Nat.le_trans hb2.size (by simp)) (fun i hi => (h3.lt i hi).1), us ++ [u], by simp [hl], by rw [List.map_append]; exact hown4, ?_, fun x hx => ?_⟩
  · rw [List.take_succ_eq_append_getElem hk1, List.map_append, List.map_append, hf, e]
    simp [hfu]
  · rcases List.mem_append.1 hx with hx | hx
    · exact keep x (hqs x hx)
    · rw [List.mem_singleton.1 hx]; exact keep u hqu
set_option maxRecDepth 100000 in
set_option maxHeartbeats 4000000 in
theorem echG_of (P : Program) (hf : P.funcs[28]? = some Tryd.f28) (mixed : P.follows .mixedOrders = true)
    (tS : P.underlying 22 = some (TypeDesc.slice 34)) (aS : ∀ w, (isAgg 22).run P w = .ok false w) (zS : ∀ w, (Go.sizeOf 22).run P w = .ok 1 w)
    (t3 : P.underlying 3 = some (TypeDesc.int IntKind.i64)) (a3 : ∀ w, (isAgg 3).run P w = .ok false w) (z3 : ∀ w, (Go.sizeOf 3).run P w = .ok 1 w) (v3 : ∀ w, (zeroValue 3).run P w = .ok (Value.int IntKind.i64 0) w)
    (t4 : P.underlying 4 = some TypeDesc.bool) (a4 : ∀ w, (isAgg 4).run P w = .ok false w) (z4 : ∀ w, (Go.sizeOf 4).run P w = .ok 1 w)
    (k : Nat) (hk0 : 0 < k) (hk1 : k ≤ 1000) (aE : ∀ w, (isAgg 34).run P w = .ok true w) (zE : ∀ w, (Go.sizeOf 34).run P w = .ok k w) (zc : Array Value) (vE : ∀ w, (zeroValue 34).run P w = .ok (.agg zc) w) (hzc : zc.size = k) (hz1 : ∀ u ∈ zc, u.oneCell' = true)
    (i0 : TypeInfo) (hi0 : P.info? 34 = some i0) (hi1 : i0.size = k) (hi2 : i0.zero = some (.agg zc)) (by0 : Nat) (hi3 : i0.bytes = by0) (hi4 : by0 ≤ 1000)
    {α β : Type} (cl : α → List Value) (f : α → β) (hcl : ∀ v, (cl v).length = k) (Q : World → α → Prop) (hQ : Stays 34 Q) (hQ1 : ∀ W u, Q W u → ∀ x ∈ cl u, x.oneCell' = true)
    (g n cap B : Nat) (vs : List α) (hn : vs.length = n) (hbig : n ≤ 1000) (w : World) (hown : OwnK k 34 w B (.slice (some ⟨g, 0, none⟩) n cap) (vs.map cl))
    (fn : Nat) (eg : ∀ args w, (callFunc fn args).run P w = .ok (.enter fn args) w)
    (hm : ∀ W v, v ∈ vs → Below w.heap.size w W → Calls P fn #[.agg (cl v).toArray] W fun e w' => (∃ u, e = .returned (.agg (cl u).toArray) ∧ f u = f v ∧ Q w' u) ∧ Below W.heap.size W w') :
    Calls P 28 #[.slice (some ⟨g, 0, none⟩) n cap, .func (.func fn) #[] #[]] w fun e w' => (∃ (val : Value) (us : List α), e = .returned val ∧ OwnK k 34 w' w.heap.size val (us.map cl) ∧ us.map f = vs.map f ∧ ∀ u ∈ us, Q w' u) ∧ Below w.heap.size w w' := by
  have HO : Hid (OwnK k 34 w B (.slice (some ⟨g, 0, none⟩) n cap) (vs.map cl)) := hown
  have HN : Hid (vs.length = n) := hn
  have HM : Hid (∀ W v, v ∈ vs → Below w.heap.size w W → Calls P fn #[.agg (cl v).toArray] W fun e w' => (∃ u, e = .returned (.agg (cl u).toArray) ∧ f u = f v ∧ Q w' u) ∧ Below W.heap.size W w') := hm
  have HZ : Hid (zc.size = k ∧ (∀ u ∈ zc, u.oneCell' = true) ∧ i0.size = k ∧ i0.zero = some (.agg zc) ∧ i0.bytes = by0) := ⟨hzc, hz1, hi1, hi2, hi3⟩
  have HC : Hid ((∀ v, (cl v).length = k) ∧ Stays 34 Q ∧ (∀ W u, Q W u → ∀ x ∈ cl u, x.oneCell' = true)) := ⟨hcl, hQ, hQ1⟩
  clear hown hn hm hzc hz1 hi1 hi2 hi3 hcl hQ hQ1
  go_enter hf, Tryd.ntmps28
  go_wp2
  go_loopw [5, 10] (fun o i wr => ∃ (kk cap2 : Nat) (a : Option Addr), kk ≤ n ∧ i = .int .i64 kk ∧ o = .slice a kk cap2 ∧ Hid (Below w.heap.size w wr ∧ ∃ us : List α, us.length = kk ∧ OwnK k 34 wr w.heap.size (.slice a kk cap2) (us.map cl) ∧ us.map f = (vs.take kk).map f ∧ ∀ u ∈ us, Q wr u)) (fun _ i _ => n - (intOf i).toNat)
  case atStart => exact ⟨0, 0, none, Nat.zero_le _, rfl, rfl, ⟨Below.refl _ _, [], rfl, ownK_nil _ _ _ _, by simp, fun u hu => by cases hu⟩⟩
  case round =>
    obtain ⟨kk, cap2, a, hkk, rfl, rfl, HI⟩ := hrel
    by_cases hlt : kk < n
    · have hltz : (kk : Int) < (n : Int) := by omega
      obtain ⟨v, hv⟩ : ∃ v, vs[kk]? = some v := ⟨vs[kk]'(by have := HN.out; omega), List.getElem?_eq_getElem _⟩
      have HV : Hid (vs[kk]? = some v) := hv
      have hvm : (vs.map cl)[kk]? = some (cl v) := by rw [List.getElem?_map, hv]; rfl
      obtain ⟨x, hx⟩ : ∃ x, cl v = x := ⟨_, rfl⟩
      have HXV : Hid (cl v = x) := hx
      rw [hx] at hvm
      have hxm : x ∈ vs.map cl := List.mem_of_getElem? hvm
      have hxl : x.length = k := HO.out.len x hxm
      have hx1 : ∀ u ∈ x, u.oneCell' = true := HO.out.one x hxm
      have l1 := (HO.out.below HI.out.1).load P hvm
      have hb1 : Below wr.heap.size wr (wr.alloc (.cells x.toArray 34)) := (Below.refl _ _).alloc (Nat.le_refl _) _
      have s1 := run_boxed P wr zc 34 x (by rw [HZ.out.1, hxl]) hx1
      have l2 := run_unboxed P (w := wr.alloc (.cells x.toArray 34)) (w' := wr.alloc (.cells x.toArray 34)) (b := wr.heap.size) hxl (heap_alloc_new wr _) (Below.refl _ _)
      have HB1 : Hid (Below w.heap.size w (wr.alloc (.cells x.toArray 34)) ∧ Below wr.heap.size wr (wr.alloc (.cells x.toArray 34))) := ⟨HI.out.1.trans (hb1.mono HI.out.1.size), hb1⟩
      have hcall := HM.out _ v (List.mem_of_getElem? hv) HB1.out.1
      rw [hx] at hcall
      have hxa : x.toArray.size = k := by simp [hxl]
      clear hv hvm hxm hx hb1 hx1
      generalize hWX : wr.alloc (.cells x.toArray 34) = WX at s1 l2 HB1 hcall
      obtain ⟨hi1, hi2, hi3⟩ := HZ.out.2.2
      obtain ⟨us, hul, huo, huf, huq⟩ := HI.out.2
      have HU : Hid (us.length = kk ∧ OwnK k 34 wr w.heap.size (.slice a kk cap2) (us.map cl) ∧ us.map f = (vs.take kk).map f ∧ ∀ u ∈ us, Q wr u) := ⟨hul, huo, huf, huq⟩
      clear hul huo huf huq
      have HH : Hid (i0.size = k ∧ i0.zero = some (.agg zc) ∧ i0.bytes ≤ 1000) := ⟨hi1, hi2, by omega⟩
      clear hi1 hi2 hi3
      go_wp2_with (first
        | (go_at_fn fn; refine hcall.mono ?_; rintro e w2 ⟨⟨u, rfl, hfu, hqu⟩, hb2⟩; have HB2 : Hid (Below w.heap.size w w2 ∧ OwnK k 34 w2 w.heap.size (.slice a kk cap2) (us.map cl) ∧ f u = f v ∧ Q w2 u ∧ ∀ u ∈ us, Q w2 u) := ⟨HB1.out.1.trans (hb2.mono HB1.out.1.size), (HU.out.2.1.below HB1.out.2).below hb2, hfu, hqu, fun u hu => HC.out.2.1.below hb2 (HC.out.2.1.below HB1.out.2 (HU.out.2.2.2 u hu))⟩; clear hb2 hfu hqu)
        | (at_builtin; refine wpList_appK rfl _ _ 22 rfl 34 k hk0 zc tS HZ.out.1 i0 hi0 HH.out.1 HH.out.2.1 HH.out.2.2 w.heap.size w2 (.slice a kk cap2) (us.map cl) kk rfl HB2.out.2.1 (by rw [List.length_map]; exact HU.out.1) (by omega) HB2.out.1.size (cl u) (HC.out.1 u) (HC.out.2.2 w2 u HB2.out.2.2.2.1) rfl ?_; intro g4 cap4 w4 hown4 hg4 hlt4; have HF : Hid (Below w.heap.size w w4 ∧ ∃ us : List α, us.length = kk + 1 ∧ OwnK k 34 w4 w.heap.size (.slice (some ⟨g4, 0, none⟩) (kk + 1) cap4) (us.map cl) ∧ us.map f = (vs.take (kk + 1)).map f ∧ ∀ u ∈ us, Q w4 u) := ech_step HB2.out.1 HB2.out.2.1 hown4 hg4 HU.out.1 HU.out.2.2.1 HV.out HB2.out.2.2.1 HB2.out.2.2.2.1 HB2.out.2.2.2.2 HC.out.2.1; clear hown4 hg4 hlt4)
        | (refine wpList_bs1 rfl 22 _ rfl 34 k hk0 hk1 zc tS zE vE HZ.out.1 (cl u) rfl (HC.out.1 u) ?_))
      go_roundw
      case rel => exact ⟨kk + 1, _, _, by omega, by go_num, rfl, HF⟩
      case measure => simp [intOf]; omega
    · have hltz : ¬ (kk : Int) < (n : Int) := by omega
      go_wp2
      go_ret
      obtain ⟨us, hul, huo, huf, huq⟩ := HI.out.2
      exact ⟨⟨_, rfl, us, huo, by rw [huf, List.take_of_length_le (by rw [HN.out]; omega)], huq⟩, HI.out.1⟩
end Go.Proofs.YtemlclgdgnfhnaaDoor

/- A row of structs with one more as its last one, without what that takes the place of, and without the first ones, if there are more than eight. -/
namespace Go.Proofs.YtemlclgdgnfhnaaDoor
open Go.RowKit
set_option linter.unusedVariables false

theorem gcomp {w w1 w2 : World} {row row2 : Option Nat} (h1 : w.grownBy w1 row) (h2 : w1.grownBy w2 row2) (hr : ∀ k, row2 = some k → row = some k ∨ w.heap.size ≤ k) : w.grownBy w2 row :=
  ⟨h2.os.trans h1.os, h2.tape.trans h1.tape, h2.output.trans h1.output, Nat.le_trans h1.size h2.size, fun i hi hne => (h2.block i (Nat.lt_of_lt_of_le hi h1.size) (fun e => by
    rcases hr i e.symm with h | h
    · exact hne h.symm
    · omega)).trans (h1.block i hi hne)⟩
/-- The last eight. -/
def last8 {α : Type} (l : List α) : List α := l.drop (l.length - 8)
theorem last8_map {α β : Type} (f : α → β) (l : List α) : (last8 l).map f = last8 (l.map f) := by unfold last8; rw [List.map_drop, List.length_map]
theorem box_alloc {w : World} {g : Nat} {cs : Array Value} {t : TypeId} (h : w.heap[g]? = some (.cells cs t (0, 0))) (o : Obj) : (w.alloc o).heap[g]? = some (.cells cs t (0, 0)) := (Below.heap_alloc w o g (Array.getElem?_eq_some_iff.1 h).1).trans h
/-- The row behind slices.DeleteFunc, whatever it is. -/
theorem dlfG_all (val : Value) (xs : List (List Value)) (B : Nat) (hbig : xs.length ≤ 1000) (w : World) (hown : OwnK 16 34 w B val xs)
    (p : List Value → Bool) (fn : Nat) (lb : Array Value) (eg : ∀ args w, (callFunc fn args).run Tryd.prog w = .ok (.enter fn args) w) (hp : PredK Tryd.prog fn lb p xs w val.ownBlock) :
    Calls Tryd.prog 16 #[val, .func (.func fn) #[] lb] w fun e w' => ∃ v, e = .returned v ∧ Hid (OwnK 16 34 w' B v (xs.filter (fun y => !p y)) ∧ v.ownBlock = val.ownBlock ∧ w.grownBy w' val.ownBlock) := by
  rcases hown.forms with ⟨rfl, rfl⟩ | ⟨g, cap, rfl, _, _, _, _⟩
  · refine (dlfG_none w _).mono ?_
    rintro e w' ⟨rfl, rfl⟩
    exact ⟨_, rfl, ⟨hown, rfl, below_grown (Below.refl _ _) _⟩⟩
  · refine (dlfG_any g _ cap B xs rfl (by omega) w hown p fn lb eg hp).mono ?_
    rintro e w' ⟨m, rfl, H⟩
    exact ⟨_, rfl, ⟨H.out.1, rfl, H.out.2.2⟩⟩
set_option maxRecDepth 100000 in
theorem infoFG : (Tryd.prog.info? 34).map (fun i => (i.zero, i.size, i.bytes)) = some (some (.agg #[.bool false, .string ⟨#[]⟩, .int .i64 0, .bool false, .string ⟨#[]⟩, .string ⟨#[]⟩, .int .i64 0, .string ⟨#[]⟩, .string ⟨#[]⟩, .string ⟨#[]⟩, .bool false, .string ⟨#[]⟩, .bool false, .slice none 0 0, .int .i64 0, .slice none 0 0]), 16, 216) := by kernel_rfl
/-- A row behind slices.Delete of its first ones, whatever it is. -/
theorem cut8G (g n cap B : Nat) (xs : List (List Value)) (hn : xs.length = n) (hbig : cap ≤ 9223372036854775807) (w : World) (hown : OwnK 16 34 w B (.slice (some ⟨g, 0, none⟩) n cap) xs) (z : Int) (hz : z = ((n - 8 : Nat) : Int)) :
    Calls Tryd.prog 30 #[.slice (some ⟨g, 0, none⟩) n cap, .int .i64 0, .int .i64 z] w fun e w' => ∃ k, e = .returned (.slice (some ⟨g, 0, none⟩) k cap) ∧ Hid (OwnK 16 34 w' B (.slice (some ⟨g, 0, none⟩) k cap) (last8 xs) ∧ w.grownBy w' (some g)) := by
  have hnc : n ≤ cap := by
    rcases hown.forms with ⟨e, _⟩ | ⟨g', cap', e, _, _, h1, _⟩
    · cases e
    · injection e with _ _ e3
      rw [e3, ← hn]; exact h1
  obtain ⟨m, hm⟩ : ∃ m, m = n - 8 := ⟨_, rfl⟩
  rw [← hm] at hz
  subst hz
  rcases Nat.eq_zero_or_pos m with h0 | h0
  · subst h0
    refine (dltG_same (some ⟨g, 0, none⟩) n cap 0 (Nat.zero_le _) hnc w).mono ?_
    rintro e w' ⟨rfl, rfl⟩
    refine ⟨n, rfl, ⟨?_, below_grown (Below.refl _ _) _⟩⟩
    unfold last8
    rw [hn, ← hm]
    exact hown
  · refine (dltG_any g n cap B xs hn hbig w hown 0 m h0 (by omega)).mono ?_
    rintro e w' ⟨rfl, H⟩
    refine ⟨_, rfl, ⟨?_, H.out.2⟩⟩
    have h := H.out.1
    unfold last8
    rw [hn, ← hm]
    simpa using h
/-- What slices.DeleteFunc leaves, ahead of one more. -/
structure RenG (w W w2 : World) (B : Nat) (val u : Value) (ys : List (List Value)) (v : GrV) : Prop where
  own : OwnK 16 34 w2 B u ys
  row : u.ownBlock = val.ownBlock
  grown : w.grownBy w2 val.ownBlock
  grownW : W.grownBy w2 val.ownBlock
  box : w2.heap[w.heap.size]? = some (.cells #[.bool v.g.org.sec, .string v.g.org.host, .int .i64 v.g.org.port, .bool v.g.proxy, .string v.g.user, .string v.g.pass, .int .i64 v.g.ask.sch, .string v.g.ask.realm, .string v.g.ask.nonce, .string v.g.ask.opq, .bool v.g.ask.sess, .string v.g.ask.qop, .bool v.g.ask.stale, v.dv, .int .i64 v.g.count, v.pv] 34 (0, 0))
theorem renG_call (val : Value) (xs : List (List Value)) (B : Nat) (hbig : xs.length ≤ 1000) (w : World) (hown : OwnK 16 34 w B val xs) (v : GrV)
    (p : List Value → Bool) (fn : Nat) (lb : Array Value) (eg : ∀ args w, (callFunc fn args).run Tryd.prog w = .ok (.enter fn args) w) (hp : PredK Tryd.prog fn lb p xs w val.ownBlock) (W : World) (hb : Below (w.alloc (.cells #[.bool v.g.org.sec, .string v.g.org.host, .int .i64 v.g.org.port, .bool v.g.proxy, .string v.g.user, .string v.g.pass, .int .i64 v.g.ask.sch, .string v.g.ask.realm, .string v.g.ask.nonce, .string v.g.ask.opq, .bool v.g.ask.sess, .string v.g.ask.qop, .bool v.g.ask.stale, v.dv, .int .i64 v.g.count, v.pv] 34)).heap.size (w.alloc (.cells #[.bool v.g.org.sec, .string v.g.org.host, .int .i64 v.g.org.port, .bool v.g.proxy, .string v.g.user, .string v.g.pass, .int .i64 v.g.ask.sch, .string v.g.ask.realm, .string v.g.ask.nonce, .string v.g.ask.opq, .bool v.g.ask.sess, .string v.g.ask.qop, .bool v.g.ask.stale, v.dv, .int .i64 v.g.count, v.pv] 34)) W) :
    Calls Tryd.prog 16 #[val, .func (.func fn) #[] lb] W fun e w2 => ∃ u, e = .returned u ∧ Hid (RenG w W w2 B val u (xs.filter (fun y => !p y)) v) := by
  have hbb : Below w.heap.size w (w.alloc (.cells #[.bool v.g.org.sec, .string v.g.org.host, .int .i64 v.g.org.port, .bool v.g.proxy, .string v.g.user, .string v.g.pass, .int .i64 v.g.ask.sch, .string v.g.ask.realm, .string v.g.ask.nonce, .string v.g.ask.opq, .bool v.g.ask.sess, .string v.g.ask.qop, .bool v.g.ask.stale, v.dv, .int .i64 v.g.count, v.pv] 34)) := (Below.refl _ _).alloc (Nat.le_refl _) _
  have hbW : Below w.heap.size w W := hbb.trans (hb.mono hbb.size)
  have hbox := (hb.block w.heap.size (by simp)).trans (heap_alloc_new w (.cells #[.bool v.g.org.sec, .string v.g.org.host, .int .i64 v.g.org.port, .bool v.g.proxy, .string v.g.user, .string v.g.pass, .int .i64 v.g.ask.sch, .string v.g.ask.realm, .string v.g.ask.nonce, .string v.g.ask.opq, .bool v.g.ask.sess, .string v.g.ask.qop, .bool v.g.ask.stale, v.dv, .int .i64 v.g.count, v.pv] 34))
  refine (dlfG_all val xs B hbig W (hown.below hbW) p fn lb eg (fun W' x hx hg => hp W' x hx (gcomp (below_grown hbW _) hg (fun k hk => .inl hk)))).mono ?_
  rintro e w2 ⟨u, rfl, H⟩
  refine ⟨u, rfl, ⟨H.out.1, H.out.2.1, gcomp (below_grown hbW _) H.out.2.2 (fun k hk => .inl hk), H.out.2.2, (H.out.2.2.block _ (Array.getElem?_eq_some_iff.1 hbox).1 (fun e => ?_)).trans hbox⟩⟩
  have := (hown.lt _ e.symm).2
  omega
theorem renG_news {val u : Value} {xs ys : List (List Value)} {B : Nat} {w w2 : World} {v : GrV} (hown : OwnK 16 34 w B val xs) (h : RenG w ((w.alloc (.cells #[.bool v.g.org.sec, .string v.g.org.host, .int .i64 v.g.org.port, .bool v.g.proxy, .string v.g.user, .string v.g.pass, .int .i64 v.g.ask.sch, .string v.g.ask.realm, .string v.g.ask.nonce, .string v.g.ask.opq, .bool v.g.ask.sess, .string v.g.ask.qop, .bool v.g.ask.stale, v.dv, .int .i64 v.g.count, v.pv] 34)).alloc (.cells #[.bool v.g.org.sec, .string v.g.org.host, .int .i64 v.g.org.port, .bool v.g.proxy, .string v.g.user, .string v.g.pass, .int .i64 v.g.ask.sch, .string v.g.ask.realm, .string v.g.ask.nonce, .string v.g.ask.opq, .bool v.g.ask.sess, .string v.g.ask.qop, .bool v.g.ask.stale, v.dv, .int .i64 v.g.count, v.pv] 34)).drew w2 B val u ys v) : w2.heap[w.heap.size + 1]? = some (.cells #[.bool v.g.org.sec, .string v.g.org.host, .int .i64 v.g.org.port, .bool v.g.proxy, .string v.g.user, .string v.g.pass, .int .i64 v.g.ask.sch, .string v.g.ask.realm, .string v.g.ask.nonce, .string v.g.ask.opq, .bool v.g.ask.sess, .string v.g.ask.qop, .bool v.g.ask.stale, v.dv, .int .i64 v.g.count, v.pv] 34 (0, 0)) := by
  have e : ((w.alloc (.cells #[.bool v.g.org.sec, .string v.g.org.host, .int .i64 v.g.org.port, .bool v.g.proxy, .string v.g.user, .string v.g.pass, .int .i64 v.g.ask.sch, .string v.g.ask.realm, .string v.g.ask.nonce, .string v.g.ask.opq, .bool v.g.ask.sess, .string v.g.ask.qop, .bool v.g.ask.stale, v.dv, .int .i64 v.g.count, v.pv] 34)).alloc (.cells #[.bool v.g.org.sec, .string v.g.org.host, .int .i64 v.g.org.port, .bool v.g.proxy, .string v.g.user, .string v.g.pass, .int .i64 v.g.ask.sch, .string v.g.ask.realm, .string v.g.ask.nonce, .string v.g.ask.opq, .bool v.g.ask.sess, .string v.g.ask.qop, .bool v.g.ask.stale, v.dv, .int .i64 v.g.count, v.pv] 34)).drew.heap[w.heap.size + 1]? = some (.cells #[.bool v.g.org.sec, .string v.g.org.host, .int .i64 v.g.org.port, .bool v.g.proxy, .string v.g.user, .string v.g.pass, .int .i64 v.g.ask.sch, .string v.g.ask.realm, .string v.g.ask.nonce, .string v.g.ask.opq, .bool v.g.ask.sess, .string v.g.ask.qop, .bool v.g.ask.stale, v.dv, .int .i64 v.g.count, v.pv] 34 (0, 0)) := by
    have := heap_alloc_new (w.alloc (.cells #[.bool v.g.org.sec, .string v.g.org.host, .int .i64 v.g.org.port, .bool v.g.proxy, .string v.g.user, .string v.g.pass, .int .i64 v.g.ask.sch, .string v.g.ask.realm, .string v.g.ask.nonce, .string v.g.ask.opq, .bool v.g.ask.sess, .string v.g.ask.qop, .bool v.g.ask.stale, v.dv, .int .i64 v.g.count, v.pv] 34)) (.cells #[.bool v.g.org.sec, .string v.g.org.host, .int .i64 v.g.org.port, .bool v.g.proxy, .string v.g.user, .string v.g.pass, .int .i64 v.g.ask.sch, .string v.g.ask.realm, .string v.g.ask.nonce, .string v.g.ask.opq, .bool v.g.ask.sess, .string v.g.ask.qop, .bool v.g.ask.stale, v.dv, .int .i64 v.g.count, v.pv] 34)
    rw [World.size_alloc] at this
    exact this
  refine (h.grownW.block _ (Array.getElem?_eq_some_iff.1 e).1 (fun e2 => ?_)).trans e
  have := (hown.lt _ e2.symm).2
  omega
/-- Behind the append. -/
theorem renG_end {val u u4 : Value} {xs ys zs : List (List Value)} {B : Nat} {w W w2 w3 w4 : World} {v : GrV} (hown : OwnK 16 34 w B val xs) (hB : Hid (B ≤ w.heap.size)) (h : RenG w W w2 B val u ys v) (h3 : w2.grownBy w3 val.ownBlock) (h4 : w3.grownBy w4 u.ownBlock) (hu : OwnK 16 34 w4 B u4 zs) {g4 H : Nat} (hat : u.ownBlock = some g4 ∨ g4 = H) (hH : w.heap.size ≤ H) :
    Hid (OwnK 16 34 w4 B u4 zs ∧ w.grownBy w4 val.ownBlock ∧ w4.heap[w.heap.size]? = some (.cells #[.bool v.g.org.sec, .string v.g.org.host, .int .i64 v.g.org.port, .bool v.g.proxy, .string v.g.user, .string v.g.pass, .int .i64 v.g.ask.sch, .string v.g.ask.realm, .string v.g.ask.nonce, .string v.g.ask.opq, .bool v.g.ask.sess, .string v.g.ask.qop, .bool v.g.ask.stale, v.dv, .int .i64 v.g.count, v.pv] 34 (0, 0)) ∧ (val.ownBlock = some g4 ∨ w.heap.size ≤ g4)) := by
  have hlt : w.heap.size < w2.heap.size := (Array.getElem?_eq_some_iff.1 h.box).1
  have hne : some w.heap.size ≠ val.ownBlock := fun e => by
    have := (hown.lt _ e.symm).2
    omega
  refine ⟨hu, gcomp (gcomp h.grown h3 (fun k hk => .inl hk)) h4 (fun k hk => .inl (by rw [← h.row]; exact hk)), ?_, ?_⟩
  rotate_left
  · rcases hat with e | rfl
    · rw [h.row] at e; exact .inl e
    · exact .inr hH
  rw [h4.block _ (Nat.lt_of_lt_of_le hlt h3.size) (by rw [h.row]; exact hne), h3.block _ hlt hne]
  exact h.box
set_option maxRecDepth 100000 in
set_option maxHeartbeats 2000000 in
theorem renG_any (val : Value) (xs : List (List Value)) (B : Nat) (hbig : xs.length ≤ 1000) (w : World) (hB : B ≤ w.heap.size) (hown : OwnK 16 34 w B val xs) (v : GrV) (hx1 : ∀ u ∈ grCells v, u.oneCell' = true)
    (p : List Value → Bool) (fn : Nat) (lb : Array Value) (eg : ∀ args w, (callFunc fn args).run Tryd.prog w = .ok (.enter fn args) w) (hp : PredK Tryd.prog fn lb p xs w val.ownBlock) :
    Calls Tryd.prog 34 #[val, .agg (grCells v).toArray, .func (.func fn) #[] lb] w fun e w' => ∃ u, e = .returned u ∧ Hid (OwnK 16 34 w' B u (last8 (xs.filter (fun y => !p y) ++ [grCells v])) ∧ w.grownBy w' val.ownBlock ∧ ∀ k, u.ownBlock = some k → val.ownBlock = some k ∨ w.heap.size ≤ k) := by
  have HB : Hid (B ≤ w.heap.size) := hB
  have HP : Hid (OwnK 16 34 w B val xs ∧ PredK Tryd.prog fn lb p xs w val.ownBlock ∧ (∀ u ∈ grCells v, u.oneCell' = true) ∧ (∀ args w, (callFunc fn args).run Tryd.prog w = .ok (.enter fn args) w)) := ⟨hown, hp, hx1, eg⟩
  have hcall := renG_call val xs B hbig w hown v p fn lb eg hp
  have hQ : (w.alloc (.cells #[.bool v.g.org.sec, .string v.g.org.host, .int .i64 v.g.org.port, .bool v.g.proxy, .string v.g.user, .string v.g.pass, .int .i64 v.g.ask.sch, .string v.g.ask.realm, .string v.g.ask.nonce, .string v.g.ask.opq, .bool v.g.ask.sess, .string v.g.ask.qop, .bool v.g.ask.stale, v.dv, .int .i64 v.g.count, v.pv] 34)).drew.cell? ⟨w.heap.size, 0, none⟩ = some (.bool v.g.org.sec) ∧ (w.alloc (.cells #[.bool v.g.org.sec, .string v.g.org.host, .int .i64 v.g.org.port, .bool v.g.proxy, .string v.g.user, .string v.g.pass, .int .i64 v.g.ask.sch, .string v.g.ask.realm, .string v.g.ask.nonce, .string v.g.ask.opq, .bool v.g.ask.sess, .string v.g.ask.qop, .bool v.g.ask.stale, v.dv, .int .i64 v.g.count, v.pv] 34)).drew.cell? ⟨w.heap.size, 1, none⟩ = some (.string v.g.org.host) ∧ (w.alloc (.cells #[.bool v.g.org.sec, .string v.g.org.host, .int .i64 v.g.org.port, .bool v.g.proxy, .string v.g.user, .string v.g.pass, .int .i64 v.g.ask.sch, .string v.g.ask.realm, .string v.g.ask.nonce, .string v.g.ask.opq, .bool v.g.ask.sess, .string v.g.ask.qop, .bool v.g.ask.stale, v.dv, .int .i64 v.g.count, v.pv] 34)).drew.cell? ⟨w.heap.size, 2, none⟩ = some (.int .i64 v.g.org.port) ∧ (w.alloc (.cells #[.bool v.g.org.sec, .string v.g.org.host, .int .i64 v.g.org.port, .bool v.g.proxy, .string v.g.user, .string v.g.pass, .int .i64 v.g.ask.sch, .string v.g.ask.realm, .string v.g.ask.nonce, .string v.g.ask.opq, .bool v.g.ask.sess, .string v.g.ask.qop, .bool v.g.ask.stale, v.dv, .int .i64 v.g.count, v.pv] 34)).drew.cell? ⟨w.heap.size, 3, none⟩ = some (.bool v.g.proxy) ∧ (w.alloc (.cells #[.bool v.g.org.sec, .string v.g.org.host, .int .i64 v.g.org.port, .bool v.g.proxy, .string v.g.user, .string v.g.pass, .int .i64 v.g.ask.sch, .string v.g.ask.realm, .string v.g.ask.nonce, .string v.g.ask.opq, .bool v.g.ask.sess, .string v.g.ask.qop, .bool v.g.ask.stale, v.dv, .int .i64 v.g.count, v.pv] 34)).drew.cell? ⟨w.heap.size, 4, none⟩ = some (.string v.g.user) ∧ (w.alloc (.cells #[.bool v.g.org.sec, .string v.g.org.host, .int .i64 v.g.org.port, .bool v.g.proxy, .string v.g.user, .string v.g.pass, .int .i64 v.g.ask.sch, .string v.g.ask.realm, .string v.g.ask.nonce, .string v.g.ask.opq, .bool v.g.ask.sess, .string v.g.ask.qop, .bool v.g.ask.stale, v.dv, .int .i64 v.g.count, v.pv] 34)).drew.cell? ⟨w.heap.size, 5, none⟩ = some (.string v.g.pass) ∧ (w.alloc (.cells #[.bool v.g.org.sec, .string v.g.org.host, .int .i64 v.g.org.port, .bool v.g.proxy, .string v.g.user, .string v.g.pass, .int .i64 v.g.ask.sch, .string v.g.ask.realm, .string v.g.ask.nonce, .string v.g.ask.opq, .bool v.g.ask.sess, .string v.g.ask.qop, .bool v.g.ask.stale, v.dv, .int .i64 v.g.count, v.pv] 34)).drew.cell? ⟨w.heap.size, 6, none⟩ = some (.int .i64 v.g.ask.sch) ∧ (w.alloc (.cells #[.bool v.g.org.sec, .string v.g.org.host, .int .i64 v.g.org.port, .bool v.g.proxy, .string v.g.user, .string v.g.pass, .int .i64 v.g.ask.sch, .string v.g.ask.realm, .string v.g.ask.nonce, .string v.g.ask.opq, .bool v.g.ask.sess, .string v.g.ask.qop, .bool v.g.ask.stale, v.dv, .int .i64 v.g.count, v.pv] 34)).drew.cell? ⟨w.heap.size, 7, none⟩ = some (.string v.g.ask.realm) ∧ (w.alloc (.cells #[.bool v.g.org.sec, .string v.g.org.host, .int .i64 v.g.org.port, .bool v.g.proxy, .string v.g.user, .string v.g.pass, .int .i64 v.g.ask.sch, .string v.g.ask.realm, .string v.g.ask.nonce, .string v.g.ask.opq, .bool v.g.ask.sess, .string v.g.ask.qop, .bool v.g.ask.stale, v.dv, .int .i64 v.g.count, v.pv] 34)).drew.cell? ⟨w.heap.size, 8, none⟩ = some (.string v.g.ask.nonce) ∧ (w.alloc (.cells #[.bool v.g.org.sec, .string v.g.org.host, .int .i64 v.g.org.port, .bool v.g.proxy, .string v.g.user, .string v.g.pass, .int .i64 v.g.ask.sch, .string v.g.ask.realm, .string v.g.ask.nonce, .string v.g.ask.opq, .bool v.g.ask.sess, .string v.g.ask.qop, .bool v.g.ask.stale, v.dv, .int .i64 v.g.count, v.pv] 34)).drew.cell? ⟨w.heap.size, 9, none⟩ = some (.string v.g.ask.opq) ∧ (w.alloc (.cells #[.bool v.g.org.sec, .string v.g.org.host, .int .i64 v.g.org.port, .bool v.g.proxy, .string v.g.user, .string v.g.pass, .int .i64 v.g.ask.sch, .string v.g.ask.realm, .string v.g.ask.nonce, .string v.g.ask.opq, .bool v.g.ask.sess, .string v.g.ask.qop, .bool v.g.ask.stale, v.dv, .int .i64 v.g.count, v.pv] 34)).drew.cell? ⟨w.heap.size, 10, none⟩ = some (.bool v.g.ask.sess) ∧ (w.alloc (.cells #[.bool v.g.org.sec, .string v.g.org.host, .int .i64 v.g.org.port, .bool v.g.proxy, .string v.g.user, .string v.g.pass, .int .i64 v.g.ask.sch, .string v.g.ask.realm, .string v.g.ask.nonce, .string v.g.ask.opq, .bool v.g.ask.sess, .string v.g.ask.qop, .bool v.g.ask.stale, v.dv, .int .i64 v.g.count, v.pv] 34)).drew.cell? ⟨w.heap.size, 11, none⟩ = some (.string v.g.ask.qop) ∧ (w.alloc (.cells #[.bool v.g.org.sec, .string v.g.org.host, .int .i64 v.g.org.port, .bool v.g.proxy, .string v.g.user, .string v.g.pass, .int .i64 v.g.ask.sch, .string v.g.ask.realm, .string v.g.ask.nonce, .string v.g.ask.opq, .bool v.g.ask.sess, .string v.g.ask.qop, .bool v.g.ask.stale, v.dv, .int .i64 v.g.count, v.pv] 34)).drew.cell? ⟨w.heap.size, 12, none⟩ = some (.bool v.g.ask.stale) ∧ (w.alloc (.cells #[.bool v.g.org.sec, .string v.g.org.host, .int .i64 v.g.org.port, .bool v.g.proxy, .string v.g.user, .string v.g.pass, .int .i64 v.g.ask.sch, .string v.g.ask.realm, .string v.g.ask.nonce, .string v.g.ask.opq, .bool v.g.ask.sess, .string v.g.ask.qop, .bool v.g.ask.stale, v.dv, .int .i64 v.g.count, v.pv] 34)).drew.cell? ⟨w.heap.size, 13, none⟩ = some (v.dv) ∧ (w.alloc (.cells #[.bool v.g.org.sec, .string v.g.org.host, .int .i64 v.g.org.port, .bool v.g.proxy, .string v.g.user, .string v.g.pass, .int .i64 v.g.ask.sch, .string v.g.ask.realm, .string v.g.ask.nonce, .string v.g.ask.opq, .bool v.g.ask.sess, .string v.g.ask.qop, .bool v.g.ask.stale, v.dv, .int .i64 v.g.count, v.pv] 34)).drew.cell? ⟨w.heap.size, 14, none⟩ = some (.int .i64 v.g.count) ∧ (w.alloc (.cells #[.bool v.g.org.sec, .string v.g.org.host, .int .i64 v.g.org.port, .bool v.g.proxy, .string v.g.user, .string v.g.pass, .int .i64 v.g.ask.sch, .string v.g.ask.realm, .string v.g.ask.nonce, .string v.g.ask.opq, .bool v.g.ask.sess, .string v.g.ask.qop, .bool v.g.ask.stale, v.dv, .int .i64 v.g.count, v.pv] 34)).drew.cell? ⟨w.heap.size, 15, none⟩ = some (v.pv) := by
    have hn := heap_alloc_new w (.cells #[.bool v.g.org.sec, .string v.g.org.host, .int .i64 v.g.org.port, .bool v.g.proxy, .string v.g.user, .string v.g.pass, .int .i64 v.g.ask.sch, .string v.g.ask.realm, .string v.g.ask.nonce, .string v.g.ask.opq, .bool v.g.ask.sess, .string v.g.ask.qop, .bool v.g.ask.stale, v.dv, .int .i64 v.g.count, v.pv] 34)
    exact ⟨(cell_of (i := 0) hn).trans rfl, (cell_of (i := 1) hn).trans rfl, (cell_of (i := 2) hn).trans rfl, (cell_of (i := 3) hn).trans rfl, (cell_of (i := 4) hn).trans rfl, (cell_of (i := 5) hn).trans rfl, (cell_of (i := 6) hn).trans rfl, (cell_of (i := 7) hn).trans rfl, (cell_of (i := 8) hn).trans rfl, (cell_of (i := 9) hn).trans rfl, (cell_of (i := 10) hn).trans rfl, (cell_of (i := 11) hn).trans rfl, (cell_of (i := 12) hn).trans rfl, (cell_of (i := 13) hn).trans rfl, (cell_of (i := 14) hn).trans rfl, (cell_of (i := 15) hn).trans rfl⟩
  have hQB : ((w.alloc (.cells #[.bool v.g.org.sec, .string v.g.org.host, .int .i64 v.g.org.port, .bool v.g.proxy, .string v.g.user, .string v.g.pass, .int .i64 v.g.ask.sch, .string v.g.ask.realm, .string v.g.ask.nonce, .string v.g.ask.opq, .bool v.g.ask.sess, .string v.g.ask.qop, .bool v.g.ask.stale, v.dv, .int .i64 v.g.count, v.pv] 34)).alloc (.cells #[.bool v.g.org.sec, .string v.g.org.host, .int .i64 v.g.org.port, .bool v.g.proxy, .string v.g.user, .string v.g.pass, .int .i64 v.g.ask.sch, .string v.g.ask.realm, .string v.g.ask.nonce, .string v.g.ask.opq, .bool v.g.ask.sess, .string v.g.ask.qop, .bool v.g.ask.stale, v.dv, .int .i64 v.g.count, v.pv] 34)).drew.cell? ⟨w.heap.size, 0, none⟩ = some (.bool v.g.org.sec) ∧ ((w.alloc (.cells #[.bool v.g.org.sec, .string v.g.org.host, .int .i64 v.g.org.port, .bool v.g.proxy, .string v.g.user, .string v.g.pass, .int .i64 v.g.ask.sch, .string v.g.ask.realm, .string v.g.ask.nonce, .string v.g.ask.opq, .bool v.g.ask.sess, .string v.g.ask.qop, .bool v.g.ask.stale, v.dv, .int .i64 v.g.count, v.pv] 34)).alloc (.cells #[.bool v.g.org.sec, .string v.g.org.host, .int .i64 v.g.org.port, .bool v.g.proxy, .string v.g.user, .string v.g.pass, .int .i64 v.g.ask.sch, .string v.g.ask.realm, .string v.g.ask.nonce, .string v.g.ask.opq, .bool v.g.ask.sess, .string v.g.ask.qop, .bool v.g.ask.stale, v.dv, .int .i64 v.g.count, v.pv] 34)).drew.cell? ⟨w.heap.size, 1, none⟩ = some (.string v.g.org.host) ∧ ((w.alloc (.cells #[.bool v.g.org.sec, .string v.g.org.host, .int .i64 v.g.org.port, .bool v.g.proxy, .string v.g.user, .string v.g.pass, .int .i64 v.g.ask.sch, .string v.g.ask.realm, .string v.g.ask.nonce, .string v.g.ask.opq, .bool v.g.ask.sess, .string v.g.ask.qop, .bool v.g.ask.stale, v.dv, .int .i64 v.g.count, v.pv] 34)).alloc (.cells #[.bool v.g.org.sec, .string v.g.org.host, .int .i64 v.g.org.port, .bool v.g.proxy, .string v.g.user, .string v.g.pass, .int .i64 v.g.ask.sch, .string v.g.ask.realm, .string v.g.ask.nonce, .string v.g.ask.opq, .bool v.g.ask.sess, .string v.g.ask.qop, .bool v.g.ask.stale, v.dv, .int .i64 v.g.count, v.pv] 34)).drew.cell? ⟨w.heap.size, 2, none⟩ = some (.int .i64 v.g.org.port) ∧ ((w.alloc (.cells #[.bool v.g.org.sec, .string v.g.org.host, .int .i64 v.g.org.port, .bool v.g.proxy, .string v.g.user, .string v.g.pass, .int .i64 v.g.ask.sch, .string v.g.ask.realm, .string v.g.ask.nonce, .string v.g.ask.opq, .bool v.g.ask.sess, .string v.g.ask.qop, .bool v.g.ask.stale, v.dv, .int .i64 v.g.count, v.pv] 34)).alloc (.cells #[.bool v.g.org.sec, .string v.g.org.host, .int .i64 v.g.org.port, .bool v.g.proxy, .string v.g.user, .string v.g.pass, .int .i64 v.g.ask.sch, .string v.g.ask.realm, .string v.g.ask.nonce, .string v.g.ask.opq, .bool v.g.ask.sess, .string v.g.ask.qop, .bool v.g.ask.stale, v.dv, .int .i64 v.g.count, v.pv] 34)).drew.cell? ⟨w.heap.size, 3, none⟩ = some (.bool v.g.proxy) ∧ ((w.alloc (.cells #[.bool v.g.org.sec, .string v.g.org.host, .int .i64 v.g.org.port, .bool v.g.proxy, .string v.g.user, .string v.g.pass, .int .i64 v.g.ask.sch, .string v.g.ask.realm, .string v.g.ask.nonce, .string v.g.ask.opq, .bool v.g.ask.sess, .string v.g.ask.qop, .bool v.g.ask.stale, v.dv, .int .i64 v.g.count, v.pv] 34)).alloc (.cells #[.bool v.g.org.sec, .string v.g.org.host, .int .i64 v.g.org.port, .bool v.g.proxy, .string v.g.user, .string v.g.pass, .int .i64 v.g.ask.sch, .string v.g.ask.realm, .string v.g.ask.nonce, .string v.g.ask.opq, .bool v.g.ask.sess, .string v.g.ask.qop, .bool v.g.ask.stale, v.dv, .int .i64 v.g.count, v.pv] 34)).drew.cell? ⟨w.heap.size, 4, none⟩ = some (.string v.g.user) ∧ ((w.alloc (.cells #[.bool v.g.org.sec, .string v.g.org.host, .int .i64 v.g.org.port, .bool v.g.proxy, .string v.g.user, .string v.g.pass, .int .i64 v.g.ask.sch, .string v.g.ask.realm, .string v.g.ask.nonce, .string v.g.ask.opq, .bool v.g.ask.sess, .string v.g.ask.qop, .bool v.g.ask.stale, v.dv, .int .i64 v.g.count, v.pv] 34)).alloc (.cells #[.bool v.g.org.sec, .string v.g.org.host, .int .i64 v.g.org.port, .bool v.g.proxy, .string v.g.user, .string v.g.pass, .int .i64 v.g.ask.sch, .string v.g.ask.realm, .string v.g.ask.nonce, .string v.g.ask.opq, .bool v.g.ask.sess, .string v.g.ask.qop, .bool v.g.ask.stale, v.dv, .int .i64 v.g.count, v.pv] 34)).drew.cell? ⟨w.heap.size, 5, none⟩ = some (.string v.g.pass) ∧ ((w.alloc (.cells #[.bool v.g.org.sec, .string v.g.org.host, .int .i64 v.g.org.port, .bool v.g.proxy, .string v.g.user, .string v.g.pass, .int .i64 v.g.ask.sch, .string v.g.ask.realm, .string v.g.ask.nonce, .string v.g.ask.opq, .bool v.g.ask.sess, .string v.g.ask.qop, .bool v.g.ask.stale, v.dv, .int .i64 v.g.count, v.pv] 34)).alloc (.cells #[.bool v.g.org.sec, .string v.g.org.host, .int .i64 v.g.org.port, .bool v.g.proxy, .string v.g.user, .string v.g.pass, .int .i64 v.g.ask.sch, .string v.g.ask.realm, .string v.g.ask.nonce, .string v.g.ask.opq, .bool v.g.ask.sess, .string v.g.ask.qop, .bool v.g.ask.stale, v.dv, .int .i64 v.g.count, v.pv] 34)).drew.cell? ⟨w.heap.size, 6, none⟩ = some (.int .i64 v.g.ask.sch) ∧ ((w.alloc (.cells #[.bool v.g.org.sec, .string v.g.org.host, .int .i64 v.g.org.port, .bool v.g.proxy, .string v.g.user, .string v.g.pass, .int .i64 v.g.ask.sch, .string v.g.ask.realm, .string v.g.ask.nonce, .string v.g.ask.opq, .bool v.g.ask.sess, .string v.g.ask.qop, .bool v.g.ask.stale, v.dv, .int .i64 v.g.count, v.pv] 34)).alloc (.cells #[.bool v.g.org.sec, .string v.g.org.host, .int .i64 v.g.org.port, .bool v.g.proxy, .string v.g.user, .string v.g.pass, .int .i64 v.g.ask.sch, .string v.g.ask.realm, .string v.g.ask.nonce, .string v.g.ask.opq, .bool v.g.ask.sess, .string v.g.ask.qop, .bool v.g.ask.stale, v.dv, .int .i64 v.g.count, v.pv] 34)).drew.cell? ⟨w.heap.size, 7, none⟩ = some (.string v.g.ask.realm) ∧ ((w.alloc (.cells #[.bool v.g.org.sec, .string v.g.org.host, .int .i64 v.g.org.port, .bool v.g.proxy, .string v.g.user, .string v.g.pass, .int .i64 v.g.ask.sch, .string v.g.ask.realm, .string v.g.ask.nonce, .string v.g.ask.opq, .bool v.g.ask.sess, .string v.g.ask.qop, .bool v.g.ask.stale, v.dv, .int .i64 v.g.count, v.pv] 34)).alloc (.cells #[.bool v.g.org.sec, .string v.g.org.host, .int .i64 v.g.org.port, .bool v.g.proxy, .string v.g.user, .string v.g.pass, .int .i64 v.g.ask.sch, .string v.g.ask.realm, .string v.g.ask.nonce, .string v.g.ask.opq, .bool v.g.ask.sess, .string v.g.ask.qop, .bool v.g.ask.stale, v.dv, .int .i64 v.g.count, v.pv] 34)).drew.cell? ⟨w.heap.size, 8, none⟩ = some (.string v.g.ask.nonce) ∧ ((w.alloc (.cells #[.bool v.g.org.sec, .string v.g.org.host, .int .i64 v.g.org.port, .bool v.g.proxy, .string v.g.user, .string v.g.pass, .int .i64 v.g.ask.sch, .string v.g.ask.realm, .string v.g.ask.nonce, .string v.g.ask.opq, .bool v.g.ask.sess, .string v.g.ask.qop, .bool v.g.ask.stale, v.dv, .int .i64 v.g.count, v.pv] 34)).alloc (.cells #[.bool v.g.org.sec, .string v.g.org.host, .int .i64 v.g.org.port, .bool v.g.proxy, .string v.g.user, .string v.g.pass, .int .i64 v.g.ask.sch, .string v.g.ask.realm, .string v.g.ask.nonce, .string v.g.ask.opq, .bool v.g.ask.sess, .string v.g.ask.qop, .bool v.g.ask.stale, v.dv, .int .i64 v.g.count, v.pv] 34)).drew.cell? ⟨w.heap.size, 9, none⟩ = some (.string v.g.ask.opq) ∧ ((w.alloc (.cells #[.bool v.g.org.sec, .string v.g.org.host, .int .i64 v.g.org.port, .bool v.g.proxy, .string v.g.user, .string v.g.pass, .int .i64 v.g.ask.sch, .string v.g.ask.realm, .string v.g.ask.nonce, .string v.g.ask.opq, .bool v.g.ask.sess, .string v.g.ask.qop, .bool v.g.ask.stale, v.dv, .int .i64 v.g.count, v.pv] 34)).alloc (.cells #[.bool v.g.org.sec, .string v.g.org.host, .int .i64 v.g.org.port, .bool v.g.proxy, .string v.g.user, .string v.g.pass, .int .i64 v.g.ask.sch, .string v.g.ask.realm, .string v.g.ask.nonce, .string v.g.ask.opq, .bool v.g.ask.sess, .string v.g.ask.qop, .bool v.g.ask.stale, v.dv, .int .i64 v.g.count, v.pv] 34)).drew.cell? ⟨w.heap.size, 10, none⟩ = some (.bool v.g.ask.sess) ∧ ((w.alloc (.cells #[.bool v.g.org.sec, .string v.g.org.host, .int .i64 v.g.org.port, .bool v.g.proxy, .string v.g.user, .string v.g.pass, .int .i64 v.g.ask.sch, .string v.g.ask.realm, .string v.g.ask.nonce, .string v.g.ask.opq, .bool v.g.ask.sess, .string v.g.ask.qop, .bool v.g.ask.stale, v.dv, .int .i64 v.g.count, v.pv] 34)).alloc (.cells #[.bool v.g.org.sec, .string v.g.org.host, .int .i64 v.g.org.port, .bool v.g.proxy, .string v.g.user, .string v.g.pass, .int .i64 v.g.ask.sch, .string v.g.ask.realm, .string v.g.ask.nonce, .string v.g.ask.opq, .bool v.g.ask.sess, .string v.g.ask.qop, .bool v.g.ask.stale, v.dv, .int .i64 v.g.count, v.pv] 34)).drew.cell? ⟨w.heap.size, 11, none⟩ = some (.string v.g.ask.qop) ∧ ((w.alloc (.cells #[.bool v.g.org.sec, .string v.g.org.host, .int .i64 v.g.org.port, .bool v.g.proxy, .string v.g.user, .string v.g.pass, .int .i64 v.g.ask.sch, .string v.g.ask.realm, .string v.g.ask.nonce, .string v.g.ask.opq, .bool v.g.ask.sess, .string v.g.ask.qop, .bool v.g.ask.stale, v.dv, .int .i64 v.g.count, v.pv] 34)).alloc (.cells #[.bool v.g.org.sec, .string v.g.org.host, .int .i64 v.g.org.port, .bool v.g.proxy, .string v.g.user, .string v.g.pass, .int .i64 v.g.ask.sch, .string v.g.ask.realm, .string v.g.ask.nonce, .string v.g.ask.opq, .bool v.g.ask.sess, .string v.g.ask.qop, .bool v.g.ask.stale, v.dv, .int .i64 v.g.count, v.pv] 34)).drew.cell? ⟨w.heap.size, 12, none⟩ = some (.bool v.g.ask.stale) ∧ ((w.alloc (.cells #[.bool v.g.org.sec, .string v.g.org.host, .int .i64 v.g.org.port, .bool v.g.proxy, .string v.g.user, .string v.g.pass, .int .i64 v.g.ask.sch, .string v.g.ask.realm, .string v.g.ask.nonce, .string v.g.ask.opq, .bool v.g.ask.sess, .string v.g.ask.qop, .bool v.g.ask.stale, v.dv, .int .i64 v.g.count, v.pv] 34)).alloc (.cells #[.bool v.g.org.sec, .string v.g.org.host, .int .i64 v.g.org.port, .bool v.g.proxy, .string v.g.user, .string v.g.pass, .int .i64 v.g.ask.sch, .string v.g.ask.realm, .string v.g.ask.nonce, .string v.g.ask.opq, .bool v.g.ask.sess, .string v.g.ask.qop, .bool v.g.ask.stale, v.dv, .int .i64 v.g.count, v.pv] 34)).drew.cell? ⟨w.heap.size, 13, none⟩ = some (v.dv) ∧ ((w.alloc (.cells #[.bool v.g.org.sec, .string v.g.org.host, .int .i64 v.g.org.port, .bool v.g.proxy, .string v.g.user, .string v.g.pass, .int .i64 v.g.ask.sch, .string v.g.ask.realm, .string v.g.ask.nonce, .string v.g.ask.opq, .bool v.g.ask.sess, .string v.g.ask.qop, .bool v.g.ask.stale, v.dv, .int .i64 v.g.count, v.pv] 34)).alloc (.cells #[.bool v.g.org.sec, .string v.g.org.host, .int .i64 v.g.org.port, .bool v.g.proxy, .string v.g.user, .string v.g.pass, .int .i64 v.g.ask.sch, .string v.g.ask.realm, .string v.g.ask.nonce, .string v.g.ask.opq, .bool v.g.ask.sess, .string v.g.ask.qop, .bool v.g.ask.stale, v.dv, .int .i64 v.g.count, v.pv] 34)).drew.cell? ⟨w.heap.size, 14, none⟩ = some (.int .i64 v.g.count) ∧ ((w.alloc (.cells #[.bool v.g.org.sec, .string v.g.org.host, .int .i64 v.g.org.port, .bool v.g.proxy, .string v.g.user, .string v.g.pass, .int .i64 v.g.ask.sch, .string v.g.ask.realm, .string v.g.ask.nonce, .string v.g.ask.opq, .bool v.g.ask.sess, .string v.g.ask.qop, .bool v.g.ask.stale, v.dv, .int .i64 v.g.count, v.pv] 34)).alloc (.cells #[.bool v.g.org.sec, .string v.g.org.host, .int .i64 v.g.org.port, .bool v.g.proxy, .string v.g.user, .string v.g.pass, .int .i64 v.g.ask.sch, .string v.g.ask.realm, .string v.g.ask.nonce, .string v.g.ask.opq, .bool v.g.ask.sess, .string v.g.ask.qop, .bool v.g.ask.stale, v.dv, .int .i64 v.g.count, v.pv] 34)).drew.cell? ⟨w.heap.size, 15, none⟩ = some (v.pv) := by
    have hn := box_alloc (heap_alloc_new w (.cells #[.bool v.g.org.sec, .string v.g.org.host, .int .i64 v.g.org.port, .bool v.g.proxy, .string v.g.user, .string v.g.pass, .int .i64 v.g.ask.sch, .string v.g.ask.realm, .string v.g.ask.nonce, .string v.g.ask.opq, .bool v.g.ask.sess, .string v.g.ask.qop, .bool v.g.ask.stale, v.dv, .int .i64 v.g.count, v.pv] 34)) (.cells #[.bool v.g.org.sec, .string v.g.org.host, .int .i64 v.g.org.port, .bool v.g.proxy, .string v.g.user, .string v.g.pass, .int .i64 v.g.ask.sch, .string v.g.ask.realm, .string v.g.ask.nonce, .string v.g.ask.opq, .bool v.g.ask.sess, .string v.g.ask.qop, .bool v.g.ask.stale, v.dv, .int .i64 v.g.count, v.pv] 34)
    exact ⟨(cell_of (i := 0) hn).trans rfl, (cell_of (i := 1) hn).trans rfl, (cell_of (i := 2) hn).trans rfl, (cell_of (i := 3) hn).trans rfl, (cell_of (i := 4) hn).trans rfl, (cell_of (i := 5) hn).trans rfl, (cell_of (i := 6) hn).trans rfl, (cell_of (i := 7) hn).trans rfl, (cell_of (i := 8) hn).trans rfl, (cell_of (i := 9) hn).trans rfl, (cell_of (i := 10) hn).trans rfl, (cell_of (i := 11) hn).trans rfl, (cell_of (i := 12) hn).trans rfl, (cell_of (i := 13) hn).trans rfl, (cell_of (i := 14) hn).trans rfl, (cell_of (i := 15) hn).trans rfl⟩
  generalize hys : xs.filter (fun y => !p y) = ys at hcall ⊢
  have HL : Hid (ys.length ≤ xs.length) := by show _ ≤ _; rw [← hys]; exact List.length_filter_le _ _
  clear hown hp hx1 eg hys
  obtain ⟨i0, hi0, hz0, hz1, hz2⟩ := info_parts infoFG
  unfold grCells
  go_enter Tryd.func34, Tryd.ntmps34
  go_wp2_with fail
  go_region_held3 (fun W => W.cell? ⟨w.heap.size, 0, none⟩ = some (.bool v.g.org.sec) ∧ W.cell? ⟨w.heap.size, 1, none⟩ = some (.string v.g.org.host) ∧ W.cell? ⟨w.heap.size, 2, none⟩ = some (.int .i64 v.g.org.port) ∧ W.cell? ⟨w.heap.size, 3, none⟩ = some (.bool v.g.proxy) ∧ W.cell? ⟨w.heap.size, 4, none⟩ = some (.string v.g.user) ∧ W.cell? ⟨w.heap.size, 5, none⟩ = some (.string v.g.pass) ∧ W.cell? ⟨w.heap.size, 6, none⟩ = some (.int .i64 v.g.ask.sch) ∧ W.cell? ⟨w.heap.size, 7, none⟩ = some (.string v.g.ask.realm) ∧ W.cell? ⟨w.heap.size, 8, none⟩ = some (.string v.g.ask.nonce) ∧ W.cell? ⟨w.heap.size, 9, none⟩ = some (.string v.g.ask.opq) ∧ W.cell? ⟨w.heap.size, 10, none⟩ = some (.bool v.g.ask.sess) ∧ W.cell? ⟨w.heap.size, 11, none⟩ = some (.string v.g.ask.qop) ∧ W.cell? ⟨w.heap.size, 12, none⟩ = some (.bool v.g.ask.stale) ∧ W.cell? ⟨w.heap.size, 13, none⟩ = some (v.dv) ∧ W.cell? ⟨w.heap.size, 14, none⟩ = some (.int .i64 v.g.count) ∧ W.cell? ⟨w.heap.size, 15, none⟩ = some (v.pv)) (with_reducible assumption) (first
    | (have hoA := World.ownsRow.alloc HR.out.own.row (.cells #[.bool v.g.org.sec, .string v.g.org.host, .int .i64 v.g.org.port, .bool v.g.proxy, .string v.g.user, .string v.g.pass, .int .i64 v.g.ask.sch, .string v.g.ask.realm, .string v.g.ask.nonce, .string v.g.ask.opq, .bool v.g.ask.sess, .string v.g.ask.qop, .bool v.g.ask.stale, v.dv, .int .i64 v.g.count, v.pv] 34); refine step_append_lies (w2.alloc (.cells #[.bool v.g.org.sec, .string v.g.org.host, .int .i64 v.g.org.port, .bool v.g.proxy, .string v.g.user, .string v.g.pass, .int .i64 v.g.ask.sch, .string v.g.ask.realm, .string v.g.ask.nonce, .string v.g.ask.opq, .bool v.g.ask.sess, .string v.g.ask.qop, .bool v.g.ask.stale, v.dv, .int .i64 v.g.count, v.pv] 34)) rfl (.tmp 9) (.tmp 11) 22 rfl B 34 i0 (.agg #[.bool false, .string ⟨#[]⟩, .int .i64 0, .bool false, .string ⟨#[]⟩, .string ⟨#[]⟩, .int .i64 0, .string ⟨#[]⟩, .string ⟨#[]⟩, .string ⟨#[]⟩, .bool false, .string ⟨#[]⟩, .bool false, .slice none 0 0, .int .i64 0, .slice none 0 0]) 16 216 Tryd.underlying22 hi0 hz0 hz1 hz2 rfl ?_ u ys.length ys.flatten ?_ hoA ⟨w2.heap.size, 0, none⟩ 1 1 [.bool v.g.org.sec, .string v.g.org.host, .int .i64 v.g.org.port, .bool v.g.proxy, .string v.g.user, .string v.g.pass, .int .i64 v.g.ask.sch, .string v.g.ask.realm, .string v.g.ask.nonce, .string v.g.ask.opq, .bool v.g.ask.sess, .string v.g.ask.qop, .bool v.g.ask.stale, v.dv, .int .i64 v.g.count, v.pv] ?_ ?_ ?_ ?_ ?_ ?_ ?_ ?_ (w2.heap.size + 1) ?_ ?_; (· omega); (· rfl); (· rfl); (· rfl); (· exact World.news_of_block (cs := #[.bool v.g.org.sec, .string v.g.org.host, .int .i64 v.g.org.port, .bool v.g.proxy, .string v.g.user, .string v.g.pass, .int .i64 v.g.ask.sch, .string v.g.ask.realm, .string v.g.ask.nonce, .string v.g.ask.opq, .bool v.g.ask.sess, .string v.g.ask.qop, .bool v.g.ask.stale, v.dv, .int .i64 v.g.count, v.pv]) (t := 34) (fr := (0, 0)) (heap_alloc_new w2 _)); (· exact HP.out.2.2.1); (· omega); (· unfold maxLen; have := HL.out; omega); (· have := HL.out; omega); (· have := HR.out.grown.size; simp; omega); (· simp); intro g4 cap4 w4 hown4 hg4 hat4 hlt4; have HF := renG_end HP.out.1 HB HR.out (below_grown ((Below.refl _ _).alloc (Nat.le_refl _) _) _) hg4 (HR.out.own.appended rfl rfl HP.out.2.2.1 hown4) hat4 (by have := HR.out.grown.size; omega); have hbx4 := HF.out.2.2.1; have hQ4 : w4.cell? ⟨w.heap.size, 0, none⟩ = some (.bool v.g.org.sec) ∧ w4.cell? ⟨w.heap.size, 1, none⟩ = some (.string v.g.org.host) ∧ w4.cell? ⟨w.heap.size, 2, none⟩ = some (.int .i64 v.g.org.port) ∧ w4.cell? ⟨w.heap.size, 3, none⟩ = some (.bool v.g.proxy) ∧ w4.cell? ⟨w.heap.size, 4, none⟩ = some (.string v.g.user) ∧ w4.cell? ⟨w.heap.size, 5, none⟩ = some (.string v.g.pass) ∧ w4.cell? ⟨w.heap.size, 6, none⟩ = some (.int .i64 v.g.ask.sch) ∧ w4.cell? ⟨w.heap.size, 7, none⟩ = some (.string v.g.ask.realm) ∧ w4.cell? ⟨w.heap.size, 8, none⟩ = some (.string v.g.ask.nonce) ∧ w4.cell? ⟨w.heap.size, 9, none⟩ = some (.string v.g.ask.opq) ∧ w4.cell? ⟨w.heap.size, 10, none⟩ = some (.bool v.g.ask.sess) ∧ w4.cell? ⟨w.heap.size, 11, none⟩ = some (.string v.g.ask.qop) ∧ w4.cell? ⟨w.heap.size, 12, none⟩ = some (.bool v.g.ask.stale) ∧ w4.cell? ⟨w.heap.size, 13, none⟩ = some (v.dv) ∧ w4.cell? ⟨w.heap.size, 14, none⟩ = some (.int .i64 v.g.count) ∧ w4.cell? ⟨w.heap.size, 15, none⟩ = some (v.pv) := ⟨(cell_of (i := 0) hbx4).trans rfl, (cell_of (i := 1) hbx4).trans rfl, (cell_of (i := 2) hbx4).trans rfl, (cell_of (i := 3) hbx4).trans rfl, (cell_of (i := 4) hbx4).trans rfl, (cell_of (i := 5) hbx4).trans rfl, (cell_of (i := 6) hbx4).trans rfl, (cell_of (i := 7) hbx4).trans rfl, (cell_of (i := 8) hbx4).trans rfl, (cell_of (i := 9) hbx4).trans rfl, (cell_of (i := 10) hbx4).trans rfl, (cell_of (i := 11) hbx4).trans rfl, (cell_of (i := 12) hbx4).trans rfl, (cell_of (i := 13) hbx4).trans rfl, (cell_of (i := 14) hbx4).trans rfl, (cell_of (i := 15) hbx4).trans rfl⟩; clear hbx4 hown4 hg4 hat4 hlt4 hoA)
    | (have hoA := HR.out.own.row; refine step_append_lies w2 rfl (.tmp 9) (.tmp 11) 22 rfl B 34 i0 (.agg #[.bool false, .string ⟨#[]⟩, .int .i64 0, .bool false, .string ⟨#[]⟩, .string ⟨#[]⟩, .int .i64 0, .string ⟨#[]⟩, .string ⟨#[]⟩, .string ⟨#[]⟩, .bool false, .string ⟨#[]⟩, .bool false, .slice none 0 0, .int .i64 0, .slice none 0 0]) 16 216 Tryd.underlying22 hi0 hz0 hz1 hz2 rfl ?_ u ys.length ys.flatten ?_ hoA ⟨w.heap.size + 1, 0, none⟩ 1 1 [.bool v.g.org.sec, .string v.g.org.host, .int .i64 v.g.org.port, .bool v.g.proxy, .string v.g.user, .string v.g.pass, .int .i64 v.g.ask.sch, .string v.g.ask.realm, .string v.g.ask.nonce, .string v.g.ask.opq, .bool v.g.ask.sess, .string v.g.ask.qop, .bool v.g.ask.stale, v.dv, .int .i64 v.g.count, v.pv] ?_ ?_ ?_ ?_ ?_ ?_ ?_ ?_ w2.heap.size ?_ ?_; (· omega); (· rfl); (· rfl); (· rfl); (· exact World.news_of_block (cs := #[.bool v.g.org.sec, .string v.g.org.host, .int .i64 v.g.org.port, .bool v.g.proxy, .string v.g.user, .string v.g.pass, .int .i64 v.g.ask.sch, .string v.g.ask.realm, .string v.g.ask.nonce, .string v.g.ask.opq, .bool v.g.ask.sess, .string v.g.ask.qop, .bool v.g.ask.stale, v.dv, .int .i64 v.g.count, v.pv]) (t := 34) (fr := (0, 0)) (renG_news HP.out.1 HR.out)); (· exact HP.out.2.2.1); (· omega); (· unfold maxLen; have := HL.out; omega); (· have := HL.out; omega); (· have := HR.out.grown.size; omega); (· rfl); intro g4 cap4 w4 hown4 hg4 hat4 hlt4; have HF := renG_end HP.out.1 HB HR.out (below_grown (Below.refl _ _) _) hg4 (HR.out.own.appended rfl rfl HP.out.2.2.1 hown4) hat4 (by have := HR.out.grown.size; omega); have hbx4 := HF.out.2.2.1; have hQ4 : w4.cell? ⟨w.heap.size, 0, none⟩ = some (.bool v.g.org.sec) ∧ w4.cell? ⟨w.heap.size, 1, none⟩ = some (.string v.g.org.host) ∧ w4.cell? ⟨w.heap.size, 2, none⟩ = some (.int .i64 v.g.org.port) ∧ w4.cell? ⟨w.heap.size, 3, none⟩ = some (.bool v.g.proxy) ∧ w4.cell? ⟨w.heap.size, 4, none⟩ = some (.string v.g.user) ∧ w4.cell? ⟨w.heap.size, 5, none⟩ = some (.string v.g.pass) ∧ w4.cell? ⟨w.heap.size, 6, none⟩ = some (.int .i64 v.g.ask.sch) ∧ w4.cell? ⟨w.heap.size, 7, none⟩ = some (.string v.g.ask.realm) ∧ w4.cell? ⟨w.heap.size, 8, none⟩ = some (.string v.g.ask.nonce) ∧ w4.cell? ⟨w.heap.size, 9, none⟩ = some (.string v.g.ask.opq) ∧ w4.cell? ⟨w.heap.size, 10, none⟩ = some (.bool v.g.ask.sess) ∧ w4.cell? ⟨w.heap.size, 11, none⟩ = some (.string v.g.ask.qop) ∧ w4.cell? ⟨w.heap.size, 12, none⟩ = some (.bool v.g.ask.stale) ∧ w4.cell? ⟨w.heap.size, 13, none⟩ = some (v.dv) ∧ w4.cell? ⟨w.heap.size, 14, none⟩ = some (.int .i64 v.g.count) ∧ w4.cell? ⟨w.heap.size, 15, none⟩ = some (v.pv) := ⟨(cell_of (i := 0) hbx4).trans rfl, (cell_of (i := 1) hbx4).trans rfl, (cell_of (i := 2) hbx4).trans rfl, (cell_of (i := 3) hbx4).trans rfl, (cell_of (i := 4) hbx4).trans rfl, (cell_of (i := 5) hbx4).trans rfl, (cell_of (i := 6) hbx4).trans rfl, (cell_of (i := 7) hbx4).trans rfl, (cell_of (i := 8) hbx4).trans rfl, (cell_of (i := 9) hbx4).trans rfl, (cell_of (i := 10) hbx4).trans rfl, (cell_of (i := 11) hbx4).trans rfl, (cell_of (i := 12) hbx4).trans rfl, (cell_of (i := 13) hbx4).trans rfl, (cell_of (i := 14) hbx4).trans rfl, (cell_of (i := 15) hbx4).trans rfl⟩; clear hbx4 hown4 hg4 hat4 hlt4 hoA)
    | (go_at_call 16; refine (hcall (w.alloc (.cells #[.bool v.g.org.sec, .string v.g.org.host, .int .i64 v.g.org.port, .bool v.g.proxy, .string v.g.user, .string v.g.pass, .int .i64 v.g.ask.sch, .string v.g.ask.realm, .string v.g.ask.nonce, .string v.g.ask.opq, .bool v.g.ask.sess, .string v.g.ask.qop, .bool v.g.ask.stale, v.dv, .int .i64 v.g.count, v.pv] 34)).drew (Below.refl _ _).drew).mono ?_; rintro e w2 ⟨u, rfl, HR⟩; have hbx := HR.out.box; have hQ2 : w2.cell? ⟨w.heap.size, 0, none⟩ = some (.bool v.g.org.sec) ∧ w2.cell? ⟨w.heap.size, 1, none⟩ = some (.string v.g.org.host) ∧ w2.cell? ⟨w.heap.size, 2, none⟩ = some (.int .i64 v.g.org.port) ∧ w2.cell? ⟨w.heap.size, 3, none⟩ = some (.bool v.g.proxy) ∧ w2.cell? ⟨w.heap.size, 4, none⟩ = some (.string v.g.user) ∧ w2.cell? ⟨w.heap.size, 5, none⟩ = some (.string v.g.pass) ∧ w2.cell? ⟨w.heap.size, 6, none⟩ = some (.int .i64 v.g.ask.sch) ∧ w2.cell? ⟨w.heap.size, 7, none⟩ = some (.string v.g.ask.realm) ∧ w2.cell? ⟨w.heap.size, 8, none⟩ = some (.string v.g.ask.nonce) ∧ w2.cell? ⟨w.heap.size, 9, none⟩ = some (.string v.g.ask.opq) ∧ w2.cell? ⟨w.heap.size, 10, none⟩ = some (.bool v.g.ask.sess) ∧ w2.cell? ⟨w.heap.size, 11, none⟩ = some (.string v.g.ask.qop) ∧ w2.cell? ⟨w.heap.size, 12, none⟩ = some (.bool v.g.ask.stale) ∧ w2.cell? ⟨w.heap.size, 13, none⟩ = some (v.dv) ∧ w2.cell? ⟨w.heap.size, 14, none⟩ = some (.int .i64 v.g.count) ∧ w2.cell? ⟨w.heap.size, 15, none⟩ = some (v.pv) := ⟨(cell_of (i := 0) hbx).trans rfl, (cell_of (i := 1) hbx).trans rfl, (cell_of (i := 2) hbx).trans rfl, (cell_of (i := 3) hbx).trans rfl, (cell_of (i := 4) hbx).trans rfl, (cell_of (i := 5) hbx).trans rfl, (cell_of (i := 6) hbx).trans rfl, (cell_of (i := 7) hbx).trans rfl, (cell_of (i := 8) hbx).trans rfl, (cell_of (i := 9) hbx).trans rfl, (cell_of (i := 10) hbx).trans rfl, (cell_of (i := 11) hbx).trans rfl, (cell_of (i := 12) hbx).trans rfl, (cell_of (i := 13) hbx).trans rfl, (cell_of (i := 14) hbx).trans rfl, (cell_of (i := 15) hbx).trans rfl⟩; have hbx2 := box_alloc hbx (.cells #[.bool v.g.org.sec, .string v.g.org.host, .int .i64 v.g.org.port, .bool v.g.proxy, .string v.g.user, .string v.g.pass, .int .i64 v.g.ask.sch, .string v.g.ask.realm, .string v.g.ask.nonce, .string v.g.ask.opq, .bool v.g.ask.sess, .string v.g.ask.qop, .bool v.g.ask.stale, v.dv, .int .i64 v.g.count, v.pv] 34); have hQ3 : (w2.alloc (.cells #[.bool v.g.org.sec, .string v.g.org.host, .int .i64 v.g.org.port, .bool v.g.proxy, .string v.g.user, .string v.g.pass, .int .i64 v.g.ask.sch, .string v.g.ask.realm, .string v.g.ask.nonce, .string v.g.ask.opq, .bool v.g.ask.sess, .string v.g.ask.qop, .bool v.g.ask.stale, v.dv, .int .i64 v.g.count, v.pv] 34)).cell? ⟨w.heap.size, 0, none⟩ = some (.bool v.g.org.sec) ∧ (w2.alloc (.cells #[.bool v.g.org.sec, .string v.g.org.host, .int .i64 v.g.org.port, .bool v.g.proxy, .string v.g.user, .string v.g.pass, .int .i64 v.g.ask.sch, .string v.g.ask.realm, .string v.g.ask.nonce, .string v.g.ask.opq, .bool v.g.ask.sess, .string v.g.ask.qop, .bool v.g.ask.stale, v.dv, .int .i64 v.g.count, v.pv] 34)).cell? ⟨w.heap.size, 1, none⟩ = some (.string v.g.org.host) ∧ (w2.alloc (.cells #[.bool v.g.org.sec, .string v.g.org.host, .int .i64 v.g.org.port, .bool v.g.proxy, .string v.g.user, .string v.g.pass, .int .i64 v.g.ask.sch, .string v.g.ask.realm, .string v.g.ask.nonce, .string v.g.ask.opq, .bool v.g.ask.sess, .string v.g.ask.qop, .bool v.g.ask.stale, v.dv, .int .i64 v.g.count, v.pv] 34)).cell? ⟨w.heap.size, 2, none⟩ = some (.int .i64 v.g.org.port) ∧ (w2.alloc (.cells #[.bool v.g.org.sec, .string v.g.org.host, .int .i64 v.g.org.port, .bool v.g.proxy, .string v.g.user, .string v.g.pass, .int .i64 v.g.ask.sch, .string v.g.ask.realm, .string v.g.ask.nonce, .string v.g.ask.opq, .bool v.g.ask.sess, .string v.g.ask.qop, .bool v.g.ask.stale, v.dv, .int .i64 v.g.count, v.pv] 34)).cell? ⟨w.heap.size, 3, none⟩ = some (.bool v.g.proxy) ∧ (w2.alloc (.cells #[.bool v.g.org.sec, .string v.g.org.host, .int .i64 v.g.org.port, .bool v.g.proxy, .string v.g.user, .string v.g.pass, .int .i64 v.g.ask.sch, .string v.g.ask.realm, .string v.g.ask.nonce, .string v.g.ask.opq, .bool v.g.ask.sess, .string v.g.ask.qop, .bool v.g.ask.stale, v.dv, .int .i64 v.g.count, v.pv] 34)).cell? ⟨w.heap.size, 4, none⟩ = some (.string v.g.user) ∧ (w2.alloc (.cells #[.bool v.g.org.sec, .string v.g.org.host, .int .i64 v.g.org.port, .bool v.g.proxy, .string v.g.user, .string v.g.pass, .int .i64 v.g.ask.sch, .string v.g.ask.realm, .string v.g.ask.nonce, .string v.g.ask.opq, .bool v.g.ask.sess, .string v.g.ask.qop, .bool v.g.ask.stale, v.dv, .int .i64 v.g.count, v.pv] 34)).cell? ⟨w.heap.size, 5, none⟩ = some (.string v.g.pass) ∧ (w2.alloc (.cells #[.bool v.g.org.sec, .string v.g.org.host, .int .i64 v.g.org.port, .bool v.g.proxy, .string v.g.user, .string v.g.pass, .int .i64 v.g.ask.sch, .string v.g.ask.realm, .string v.g.ask.nonce, .string v.g.ask.opq, .bool v.g.ask.sess, .string v.g.ask.qop, .bool v.g.ask.stale, v.dv, .int .i64 v.g.count, v.pv] 34)).cell? ⟨w.heap.size, 6, none⟩ = some (.int .i64 v.g.ask.sch) ∧ (w2.alloc (.cells #[.bool v.g.org.sec, .string v.g.org.host, .int .i64 v.g.org.port, .bool v.g.proxy, .string v.g.user, .string v.g.pass, .int .i64 v.g.ask.sch, .string v.g.ask.realm, .string v.g.ask.nonce, .string v.g.ask.opq, .bool v.g.ask.sess, .string v.g.ask.qop, .bool v.g.ask.stale, v.dv, .int .i64 v.g.count, v.pv] 34)).cell? ⟨w.heap.size, 7, none⟩ = some (.string v.g.ask.realm) ∧ (w2.alloc (.cells #[.bool v.g.org.sec, .string v.g.org.host, .int .i64 v.g.org.port, .bool v.g.proxy, .string v.g.user, .string v.g.pass, .int .i64 v.g.ask.sch, .string v.g.ask.realm, .string v.g.ask.nonce, .string v.g.ask.opq, .bool v.g.ask.sess, .string v.g.ask.qop, .bool v.g.ask.stale, v.dv, .int .i64 v.g.count, v.pv] 34)).cell? ⟨w.heap.size, 8, none⟩ = some (.string v.g.ask.nonce) ∧ (w2.alloc (.cells #[.bool v.g.org.sec, .string v.g.org.host, .int .i64 v.g.org.port, .bool v.g.proxy, .string v.g.user, .string v.g.pass, .int .i64 v.g.ask.sch, .string v.g.ask.realm, .string v.g.ask.nonce, .string v.g.ask.opq, .bool v.g.ask.sess, .string v.g.ask.qop, .bool v.g.ask.stale, v.dv, .int .i64 v.g.count, v.pv] 34)).cell? ⟨w.heap.size, 9, none⟩ = some (.string v.g.ask.opq) ∧ (w2.alloc (.cells #[.bool v.g.org.sec, .string v.g.org.host, .int .i64 v.g.org.port, .bool v.g.proxy, .string v.g.user, .string v.g.pass, .int .i64 v.g.ask.sch, .string v.g.ask.realm, .string v.g.ask.nonce, .string v.g.ask.opq, .bool v.g.ask.sess, .string v.g.ask.qop, .bool v.g.ask.stale, v.dv, .int .i64 v.g.count, v.pv] 34)).cell? ⟨w.heap.size, 10, none⟩ = some (.bool v.g.ask.sess) ∧ (w2.alloc (.cells #[.bool v.g.org.sec, .string v.g.org.host, .int .i64 v.g.org.port, .bool v.g.proxy, .string v.g.user, .string v.g.pass, .int .i64 v.g.ask.sch, .string v.g.ask.realm, .string v.g.ask.nonce, .string v.g.ask.opq, .bool v.g.ask.sess, .string v.g.ask.qop, .bool v.g.ask.stale, v.dv, .int .i64 v.g.count, v.pv] 34)).cell? ⟨w.heap.size, 11, none⟩ = some (.string v.g.ask.qop) ∧ (w2.alloc (.cells #[.bool v.g.org.sec, .string v.g.org.host, .int .i64 v.g.org.port, .bool v.g.proxy, .string v.g.user, .string v.g.pass, .int .i64 v.g.ask.sch, .string v.g.ask.realm, .string v.g.ask.nonce, .string v.g.ask.opq, .bool v.g.ask.sess, .string v.g.ask.qop, .bool v.g.ask.stale, v.dv, .int .i64 v.g.count, v.pv] 34)).cell? ⟨w.heap.size, 12, none⟩ = some (.bool v.g.ask.stale) ∧ (w2.alloc (.cells #[.bool v.g.org.sec, .string v.g.org.host, .int .i64 v.g.org.port, .bool v.g.proxy, .string v.g.user, .string v.g.pass, .int .i64 v.g.ask.sch, .string v.g.ask.realm, .string v.g.ask.nonce, .string v.g.ask.opq, .bool v.g.ask.sess, .string v.g.ask.qop, .bool v.g.ask.stale, v.dv, .int .i64 v.g.count, v.pv] 34)).cell? ⟨w.heap.size, 13, none⟩ = some (v.dv) ∧ (w2.alloc (.cells #[.bool v.g.org.sec, .string v.g.org.host, .int .i64 v.g.org.port, .bool v.g.proxy, .string v.g.user, .string v.g.pass, .int .i64 v.g.ask.sch, .string v.g.ask.realm, .string v.g.ask.nonce, .string v.g.ask.opq, .bool v.g.ask.sess, .string v.g.ask.qop, .bool v.g.ask.stale, v.dv, .int .i64 v.g.count, v.pv] 34)).cell? ⟨w.heap.size, 14, none⟩ = some (.int .i64 v.g.count) ∧ (w2.alloc (.cells #[.bool v.g.org.sec, .string v.g.org.host, .int .i64 v.g.org.port, .bool v.g.proxy, .string v.g.user, .string v.g.pass, .int .i64 v.g.ask.sch, .string v.g.ask.realm, .string v.g.ask.nonce, .string v.g.ask.opq, .bool v.g.ask.sess, .string v.g.ask.qop, .bool v.g.ask.stale, v.dv, .int .i64 v.g.count, v.pv] 34)).cell? ⟨w.heap.size, 15, none⟩ = some (v.pv) := ⟨(cell_of (i := 0) hbx2).trans rfl, (cell_of (i := 1) hbx2).trans rfl, (cell_of (i := 2) hbx2).trans rfl, (cell_of (i := 3) hbx2).trans rfl, (cell_of (i := 4) hbx2).trans rfl, (cell_of (i := 5) hbx2).trans rfl, (cell_of (i := 6) hbx2).trans rfl, (cell_of (i := 7) hbx2).trans rfl, (cell_of (i := 8) hbx2).trans rfl, (cell_of (i := 9) hbx2).trans rfl, (cell_of (i := 10) hbx2).trans rfl, (cell_of (i := 11) hbx2).trans rfl, (cell_of (i := 12) hbx2).trans rfl, (cell_of (i := 13) hbx2).trans rfl, (cell_of (i := 14) hbx2).trans rfl, (cell_of (i := 15) hbx2).trans rfl⟩; clear hbx hbx2)
    | (go_at_call 16; refine (hcall ((w.alloc (.cells #[.bool v.g.org.sec, .string v.g.org.host, .int .i64 v.g.org.port, .bool v.g.proxy, .string v.g.user, .string v.g.pass, .int .i64 v.g.ask.sch, .string v.g.ask.realm, .string v.g.ask.nonce, .string v.g.ask.opq, .bool v.g.ask.sess, .string v.g.ask.qop, .bool v.g.ask.stale, v.dv, .int .i64 v.g.count, v.pv] 34)).alloc (.cells #[.bool v.g.org.sec, .string v.g.org.host, .int .i64 v.g.org.port, .bool v.g.proxy, .string v.g.user, .string v.g.pass, .int .i64 v.g.ask.sch, .string v.g.ask.realm, .string v.g.ask.nonce, .string v.g.ask.opq, .bool v.g.ask.sess, .string v.g.ask.qop, .bool v.g.ask.stale, v.dv, .int .i64 v.g.count, v.pv] 34)).drew ((Below.refl _ _).alloc (Nat.le_refl _) _).drew).mono ?_; rintro e w2 ⟨u, rfl, HR⟩; have hbx := HR.out.box; have hQ2 : w2.cell? ⟨w.heap.size, 0, none⟩ = some (.bool v.g.org.sec) ∧ w2.cell? ⟨w.heap.size, 1, none⟩ = some (.string v.g.org.host) ∧ w2.cell? ⟨w.heap.size, 2, none⟩ = some (.int .i64 v.g.org.port) ∧ w2.cell? ⟨w.heap.size, 3, none⟩ = some (.bool v.g.proxy) ∧ w2.cell? ⟨w.heap.size, 4, none⟩ = some (.string v.g.user) ∧ w2.cell? ⟨w.heap.size, 5, none⟩ = some (.string v.g.pass) ∧ w2.cell? ⟨w.heap.size, 6, none⟩ = some (.int .i64 v.g.ask.sch) ∧ w2.cell? ⟨w.heap.size, 7, none⟩ = some (.string v.g.ask.realm) ∧ w2.cell? ⟨w.heap.size, 8, none⟩ = some (.string v.g.ask.nonce) ∧ w2.cell? ⟨w.heap.size, 9, none⟩ = some (.string v.g.ask.opq) ∧ w2.cell? ⟨w.heap.size, 10, none⟩ = some (.bool v.g.ask.sess) ∧ w2.cell? ⟨w.heap.size, 11, none⟩ = some (.string v.g.ask.qop) ∧ w2.cell? ⟨w.heap.size, 12, none⟩ = some (.bool v.g.ask.stale) ∧ w2.cell? ⟨w.heap.size, 13, none⟩ = some (v.dv) ∧ w2.cell? ⟨w.heap.size, 14, none⟩ = some (.int .i64 v.g.count) ∧ w2.cell? ⟨w.heap.size, 15, none⟩ = some (v.pv) := ⟨(cell_of (i := 0) hbx).trans rfl, (cell_of (i := 1) hbx).trans rfl, (cell_of (i := 2) hbx).trans rfl, (cell_of (i := 3) hbx).trans rfl, (cell_of (i := 4) hbx).trans rfl, (cell_of (i := 5) hbx).trans rfl, (cell_of (i := 6) hbx).trans rfl, (cell_of (i := 7) hbx).trans rfl, (cell_of (i := 8) hbx).trans rfl, (cell_of (i := 9) hbx).trans rfl, (cell_of (i := 10) hbx).trans rfl, (cell_of (i := 11) hbx).trans rfl, (cell_of (i := 12) hbx).trans rfl, (cell_of (i := 13) hbx).trans rfl, (cell_of (i := 14) hbx).trans rfl, (cell_of (i := 15) hbx).trans rfl⟩; have hbx2 := box_alloc hbx (.cells #[.bool v.g.org.sec, .string v.g.org.host, .int .i64 v.g.org.port, .bool v.g.proxy, .string v.g.user, .string v.g.pass, .int .i64 v.g.ask.sch, .string v.g.ask.realm, .string v.g.ask.nonce, .string v.g.ask.opq, .bool v.g.ask.sess, .string v.g.ask.qop, .bool v.g.ask.stale, v.dv, .int .i64 v.g.count, v.pv] 34); have hQ3 : (w2.alloc (.cells #[.bool v.g.org.sec, .string v.g.org.host, .int .i64 v.g.org.port, .bool v.g.proxy, .string v.g.user, .string v.g.pass, .int .i64 v.g.ask.sch, .string v.g.ask.realm, .string v.g.ask.nonce, .string v.g.ask.opq, .bool v.g.ask.sess, .string v.g.ask.qop, .bool v.g.ask.stale, v.dv, .int .i64 v.g.count, v.pv] 34)).cell? ⟨w.heap.size, 0, none⟩ = some (.bool v.g.org.sec) ∧ (w2.alloc (.cells #[.bool v.g.org.sec, .string v.g.org.host, .int .i64 v.g.org.port, .bool v.g.proxy, .string v.g.user, .string v.g.pass, .int .i64 v.g.ask.sch, .string v.g.ask.realm, .string v.g.ask.nonce, .string v.g.ask.opq, .bool v.g.ask.sess, .string v.g.ask.qop, .bool v.g.ask.stale, v.dv, .int .i64 v.g.count, v.pv] 34)).cell? ⟨w.heap.size, 1, none⟩ = some (.string v.g.org.host) ∧ (w2.alloc (.cells #[.bool v.g.org.sec, .string v.g.org.host, .int .i64 v.g.org.port, .bool v.g.proxy, .string v.g.user, .string v.g.pass, .int .i64 v.g.ask.sch, .string v.g.ask.realm, .string v.g.ask.nonce, .string v.g.ask.opq, .bool v.g.ask.sess, .string v.g.ask.qop, .bool v.g.ask.stale, v.dv, .int .i64 v.g.count, v.pv] 34)).cell? ⟨w.heap.size, 2, none⟩ = some (.int .i64 v.g.org.port) ∧ (w2.alloc (.cells #[.bool v.g.org.sec, .string v.g.org.host, .int .i64 v.g.org.port, .bool v.g.proxy, .string v.g.user, .string v.g.pass, .int .i64 v.g.ask.sch, .string v.g.ask.realm, .string v.g.ask.nonce, .string v.g.ask.opq, .bool v.g.ask.sess, .string v.g.ask.qop, .bool v.g.ask.stale, v.dv, .int .i64 v.g.count, v.pv] 34)).cell? ⟨w.heap.size, 3, none⟩ = some (.bool v.g.proxy) ∧ (w2.alloc (.cells #[.bool v.g.org.sec, .string v.g.org.host, .int .i64 v.g.org.port, .bool v.g.proxy, .string v.g.user, .string v.g.pass, .int .i64 v.g.ask.sch, .string v.g.ask.realm, .string v.g.ask.nonce, .string v.g.ask.opq, .bool v.g.ask.sess, .string v.g.ask.qop, .bool v.g.ask.stale, v.dv, .int .i64 v.g.count, v.pv] 34)).cell? ⟨w.heap.size, 4, none⟩ = some (.string v.g.user) ∧ (w2.alloc (.cells #[.bool v.g.org.sec, .string v.g.org.host, .int .i64 v.g.org.port, .bool v.g.proxy, .string v.g.user, .string v.g.pass, .int .i64 v.g.ask.sch, .string v.g.ask.realm, .string v.g.ask.nonce, .string v.g.ask.opq, .bool v.g.ask.sess, .string v.g.ask.qop, .bool v.g.ask.stale, v.dv, .int .i64 v.g.count, v.pv] 34)).cell? ⟨w.heap.size, 5, none⟩ = some (.string v.g.pass) ∧ (w2.alloc (.cells #[.bool v.g.org.sec, .string v.g.org.host, .int .i64 v.g.org.port, .bool v.g.proxy, .string v.g.user, .string v.g.pass, .int .i64 v.g.ask.sch, .string v.g.ask.realm, .string v.g.ask.nonce, .string v.g.ask.opq, .bool v.g.ask.sess, .string v.g.ask.qop, .bool v.g.ask.stale, v.dv, .int .i64 v.g.count, v.pv] 34)).cell? ⟨w.heap.size, 6, none⟩ = some (.int .i64 v.g.ask.sch) ∧ (w2.alloc (.cells #[.bool v.g.org.sec, .string v.g.org.host, .int .i64 v.g.org.port, .bool v.g.proxy, .string v.g.user, .string v.g.pass, .int .i64 v.g.ask.sch, .string v.g.ask.realm, .string v.g.ask.nonce, .string v.g.ask.opq, .bool v.g.ask.sess, .string v.g.ask.qop, .bool v.g.ask.stale, v.dv, .int .i64 v.g.count, v.pv] 34)).cell? ⟨w.heap.size, 7, none⟩ = some (.string v.g.ask.realm) ∧ (w2.alloc (.cells #[.bool v.g.org.sec, .string v.g.org.host, .int .i64 v.g.org.port, .bool v.g.proxy, .string v.g.user, .string v.g.pass, .int .i64 v.g.ask.sch, .string v.g.ask.realm, .string v.g.ask.nonce, .string v.g.ask.opq, .bool v.g.ask.sess, .string v.g.ask.qop, .bool v.g.ask.stale, v.dv, .int .i64 v.g.count, v.pv] 34)).cell? ⟨w.heap.size, 8, none⟩ = some (.string v.g.ask.nonce) ∧ (w2.alloc (.cells #[.bool v.g.org.sec, .string v.g.org.host, .int .i64 v.g.org.port, .bool v.g.proxy, .string v.g.user, .string v.g.pass, .int .i64 v.g.ask.sch, .string v.g.ask.realm, .string v.g.ask.nonce, .string v.g.ask.opq, .bool v.g.ask.sess, .string v.g.ask.qop, .bool v.g.ask.stale, v.dv, .int .i64 v.g.count, v.pv] 34)).cell? ⟨w.heap.size, 9, none⟩ = some (.string v.g.ask.opq) ∧ (w2.alloc (.cells #[.bool v.g.org.sec, .string v.g.org.host, .int .i64 v.g.org.port, .bool v.g.proxy, .string v.g.user, .string v.g.pass, .int .i64 v.g.ask.sch, .string v.g.ask.realm, .string v.g.ask.nonce, .string v.g.ask.opq, .bool v.g.ask.sess, .string v.g.ask.qop, .bool v.g.ask.stale, v.dv, .int .i64 v.g.count, v.pv] 34)).cell? ⟨w.heap.size, 10, none⟩ = some (.bool v.g.ask.sess) ∧ (w2.alloc (.cells #[.bool v.g.org.sec, .string v.g.org.host, .int .i64 v.g.org.port, .bool v.g.proxy, .string v.g.user, .string v.g.pass, .int .i64 v.g.ask.sch, .string v.g.ask.realm, .string v.g.ask.nonce, .string v.g.ask.opq, .bool v.g.ask.sess, .string v.g.ask.qop, .bool v.g.ask.stale, v.dv, .int .i64 v.g.count, v.pv] 34)).cell? ⟨w.heap.size, 11, none⟩ = some (.string v.g.ask.qop) ∧ (w2.alloc (.cells #[.bool v.g.org.sec, .string v.g.org.host, .int .i64 v.g.org.port, .bool v.g.proxy, .string v.g.user, .string v.g.pass, .int .i64 v.g.ask.sch, .string v.g.ask.realm, .string v.g.ask.nonce, .string v.g.ask.opq, .bool v.g.ask.sess, .string v.g.ask.qop, .bool v.g.ask.stale, v.dv, .int .i64 v.g.count, v.pv] 34)).cell? ⟨w.heap.size, 12, none⟩ = some (.bool v.g.ask.stale) ∧ (w2.alloc (.cells #[.bool v.g.org.sec, .string v.g.org.host, .int .i64 v.g.org.port, .bool v.g.proxy, .string v.g.user, .string v.g.pass, .int .i64 v.g.ask.sch, .string v.g.ask.realm, .string v.g.ask.nonce, .string v.g.ask.opq, .bool v.g.ask.sess, .string v.g.ask.qop, .bool v.g.ask.stale, v.dv, .int .i64 v.g.count, v.pv] 34)).cell? ⟨w.heap.size, 13, none⟩ = some (v.dv) ∧ (w2.alloc (.cells #[.bool v.g.org.sec, .string v.g.org.host, .int .i64 v.g.org.port, .bool v.g.proxy, .string v.g.user, .string v.g.pass, .int .i64 v.g.ask.sch, .string v.g.ask.realm, .string v.g.ask.nonce, .string v.g.ask.opq, .bool v.g.ask.sess, .string v.g.ask.qop, .bool v.g.ask.stale, v.dv, .int .i64 v.g.count, v.pv] 34)).cell? ⟨w.heap.size, 14, none⟩ = some (.int .i64 v.g.count) ∧ (w2.alloc (.cells #[.bool v.g.org.sec, .string v.g.org.host, .int .i64 v.g.org.port, .bool v.g.proxy, .string v.g.user, .string v.g.pass, .int .i64 v.g.ask.sch, .string v.g.ask.realm, .string v.g.ask.nonce, .string v.g.ask.opq, .bool v.g.ask.sess, .string v.g.ask.qop, .bool v.g.ask.stale, v.dv, .int .i64 v.g.count, v.pv] 34)).cell? ⟨w.heap.size, 15, none⟩ = some (v.pv) := ⟨(cell_of (i := 0) hbx2).trans rfl, (cell_of (i := 1) hbx2).trans rfl, (cell_of (i := 2) hbx2).trans rfl, (cell_of (i := 3) hbx2).trans rfl, (cell_of (i := 4) hbx2).trans rfl, (cell_of (i := 5) hbx2).trans rfl, (cell_of (i := 6) hbx2).trans rfl, (cell_of (i := 7) hbx2).trans rfl, (cell_of (i := 8) hbx2).trans rfl, (cell_of (i := 9) hbx2).trans rfl, (cell_of (i := 10) hbx2).trans rfl, (cell_of (i := 11) hbx2).trans rfl, (cell_of (i := 12) hbx2).trans rfl, (cell_of (i := 13) hbx2).trans rfl, (cell_of (i := 14) hbx2).trans rfl, (cell_of (i := 15) hbx2).trans rfl⟩; clear hbx hbx2))
  all_goals
    obtain ⟨n1, HN1⟩ : ∃ n1, Hid (ys.length + 1 = n1) := ⟨_, rfl⟩
    rw [HN1.out] at HF ⊢
    have HN2 : Hid ((ys ++ [[.bool v.g.org.sec, .string v.g.org.host, .int .i64 v.g.org.port, .bool v.g.proxy, .string v.g.user, .string v.g.pass, .int .i64 v.g.ask.sch, .string v.g.ask.realm, .string v.g.ask.nonce, .string v.g.ask.opq, .bool v.g.ask.sess, .string v.g.ask.qop, .bool v.g.ask.stale, v.dv, .int .i64 v.g.count, v.pv]]).length = n1 ∧ cap4 ≤ 9223372036854775807) := by
      refine ⟨by rw [List.length_append, List.length_singleton]; exact HN1.out, ?_⟩
      rcases HF.out.1.forms with ⟨e, _⟩ | ⟨g', cap', e, _, _, _, h2⟩
      · cases e
      · injection e with _ _ e3
        rw [e3]
        unfold maxLen at h2
        omega
    have HE : Hid (∀ k w5, OwnK 16 34 w5 B (.slice (some ⟨g4, 0, none⟩) k cap4) (last8 (ys ++ [[.bool v.g.org.sec, .string v.g.org.host, .int .i64 v.g.org.port, .bool v.g.proxy, .string v.g.user, .string v.g.pass, .int .i64 v.g.ask.sch, .string v.g.ask.realm, .string v.g.ask.nonce, .string v.g.ask.opq, .bool v.g.ask.sess, .string v.g.ask.qop, .bool v.g.ask.stale, v.dv, .int .i64 v.g.count, v.pv]])) → w4.grownBy w5 (some g4) → OwnK 16 34 w5 B (.slice (some ⟨g4, 0, none⟩) k cap4) (last8 (ys ++ [[.bool v.g.org.sec, .string v.g.org.host, .int .i64 v.g.org.port, .bool v.g.proxy, .string v.g.user, .string v.g.pass, .int .i64 v.g.ask.sch, .string v.g.ask.realm, .string v.g.ask.nonce, .string v.g.ask.opq, .bool v.g.ask.sess, .string v.g.ask.qop, .bool v.g.ask.stale, v.dv, .int .i64 v.g.count, v.pv]])) ∧ w.grownBy w5 val.ownBlock ∧ ∀ j, (Value.slice (some ⟨g4, 0, none⟩) k cap4).ownBlock = some j → val.ownBlock = some j ∨ w.heap.size ≤ j) := fun k w5 h1 h2 => ⟨h1, gcomp HF.out.2.1 h2 (fun j hj => by injection hj with hj; subst hj; exact HF.out.2.2.2), fun j hj => by
      have e : g4 = j := by simpa [Value.ownBlock] using hj
      subst e
      exact HF.out.2.2.2⟩
    have HNL : Hid ((n1 : Int) ≤ 100000) := by show _ ≤ _; have := HL.out; have := HN1.out; omega
    clear hcall
    go_wp2_with fail
    refine (cut8G g4 n1 cap4 B _ HN2.out.1 HN2.out.2 _ HF.out.1 _ ?hz).mono ?_
    case hz =>
      unfold wrap64
      have := HNL.out
      omega
    rintro e w5 ⟨k, rfl, H5⟩
    go_wp2
    go_ret
    exact ⟨_, rfl, HE.out k w5 H5.out.1 H5.out.2⟩
end Go.Proofs.YtemlclgdgnfhnaaDoor

/- A grant, cloned. -/
namespace Go.Proofs.YtemlclgdgnfhnaaDoor
open Go.RowKit
set_option linter.unusedVariables false

def GrFit (g : GrP) : Prop := g.org.host.size ≤ 140737488355328 ∧ g.user.size ≤ 140737488355328 ∧ g.pass.size ≤ 140737488355328 ∧ AskFit g.ask ∧ g.paths.length ≤ 1000 ∧ (∀ x ∈ g.paths, x.size ≤ 140737488355328) ∧ -9223372036854775808 ≤ g.count
set_option maxRecDepth 100000 in
set_option maxHeartbeats 4000000 in
theorem freshG_at (g : GrP) (hg : GrFit g) (da pa : Option Addr) (dl dc pl pc db doff pb poff : Nat) (w : World) (hd : Strs w da dl db doff g.ask.dom) (hp : Strs w pa pl pb poff g.paths) :
    Calls Tryd.prog 29 #[.agg #[.bool g.org.sec, .string g.org.host, .int .i64 g.org.port, .bool g.proxy, .string g.user, .string g.pass, .int .i64 g.ask.sch, .string g.ask.realm, .string g.ask.nonce, .string g.ask.opq, .bool g.ask.sess, .string g.ask.qop, .bool g.ask.stale, .slice da dl dc, .int .i64 g.count, .slice pa pl pc]] w fun e w' => (∃ v u, e = .returned (.agg #[.bool g.org.sec, .string g.org.host, .int .i64 g.org.port, .bool g.proxy, .string g.user, .string g.pass, .int .i64 g.ask.sch, .string g.ask.realm, .string g.ask.nonce, .string g.ask.opq, .bool g.ask.sess, .string g.ask.qop, .bool g.ask.stale, v, .int .i64 g.count, u]) ∧ OwnS w' w.heap.size v g.ask.dom ∧ OwnS w' w.heap.size u g.paths) ∧ Below w.heap.size w w' := by
  obtain ⟨z1, z2, z3, z4, z5, z6, _⟩ := hg
  have hlen : pl ≤ 1000 := by rw [← hp.len_eq]; exact z5
  have hs0 := boxF_start w #[.bool g.org.sec, .string g.org.host, .int .i64 g.org.port, .bool g.proxy, .string g.user, .string g.pass, .int .i64 g.ask.sch, .string g.ask.realm, .string g.ask.nonce, .string g.ask.opq, .bool g.ask.sess, .string g.ask.qop, .bool g.ask.stale, .slice da dl dc, .int .i64 g.count, .slice pa pl pc] #[.bool false, .string ⟨#[]⟩, .int .i64 0, .bool false, .string ⟨#[]⟩, .string ⟨#[]⟩, .int .i64 0, .string ⟨#[]⟩, .string ⟨#[]⟩, .string ⟨#[]⟩, .bool false, .string ⟨#[]⟩, .bool false, .slice none 0 0, .int .i64 0, .slice none 0 0] 34
  have HX : Hid (Strs w da dl db doff g.ask.dom ∧ Strs w pa pl pb poff g.paths ∧ (∀ x ∈ g.paths, x.size ≤ 140737488355328) ∧ AskFit g.ask) := ⟨hd, hp, z6, z4⟩
  have HW : Hid (BoxF w ((w.alloc (.cells #[.bool g.org.sec, .string g.org.host, .int .i64 g.org.port, .bool g.proxy, .string g.user, .string g.pass, .int .i64 g.ask.sch, .string g.ask.realm, .string g.ask.nonce, .string g.ask.opq, .bool g.ask.sess, .string g.ask.qop, .bool g.ask.stale, .slice da dl dc, .int .i64 g.count, .slice pa pl pc] 34)).alloc (.cells #[.bool false, .string ⟨#[]⟩, .int .i64 0, .bool false, .string ⟨#[]⟩, .string ⟨#[]⟩, .int .i64 0, .string ⟨#[]⟩, .string ⟨#[]⟩, .string ⟨#[]⟩, .bool false, .string ⟨#[]⟩, .bool false, .slice none 0 0, .int .i64 0, .slice none 0 0] 34)) _ _ 34) := hs0
  clear hs0 hd hp z4 z5 z6
  go_enter Tryd.func29, Tryd.ntmps29
  go_wp2_with fail
  refine (freshO_any g.org z1 _).mono ?_
  rintro e w1 ⟨rfl, hb1⟩
  have H1 := (show BoxF _ _ _ _ _ from HW.out).below hb1
  have HH1 : Hid (BoxF w w1 _ _ 34) := H1
  have c0 := H1.at 0 (v := .bool g.org.sec) rfl
  have c1 := H1.at 1 (v := .string g.org.host) rfl
  have c2 := H1.at 2 (v := .int .i64 g.org.port) rfl
  have c4 := H1.at 4 (v := .string g.user) rfl
  have c5 := H1.at 5 (v := .string g.pass) rfl
  have f1 := free_of H1.box
  have s0 := H1.same (i := 0) (v := .bool g.org.sec) rfl
  have s1 := H1.same (i := 1) (v := .string g.org.host) rfl
  have s2 := H1.same (i := 2) (v := .int .i64 g.org.port) rfl
  clear hb1 HW H1
  go_wp2_with fail
  clear c0 c1 c2 c4 c5 f1 s0 s1 s2
  have H1d := (show BoxF _ _ _ _ _ from HH1.out).below (Below.refl _ _).drew
  have hQ : w1.drew.cell? ⟨w.heap.size, 4, none⟩ = some (.string g.user) ∧ w1.drew.cell? ⟨w.heap.size, 5, none⟩ = some (.string g.pass) ∧ Hid (BoxF w w1.drew #[.bool g.org.sec, .string g.org.host, .int .i64 g.org.port, .bool g.proxy, .string g.user, .string g.pass, .int .i64 g.ask.sch, .string g.ask.realm, .string g.ask.nonce, .string g.ask.opq, .bool g.ask.sess, .string g.ask.qop, .bool g.ask.stale, .slice da dl dc, .int .i64 g.count, .slice pa pl pc] #[.bool false, .string ⟨#[]⟩, .int .i64 0, .bool false, .string ⟨#[]⟩, .string ⟨#[]⟩, .int .i64 0, .string ⟨#[]⟩, .string ⟨#[]⟩, .string ⟨#[]⟩, .bool false, .string ⟨#[]⟩, .bool false, .slice none 0 0, .int .i64 0, .slice none 0 0] 34) := ⟨H1d.at 4 rfl, H1d.at 5 rfl, H1d⟩
  clear H1d
  go_region_held3 (fun W => W.cell? ⟨w.heap.size, 4, none⟩ = some (.string g.user) ∧ W.cell? ⟨w.heap.size, 5, none⟩ = some (.string g.pass) ∧ Hid (BoxF w W #[.bool g.org.sec, .string g.org.host, .int .i64 g.org.port, .bool g.proxy, .string g.user, .string g.pass, .int .i64 g.ask.sch, .string g.ask.realm, .string g.ask.nonce, .string g.ask.opq, .bool g.ask.sess, .string g.ask.qop, .bool g.ask.stale, .slice da dl dc, .int .i64 g.count, .slice pa pl pc] #[.bool false, .string ⟨#[]⟩, .int .i64 0, .bool false, .string ⟨#[]⟩, .string ⟨#[]⟩, .int .i64 0, .string ⟨#[]⟩, .string ⟨#[]⟩, .string ⟨#[]⟩, .bool false, .string ⟨#[]⟩, .bool false, .slice none 0 0, .int .i64 0, .slice none 0 0] 34)) (with_reducible assumption) (first
    | (go_at_call 40; refine (cloneS_any g.pass z3 _).mono ?_; rintro e w3 ⟨rfl, hb3⟩; have H3 := (show BoxF _ _ _ _ _ from hQ2.2.2.out).below hb3; have HH3 : Hid (BoxF w w3 #[.bool g.org.sec, .string g.org.host, .int .i64 g.org.port, .bool g.proxy, .string g.user, .string g.pass, .int .i64 g.ask.sch, .string g.ask.realm, .string g.ask.nonce, .string g.ask.opq, .bool g.ask.sess, .string g.ask.qop, .bool g.ask.stale, .slice da dl dc, .int .i64 g.count, .slice pa pl pc] #[.bool false, .string ⟨#[]⟩, .int .i64 0, .bool false, .string ⟨#[]⟩, .string ⟨#[]⟩, .int .i64 0, .string ⟨#[]⟩, .string ⟨#[]⟩, .string ⟨#[]⟩, .bool false, .string ⟨#[]⟩, .bool false, .slice none 0 0, .int .i64 0, .slice none 0 0] 34) := H3; have f3 := free_of H3.box; have c4 := H3.at 4 (v := .string g.user) rfl; have c5 := H3.at 5 (v := .string g.pass) rfl; have s4 := H3.same (i := 4) (v := .string g.user) rfl; have s5 := H3.same (i := 5) (v := .string g.pass) rfl; have hQ3 : w3.cell? ⟨w.heap.size, 4, none⟩ = some (.string g.user) ∧ w3.cell? ⟨w.heap.size, 5, none⟩ = some (.string g.pass) ∧ Hid (BoxF w w3 #[.bool g.org.sec, .string g.org.host, .int .i64 g.org.port, .bool g.proxy, .string g.user, .string g.pass, .int .i64 g.ask.sch, .string g.ask.realm, .string g.ask.nonce, .string g.ask.opq, .bool g.ask.sess, .string g.ask.qop, .bool g.ask.stale, .slice da dl dc, .int .i64 g.count, .slice pa pl pc] #[.bool false, .string ⟨#[]⟩, .int .i64 0, .bool false, .string ⟨#[]⟩, .string ⟨#[]⟩, .int .i64 0, .string ⟨#[]⟩, .string ⟨#[]⟩, .string ⟨#[]⟩, .bool false, .string ⟨#[]⟩, .bool false, .slice none 0 0, .int .i64 0, .slice none 0 0] 34) := ⟨H3.at 4 rfl, H3.at 5 rfl, H3⟩; clear H3 hb3)
    | (go_at_call 40; refine (cloneS_any g.user z2 _).mono ?_; rintro e w2 ⟨rfl, hb2⟩; have H2 := (show BoxF _ _ _ _ _ from hQ.2.2.out).below hb2; have hQ2 : w2.cell? ⟨w.heap.size, 4, none⟩ = some (.string g.user) ∧ w2.cell? ⟨w.heap.size, 5, none⟩ = some (.string g.pass) ∧ Hid (BoxF w w2 #[.bool g.org.sec, .string g.org.host, .int .i64 g.org.port, .bool g.proxy, .string g.user, .string g.pass, .int .i64 g.ask.sch, .string g.ask.realm, .string g.ask.nonce, .string g.ask.opq, .bool g.ask.sess, .string g.ask.qop, .bool g.ask.stale, .slice da dl dc, .int .i64 g.count, .slice pa pl pc] #[.bool false, .string ⟨#[]⟩, .int .i64 0, .bool false, .string ⟨#[]⟩, .string ⟨#[]⟩, .int .i64 0, .string ⟨#[]⟩, .string ⟨#[]⟩, .string ⟨#[]⟩, .bool false, .string ⟨#[]⟩, .bool false, .slice none 0 0, .int .i64 0, .slice none 0 0] 34) := ⟨H2.at 4 rfl, H2.at 5 rfl, H2⟩; clear H2 hb2))
  have H3 := (show BoxF _ _ _ _ _ from HH3.out)
  have q6 := H3.at 6 (v := .int .i64 g.ask.sch) rfl
  have q7 := H3.at 7 (v := .string g.ask.realm) rfl
  have q8 := H3.at 8 (v := .string g.ask.nonce) rfl
  have q9 := H3.at 9 (v := .string g.ask.opq) rfl
  have q10 := H3.at 10 (v := .bool g.ask.sess) rfl
  have q11 := H3.at 11 (v := .string g.ask.qop) rfl
  have q12 := H3.at 12 (v := .bool g.ask.stale) rfl
  have q13 := H3.at 13 (v := .slice da dl dc) rfl
  clear H3
  go_wp2_with fail
  refine (freshA_any g.ask HX.out.2.2.2 da dl dc db doff _ (HX.out.1.below (show BoxF _ _ _ _ _ from HH3.out).bel)).mono ?_
  rintro e w4 ⟨⟨v, rfl, hown⟩, hb4⟩
  obtain ⟨va, vc, vg, rfl, _⟩ := hown.strs
  obtain ⟨vn, HVN⟩ : ∃ vn, Hid (g.ask.dom.length = vn) := ⟨_, rfl⟩
  rw [HVN.out] at hown ⊢
  have H4 := (show BoxF _ _ _ _ _ from HH3.out).below hb4
  have H5 := H4.set 13 (.slice va vn vc)
  have HG4 : Hid (w4.grownBy (w4.setCell ⟨w.heap.size, 13, none⟩ (.slice va vn vc)) (some w.heap.size)) := grown_setCells w4 w.heap.size 13 [.slice va vn vc]
  have HO4 : Hid (OwnS w4 w3.heap.size (.slice va vn vc) g.ask.dom ∧ w.heap.size + 1 < w3.heap.size ∧ w3.heap.size ≤ w4.heap.size) := ⟨hown, (Array.getElem?_eq_some_iff.1 (show BoxF _ _ _ _ _ from HH3.out).res).1, hb4.size⟩
  have HH4 : Hid (BoxF w w4 _ _ 34) := H4
  have HH5 : Hid (BoxF w (w4.setCell ⟨w.heap.size, 13, none⟩ (.slice va vn vc)) _ _ 34) := H5
  have s6 := H4.same (i := 6) (v := .int .i64 g.ask.sch) rfl
  have s7 := H4.same (i := 7) (v := .string g.ask.realm) rfl
  have s8 := H4.same (i := 8) (v := .string g.ask.nonce) rfl
  have s9 := H4.same (i := 9) (v := .string g.ask.opq) rfl
  have s10 := H4.same (i := 10) (v := .bool g.ask.sess) rfl
  have s11 := H4.same (i := 11) (v := .string g.ask.qop) rfl
  have s12 := H4.same (i := 12) (v := .bool g.ask.stale) rfl
  have t6 := H4.at 6 (v := .int .i64 g.ask.sch) rfl
  have t7 := H4.at 7 (v := .string g.ask.realm) rfl
  have t8 := H4.at 8 (v := .string g.ask.nonce) rfl
  have t9 := H4.at 9 (v := .string g.ask.opq) rfl
  have t10 := H4.at 10 (v := .bool g.ask.sess) rfl
  have t11 := H4.at 11 (v := .string g.ask.qop) rfl
  have t12 := H4.at 12 (v := .bool g.ask.stale) rfl
  have t13 := H4.at 13 (v := .slice da dl dc) rfl
  have t15 := H4.at 15 (v := .slice pa pl pc) rfl
  have f4 := free_of H4.box
  clear hb4 H4 H5 hown q6 q7 q8 q9 q10 q11 q12 q13
  go_wp2_with fail
  refine (eachS_any g.paths HX.out.2.2.1 pa pl pc pb poff hlen _ (HX.out.2.1.below (show BoxF _ _ _ _ _ from HH5.out).bel)).mono ?_
  rintro e w5 ⟨⟨u, rfl, hown5⟩, hb5⟩
  obtain ⟨ua, uc, ug, rfl, _⟩ := hown5.strs
  obtain ⟨un, HUN⟩ : ∃ un, Hid (g.paths.length = un) := ⟨_, rfl⟩
  rw [HUN.out] at hown5 ⊢
  have H6 := (show BoxF _ _ _ _ _ from HH5.out).below hb5
  have H7 := H6.set 15 (.slice ua un uc)
  have HH7 : Hid (BoxF w (w5.setCell ⟨w.heap.size, 15, none⟩ (.slice ua un uc)) _ _ 34) := H7
  have HG7 : Hid (w5.grownBy (w5.setCell ⟨w.heap.size, 15, none⟩ (.slice ua un uc)) (some w.heap.size)) := grown_setCells w5 w.heap.size 15 [.slice ua un uc]
  have HO5 : Hid (OwnS w5 w4.heap.size (.slice ua un uc) g.paths ∧ OwnS w5 w3.heap.size (.slice va vn vc) g.ask.dom) := ⟨ownS_mono hown5 (by simp [World.setCell]), (HO4.out.1.grown HG4.out (by have := HO4.out.2.1; omega)).below hb5⟩
  have f6 := free_of H6.box
  have r15 := H6.at 15 (v := .slice pa pl pc) rfl
  have g0 := H7.at 0 (v := .bool g.org.sec) rfl
  have g1 := H7.at 1 (v := .string g.org.host) rfl
  have g2 := H7.at 2 (v := .int .i64 g.org.port) rfl
  have g3 := H7.at 3 (v := .bool g.proxy) rfl
  have g4 := H7.at 4 (v := .string g.user) rfl
  have g5 := H7.at 5 (v := .string g.pass) rfl
  have g6 := H7.at 6 (v := .int .i64 g.ask.sch) rfl
  have g7 := H7.at 7 (v := .string g.ask.realm) rfl
  have g8 := H7.at 8 (v := .string g.ask.nonce) rfl
  have g9 := H7.at 9 (v := .string g.ask.opq) rfl
  have g10 := H7.at 10 (v := .bool g.ask.sess) rfl
  have g11 := H7.at 11 (v := .string g.ask.qop) rfl
  have g12 := H7.at 12 (v := .bool g.ask.stale) rfl
  have g13 := H7.at 13 (v := .slice va vn vc) rfl
  have g14 := H7.at 14 (v := .int .i64 g.count) rfl
  have g15 := H7.at 15 (v := .slice ua un uc) rfl
  have d0 : (w5.setCell ⟨w.heap.size, 15, none⟩ (.slice ua un uc)).cell? ⟨w.heap.size + 1, 0, none⟩ = some (.bool false) := cell_of H7.res
  have d1 : (w5.setCell ⟨w.heap.size, 15, none⟩ (.slice ua un uc)).cell? ⟨w.heap.size + 1, 1, none⟩ = some (.string ⟨#[]⟩) := cell_of H7.res
  have d2 : (w5.setCell ⟨w.heap.size, 15, none⟩ (.slice ua un uc)).cell? ⟨w.heap.size + 1, 2, none⟩ = some (.int .i64 0) := cell_of H7.res
  have d3 : (w5.setCell ⟨w.heap.size, 15, none⟩ (.slice ua un uc)).cell? ⟨w.heap.size + 1, 3, none⟩ = some (.bool false) := cell_of H7.res
  have d4 : (w5.setCell ⟨w.heap.size, 15, none⟩ (.slice ua un uc)).cell? ⟨w.heap.size + 1, 4, none⟩ = some (.string ⟨#[]⟩) := cell_of H7.res
  have d5 : (w5.setCell ⟨w.heap.size, 15, none⟩ (.slice ua un uc)).cell? ⟨w.heap.size + 1, 5, none⟩ = some (.string ⟨#[]⟩) := cell_of H7.res
  have d6 : (w5.setCell ⟨w.heap.size, 15, none⟩ (.slice ua un uc)).cell? ⟨w.heap.size + 1, 6, none⟩ = some (.int .i64 0) := cell_of H7.res
  have d7 : (w5.setCell ⟨w.heap.size, 15, none⟩ (.slice ua un uc)).cell? ⟨w.heap.size + 1, 7, none⟩ = some (.string ⟨#[]⟩) := cell_of H7.res
  have d8 : (w5.setCell ⟨w.heap.size, 15, none⟩ (.slice ua un uc)).cell? ⟨w.heap.size + 1, 8, none⟩ = some (.string ⟨#[]⟩) := cell_of H7.res
  have d9 : (w5.setCell ⟨w.heap.size, 15, none⟩ (.slice ua un uc)).cell? ⟨w.heap.size + 1, 9, none⟩ = some (.string ⟨#[]⟩) := cell_of H7.res
  have d10 : (w5.setCell ⟨w.heap.size, 15, none⟩ (.slice ua un uc)).cell? ⟨w.heap.size + 1, 10, none⟩ = some (.bool false) := cell_of H7.res
  have d11 : (w5.setCell ⟨w.heap.size, 15, none⟩ (.slice ua un uc)).cell? ⟨w.heap.size + 1, 11, none⟩ = some (.string ⟨#[]⟩) := cell_of H7.res
  have d12 : (w5.setCell ⟨w.heap.size, 15, none⟩ (.slice ua un uc)).cell? ⟨w.heap.size + 1, 12, none⟩ = some (.bool false) := cell_of H7.res
  have d13 : (w5.setCell ⟨w.heap.size, 15, none⟩ (.slice ua un uc)).cell? ⟨w.heap.size + 1, 13, none⟩ = some (.slice none 0 0) := cell_of H7.res
  have d14 : (w5.setCell ⟨w.heap.size, 15, none⟩ (.slice ua un uc)).cell? ⟨w.heap.size + 1, 14, none⟩ = some (.int .i64 0) := cell_of H7.res
  have d15 : (w5.setCell ⟨w.heap.size, 15, none⟩ (.slice ua un uc)).cell? ⟨w.heap.size + 1, 15, none⟩ = some (.slice none 0 0) := cell_of H7.res
  have fr := free_of H7.res
  clear hb5 H6 H7 hown5 f4 s6 s7 s8 s9 s10 s11 s12 t6 t7 t8 t9 t10 t11 t12 t13 t15
  go_wp2_with fail
  obtain ⟨z1, z2⟩ := setAll [.bool g.org.sec, .string g.org.host, .int .i64 g.org.port, .bool g.proxy, .string g.user, .string g.pass, .int .i64 g.ask.sch, .string g.ask.realm, .string g.ask.nonce, .string g.ask.opq, .bool g.ask.sess, .string g.ask.qop, .bool g.ask.stale, .slice va vn vc, .int .i64 g.count, .slice ua un uc] (show BoxF _ _ _ _ _ from HH7.out).res rfl
  simp only [World.setCells, Nat.reduceAdd] at z1 z2
  have hb9 := (show BoxF _ _ _ _ _ from HH7.out).bel
  clear g0 g1 g2 g3 g4 g5 g6 g7 g8 g9 g10 g11 g12 g13 g14 g15 d0 d1 d2 d3 d4 d5 d6 d7 d8 d9 d10 d11 d12 d13 d14 d15 fr
  refine bodyPost_ret (v := .agg #[.bool g.org.sec, .string g.org.host, .int .i64 g.org.port, .bool g.proxy, .string g.user, .string g.pass, .int .i64 g.ask.sch, .string g.ask.realm, .string g.ask.nonce, .string g.ask.opq, .bool g.ask.sess, .string g.ask.qop, .bool g.ask.stale, .slice va vn vc, .int .i64 g.count, .slice ua un uc]) (res_cell rfl rfl Tryd.isAgg34 Tryd.sizeOf34 rfl z1) rfl ?_
  refine ⟨⟨_, _, rfl, ?_, ?_⟩, hb9.grown z2 hb9.size (fun i hi => by injection hi with hi; omega)⟩
  · exact ownS_mono ((HO5.out.2.grown HG7.out (by have := HO4.out.2.1; omega)).grown z2 (by have := HO4.out.2.1; omega)) (by have := HO4.out.2.1; omega)
  · exact ownS_mono ((HO5.out.1.grown HG7.out (by have := HO4.out.2; omega)).grown z2 (by have := HO4.out.2; omega)) (by have := HO4.out.2; omega)
end Go.Proofs.YtemlclgdgnfhnaaDoor

/- A bank: what it has, where it lies, and what may turn. -/
namespace Go.Proofs.YtemlclgdgnfhnaaDoor
open Go.RowKit
set_option linter.unusedVariables false

/-- A bank lies in block b; its rows hold these. -/
structure BankW (w : World) (B b : Nat) (gv wv : Value) (G : List GrV) (V : List WtV) : Prop where
  blk : w.heap[b]? = some (.cells #[gv, wv] 55 (0, 0))
  low : B ≤ b
  gs : OwnK 16 34 w B gv (G.map grCells)
  ws : OwnK 13 126 w B wv (V.map wtCells)
  go : ∀ v ∈ G, GrOwn w B v
  wo : ∀ v ∈ V, WtOwn w B v
  gf : ∀ v ∈ G, GrFit v.g
  glen : G.length ≤ 8
  vlen : V.length ≤ 8
/-- What an operation of the bank may turn: its block, and its rows'; what these are then is new, or was theirs. -/
structure BankStep (b : Nat) (gv wv : Value) (w w' : World) (gv' wv' : Value) : Prop where
  os : w'.os = w.os
  tape : w'.tape = w.tape
  output : w'.output = w.output
  size : w.heap.size ≤ w'.heap.size
  keep : ∀ x, x < w.heap.size → x ≠ b → gv.ownBlock ≠ some x → wv.ownBlock ≠ some x → w'.heap[x]? = w.heap[x]? ∧ gv'.ownBlock ≠ some x ∧ wv'.ownBlock ≠ some x
theorem BankStep.trans {b : Nat} {gv wv gv' wv' gv2 wv2 : Value} {w w' w2 : World} (h : BankStep b gv wv w w' gv' wv') (k : BankStep b gv' wv' w' w2 gv2 wv2) : BankStep b gv wv w w2 gv2 wv2 :=
  ⟨k.os.trans h.os, k.tape.trans h.tape, k.output.trans h.output, Nat.le_trans h.size k.size, fun x hx h1 h2 h3 => by
    obtain ⟨e1, e2, e3⟩ := h.keep x hx h1 h2 h3
    obtain ⟨f1, f2, f3⟩ := k.keep x (Nat.lt_of_lt_of_le hx h.size) h1 e2 e3
    exact ⟨f1.trans e1, f2, f3⟩⟩
theorem BankStep.of_below {b : Nat} {gv wv : Value} {w w' : World} (hb : Below w.heap.size w w') : BankStep b gv wv w w' gv wv :=
  ⟨hb.os, hb.tape, hb.output, hb.size, fun x hx _ h2 h3 => ⟨hb.block x hx, h2, h3⟩⟩
/-- Of what lay below the bank nothing turns. -/
theorem BankStep.below {b B : Nat} {gv wv gv' wv' : Value} {w w' : World} (h : BankStep b gv wv w w' gv' wv') (hb : B ≤ b) (hg : ∀ x, gv.ownBlock = some x → B ≤ x) (hw : ∀ x, wv.ownBlock = some x → B ≤ x) (hB : B ≤ w.heap.size) : Below B w w' :=
  ⟨h.os, h.tape, h.output, h.size, fun x hx => (h.keep x (by omega) (by omega) (fun e => by have := hg x e; omega) (fun e => by have := hw x e; omega)).1⟩
theorem BankW.below {w w' : World} {B b : Nat} {gv wv : Value} {G : List GrV} {V : List WtV} (h : BankW w B b gv wv G V) (hb : Below w.heap.size w w') : BankW w' B b gv wv G V :=
  ⟨(hb.block b (Array.getElem?_eq_some_iff.1 h.blk).1).trans h.blk, h.low, h.gs.below hb, h.ws.below hb, fun v hv => (h.go v hv).below hb, fun v hv => OwnS.below (h.wo v hv) hb, h.gf, h.glen, h.vlen⟩
def realmP (g x : GrP) : Bool := realmB g.org g.proxy g.ask.realm x
/-- A grant kept, in the place of one of its realm. -/
def putL (l : List GrP) (g : GrP) : List GrP := last8 (l.filter (fun x => !realmP g x) ++ [g])
theorem step_trans' {w w' : World} {row : Option Nat} {b : Nat} {gv wv : Value} (hg : w.grownBy w' row) (hr : ∀ x, row = some x → gv.ownBlock = some x ∨ wv.ownBlock = some x ∨ x = b) : BankStep b gv wv w w' gv wv :=
  ⟨hg.os, hg.tape, hg.output, hg.size, fun x hx h1 h2 h3 => ⟨hg.block x hx (fun e => by
    rcases hr x e.symm with h | h | h
    · exact h2 h
    · exact h3 h
    · exact h1 h), h2, h3⟩⟩
/-- What is written into is of another type. -/
def Typed (w : World) (row : Option Nat) (t : TypeId) : Prop := ∀ b, row = some b → ∃ cs, w.heap[b]? = some (.cells cs t (0, 0))
theorem OwnK.typed {k B : Nat} {t : TypeId} {w : World} {v : Value} {xs : List (List Value)} (h : OwnK k t w B v xs) : Typed w v.ownBlock t := ownK_typed h
theorem OwnK.other {k B : Nat} {t u : TypeId} {w w' : World} {v : Value} {xs : List (List Value)} {row : Option Nat} (h : OwnK k t w B v xs) (hg : w.grownBy w' row) (ht : Typed w row u) (hne : u ≠ t) : OwnK k t w' B v xs := by
  refine h.kept hg ?_
  cases hv : v.ownBlock with
  | none => exact .inl rfl
  | some x =>
    refine .inr fun e => ?_
    obtain ⟨c1, h1⟩ := h.typed x hv
    obtain ⟨c2, h2⟩ := ht x e.symm
    rw [h1] at h2
    injection h2 with h2
    injection h2 with _ h3
    exact hne h3.symm
theorem OwnS.other {B : Nat} {u : TypeId} {w w' : World} {v : Value} {xs : List ByteArray} {row : Option Nat} (h : OwnS w B v xs) (hg : w.grownBy w' row) (ht : Typed w row u) (hne : u ≠ 9) : OwnS w' B v xs := by
  cases hr : row with
  | none =>
    subst hr
    refine World.ownsRow.kept h hg ?_
    cases v.ownBlock with
    | none => exact .inl rfl
    | some x => exact .inr (by simp)
  | some x =>
    subst hr
    obtain ⟨cs, hc⟩ := ht x rfl
    exact ownS_grownB h hc hne hg
theorem GrOwn.other {B : Nat} {u : TypeId} {w w' : World} {v : GrV} {row : Option Nat} (h : GrOwn w B v) (hg : w.grownBy w' row) (ht : Typed w row u) (hne : u ≠ 9) : GrOwn w' B v := ⟨h.dom.other hg ht hne, h.paths.other hg ht hne⟩
theorem block_other {w w' : World} {row : Option Nat} {t u : TypeId} {b : Nat} {cs : Array Value} (h : w.heap[b]? = some (.cells cs t (0, 0))) (hg : w.grownBy w' row) (ht : Typed w row u) (hne : u ≠ t) : w'.heap[b]? = some (.cells cs t (0, 0)) := by
  refine (hg.block b (Array.getElem?_eq_some_iff.1 h).1 (fun e => ?_)).trans h
  obtain ⟨c2, h2⟩ := ht b e.symm
  rw [h] at h2
  injection h2 with h2
  injection h2 with _ h3
  exact hne h3.symm
theorem apart_of {w : World} {k B b : Nat} {t u : TypeId} {v : Value} {xs : List (List Value)} {cs : Array Value} (h : OwnK k t w B v xs) (hb : w.heap[b]? = some (.cells cs u (0, 0))) (hne : u ≠ t) : v.ownBlock ≠ some b := fun e => by
  obtain ⟨c2, h2⟩ := h.typed b e
  rw [hb] at h2
  injection h2 with h2
  injection h2 with _ h3
  exact hne h3
theorem Typed.block {w : World} {b : Nat} {t : TypeId} {cs : Array Value} (h : w.heap[b]? = some (.cells cs t (0, 0))) : Typed w (some b) t := fun x hx => by
  injection hx with hx
  subst hx
  exact ⟨cs, h⟩
/-- The bank's row of grants anew. -/
theorem bank_grants {w w2 w3 : World} {B b : Nat} {gv wv gv' : Value} {G G' : List GrV} {V : List WtV} (h : BankW w B b gv wv G V) (hb : Below w.heap.size w w2) (hg : w2.grownBy w3 gv.ownBlock) (hown : OwnK 16 34 w3 B gv' (G'.map grCells))
    (hnew : ∀ k, gv'.ownBlock = some k → gv.ownBlock = some k ∨ w2.heap.size ≤ k) (hG : ∀ v ∈ G', (v ∈ G ∨ GrOwn w2 B v) ∧ GrFit v.g) (hl : G'.length ≤ 8) :
    BankW (w3.setCell ⟨b, 0, none⟩ gv') B b gv' wv G' V ∧ BankStep b gv wv w (w3.setCell ⟨b, 0, none⟩ gv') gv' wv := by
  have h2 := h.below hb
  have t2 := h2.gs.typed
  have hb3 := block_other h2.blk hg t2 (by decide)
  have hw3 := h2.ws.other hg t2 (by decide)
  have hb4 : (w3.setCell ⟨b, 0, none⟩ gv').heap[b]? = some (.cells #[gv', wv] 55 (0, 0)) := heap_setCell_same w3 b 0 _ _ gv' hb3
  have g34 : w3.grownBy (w3.setCell ⟨b, 0, none⟩ gv') (some b) := grown_setCells w3 b 0 [gv']
  have t3 := Typed.block hb3
  refine ⟨⟨hb4, h.low, hown.other g34 t3 (by decide), hw3.other g34 t3 (by decide), fun v hv => ?_, fun v hv => OwnS.other (OwnS.other (h2.wo v hv) hg t2 (by decide)) g34 t3 (by decide), fun v hv => (hG v hv).2, hl, h.vlen⟩, ?_⟩
  · rcases (hG v hv).1 with h1 | h1
    · exact ((h2.go v h1).other hg t2 (by decide)).other g34 t3 (by decide)
    · exact (h1.other hg t2 (by decide)).other g34 t3 (by decide)
  · refine ⟨g34.os.trans (hg.os.trans hb.os), g34.tape.trans (hg.tape.trans hb.tape), g34.output.trans (hg.output.trans hb.output), Nat.le_trans hb.size (Nat.le_trans hg.size g34.size), fun x hx h1 h2' h3 => ⟨?_, fun e => ?_, h3⟩⟩
    · have hx2 := Nat.lt_of_lt_of_le hx hb.size
      rw [g34.block x (Nat.lt_of_lt_of_le hx2 hg.size) (fun e => h1 (by injection e)), hg.block x hx2 (fun e => h2' e.symm), hb.block x hx]
    · rcases hnew x e with h4 | h4
      · exact h2' h4
      · have := hb.size
        omega
end Go.Proofs.YtemlclgdgnfhnaaDoor

/- A region driven by hand: an operation taken first. -/
namespace Go.Proofs.YtemlclgdgnfhnaaDoor
open Go.RowKit

section
variable {P : Program} {ops : Array Oper} {Q : Exit → Act → World → Prop} {md : Region.Mode} {S : World → Prop}
theorem takeH {i : Nat} {oi : Oper} {d : Option Tmp} {v : Value} {fuel : Nat} {listed : Array Bool} {a : Act} {w : World} (hi : ops[i]? = some oi) (hd : oi.dst = d)
    (hs : Region.noSelect ops = true) (hf : Region.free md ops listed i = true) (hr : (Region.ready md ops listed).contains i = true)
    (hQ : ∀ c a w, Q (.panic c) (a.put oi.dst v) w → Q (.panic c) a w) (hw : Region.wanted oi (yielded ops a.tmps) = true) (hy : ∀ w, S w → (execOp a.eval oi).run P w = .ok (.value v) w) (hS : S w)
    (h : wpAnyH P md ops Q S fuel (listed.setIfInBounds i true) (a.put d v) w) : wpAnyH P md ops Q S (fuel + 1) listed a w := by
  subst hd
  exact wpAnyH_take hi hs hf hr hQ (Or.inl ⟨hw, hy⟩) hS h
theorem skipH {i : Nat} {oi : Oper} {d : Option Tmp} {fuel : Nat} {listed : Array Bool} {a : Act} {w : World} (hi : ops[i]? = some oi) (hd : oi.dst = d)
    (hs : Region.noSelect ops = true) (hf : Region.free md ops listed i = true) (hr : (Region.ready md ops listed).contains i = true)
    (hQ : ∀ c a w, Q (.panic c) (a.put oi.dst undef) w → Q (.panic c) a w) (hw : Region.wanted oi (yielded ops a.tmps) = false) (hS : S w)
    (h : wpAnyH P md ops Q S fuel (listed.setIfInBounds i true) (a.put d undef) w) : wpAnyH P md ops Q S (fuel + 1) listed a w := by
  subst hd
  exact wpAnyH_take hi hs hf hr hQ (Or.inr ⟨hw, rfl⟩) hS h
end
end Go.Proofs.YtemlclgdgnfhnaaDoor

/- A bank keeps a grant. -/
namespace Go.Proofs.YtemlclgdgnfhnaaDoor
open Go.RowKit
set_option linter.unusedVariables false


theorem facts16 {W : World} {b : Nat} {g : GrP} {da pa : Option Addr} {dl dc pl pc : Nat} (h : W.heap[b]? = some (.cells #[.bool g.org.sec, .string g.org.host, .int .i64 g.org.port, .bool g.proxy, .string g.user, .string g.pass, .int .i64 g.ask.sch, .string g.ask.realm, .string g.ask.nonce, .string g.ask.opq, .bool g.ask.sess, .string g.ask.qop, .bool g.ask.stale, .slice da dl dc, .int .i64 g.count, .slice pa pl pc] 34 (0, 0))) :
    W.cell? ⟨b, 0, none⟩ = some (.bool g.org.sec) ∧ W.cell? ⟨b, 1, none⟩ = some (.string g.org.host) ∧ W.cell? ⟨b, 2, none⟩ = some (.int .i64 g.org.port) ∧ W.cell? ⟨b, 3, none⟩ = some (.bool g.proxy) ∧ W.cell? ⟨b, 4, none⟩ = some (.string g.user) ∧ W.cell? ⟨b, 5, none⟩ = some (.string g.pass) ∧ W.cell? ⟨b, 6, none⟩ = some (.int .i64 g.ask.sch) ∧ W.cell? ⟨b, 7, none⟩ = some (.string g.ask.realm) ∧ W.cell? ⟨b, 8, none⟩ = some (.string g.ask.nonce) ∧ W.cell? ⟨b, 9, none⟩ = some (.string g.ask.opq) ∧ W.cell? ⟨b, 10, none⟩ = some (.bool g.ask.sess) ∧ W.cell? ⟨b, 11, none⟩ = some (.string g.ask.qop) ∧ W.cell? ⟨b, 12, none⟩ = some (.bool g.ask.stale) ∧ W.cell? ⟨b, 13, none⟩ = some (.slice da dl dc) ∧ W.cell? ⟨b, 14, none⟩ = some (.int .i64 g.count) ∧ W.cell? ⟨b, 15, none⟩ = some (.slice pa pl pc) := ⟨(cell_of (i := 0) h).trans rfl, (cell_of (i := 1) h).trans rfl, (cell_of (i := 2) h).trans rfl, (cell_of (i := 3) h).trans rfl, (cell_of (i := 4) h).trans rfl, (cell_of (i := 5) h).trans rfl, (cell_of (i := 6) h).trans rfl, (cell_of (i := 7) h).trans rfl, (cell_of (i := 8) h).trans rfl, (cell_of (i := 9) h).trans rfl, (cell_of (i := 10) h).trans rfl, (cell_of (i := 11) h).trans rfl, (cell_of (i := 12) h).trans rfl, (cell_of (i := 13) h).trans rfl, (cell_of (i := 14) h).trans rfl, (cell_of (i := 15) h).trans rfl⟩
/-- Where a grant was cloned. -/
structure PutA (w w0 w1 : World) (B b : Nat) (gv wv : Value) (G : List GrV) (V : List WtV) (g : GrP) (v u : Value) (box : Array Value) : Prop where
  bank : BankW w1 B b gv wv G V
  old : BankW w B b gv wv G V
  bel : Below w.heap.size w w1
  own : GrOwn w1 w.heap.size ⟨g, v, u⟩
  box : w1.heap[w.heap.size]? = some (.cells box 34 (0, 0))
  low : B ≤ w.heap.size
theorem putA_of {w w0 w1 : World} {B b : Nat} {gv wv : Value} {G : List GrV} {V : List WtV} {g : GrP} {v u : Value} {box : Array Value} (h : BankW w B b gv wv G V ∧ B ≤ w.heap.size) (hb0 : Below w.heap.size w w0) (hx : w0.heap[w.heap.size]? = some (.cells box 34 (0, 0))) (hb1 : Below w0.heap.size w0 w1) (hv : OwnS w1 w0.heap.size v g.ask.dom) (hu : OwnS w1 w0.heap.size u g.paths) : PutA w w0 w1 B b gv wv G V g v u box :=
  have hb := hb0.trans (hb1.mono hb0.size)
  ⟨h.1.below hb, h.1, hb, ⟨ownS_mono hv hb0.size, ownS_mono hu hb0.size⟩, (hb1.block _ (Array.getElem?_eq_some_iff.1 hx).1).trans hx, h.2⟩
theorem putA_below {w w0 w1 w2 : World} {B b : Nat} {gv wv : Value} {G : List GrV} {V : List WtV} {g : GrP} {v u : Value} {box : Array Value} (h : PutA w w0 w1 B b gv wv G V g v u box) (hb : Below w1.heap.size w1 w2) : PutA w w0 w2 B b gv wv G V g v u box :=
  ⟨h.bank.below hb, h.old, h.bel.trans (hb.mono h.bel.size), h.own.below hb, (hb.block _ (Array.getElem?_eq_some_iff.1 h.box).1).trans h.box, h.low⟩
theorem realm_pred {w : World} {val : Value} {G : List GrV} {B a b c : Nat} {o : OrgV} {p : Bool} {r : ByteArray} (hown : OwnK 16 34 w B val (G.map grCells)) (h3 : Box3 w a b c o p r) :
    PredK Tryd.prog 47 #[.pointer (some ⟨a, 0, none⟩), .pointer (some ⟨b, 0, none⟩), .pointer (some ⟨c, 0, none⟩)] (onG (fun o' p' r' => orgB o' o && (p' == p && r'.toList == r.toList))) (G.map grCells) w val.ownBlock := by
  intro W x hx hg
  obtain ⟨v, hv, rfl⟩ := List.mem_map.1 hx
  have ht := hown.typed
  exact grantIs_any v (hown.one _ hx) o p r a b c W ⟨block_other h3.org hg ht (by decide), block_other h3.prx hg ht (by decide), block_other h3.txt hg ht (by decide)⟩
theorem filt_map (q : OrgV → Bool → ByteArray → Bool) (G : List GrV) : (G.map grCells).filter (fun y => !onG q y) = (G.filter (fun v => !q v.g.org v.g.proxy v.g.ask.realm)).map grCells := by
  rw [List.filter_map]
  rfl
theorem last8_mem {α : Type} {l : List α} {x : α} (h : x ∈ last8 l) : x ∈ l := List.mem_of_mem_drop h
theorem last8_len {α : Type} (l : List α) : (last8 l).length ≤ 8 := by unfold last8; rw [List.length_drop]; omega
theorem last8_pos {α : Type} (l : List α) (h : 0 < l.length) : 0 < (last8 l).length := by unfold last8; rw [List.length_drop]; omega
/-- The grant among the others. -/
theorem put_ren {w w0 w2 : World} {B b a1 b1 c1 : Nat} {gv wv : Value} {G : List GrV} {V : List WtV} (g : GrP) (hg : GrFit g) (v u : Value) {box : Array Value} (h : PutA w w0 w2 B b gv wv G V g v u box) (h3 : Box3 w2 a1 b1 c1 g.org g.proxy g.ask.realm) :
    Calls Tryd.prog 34 #[gv, .agg #[.bool g.org.sec, .string g.org.host, .int .i64 g.org.port, .bool g.proxy, .string g.user, .string g.pass, .int .i64 g.ask.sch, .string g.ask.realm, .string g.ask.nonce, .string g.ask.opq, .bool g.ask.sess, .string g.ask.qop, .bool g.ask.stale, v, .int .i64 g.count, u], .func (.func 47) #[] #[.pointer (some ⟨a1, 0, none⟩), .pointer (some ⟨b1, 0, none⟩), .pointer (some ⟨c1, 0, none⟩)]] w2 fun e w3 => ∃ g3 n3 c3, e = .returned (.slice (some ⟨g3, 0, none⟩) n3 c3) ∧ Hid (0 < n3 ∧ w3.heap[w.heap.size]? = some (.cells box 34 (0, 0)) ∧ w3.heap[b]? = some (.cells #[gv, wv] 55 (0, 0)) ∧ (w3.setCell ⟨b, 0, none⟩ (.slice (some ⟨g3, 0, none⟩) n3 c3)).heap[w.heap.size]? = some (.cells box 34 (0, 0)) ∧
      ∃ gv' G', Hid (BankW (w3.setCell ⟨b, 0, none⟩ (.slice (some ⟨g3, 0, none⟩) n3 c3)) B b gv' wv G' V ∧ G'.map (·.g) = putL (G.map (·.g)) g ∧ BankStep b gv wv w (w3.setCell ⟨b, 0, none⟩ (.slice (some ⟨g3, 0, none⟩) n3 c3)) gv' wv)) := by
  have hlow := h.low
  have hbs := h.bel.size
  refine (renG_any gv (G.map grCells) B (by rw [List.length_map]; have := h.bank.glen; omega) w2 (by omega) h.bank.gs ⟨g, v, u⟩ h.own.one _ _ _ (enters_at Tryd.func47 (by kernel_rfl) rfl) (realm_pred h.bank.gs h3)).mono ?_
  rintro e w3 ⟨u3, rfl, H⟩
  obtain ⟨hown, hgr, hnew⟩ := H.out
  rw [filt_map, show [grCells ⟨g, v, u⟩] = [(⟨g, v, u⟩ : GrV)].map grCells from rfl, ← List.map_append, ← last8_map] at hown
  have hbox : w3.heap[w.heap.size]? = some (.cells box 34 (0, 0)) := by
    refine (hgr.block _ (Array.getElem?_eq_some_iff.1 h.box).1 (fun e => ?_)).trans h.box
    have := (h.old.gs.lt _ e.symm).2
    omega
  have hblk := block_other h.bank.blk hgr h.bank.gs.typed (by decide)
  have hne : w.heap.size ≠ b := fun e => by
    have h1 := h.old.blk
    rw [← e, Array.getElem?_eq_none (Nat.le_refl _)] at h1
    cases h1
  rcases hown.forms with ⟨_, e2⟩ | ⟨g3, c3, rfl, _, _, _, _⟩
  · exfalso
    have := congrArg List.length e2
    rw [List.length_map, List.length_nil] at this
    have h8 := last8_pos (G.filter (fun v => !(orgB v.g.org g.org && (v.g.proxy == g.proxy && v.g.ask.realm.toList == g.ask.realm.toList))) ++ [(⟨g, v, u⟩ : GrV)]) (by simp)
    omega
  · obtain ⟨hW, hS⟩ := bank_grants h.old h.bel hgr hown (fun k hk => (hnew k hk).imp id (fun h => h)) (fun x hx => by
      rcases List.mem_append.1 (last8_mem hx) with hx | hx
      · have := (List.mem_filter.1 hx).1
        exact ⟨.inl this, h.old.gf x this⟩
      · rw [List.mem_singleton.1 hx]
        exact ⟨.inr (h.own.mono hlow), hg⟩) (last8_len _)
    refine ⟨g3, _, c3, rfl, ⟨?_, hbox, hblk, ?_, _, _, ⟨hW, ?_, hS⟩⟩⟩
    · rw [List.length_map]
      exact last8_pos _ (by simp)
    · exact (Below.heap_setCell w3 ⟨b, 0, none⟩ _ w.heap.size hne).trans hbox
    · unfold putL
      rw [last8_map, List.map_append, List.filter_map]
      rfl

set_option maxRecDepth 100000 in
set_option maxHeartbeats 4000000 in
theorem put_at (g : GrP) (hg : GrFit g) (da pa : Option Addr) (dl dc pl pc db doff pb poff : Nat) (w : World) (hd : Strs w da dl db doff g.ask.dom) (hp : Strs w pa pl pb poff g.paths)
    (B b : Nat) (gv wv : Value) (G : List GrV) (V : List WtV) (hB : BankW w B b gv wv G V) (hB2 : B ≤ w.heap.size) :
    Calls Tryd.prog 19 #[.pointer (some ⟨b, 0, none⟩), .agg #[.bool g.org.sec, .string g.org.host, .int .i64 g.org.port, .bool g.proxy, .string g.user, .string g.pass, .int .i64 g.ask.sch, .string g.ask.realm, .string g.ask.nonce, .string g.ask.opq, .bool g.ask.sess, .string g.ask.qop, .bool g.ask.stale, .slice da dl dc, .int .i64 g.count, .slice pa pl pc]] w fun e w' => e = .returned (.tuple #[]) ∧ ∃ gv' G', Hid (BankW w' B b gv' wv G' V ∧ G'.map (·.g) = putL (G.map (·.g)) g ∧ BankStep b gv wv w w' gv' wv) := by
  have HD : Hid (Strs w da dl db doff g.ask.dom ∧ Strs w pa pl pb poff g.paths ∧ GrFit g) := ⟨hd, hp, hg⟩
  have HK : Hid (BankW w B b gv wv G V ∧ B ≤ w.heap.size) := ⟨hB, hB2⟩
  have hb0 : Below w.heap.size w (w.alloc (.cells #[.bool g.org.sec, .string g.org.host, .int .i64 g.org.port, .bool g.proxy, .string g.user, .string g.pass, .int .i64 g.ask.sch, .string g.ask.realm, .string g.ask.nonce, .string g.ask.opq, .bool g.ask.sess, .string g.ask.qop, .bool g.ask.stale, .slice da dl dc, .int .i64 g.count, .slice pa pl pc] 34)) := (Below.refl _ _).alloc (Nat.le_refl _) _
  have hn0 := heap_alloc_new w (.cells #[.bool g.org.sec, .string g.org.host, .int .i64 g.org.port, .bool g.proxy, .string g.user, .string g.pass, .int .i64 g.ask.sch, .string g.ask.realm, .string g.ask.nonce, .string g.ask.opq, .bool g.ask.sess, .string g.ask.qop, .bool g.ask.stale, .slice da dl dc, .int .i64 g.count, .slice pa pl pc] 34)
  have HB0 : Hid (Below w.heap.size w (w.alloc (.cells #[.bool g.org.sec, .string g.org.host, .int .i64 g.org.port, .bool g.proxy, .string g.user, .string g.pass, .int .i64 g.ask.sch, .string g.ask.realm, .string g.ask.nonce, .string g.ask.opq, .bool g.ask.sess, .string g.ask.qop, .bool g.ask.stale, .slice da dl dc, .int .i64 g.count, .slice pa pl pc] 34)).drew ∧ (w.alloc (.cells #[.bool g.org.sec, .string g.org.host, .int .i64 g.org.port, .bool g.proxy, .string g.user, .string g.pass, .int .i64 g.ask.sch, .string g.ask.realm, .string g.ask.nonce, .string g.ask.opq, .bool g.ask.sess, .string g.ask.qop, .bool g.ask.stale, .slice da dl dc, .int .i64 g.count, .slice pa pl pc] 34)).drew.heap[w.heap.size]? = some (.cells #[.bool g.org.sec, .string g.org.host, .int .i64 g.org.port, .bool g.proxy, .string g.user, .string g.pass, .int .i64 g.ask.sch, .string g.ask.realm, .string g.ask.nonce, .string g.ask.opq, .bool g.ask.sess, .string g.ask.qop, .bool g.ask.stale, .slice da dl dc, .int .i64 g.count, .slice pa pl pc] 34 (0, 0))) := ⟨hb0.drew, hn0⟩
  clear hd hp hg hB hB2 hb0 hn0
  go_enter Tryd.func19, Tryd.ntmps19
  go_wp2_with fail
  refine wp_region_held_drew (S := fun W => W.cell? ⟨w.heap.size, 0, none⟩ = some (.bool g.org.sec) ∧ W.cell? ⟨w.heap.size, 1, none⟩ = some (.string g.org.host) ∧ W.cell? ⟨w.heap.size, 2, none⟩ = some (.int .i64 g.org.port) ∧ W.cell? ⟨w.heap.size, 3, none⟩ = some (.bool g.proxy) ∧ W.cell? ⟨w.heap.size, 4, none⟩ = some (.string g.user) ∧ W.cell? ⟨w.heap.size, 5, none⟩ = some (.string g.pass) ∧ W.cell? ⟨w.heap.size, 6, none⟩ = some (.int .i64 g.ask.sch) ∧ W.cell? ⟨w.heap.size, 7, none⟩ = some (.string g.ask.realm) ∧ W.cell? ⟨w.heap.size, 8, none⟩ = some (.string g.ask.nonce) ∧ W.cell? ⟨w.heap.size, 9, none⟩ = some (.string g.ask.opq) ∧ W.cell? ⟨w.heap.size, 10, none⟩ = some (.bool g.ask.sess) ∧ W.cell? ⟨w.heap.size, 11, none⟩ = some (.string g.ask.qop) ∧ W.cell? ⟨w.heap.size, 12, none⟩ = some (.bool g.ask.stale) ∧ W.cell? ⟨w.heap.size, 13, none⟩ = some (.slice da dl dc) ∧ W.cell? ⟨w.heap.size, 14, none⟩ = some (.int .i64 g.count) ∧ W.cell? ⟨w.heap.size, 15, none⟩ = some (.slice pa pl pc)) (by kernel_rfl) (facts16 HB0.out.2) (fun hHeld => ?_)
  refine takeH (i := 0) (d := some 4) (v := ?_) rfl rfl (by kernel_rfl) (by kernel_rfl) (by kernel_rfl) (fun _ _ _ h => h) (by rfl) ?_ (by assumption) ?_
  rotate_left
  · intro w hSw; (try dsimp only at hSw); go_simp; with_reducible rfl
  try simp only [Act.put, List.setIfInBounds_toArray, List.set_cons_zero, List.set_cons_succ]
  refine takeH (i := 1) (d := some 5) (v := ?_) rfl rfl (by kernel_rfl) (by kernel_rfl) (by kernel_rfl) (fun _ _ _ h => h) (by rfl) ?_ (by assumption) ?_
  rotate_left
  · intro w hSw; (try dsimp only at hSw); go_simp; with_reducible rfl
  try simp only [Act.put, List.setIfInBounds_toArray, List.set_cons_zero, List.set_cons_succ]
  refine takeH (i := 2) (d := some 6) (v := ?_) rfl rfl (by kernel_rfl) (by kernel_rfl) (by kernel_rfl) (fun _ _ _ h => h) (by rfl) ?_ (by assumption) ?_
  rotate_left
  · intro w hSw; (try dsimp only at hSw); go_simp; with_reducible rfl
  try simp only [Act.put, List.setIfInBounds_toArray, List.set_cons_zero, List.set_cons_succ]
  refine takeH (i := 3) (d := some 7) (v := ?_) rfl rfl (by kernel_rfl) (by kernel_rfl) (by kernel_rfl) (fun _ _ _ h => h) (by rfl) ?_ (by assumption) ?_
  rotate_left
  · intro w hSw; (try dsimp only at hSw); go_simp; with_reducible rfl
  try simp only [Act.put, List.setIfInBounds_toArray, List.set_cons_zero, List.set_cons_succ]
  refine takeH (i := 5) (d := some 9) (v := ?_) rfl rfl (by kernel_rfl) (by kernel_rfl) (by kernel_rfl) (fun _ _ _ h => h) (by rfl) ?_ (by assumption) ?_
  rotate_left
  · intro w hSw; (try dsimp only at hSw); go_simp; with_reducible rfl
  try simp only [Act.put, List.setIfInBounds_toArray, List.set_cons_zero, List.set_cons_succ]
  refine takeH (i := 7) (d := some 11) (v := ?_) rfl rfl (by kernel_rfl) (by kernel_rfl) (by kernel_rfl) (fun _ _ _ h => h) (by rfl) ?_ (by assumption) ?_
  rotate_left
  · intro w hSw; (try dsimp only at hSw); go_simp; with_reducible rfl
  try simp only [Act.put, List.setIfInBounds_toArray, List.set_cons_zero, List.set_cons_succ]
  refine takeH (i := 8) (d := some 12) (v := ?_) rfl rfl (by kernel_rfl) (by kernel_rfl) (by kernel_rfl) (fun _ _ _ h => h) (by rfl) ?_ (by assumption) ?_
  rotate_left
  · intro w hSw; (try dsimp only at hSw); go_simp; with_reducible rfl
  try simp only [Act.put, List.setIfInBounds_toArray, List.set_cons_zero, List.set_cons_succ]
  refine takeH (i := 9) (d := some 13) (v := ?_) rfl rfl (by kernel_rfl) (by kernel_rfl) (by kernel_rfl) (fun _ _ _ h => h) (by rfl) ?_ (by assumption) ?_
  rotate_left
  · intro w hSw; (try dsimp only at hSw); go_simp; with_reducible rfl
  try simp only [Act.put, List.setIfInBounds_toArray, List.set_cons_zero, List.set_cons_succ]
  refine takeH (i := 10) (d := some 14) (v := ?_) rfl rfl (by kernel_rfl) (by kernel_rfl) (by kernel_rfl) (fun _ _ _ h => h) (by rfl) ?_ (by assumption) ?_
  rotate_left
  · intro w hSw; (try dsimp only at hSw); go_simp; with_reducible rfl
  try simp only [Act.put, List.setIfInBounds_toArray, List.set_cons_zero, List.set_cons_succ]
  refine takeH (i := 11) (d := some 15) (v := ?_) rfl rfl (by kernel_rfl) (by kernel_rfl) (by kernel_rfl) (fun _ _ _ h => h) (by rfl) ?_ (by assumption) ?_
  rotate_left
  · intro w hSw; (try dsimp only at hSw); go_simp; with_reducible rfl
  try simp only [Act.put, List.setIfInBounds_toArray, List.set_cons_zero, List.set_cons_succ]
  refine takeH (i := 12) (d := some 16) (v := ?_) rfl rfl (by kernel_rfl) (by kernel_rfl) (by kernel_rfl) (fun _ _ _ h => h) (by rfl) ?_ (by assumption) ?_
  rotate_left
  · intro w hSw; (try dsimp only at hSw); go_simp; with_reducible rfl
  try simp only [Act.put, List.setIfInBounds_toArray, List.set_cons_zero, List.set_cons_succ]
  refine takeH (i := 13) (d := some 17) (v := ?_) rfl rfl (by kernel_rfl) (by kernel_rfl) (by kernel_rfl) (fun _ _ _ h => h) (by rfl) ?_ (by assumption) ?_
  rotate_left
  · intro w hSw; (try dsimp only at hSw); go_simp; with_reducible rfl
  try simp only [Act.put, List.setIfInBounds_toArray, List.set_cons_zero, List.set_cons_succ]
  refine wpAnyH_ready (rs := [4, 6]) (by kernel_rfl) (by simp) ?_
  refine AllReadyH.cons (by rfl) (fun K hKK => ?_) (AllReadyH.cons (by rfl) (fun K hKK => ?_) AllReadyH.nil)
  · skip
    have hcb := cell_of (i := 0) (show BankW (w.alloc (.cells #[.bool g.org.sec, .string g.org.host, .int .i64 g.org.port, .bool g.proxy, .string g.user, .string g.pass, .int .i64 g.ask.sch, .string g.ask.realm, .string g.ask.nonce, .string g.ask.opq, .bool g.ask.sess, .string g.ask.qop, .bool g.ask.stale, .slice da dl dc, .int .i64 g.count, .slice pa pl pc] 34)).drew B b gv wv G V from (show BankW _ B b gv wv G V from HK.out.1.below HB0.out.1)).blk
    simp only [List.getElem?_toArray, List.getElem?_cons_zero] at hcb
    go_simp
    refine hKK.out _ _ hHeld (fun hHeld => ?_)
    clear hKK K hcb
    try simp only [Act.put, List.setIfInBounds_toArray, List.set_cons_zero, List.set_cons_succ]
    refine wpAnyH_ready (rs := [6]) (by kernel_rfl) (by simp) ?_
    refine AllReadyH.cons (by rfl) (fun K hKK => ?_) AllReadyH.nil
    go_simp
    refine (freshG_at g HD.out.2.2 da pa dl dc pl pc db doff pb poff _ (HD.out.1.below HB0.out.1) (HD.out.2.1.below HB0.out.1)).mono ?_
    rintro e w1 ⟨⟨v, u, rfl, hv, hu⟩, hb1⟩
    have H1 : Hid (PutA w (w.alloc (.cells #[.bool g.org.sec, .string g.org.host, .int .i64 g.org.port, .bool g.proxy, .string g.user, .string g.pass, .int .i64 g.ask.sch, .string g.ask.realm, .string g.ask.nonce, .string g.ask.opq, .bool g.ask.sess, .string g.ask.qop, .bool g.ask.stale, .slice da dl dc, .int .i64 g.count, .slice pa pl pc] 34)).drew w1 B b gv wv G V g v u #[.bool g.org.sec, .string g.org.host, .int .i64 g.org.port, .bool g.proxy, .string g.user, .string g.pass, .int .i64 g.ask.sch, .string g.ask.realm, .string g.ask.nonce, .string g.ask.opq, .bool g.ask.sess, .string g.ask.qop, .bool g.ask.stale, .slice da dl dc, .int .i64 g.count, .slice pa pl pc]) := putA_of HK.out HB0.out.1 HB0.out.2 hb1 hv hu
    clear hv hu hb1
    go_wp2_with fail
    refine hKK.out _ _ (facts16 H1.out.box) (fun hHeld => ?_)
    clear hKK K
    try simp only [Act.put, List.setIfInBounds_toArray, List.set_cons_zero, List.set_cons_succ]
    refine wpAnyH_ready (rs := [14]) (by kernel_rfl) (by simp) ?_
    refine AllReadyH.cons (by rfl) (fun K hKK => ?_) AllReadyH.nil
    go_simp
    refine (grantOf_any g.org g.proxy g.ask.realm _).mono ?_
    rintro e w2 ⟨⟨xa, xb, xc, rfl, H3⟩, hb2⟩
    have H2 : Hid (PutA w (w.alloc (.cells #[.bool g.org.sec, .string g.org.host, .int .i64 g.org.port, .bool g.proxy, .string g.user, .string g.pass, .int .i64 g.ask.sch, .string g.ask.realm, .string g.ask.nonce, .string g.ask.opq, .bool g.ask.sess, .string g.ask.qop, .bool g.ask.stale, .slice da dl dc, .int .i64 g.count, .slice pa pl pc] 34)).drew w2 B b gv wv G V g v u #[.bool g.org.sec, .string g.org.host, .int .i64 g.org.port, .bool g.proxy, .string g.user, .string g.pass, .int .i64 g.ask.sch, .string g.ask.realm, .string g.ask.nonce, .string g.ask.opq, .bool g.ask.sess, .string g.ask.qop, .bool g.ask.stale, .slice da dl dc, .int .i64 g.count, .slice pa pl pc]) := putA_below H1.out hb2
    clear hb2
    go_wp2_with fail
    refine hKK.out _ _ (facts16 H2.out.box) (fun hHeld => ?_)
    clear hKK K
    try simp only [Act.put, List.setIfInBounds_toArray, List.set_cons_zero, List.set_cons_succ]
    refine wpAnyH_ready (rs := [15]) (by kernel_rfl) (by simp) ?_
    refine AllReadyH.cons (by rfl) (fun K hKK => ?_) AllReadyH.nil
    go_simp
    refine (put_ren g HD.out.2.2 v u H2.out H3.out).mono ?_
    rintro e w3 ⟨g3, n3, c3, rfl, H4⟩
    go_wp2_with fail
    refine hKK.out _ _ (facts16 H4.out.2.1) (fun hHeld => ?_)
    clear hKK K
    try simp only [Act.put, List.setIfInBounds_toArray, List.set_cons_zero, List.set_cons_succ]
    refine takeH (i := 16) (d := some 20) (v := ?_) rfl rfl (by kernel_rfl) (by kernel_rfl) (by kernel_rfl) (fun _ _ _ h => h) (by rfl) ?_ (by assumption) ?_
    rotate_left
    · intro w hSw; (try dsimp only at hSw); go_simp; with_reducible rfl
    try simp only [Act.put, List.setIfInBounds_toArray, List.set_cons_zero, List.set_cons_succ]
    refine takeH (i := 17) (d := some 21) (v := ?_) rfl rfl (by kernel_rfl) (by kernel_rfl) (by kernel_rfl) (fun _ _ _ h => h) (by rfl) ?_ (by assumption) ?_
    rotate_left
    · intro w hSw; (try dsimp only at hSw); go_simp; with_reducible rfl
    try simp only [Act.put, List.setIfInBounds_toArray, List.set_cons_zero, List.set_cons_succ]
    refine wpAnyH_ready (rs := [18]) (by kernel_rfl) (by simp) ?_
    refine AllReadyH.cons (by rfl) (fun K hKK => ?_) AllReadyH.nil
    have hcb := (cell_of (i := 0) H4.out.2.2.1)
    simp only [List.getElem?_toArray, List.getElem?_cons_zero] at hcb
    have hfr := free_of H4.out.2.2.1
    go_simp
    refine hKK.out _ _ (facts16 H4.out.2.2.2.1) (fun hHeld => ?_)
    clear hKK K hcb hfr
    try simp only [Act.put, List.setIfInBounds_toArray, List.set_cons_zero, List.set_cons_succ]
    refine wpAnyH_done (by kernel_rfl) ?_ _
    go_wp2
    go_end0
    exact ⟨rfl, H4.out.2.2.2.2⟩
  · skip
    go_simp
    refine (freshG_at g HD.out.2.2 da pa dl dc pl pc db doff pb poff _ (HD.out.1.below HB0.out.1) (HD.out.2.1.below HB0.out.1)).mono ?_
    rintro e w1 ⟨⟨v, u, rfl, hv, hu⟩, hb1⟩
    have H1 : Hid (PutA w (w.alloc (.cells #[.bool g.org.sec, .string g.org.host, .int .i64 g.org.port, .bool g.proxy, .string g.user, .string g.pass, .int .i64 g.ask.sch, .string g.ask.realm, .string g.ask.nonce, .string g.ask.opq, .bool g.ask.sess, .string g.ask.qop, .bool g.ask.stale, .slice da dl dc, .int .i64 g.count, .slice pa pl pc] 34)).drew w1 B b gv wv G V g v u #[.bool g.org.sec, .string g.org.host, .int .i64 g.org.port, .bool g.proxy, .string g.user, .string g.pass, .int .i64 g.ask.sch, .string g.ask.realm, .string g.ask.nonce, .string g.ask.opq, .bool g.ask.sess, .string g.ask.qop, .bool g.ask.stale, .slice da dl dc, .int .i64 g.count, .slice pa pl pc]) := putA_of HK.out HB0.out.1 HB0.out.2 hb1 hv hu
    clear hv hu hb1
    go_wp2_with fail
    refine hKK.out _ _ (facts16 H1.out.box) (fun hHeld => ?_)
    clear hKK K
    try simp only [Act.put, List.setIfInBounds_toArray, List.set_cons_zero, List.set_cons_succ]
    refine wpAnyH_ready (rs := [4, 14]) (by kernel_rfl) (by simp) ?_
    refine AllReadyH.cons (by rfl) (fun K hKK => ?_) (AllReadyH.cons (by rfl) (fun K hKK => ?_) AllReadyH.nil)
    · skip
      have hcb := cell_of (i := 0) (show BankW w1 B b gv wv G V from H1.out.bank).blk
      simp only [List.getElem?_toArray, List.getElem?_cons_zero] at hcb
      go_simp
      refine hKK.out _ _ hHeld (fun hHeld => ?_)
      clear hKK K hcb
      try simp only [Act.put, List.setIfInBounds_toArray, List.set_cons_zero, List.set_cons_succ]
      refine wpAnyH_ready (rs := [14]) (by kernel_rfl) (by simp) ?_
      refine AllReadyH.cons (by rfl) (fun K hKK => ?_) AllReadyH.nil
      go_simp
      refine (grantOf_any g.org g.proxy g.ask.realm _).mono ?_
      rintro e w2 ⟨⟨xa, xb, xc, rfl, H3⟩, hb2⟩
      have H2 : Hid (PutA w (w.alloc (.cells #[.bool g.org.sec, .string g.org.host, .int .i64 g.org.port, .bool g.proxy, .string g.user, .string g.pass, .int .i64 g.ask.sch, .string g.ask.realm, .string g.ask.nonce, .string g.ask.opq, .bool g.ask.sess, .string g.ask.qop, .bool g.ask.stale, .slice da dl dc, .int .i64 g.count, .slice pa pl pc] 34)).drew w2 B b gv wv G V g v u #[.bool g.org.sec, .string g.org.host, .int .i64 g.org.port, .bool g.proxy, .string g.user, .string g.pass, .int .i64 g.ask.sch, .string g.ask.realm, .string g.ask.nonce, .string g.ask.opq, .bool g.ask.sess, .string g.ask.qop, .bool g.ask.stale, .slice da dl dc, .int .i64 g.count, .slice pa pl pc]) := putA_below H1.out hb2
      clear hb2
      go_wp2_with fail
      refine hKK.out _ _ (facts16 H2.out.box) (fun hHeld => ?_)
      clear hKK K
      try simp only [Act.put, List.setIfInBounds_toArray, List.set_cons_zero, List.set_cons_succ]
      refine wpAnyH_ready (rs := [15]) (by kernel_rfl) (by simp) ?_
      refine AllReadyH.cons (by rfl) (fun K hKK => ?_) AllReadyH.nil
      go_simp
      refine (put_ren g HD.out.2.2 v u H2.out H3.out).mono ?_
      rintro e w3 ⟨g3, n3, c3, rfl, H4⟩
      go_wp2_with fail
      refine hKK.out _ _ (facts16 H4.out.2.1) (fun hHeld => ?_)
      clear hKK K
      try simp only [Act.put, List.setIfInBounds_toArray, List.set_cons_zero, List.set_cons_succ]
      refine takeH (i := 16) (d := some 20) (v := ?_) rfl rfl (by kernel_rfl) (by kernel_rfl) (by kernel_rfl) (fun _ _ _ h => h) (by rfl) ?_ (by assumption) ?_
      rotate_left
      · intro w hSw; (try dsimp only at hSw); go_simp; with_reducible rfl
      try simp only [Act.put, List.setIfInBounds_toArray, List.set_cons_zero, List.set_cons_succ]
      refine takeH (i := 17) (d := some 21) (v := ?_) rfl rfl (by kernel_rfl) (by kernel_rfl) (by kernel_rfl) (fun _ _ _ h => h) (by rfl) ?_ (by assumption) ?_
      rotate_left
      · intro w hSw; (try dsimp only at hSw); go_simp; with_reducible rfl
      try simp only [Act.put, List.setIfInBounds_toArray, List.set_cons_zero, List.set_cons_succ]
      refine wpAnyH_ready (rs := [18]) (by kernel_rfl) (by simp) ?_
      refine AllReadyH.cons (by rfl) (fun K hKK => ?_) AllReadyH.nil
      have hcb := (cell_of (i := 0) H4.out.2.2.1)
      simp only [List.getElem?_toArray, List.getElem?_cons_zero] at hcb
      have hfr := free_of H4.out.2.2.1
      go_simp
      refine hKK.out _ _ (facts16 H4.out.2.2.2.1) (fun hHeld => ?_)
      clear hKK K hcb hfr
      try simp only [Act.put, List.setIfInBounds_toArray, List.set_cons_zero, List.set_cons_succ]
      refine wpAnyH_done (by kernel_rfl) ?_ _
      go_wp2
      go_end0
      exact ⟨rfl, H4.out.2.2.2.2⟩
    · skip
      go_simp
      refine (grantOf_any g.org g.proxy g.ask.realm _).mono ?_
      rintro e w2 ⟨⟨xa, xb, xc, rfl, H3⟩, hb2⟩
      have H2 : Hid (PutA w (w.alloc (.cells #[.bool g.org.sec, .string g.org.host, .int .i64 g.org.port, .bool g.proxy, .string g.user, .string g.pass, .int .i64 g.ask.sch, .string g.ask.realm, .string g.ask.nonce, .string g.ask.opq, .bool g.ask.sess, .string g.ask.qop, .bool g.ask.stale, .slice da dl dc, .int .i64 g.count, .slice pa pl pc] 34)).drew w2 B b gv wv G V g v u #[.bool g.org.sec, .string g.org.host, .int .i64 g.org.port, .bool g.proxy, .string g.user, .string g.pass, .int .i64 g.ask.sch, .string g.ask.realm, .string g.ask.nonce, .string g.ask.opq, .bool g.ask.sess, .string g.ask.qop, .bool g.ask.stale, .slice da dl dc, .int .i64 g.count, .slice pa pl pc]) := putA_below H1.out hb2
      clear hb2
      go_wp2_with fail
      refine hKK.out _ _ (facts16 H2.out.box) (fun hHeld => ?_)
      clear hKK K
      try simp only [Act.put, List.setIfInBounds_toArray, List.set_cons_zero, List.set_cons_succ]
      refine wpAnyH_ready (rs := [4]) (by kernel_rfl) (by simp) ?_
      refine AllReadyH.cons (by rfl) (fun K hKK => ?_) AllReadyH.nil
      have hcb := cell_of (i := 0) (show BankW w2 B b gv wv G V from H2.out.bank).blk
      simp only [List.getElem?_toArray, List.getElem?_cons_zero] at hcb
      go_simp
      refine hKK.out _ _ hHeld (fun hHeld => ?_)
      clear hKK K hcb
      try simp only [Act.put, List.setIfInBounds_toArray, List.set_cons_zero, List.set_cons_succ]
      refine wpAnyH_ready (rs := [15]) (by kernel_rfl) (by simp) ?_
      refine AllReadyH.cons (by rfl) (fun K hKK => ?_) AllReadyH.nil
      go_simp
      refine (put_ren g HD.out.2.2 v u H2.out H3.out).mono ?_
      rintro e w3 ⟨g3, n3, c3, rfl, H4⟩
      go_wp2_with fail
      refine hKK.out _ _ (facts16 H4.out.2.1) (fun hHeld => ?_)
      clear hKK K
      try simp only [Act.put, List.setIfInBounds_toArray, List.set_cons_zero, List.set_cons_succ]
      refine takeH (i := 16) (d := some 20) (v := ?_) rfl rfl (by kernel_rfl) (by kernel_rfl) (by kernel_rfl) (fun _ _ _ h => h) (by rfl) ?_ (by assumption) ?_
      rotate_left
      · intro w hSw; (try dsimp only at hSw); go_simp; with_reducible rfl
      try simp only [Act.put, List.setIfInBounds_toArray, List.set_cons_zero, List.set_cons_succ]
      refine takeH (i := 17) (d := some 21) (v := ?_) rfl rfl (by kernel_rfl) (by kernel_rfl) (by kernel_rfl) (fun _ _ _ h => h) (by rfl) ?_ (by assumption) ?_
      rotate_left
      · intro w hSw; (try dsimp only at hSw); go_simp; with_reducible rfl
      try simp only [Act.put, List.setIfInBounds_toArray, List.set_cons_zero, List.set_cons_succ]
      refine wpAnyH_ready (rs := [18]) (by kernel_rfl) (by simp) ?_
      refine AllReadyH.cons (by rfl) (fun K hKK => ?_) AllReadyH.nil
      have hcb := (cell_of (i := 0) H4.out.2.2.1)
      simp only [List.getElem?_toArray, List.getElem?_cons_zero] at hcb
      have hfr := free_of H4.out.2.2.1
      go_simp
      refine hKK.out _ _ (facts16 H4.out.2.2.2.1) (fun hHeld => ?_)
      clear hKK K hcb hfr
      try simp only [Act.put, List.setIfInBounds_toArray, List.set_cons_zero, List.set_cons_succ]
      refine wpAnyH_done (by kernel_rfl) ?_ _
      go_wp2
      go_end0
      exact ⟨rfl, H4.out.2.2.2.2⟩
end Go.Proofs.YtemlclgdgnfhnaaDoor
