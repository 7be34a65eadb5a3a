/- What is asked for, cloned. -/
import Derived.Test.YtdnnlfklanaliabFsh
namespace Go.Proofs.Ytdnnlfklanaliab
open Go.RowKit
set_option linter.unusedVariables false

/-- Texts of an ask are no longer than a machine can hold. -/
def AskFit (a : AskP) : Prop := a.realm.size ≤ 140737488355328 ∧ a.nonce.size ≤ 140737488355328 ∧ a.opq.size ≤ 140737488355328 ∧ a.qop.size ≤ 140737488355328 ∧ a.dom.length ≤ 1000 ∧ ∀ x ∈ a.dom, x.size ≤ 140737488355328
theorem boxes2 (w : World) (x y : Array Value) (t u : TypeId) : Below w.heap.size w ((w.alloc (.cells x t)).alloc (.cells y u)) ∧ ((w.alloc (.cells x t)).alloc (.cells y u)).heap[w.heap.size]? = some (.cells x t (0, 0)) ∧ ((w.alloc (.cells x t)).alloc (.cells y u)).heap[w.heap.size + 1]? = some (.cells y u (0, 0)) := by
  refine ⟨((Below.refl _ _).alloc (Nat.le_refl _) _).alloc (by simp) _, ?_, ?_⟩
  · rw [heap_alloc_old _ _ (by simp)]
    exact heap_alloc_new w _
  · have := heap_alloc_new (w.alloc (.cells x t)) (.cells y u)
    simpa using this
/-- What is kept of a box, and of the result's, by a call. -/
structure BoxF (w w1 : World) (x y : Array Value) (t : TypeId) : Prop where
  bel : Below w.heap.size w w1
  box : w1.heap[w.heap.size]? = some (.cells x t (0, 0))
  res : w1.heap[w.heap.size + 1]? = some (.cells y t (0, 0))
theorem boxF_start (w : World) (x y : Array Value) (t : TypeId) : BoxF w ((w.alloc (.cells x t)).alloc (.cells y t)) x y t := ⟨(boxes2 w x y t t).1, (boxes2 w x y t t).2.1, (boxes2 w x y t t).2.2⟩
theorem BoxF.below {w w1 w2 : World} {x y : Array Value} {t : TypeId} (h : BoxF w w1 x y t) (hb : Below w1.heap.size w1 w2) : BoxF w w2 x y t := by
  have h2 : w.heap.size + 1 < w1.heap.size := (Array.getElem?_eq_some_iff.1 h.res).1
  exact ⟨h.bel.trans (hb.mono h.bel.size), by rw [hb.block _ (by omega)]; exact h.box, by rw [hb.block _ h2]; exact h.res⟩
theorem BoxF.set {w w1 : World} {x y : Array Value} {t : TypeId} (h : BoxF w w1 x y t) (i : Nat) (v : Value) : BoxF w (w1.setCell ⟨w.heap.size, i, none⟩ v) (x.setIfInBounds i v) y t :=
  ⟨h.bel.setCell (Nat.le_refl _) v, heap_setCell_same w1 _ i x t v h.box, (Below.heap_setCell w1 ⟨w.heap.size, i, none⟩ v _ (by show w.heap.size + 1 ≠ w.heap.size; omega)).trans h.res⟩
theorem BoxF.same {w w1 : World} {x y : Array Value} {t : TypeId} (h : BoxF w w1 x y t) {i : Nat} {v : Value} (hv : x[i]? = some v) : w1.setCell ⟨w.heap.size, i, none⟩ v = w1 := setCell_same h.box hv
theorem BoxF.at {w w1 : World} {x y : Array Value} {t : TypeId} (h : BoxF w w1 x y t) (i : Nat) {v : Value} (hv : x[i]? = some v) : w1.cell? ⟨w.heap.size, i, none⟩ = some v := (cell_of h.box).trans hv
/-- What a function answers whose result lies in a block. -/
theorem res_cell {P : Program} {fn : Func} {tmps : Array Value} {W : World} {a : Tmp} {t u : TypeId} {g : Nat} {vs : List Value} {k : Nat} (hf : fn.results = #[.cell a t]) (hp : tmps.getD a undef = .pointer (some ⟨g, 0, none⟩)) (ha : ∀ w, (isAgg t).run P w = .ok true w) (hs : ∀ w, (Go.sizeOf t).run P w = .ok k w) (hk : vs.length = k) (h : W.heap[g]? = some (.cells vs.toArray u (0, 0))) :
    (results fn tmps).run P W = .ok (.agg vs.toArray) W := by
  have hl := run_loadCellsFrom_list P W ⟨g, 0, none⟩ vs k hk (fun i v hi => by
    rw [Addr.add_lit, Nat.zero_add, cell_of h]
    simpa using hi)
  simp only [Array.getD_eq_getD_getElem?] at hp
  unfold results
  rw [hf]
  simp [hp, loadVar, ha, hs, asAddr, loadCells, hl]
set_option maxRecDepth 100000 in
set_option maxHeartbeats 4000000 in
theorem freshA_any (a : AskP) (ha : AskFit a) (a0 : Option Addr) (len cap b off : Nat) (w : World) (hx : Strs w a0 len b off a.dom) :
    Calls Try.prog 52 #[.agg #[.int .i64 a.sch, .string a.realm, .string a.nonce, .string a.opq, .bool a.sess, .string a.qop, .bool a.stale, .slice a0 len cap]] w fun e w' => (∃ v, e = .returned (.agg #[.int .i64 a.sch, .string a.realm, .string a.nonce, .string a.opq, .bool a.sess, .string a.qop, .bool a.stale, v]) ∧ OwnS w' w.heap.size v a.dom) ∧ Below w.heap.size w w' := by
  obtain ⟨z1, z2, z3, z4, z5, z6⟩ := ha
  have hlen : len ≤ 1000 := by rw [← hx.len_eq]; exact z5
  have hs0 := boxF_start w #[.int .i64 a.sch, .string a.realm, .string a.nonce, .string a.opq, .bool a.sess, .string a.qop, .bool a.stale, .slice a0 len cap] #[.int .i64 0, .string ⟨#[]⟩, .string ⟨#[]⟩, .string ⟨#[]⟩, .bool false, .string ⟨#[]⟩, .bool false, .slice none 0 0] 34
  have HX : Hid (Strs w a0 len b off a.dom ∧ ∀ x ∈ a.dom, x.size ≤ 140737488355328) := ⟨hx, z6⟩
  have HW : Hid (BoxF w ((w.alloc (.cells #[.int .i64 a.sch, .string a.realm, .string a.nonce, .string a.opq, .bool a.sess, .string a.qop, .bool a.stale, .slice a0 len cap] 34)).alloc (.cells #[.int .i64 0, .string ⟨#[]⟩, .string ⟨#[]⟩, .string ⟨#[]⟩, .bool false, .string ⟨#[]⟩, .bool false, .slice none 0 0] 34)) _ _ 34) := hs0
  clear hs0 hx z5 z6
  go_enter Try.func52, Try.ntmps52
  go_wp2_with fail
  refine (cloneS_any _ z1 _).mono ?_
  rintro e w1 ⟨rfl, hb1⟩
  have H1 := (show BoxF _ _ _ _ _ from HW.out).below hb1
  have HH1 : Hid (BoxF w w1 _ _ 34) := H1
  have s1 := H1.same (i := 1) (v := .string a.realm) rfl
  have c1 := H1.at 2 (v := .string a.nonce) rfl
  have c1' := H1.at 1 (v := .string a.realm) rfl
  have f1 := free_of H1.box
  clear hb1 HW H1
  go_wp2_with fail
  refine (cloneS_any _ z2 _).mono ?_
  rintro e w2 ⟨rfl, hb2⟩
  have H2 := (show BoxF _ _ _ _ _ from HH1.out).below hb2
  have HH2 : Hid (BoxF w w2 _ _ 34) := H2
  have s2 := H2.same (i := 2) (v := .string a.nonce) rfl
  have c2 := H2.at 3 (v := .string a.opq) rfl
  have f2 := free_of H2.box
  have c2' := H2.at 2 (v := .string a.nonce) rfl
  clear hb2 H2 s1 c1 c1' f1 HH1
  go_wp2_with fail
  refine (cloneS_any _ z3 _).mono ?_
  rintro e w3 ⟨rfl, hb3⟩
  have H3 := (show BoxF _ _ _ _ _ from HH2.out).below hb3
  have HH3 : Hid (BoxF w w3 _ _ 34) := H3
  have s3 := H3.same (i := 3) (v := .string a.opq) rfl
  have c3 := H3.at 5 (v := .string a.qop) rfl
  have f3 := free_of H3.box
  have c3' := H3.at 3 (v := .string a.opq) rfl
  clear hb3 H3 s2 c2 f2 c2' HH2
  go_wp2_with fail
  refine (cloneS_any _ z4 _).mono ?_
  rintro e w4 ⟨rfl, hb4⟩
  have H4 := (show BoxF _ _ _ _ _ from HH3.out).below hb4
  have HH4 : Hid (BoxF w w4 _ _ 34) := H4
  have s4 := H4.same (i := 5) (v := .string a.qop) rfl
  have c4 := H4.at 7 (v := .slice a0 len cap) rfl
  have c4' := H4.at 5 (v := .string a.qop) rfl
  have f4 := free_of H4.box
  have HX4 : Hid (Strs w4 a0 len b off a.dom) := HX.out.1.below H4.bel
  clear hb4 H4 s3 c3 f3 c3' HH3
  go_wp2_with fail
  refine (eachS_any a.dom HX.out.2 a0 len cap b off hlen _ HX4.out).mono ?_
  rintro e w5 ⟨⟨v, rfl, hown⟩, hb5⟩
  obtain ⟨va, vc, vg, rfl, _⟩ := hown.strs
  obtain ⟨vn, HVN⟩ : ∃ vn, Hid (a.dom.length = vn) := ⟨_, rfl⟩
  rw [HVN.out] at hown ⊢
  have H5 := (show BoxF _ _ _ _ _ from HH4.out).below hb5
  have H6 := H5.set 7 (.slice va vn vc)
  have HW4 : Hid (w.heap.size + 1 < w4.heap.size) := (Array.getElem?_eq_some_iff.1 (show BoxF _ _ _ _ _ from HH4.out).res).1
  have HO : Hid (OwnS w5 w4.heap.size (.slice va vn vc) a.dom) := hown
  have f5 := free_of H5.box
  have t7 := H5.at 7 (v := .slice a0 len cap) rfl
  have g0 := H6.at 0 (v := .int .i64 a.sch) rfl
  have g1 := H6.at 1 (v := .string a.realm) rfl
  have g2 := H6.at 2 (v := .string a.nonce) rfl
  have g3 := H6.at 3 (v := .string a.opq) rfl
  have g4 := H6.at 4 (v := .bool a.sess) rfl
  have g5 := H6.at 5 (v := .string a.qop) rfl
  have g6 := H6.at 6 (v := .bool a.stale) rfl
  have g7 := H6.at 7 (v := .slice va vn vc) rfl
  have d0 : (w5.setCell ⟨w.heap.size, 7, none⟩ (.slice va vn vc)).cell? ⟨w.heap.size + 1, 0, none⟩ = some (.int .i64 0) := cell_of H6.res
  have d1 : (w5.setCell ⟨w.heap.size, 7, none⟩ (.slice va vn vc)).cell? ⟨w.heap.size + 1, 1, none⟩ = some (.string ⟨#[]⟩) := cell_of H6.res
  have d2 : (w5.setCell ⟨w.heap.size, 7, none⟩ (.slice va vn vc)).cell? ⟨w.heap.size + 1, 2, none⟩ = some (.string ⟨#[]⟩) := cell_of H6.res
  have d3 : (w5.setCell ⟨w.heap.size, 7, none⟩ (.slice va vn vc)).cell? ⟨w.heap.size + 1, 3, none⟩ = some (.string ⟨#[]⟩) := cell_of H6.res
  have d4 : (w5.setCell ⟨w.heap.size, 7, none⟩ (.slice va vn vc)).cell? ⟨w.heap.size + 1, 4, none⟩ = some (.bool false) := cell_of H6.res
  have d5 : (w5.setCell ⟨w.heap.size, 7, none⟩ (.slice va vn vc)).cell? ⟨w.heap.size + 1, 5, none⟩ = some (.string ⟨#[]⟩) := cell_of H6.res
  have d6 : (w5.setCell ⟨w.heap.size, 7, none⟩ (.slice va vn vc)).cell? ⟨w.heap.size + 1, 6, none⟩ = some (.bool false) := cell_of H6.res
  have d7 : (w5.setCell ⟨w.heap.size, 7, none⟩ (.slice va vn vc)).cell? ⟨w.heap.size + 1, 7, none⟩ = some (.slice none 0 0) := cell_of H6.res
  have fr := free_of H6.res
  have HH5 : Hid (BoxF w (w5.setCell ⟨w.heap.size, 7, none⟩ (.slice va vn vc)) _ _ 34) := H6
  have HG5 : Hid (w5.grownBy (w5.setCell ⟨w.heap.size, 7, none⟩ (.slice va vn vc)) (some w.heap.size)) := grown_setCells w5 w.heap.size 7 [.slice va vn vc]
  clear hb5 H5 H6 s4 c4 f4 c4' HH4 hown
  go_wp2_with fail
  obtain ⟨z1, z2⟩ := setAll [.int .i64 a.sch, .string a.realm, .string a.nonce, .string a.opq, .bool a.sess, .string a.qop, .bool a.stale, .slice va vn vc] (show BoxF _ _ _ _ _ from HH5.out).res rfl
  simp only [World.setCells, Nat.reduceAdd] at z1 z2
  have HZ : Hid (w5.grownBy (w5.setCell ⟨w.heap.size, 7, none⟩ (.slice va vn vc)) (some w.heap.size)) := HG5.out
  have hb5 := (show BoxF _ _ _ _ _ from HH5.out).bel
  have hres := (show BoxF _ _ _ _ _ from HH5.out).res
  clear d0 d1 d2 d3 d4 d5 d6 d7 g0 g1 g2 g3 g4 g5 g6 g7 f5 fr t7
  refine bodyPost_ret (v := .agg #[.int .i64 a.sch, .string a.realm, .string a.nonce, .string a.opq, .bool a.sess, .string a.qop, .bool a.stale, .slice va vn vc]) (res_cell rfl rfl Try.isAgg34 Try.sizeOf34 rfl z1) rfl ?_
  refine ⟨⟨_, rfl, ?_⟩, hb5.grown z2 hb5.size (fun i hi => by injection hi with hi; omega)⟩
  have h1 := HO.out.grown HZ.out (by have := HW4.out; omega)
  have h2 := h1.grown z2 (by have := HW4.out; omega)
  exact ownS_mono h2 (by have := HW4.out; omega)
end Go.Proofs.Ytdnnlfklanaliab
