/- Texts of one claim, joined: each begins with what it proves. -/
import Derived.Test.YtjadmldnpdmamaaJo1
import Derived.Deep.Draws
import Derived.Deep.RegionLaw
import Derived.Deep.AppendLies
import Derived.Deep.RegionHeld3
import Derived.Deep.QuietTactic
import Derived.BigQuiet
/- Cells that are set, one by one. -/
namespace Go.Proofs.Ytjadmldnpdmamaa
open Go.RowKit Go.Shelf

/-- A cell is told again what it holds: the world is as it was. -/
theorem setCell_same {w : World} {g i : Nat} {cs : Array Value} {t : TypeId} (h : w.heap[g]? = some (.cells cs t (0, 0))) {v : Value} (hv : cs[i]? = some v) : w.setCell ⟨g, i, none⟩ v = w := by
  have e : (w.setCell ⟨g, i, none⟩ v).heap = w.heap := by
    apply Array.ext_getElem?
    intro j
    by_cases hj : j = g
    · subst hj
      rw [heap_setCell_same w j i cs t v h, h]
      congr 2
      apply Array.ext_getElem?
      intro m
      rw [Array.getElem?_setIfInBounds]
      by_cases hm : i = m
      · subst hm
        rw [if_pos rfl, hv, if_pos (Array.getElem?_eq_some_iff.1 hv).1]
      · rw [if_neg hm]
    · exact Below.heap_setCell w ⟨g, i, none⟩ v j hj
  show { w with heap := _ } = w
  have : (w.setCell ⟨g, i, none⟩ v).heap = w.heap := e
  cases w
  simp only [World.setCell] at this ⊢
  congr
/-- All cells of a block anew. -/
theorem heap_setAll (g : Nat) (t : TypeId) (vs : List Value) (w : World) (cur : Array Value) (h : w.heap[g]? = some (.cells cur t (0, 0))) (hs : cur.size = vs.length) : (w.setCells g 0 vs).heap[g]? = some (.cells vs.toArray t (0, 0)) := by
  obtain ⟨cur', h1, h2, h3⟩ := heap_setCells g t vs 0 w cur h
  have e := h3 (by omega)
  rw [List.take_zero, List.nil_append, Nat.zero_add, List.drop_of_length_le (by rw [Array.length_toList]; omega), List.append_nil] at e
  have : cur' = vs.toArray := by rw [← e]
  rw [h1, this]
theorem cell_of {w : World} {g i : Nat} {cs : Array Value} {t : TypeId} (h : w.heap[g]? = some (.cells cs t (0, 0))) : w.cell? ⟨g, i, none⟩ = cs[i]? := cell_of_row w g i cs t (0, 0) h
theorem free_of {w : World} {g : Nat} {cs : Array Value} {t : TypeId} (h : w.heap[g]? = some (.cells cs t (0, 0))) (i : Nat) : w.frozen? ⟨g, i, none⟩ = false := frozen_of_row w g i cs t h
end Go.Proofs.Ytjadmldnpdmamaa

/- A text cloned, however long; what a world is where a cell is told again what it holds. -/
namespace Go.Proofs.Ytjadmldnpdmamaa
open Go.RowKit Go.Shelf

theorem cloneS_any (s : ByteArray) (hs : s.size ≤ 140737488355328) (w : World) :
    Calls Try.prog 58 #[.string s] w fun e w' => e = .returned (.string s) ∧ Below w.heap.size w w' := by
  have hc : ∀ w, Calls Try.prog 66 #[.string s] w fun e w' => e = .returned (.string s) ∧ Below w.heap.size w w' := fun w => Any.stringslite_Clone laysM316 s w (by omega)
  go_enter Try.func58, Try.ntmps58
  go_wp2_with (go_at_call 66; refine (hc _).mono ?_; rintro e w' ⟨rfl, hb⟩)
  go_ret
  exact ⟨rfl, hb⟩
end Go.Proofs.Ytjadmldnpdmamaa

/- Rows of texts that lie somewhere. -/
namespace Go.Proofs.Ytjadmldnpdmamaa
open Go.RowKit

/-- A row of texts that lies somewhere. -/
structure Strs (w : World) (a0 : Option Addr) (len b off : Nat) (xs : List ByteArray) : Prop where
  len_eq : xs.length = len
  lies : 0 < len → a0 = some ⟨b, off, none⟩ ∧ b < w.heap.size
  cells : ∀ (j : Nat) (x : ByteArray), xs[j]? = some x → w.cell? ⟨b, off + j, none⟩ = some (.string x)
theorem Strs.below {w w' : World} {a0 : Option Addr} {len b off : Nat} {xs : List ByteArray} (h : Strs w a0 len b off xs) (hb : Below w.heap.size w w') : Strs w' a0 len b off xs := by
  refine ⟨h.len_eq, fun h0 => ⟨(h.lies h0).1, Nat.lt_of_lt_of_le (h.lies h0).2 hb.size⟩, fun j x hx => ?_⟩
  have hj := (List.getElem?_eq_some_iff.1 hx).1
  have hl := h.len_eq
  rw [hb.cell (p := ⟨b, off + j, none⟩) (h.lies (by omega)).2]
  exact h.cells j x hx
theorem OwnS.strs {w : World} {B : Nat} {v : Value} {xs : List ByteArray} (h : OwnS w B v xs) : ∃ (a : Option Addr) (cap g : Nat), v = .slice a xs.length cap ∧ Strs w a xs.length g 0 xs := by
  rcases h.2 with ⟨rfl, h0⟩ | ⟨g, cap, cur, rfl, _, hh, _, _, _, ht⟩
  · refine ⟨none, 0, 0, by rw [h0], rfl, fun h1 => absurd h0 (by omega), fun j x hx => ?_⟩
    have := (List.getElem?_eq_some_iff.1 hx).1
    omega
  · refine ⟨_, cap, g, rfl, rfl, fun _ => ⟨rfl, ?_⟩, fun j x hx => ?_⟩
    · rcases Nat.lt_or_ge g w.heap.size with h1 | h1
      · exact h1
      · simp [Array.getElem?_eq_none h1] at hh
    · have hj := World.ownsRow.cells h (g := g) rfl j (.string x) (by rw [List.getElem?_map, hx]; rfl)
      rw [WideShapes.add_plain] at hj
      exact hj
theorem Strs.drewN {w : World} {a0 : Option Addr} {len b off : Nat} {xs : List ByteArray} (h : Strs w a0 len b off xs) (n : Nat) : Strs (w.drewN n) a0 len b off xs := ⟨h.len_eq, h.lies, h.cells⟩
end Go.Proofs.Ytjadmldnpdmamaa

/- A row of texts, each cloned. -/
namespace Go.Proofs.Ytjadmldnpdmamaa
open Go.RowKit
set_option linter.unusedVariables false

theorem clones_enter : ∀ (args : Array Value) (w : World), (callFunc 58 args).run Try.prog w = .ok (.enter 58 args) w := enters_at Try.func58 (by kernel_rfl) rfl
set_option maxRecDepth 100000 in
set_option maxHeartbeats 2000000 in
theorem eachS_any (xs : List ByteArray) (hxs : ∀ x ∈ xs, x.size ≤ 140737488355328) (a0 : Option Addr) (len cap b off : Nat) (hlen : len ≤ 1000) (w : World) (hx : Strs w a0 len b off xs) :
    Calls Try.prog 57 #[.slice a0 len cap, .func (.func 58) #[] #[]] w fun e w' => (∃ v, e = .returned v ∧ OwnS w' w.heap.size v xs) ∧ Below w.heap.size w w' := by
  have HX : Hid (Strs w a0 len b off xs) := hx
  have HS : Hid (∀ x ∈ xs, x.size ≤ 140737488355328) := hxs
  have HL : Hid (xs.length = len) := hx.len_eq
  have hce := clones_enter
  clear hx hxs
  go_enter Try.func57, Try.ntmps57
  go_wp2
  go_loopw [5, 10] (fun o i wr => ∃ (k cap : Nat) (a : Option Addr), k ≤ len ∧ i = .int .i64 k ∧ o = .slice a k cap ∧ Hid (OwnS wr w.heap.size (.slice a k cap) (xs.take k) ∧ Below w.heap.size w wr)) (fun _ i _ => len - (intOf i).toNat)
  case atStart => exact ⟨0, 0, none, Nat.zero_le _, rfl, rfl, ⟨ownS_nil _ _, Below.refl _ _⟩⟩
  case round =>
    obtain ⟨k, cap2, a, hk, rfl, rfl, HK⟩ := hrel
    by_cases hlt : k < len
    · obtain ⟨x, hxk⟩ : ∃ x, xs[k]? = some x := ⟨xs[k]'(by have := HL.out; omega), List.getElem?_eq_getElem _⟩
      have HXK : Hid (xs[k]? = some x) := hxk
      have hX := HX.out.below HK.out.2
      obtain ⟨ha0, hbl⟩ := hX.lies (by omega)
      have hc1 := hX.cells k x hxk
      have hxs := HS.out x (List.mem_of_getElem? hxk)
      have HN : Hid ((xs.take k).length = k) := by show _ = _; rw [List.length_take]; have := HL.out; omega
      have hkL : (k : Int) < (len : Int) := by omega
      subst ha0
      clear hxk hX
      go_wp2_with (first | (go_at_call 58; refine (cloneS_any x hxs _).mono ?_; rintro e w2 ⟨rfl, hb2⟩; have HO2 : Hid (OwnS w2 w.heap.size (.slice a k cap2) (xs.take k) ∧ Below w.heap.size w w2) := ⟨HK.out.1.below hb2, HK.out.2.trans (hb2.mono HK.out.2.size)⟩; clear hb2) | (at_builtin; refine wp_apps rfl _ _ rfl w.heap.size w2 (.slice a k cap2) (xs.take k) k rfl HO2.out.1 HN.out (by omega) HO2.out.2.size x rfl ?_; intro g4 cap4 w4 hown4 hg4 hlt4; have HO4 : Hid (OwnS w4 w.heap.size (.slice (some ⟨g4, 0, none⟩) (k + 1) cap4) (xs.take (k + 1)) ∧ Below w.heap.size w w4) := ⟨(by obtain ⟨hk1, e⟩ := List.getElem?_eq_some_iff.1 HXK.out; rw [List.take_succ_eq_append_getElem hk1, e]; exact hown4), (HO2.out.2.alloc HO2.out.2.size _).grown hg4 (by have := HO2.out.2.size; simp; omega) (fun i hi => (HO2.out.1.lt _ hi).1)⟩; clear hown4 hg4 hlt4))
      go_roundw
      case rel => exact ⟨k + 1, _, _, by omega, by go_num, rfl, HO4⟩
      case measure => simp [intOf]; omega
    · have hkL : ¬ (k : Int) < (len : Int) := by omega
      have HE : Hid (OwnS wr w.heap.size (.slice a k cap2) xs ∧ Below w.heap.size w wr) := by
        have := HK.out
        rw [List.take_of_length_le (by have := HL.out; omega)] at this
        exact this
      go_wp2
      go_ret
      exact ⟨⟨_, rfl, HE.out.1⟩, HE.out.2⟩
/-- The same of a row that a call owns. -/
theorem eachS_own (xs : List ByteArray) (hxs : ∀ x ∈ xs, x.size ≤ 140737488355328) (hlen : xs.length ≤ 1000) (B : Nat) (v : Value) (w : World) (hv : OwnS w B v xs) :
    Calls Try.prog 57 #[v, .func (.func 58) #[] #[]] w fun e w' => (∃ v, e = .returned v ∧ OwnS w' w.heap.size v xs) ∧ Below w.heap.size w w' := by
  obtain ⟨a, cap, g, rfl, hs⟩ := hv.strs
  exact eachS_any xs hxs a _ cap g 0 hlen w hs
end Go.Proofs.Ytjadmldnpdmamaa

/- A block of an argument's and one of an answer's own. -/
namespace Go.Proofs.Ytjadmldnpdmamaa
open Go.RowKit
set_option linter.unusedVariables false

/-- All cells anew: what stands there, and what may have turned. -/
theorem setAll {wi : World} {g : Nat} {cur : Array Value} {T : TypeId} (vs : List Value) (h : wi.heap[g]? = some (.cells cur T (0, 0))) (hs : cur.size = vs.length) : (wi.setCells g 0 vs).heap[g]? = some (.cells vs.toArray T (0, 0)) ∧ wi.grownBy (wi.setCells g 0 vs) (some g) := ⟨heap_setAll g T vs wi cur h hs, grown_setCells _ _ _ _⟩
theorem boxes2 (w : World) (x y : Array Value) (t u : TypeId) : Below w.heap.size w ((w.alloc (.cells x t)).alloc (.cells y u)) ∧ ((w.alloc (.cells x t)).alloc (.cells y u)).heap[w.heap.size]? = some (.cells x t (0, 0)) ∧ ((w.alloc (.cells x t)).alloc (.cells y u)).heap[w.heap.size + 1]? = some (.cells y u (0, 0)) := by
  refine ⟨((Below.refl _ _).alloc (Nat.le_refl _) _).alloc (by simp) _, ?_, ?_⟩
  · rw [heap_alloc_old _ _ (by simp)]
    exact heap_alloc_new w _
  · have := heap_alloc_new (w.alloc (.cells x t)) (.cells y u)
    simpa using this
/-- What is kept of a box, and of the result's, by a call. -/
structure BoxF (w w1 : World) (x y : Array Value) (t : TypeId) : Prop where
  bel : Below w.heap.size w w1
  box : w1.heap[w.heap.size]? = some (.cells x t (0, 0))
  res : w1.heap[w.heap.size + 1]? = some (.cells y t (0, 0))
theorem boxF_start (w : World) (x y : Array Value) (t : TypeId) : BoxF w ((w.alloc (.cells x t)).alloc (.cells y t)) x y t := ⟨(boxes2 w x y t t).1, (boxes2 w x y t t).2.1, (boxes2 w x y t t).2.2⟩
theorem BoxF.below {w w1 w2 : World} {x y : Array Value} {t : TypeId} (h : BoxF w w1 x y t) (hb : Below w1.heap.size w1 w2) : BoxF w w2 x y t := by
  have h2 : w.heap.size + 1 < w1.heap.size := (Array.getElem?_eq_some_iff.1 h.res).1
  exact ⟨h.bel.trans (hb.mono h.bel.size), by rw [hb.block _ (by omega)]; exact h.box, by rw [hb.block _ h2]; exact h.res⟩
theorem BoxF.set {w w1 : World} {x y : Array Value} {t : TypeId} (h : BoxF w w1 x y t) (i : Nat) (v : Value) : BoxF w (w1.setCell ⟨w.heap.size, i, none⟩ v) (x.setIfInBounds i v) y t :=
  ⟨h.bel.setCell (Nat.le_refl _) v, heap_setCell_same w1 _ i x t v h.box, (Below.heap_setCell w1 ⟨w.heap.size, i, none⟩ v _ (by show w.heap.size + 1 ≠ w.heap.size; omega)).trans h.res⟩
theorem BoxF.same {w w1 : World} {x y : Array Value} {t : TypeId} (h : BoxF w w1 x y t) {i : Nat} {v : Value} (hv : x[i]? = some v) : w1.setCell ⟨w.heap.size, i, none⟩ v = w1 := setCell_same h.box hv
theorem BoxF.at {w w1 : World} {x y : Array Value} {t : TypeId} (h : BoxF w w1 x y t) (i : Nat) {v : Value} (hv : x[i]? = some v) : w1.cell? ⟨w.heap.size, i, none⟩ = some v := (cell_of h.box).trans hv
/-- What a function answers whose result lies in a block. -/
theorem res_cell {P : Program} {fn : Func} {tmps : Array Value} {W : World} {a : Tmp} {t u : TypeId} {g : Nat} {vs : List Value} {k : Nat} (hf : fn.results = #[.cell a t]) (hp : tmps.getD a undef = .pointer (some ⟨g, 0, none⟩)) (ha : ∀ w, (isAgg t).run P w = .ok true w) (hs : ∀ w, (Go.sizeOf t).run P w = .ok k w) (hk : vs.length = k) (h : W.heap[g]? = some (.cells vs.toArray u (0, 0))) :
    (results fn tmps).run P W = .ok (.agg vs.toArray) W := by
  have hl := run_loadCellsFrom_list P W ⟨g, 0, none⟩ vs k hk (fun i v hi => by
    rw [Addr.add_lit, Nat.zero_add, cell_of h]
    simpa using hi)
  simp only [Array.getD_eq_getD_getElem?] at hp
  unfold results
  rw [hf]
  simp [hp, loadVar, ha, hs, asAddr, loadCells, hl]
end Go.Proofs.Ytjadmldnpdmamaa

/- An origin, and what is asked for, cloned. -/
namespace Go.Proofs.Ytjadmldnpdmamaa
open Go.RowKit
set_option linter.unusedVariables false

set_option maxRecDepth 100000 in
set_option maxHeartbeats 2000000 in
theorem freshO_any (o : OrgV) (ho : o.host.size ≤ 140737488355328) (w : World) :
    Calls Try.prog 60 #[.agg #[.bool o.sec, .string o.host, .int .i64 o.port]] w fun e w' => e = .returned (.agg #[.bool o.sec, .string o.host, .int .i64 o.port]) ∧ Below w.heap.size w w' := by
  have hb0 : Below w.heap.size w ((w.alloc (.cells #[.bool o.sec, .string o.host, .int .i64 o.port] 24)).alloc (.cells #[.bool false, .string ⟨#[]⟩, .int .i64 0] 24)) := ((Below.refl _ _).alloc (Nat.le_refl _) _).alloc (by simp) _
  have h1 : ((w.alloc (.cells #[.bool o.sec, .string o.host, .int .i64 o.port] 24)).alloc (.cells #[.bool false, .string ⟨#[]⟩, .int .i64 0] 24)).heap[w.heap.size]? = some (.cells #[.bool o.sec, .string o.host, .int .i64 o.port] 24 (0, 0)) := by
    rw [heap_alloc_old _ _ (by simp)]
    exact heap_alloc_new w _
  have h2 : ((w.alloc (.cells #[.bool o.sec, .string o.host, .int .i64 o.port] 24)).alloc (.cells #[.bool false, .string ⟨#[]⟩, .int .i64 0] 24)).heap[w.heap.size + 1]? = some (.cells #[.bool false, .string ⟨#[]⟩, .int .i64 0] 24 (0, 0)) := by
    have := heap_alloc_new (w.alloc (.cells #[.bool o.sec, .string o.host, .int .i64 o.port] 24)) (.cells #[.bool false, .string ⟨#[]⟩, .int .i64 0] 24)
    simpa using this
  have HW : Hid (Below w.heap.size w ((w.alloc (.cells #[.bool o.sec, .string o.host, .int .i64 o.port] 24)).alloc (.cells #[.bool false, .string ⟨#[]⟩, .int .i64 0] 24)) ∧ _ ∧ _) := ⟨hb0, h1, h2⟩
  clear hb0 h1 h2
  go_enter Try.func60, Try.ntmps60
  go_wp2_with fail
  refine (cloneS_any _ ho _).mono ?_
  rintro e w1 ⟨rfl, hb1⟩
  have HB : Hid (Below w.heap.size w w1 ∧ w1.heap[w.heap.size]? = some (.cells #[.bool o.sec, .string o.host, .int .i64 o.port] 24 (0, 0)) ∧ w1.heap[w.heap.size + 1]? = some (.cells #[.bool false, .string ⟨#[]⟩, .int .i64 0] 24 (0, 0))) :=
    ⟨HW.out.1.trans (hb1.mono HW.out.1.size), by rw [hb1.block _ (by simp; omega)]; exact HW.out.2.1, by rw [hb1.block _ (by simp)]; exact HW.out.2.2⟩
  clear hb1 HW
  have c0 := cell_of (i := 0) HB.out.2.1
  have c1 := cell_of (i := 1) HB.out.2.1
  have c2 := cell_of (i := 2) HB.out.2.1
  have d0 := cell_of (i := 0) HB.out.2.2
  have d1 := cell_of (i := 1) HB.out.2.2
  have d2 := cell_of (i := 2) HB.out.2.2
  have f0 := free_of HB.out.2.1
  have f1 := free_of HB.out.2.2
  have s1 : w1.setCell ⟨w.heap.size, 1, none⟩ (.string o.host) = w1 := setCell_same HB.out.2.1 rfl
  simp only [List.getElem?_toArray, List.getElem?_cons_zero, List.getElem?_cons_succ] at c0 c1 c2 d0 d1 d2
  go_wp2
  obtain ⟨z1, z2⟩ := setAll [.bool o.sec, .string o.host, .int .i64 o.port] HB.out.2.2 rfl
  simp only [World.setCells, Nat.reduceAdd] at z1 z2
  have e0 := cell_of (i := 0) z1
  have e1 := cell_of (i := 1) z1
  have e2 := cell_of (i := 2) z1
  simp only [List.getElem?_toArray, List.getElem?_cons_zero, List.getElem?_cons_succ] at e0 e1 e2
  exact bodyPost_ret (v := .agg #[.bool o.sec, .string o.host, .int .i64 o.port]) (by simp [results, Try.f60, go_sem, e0, e1, e2]) rfl ⟨rfl, HB.out.1.grown z2 HB.out.1.size (fun i hi => by injection hi with hi; omega)⟩
end Go.Proofs.Ytjadmldnpdmamaa

/- What is asked for, cloned. -/
namespace Go.Proofs.Ytjadmldnpdmamaa
open Go.RowKit
set_option linter.unusedVariables false

/-- Texts of an ask are no longer than a machine can hold. -/
def AskFit (a : AskP) : Prop := a.realm.size ≤ 140737488355328 ∧ a.nonce.size ≤ 140737488355328 ∧ a.opq.size ≤ 140737488355328 ∧ a.qop.size ≤ 140737488355328 ∧ a.dom.length ≤ 1000 ∧ ∀ x ∈ a.dom, x.size ≤ 140737488355328
set_option maxRecDepth 100000 in
set_option maxHeartbeats 4000000 in
theorem freshA_any (a : AskP) (ha : AskFit a) (a0 : Option Addr) (len cap b off : Nat) (w : World) (hx : Strs w a0 len b off a.dom) :
    Calls Try.prog 61 #[.agg #[.int .i64 a.sch, .string a.realm, .string a.nonce, .string a.opq, .bool a.sess, .string a.qop, .bool a.stale, .slice a0 len cap]] w fun e w' => (∃ v, e = .returned (.agg #[.int .i64 a.sch, .string a.realm, .string a.nonce, .string a.opq, .bool a.sess, .string a.qop, .bool a.stale, v]) ∧ OwnS w' w.heap.size v a.dom) ∧ Below w.heap.size w w' := by
  obtain ⟨z1, z2, z3, z4, z5, z6⟩ := ha
  have hlen : len ≤ 1000 := by rw [← hx.len_eq]; exact z5
  have hs0 := boxF_start w #[.int .i64 a.sch, .string a.realm, .string a.nonce, .string a.opq, .bool a.sess, .string a.qop, .bool a.stale, .slice a0 len cap] #[.int .i64 0, .string ⟨#[]⟩, .string ⟨#[]⟩, .string ⟨#[]⟩, .bool false, .string ⟨#[]⟩, .bool false, .slice none 0 0] 34
  have HX : Hid (Strs w a0 len b off a.dom ∧ ∀ x ∈ a.dom, x.size ≤ 140737488355328) := ⟨hx, z6⟩
  have HW : Hid (BoxF w ((w.alloc (.cells #[.int .i64 a.sch, .string a.realm, .string a.nonce, .string a.opq, .bool a.sess, .string a.qop, .bool a.stale, .slice a0 len cap] 34)).alloc (.cells #[.int .i64 0, .string ⟨#[]⟩, .string ⟨#[]⟩, .string ⟨#[]⟩, .bool false, .string ⟨#[]⟩, .bool false, .slice none 0 0] 34)) _ _ 34) := hs0
  clear hs0 hx z5 z6
  go_enter Try.func61, Try.ntmps61
  go_wp2_with fail
  refine (cloneS_any _ z1 _).mono ?_
  rintro e w1 ⟨rfl, hb1⟩
  have H1 := (show BoxF _ _ _ _ _ from HW.out).below hb1
  have HH1 : Hid (BoxF w w1 _ _ 34) := H1
  have s1 := H1.same (i := 1) (v := .string a.realm) rfl
  have c1 := H1.at 2 (v := .string a.nonce) rfl
  have c1' := H1.at 1 (v := .string a.realm) rfl
  have f1 := free_of H1.box
  clear hb1 HW H1
  go_wp2_with fail
  refine (cloneS_any _ z2 _).mono ?_
  rintro e w2 ⟨rfl, hb2⟩
  have H2 := (show BoxF _ _ _ _ _ from HH1.out).below hb2
  have HH2 : Hid (BoxF w w2 _ _ 34) := H2
  have s2 := H2.same (i := 2) (v := .string a.nonce) rfl
  have c2 := H2.at 3 (v := .string a.opq) rfl
  have f2 := free_of H2.box
  have c2' := H2.at 2 (v := .string a.nonce) rfl
  clear hb2 H2 s1 c1 c1' f1 HH1
  go_wp2_with fail
  refine (cloneS_any _ z3 _).mono ?_
  rintro e w3 ⟨rfl, hb3⟩
  have H3 := (show BoxF _ _ _ _ _ from HH2.out).below hb3
  have HH3 : Hid (BoxF w w3 _ _ 34) := H3
  have s3 := H3.same (i := 3) (v := .string a.opq) rfl
  have c3 := H3.at 5 (v := .string a.qop) rfl
  have f3 := free_of H3.box
  have c3' := H3.at 3 (v := .string a.opq) rfl
  clear hb3 H3 s2 c2 f2 c2' HH2
  go_wp2_with fail
  refine (cloneS_any _ z4 _).mono ?_
  rintro e w4 ⟨rfl, hb4⟩
  have H4 := (show BoxF _ _ _ _ _ from HH3.out).below hb4
  have HH4 : Hid (BoxF w w4 _ _ 34) := H4
  have s4 := H4.same (i := 5) (v := .string a.qop) rfl
  have c4 := H4.at 7 (v := .slice a0 len cap) rfl
  have c4' := H4.at 5 (v := .string a.qop) rfl
  have f4 := free_of H4.box
  have HX4 : Hid (Strs w4 a0 len b off a.dom) := HX.out.1.below H4.bel
  clear hb4 H4 s3 c3 f3 c3' HH3
  go_wp2_with fail
  refine (eachS_any a.dom HX.out.2 a0 len cap b off hlen _ HX4.out).mono ?_
  rintro e w5 ⟨⟨v, rfl, hown⟩, hb5⟩
  obtain ⟨va, vc, vg, rfl, _⟩ := hown.strs
  obtain ⟨vn, HVN⟩ : ∃ vn, Hid (a.dom.length = vn) := ⟨_, rfl⟩
  rw [HVN.out] at hown ⊢
  have H5 := (show BoxF _ _ _ _ _ from HH4.out).below hb5
  have H6 := H5.set 7 (.slice va vn vc)
  have HW4 : Hid (w.heap.size + 1 < w4.heap.size) := (Array.getElem?_eq_some_iff.1 (show BoxF _ _ _ _ _ from HH4.out).res).1
  have HO : Hid (OwnS w5 w4.heap.size (.slice va vn vc) a.dom) := hown
  have f5 := free_of H5.box
  have t7 := H5.at 7 (v := .slice a0 len cap) rfl
  have g0 := H6.at 0 (v := .int .i64 a.sch) rfl
  have g1 := H6.at 1 (v := .string a.realm) rfl
  have g2 := H6.at 2 (v := .string a.nonce) rfl
  have g3 := H6.at 3 (v := .string a.opq) rfl
  have g4 := H6.at 4 (v := .bool a.sess) rfl
  have g5 := H6.at 5 (v := .string a.qop) rfl
  have g6 := H6.at 6 (v := .bool a.stale) rfl
  have g7 := H6.at 7 (v := .slice va vn vc) rfl
  have d0 : (w5.setCell ⟨w.heap.size, 7, none⟩ (.slice va vn vc)).cell? ⟨w.heap.size + 1, 0, none⟩ = some (.int .i64 0) := cell_of H6.res
  have d1 : (w5.setCell ⟨w.heap.size, 7, none⟩ (.slice va vn vc)).cell? ⟨w.heap.size + 1, 1, none⟩ = some (.string ⟨#[]⟩) := cell_of H6.res
  have d2 : (w5.setCell ⟨w.heap.size, 7, none⟩ (.slice va vn vc)).cell? ⟨w.heap.size + 1, 2, none⟩ = some (.string ⟨#[]⟩) := cell_of H6.res
  have d3 : (w5.setCell ⟨w.heap.size, 7, none⟩ (.slice va vn vc)).cell? ⟨w.heap.size + 1, 3, none⟩ = some (.string ⟨#[]⟩) := cell_of H6.res
  have d4 : (w5.setCell ⟨w.heap.size, 7, none⟩ (.slice va vn vc)).cell? ⟨w.heap.size + 1, 4, none⟩ = some (.bool false) := cell_of H6.res
  have d5 : (w5.setCell ⟨w.heap.size, 7, none⟩ (.slice va vn vc)).cell? ⟨w.heap.size + 1, 5, none⟩ = some (.string ⟨#[]⟩) := cell_of H6.res
  have d6 : (w5.setCell ⟨w.heap.size, 7, none⟩ (.slice va vn vc)).cell? ⟨w.heap.size + 1, 6, none⟩ = some (.bool false) := cell_of H6.res
  have d7 : (w5.setCell ⟨w.heap.size, 7, none⟩ (.slice va vn vc)).cell? ⟨w.heap.size + 1, 7, none⟩ = some (.slice none 0 0) := cell_of H6.res
  have fr := free_of H6.res
  have HH5 : Hid (BoxF w (w5.setCell ⟨w.heap.size, 7, none⟩ (.slice va vn vc)) _ _ 34) := H6
  have HG5 : Hid (w5.grownBy (w5.setCell ⟨w.heap.size, 7, none⟩ (.slice va vn vc)) (some w.heap.size)) := grown_setCells w5 w.heap.size 7 [.slice va vn vc]
  clear hb5 H5 H6 s4 c4 f4 c4' HH4 hown
  go_wp2_with fail
  obtain ⟨z1, z2⟩ := setAll [.int .i64 a.sch, .string a.realm, .string a.nonce, .string a.opq, .bool a.sess, .string a.qop, .bool a.stale, .slice va vn vc] (show BoxF _ _ _ _ _ from HH5.out).res rfl
  simp only [World.setCells, Nat.reduceAdd] at z1 z2
  have HZ : Hid (w5.grownBy (w5.setCell ⟨w.heap.size, 7, none⟩ (.slice va vn vc)) (some w.heap.size)) := HG5.out
  have hb5 := (show BoxF _ _ _ _ _ from HH5.out).bel
  have hres := (show BoxF _ _ _ _ _ from HH5.out).res
  clear d0 d1 d2 d3 d4 d5 d6 d7 g0 g1 g2 g3 g4 g5 g6 g7 f5 fr t7
  refine bodyPost_ret (v := .agg #[.int .i64 a.sch, .string a.realm, .string a.nonce, .string a.opq, .bool a.sess, .string a.qop, .bool a.stale, .slice va vn vc]) (res_cell rfl rfl Try.isAgg34 Try.sizeOf34 rfl z1) rfl ?_
  refine ⟨⟨_, rfl, ?_⟩, hb5.grown z2 hb5.size (fun i hi => by injection hi with hi; omega)⟩
  have h1 := HO.out.grown HZ.out (by have := HW4.out; omega)
  have h2 := h1.grown z2 (by have := HW4.out; omega)
  exact ownS_mono h2 (by have := HW4.out; omega)
end Go.Proofs.Ytjadmldnpdmamaa

/- Rows of structs: without those from one place to another, by the library's own function; whatever the program. -/
namespace Go.Proofs.Ytjadmldnpdmamaa
open Go.RowKit
set_option linter.unusedVariables false

set_option maxRecDepth 100000 in
set_option maxHeartbeats 4000000 in
theorem dltG_of (P : Program) (hf : P.funcs[59]? = some Try.f59) (mixed : P.follows .mixedOrders = true)
    (tS : P.underlying 22 = some (TypeDesc.slice 36)) (aS : ∀ w, (isAgg 22).run P w = .ok false w) (zS : ∀ w, (Go.sizeOf 22).run P w = .ok 1 w)
    (t3 : P.underlying 3 = some (TypeDesc.int IntKind.i64)) (a3 : ∀ w, (isAgg 3).run P w = .ok false w) (z3 : ∀ w, (Go.sizeOf 3).run P w = .ok 1 w) (v3 : ∀ w, (zeroValue 3).run P w = .ok (Value.int IntKind.i64 0) w)
    (t4 : P.underlying 4 = some TypeDesc.bool) (a4 : ∀ w, (isAgg 4).run P w = .ok false w) (z4 : ∀ w, (Go.sizeOf 4).run P w = .ok 1 w)
    (k : Nat) (hk0 : 0 < k) (aE : ∀ w, (isAgg 36).run P w = .ok true w) (zE : ∀ w, (Go.sizeOf 36).run P w = .ok k w) (zc : Array Value) (vE : ∀ w, (zeroValue 36).run P w = .ok (.agg zc) w) (hzc : zc.size = k) (hz1 : ∀ u ∈ zc, u.oneCell' = true)
    (i0 : TypeInfo) (hi0 : P.info? 36 = some i0) (hi1 : i0.size = k)
    (g n cap B : Nat) (xs : List (List Value)) (hn : xs.length = n) (hbig : cap ≤ 9223372036854775807) (w : World) (hown : OwnK k 36 w B (.slice (some ⟨g, 0, none⟩) n cap) xs) (i j : Nat) (hij : i < j) (hj : j ≤ n) :
    Calls P 59 #[.slice (some ⟨g, 0, none⟩) n cap, .int .i64 i, .int .i64 j] w fun e w' => e = .returned (.slice (some ⟨g, 0, none⟩) (i + (n - j)) cap) ∧ Hid (OwnK k 36 w' B (.slice (some ⟨g, 0, none⟩) (i + (n - j)) cap) (xs.take i ++ xs.drop j) ∧ w.grownBy w' (some g)) := by
  have hncap : n ≤ cap := by
    rcases hown.forms with ⟨e, _⟩ | ⟨g', cap', e, _, _, h1, _⟩
    · cases e
    · injection e with _ _ e3
      rw [e3, ← hn]; exact h1
  have mul := fun {a b : Nat} (h : a ≤ b) => Nat.mul_le_mul_right k h
  have hyl : ∀ y ∈ xs.drop j, y.length = k := fun y hy => hown.len y (List.mem_of_mem_drop hy)
  have hy1 : ∀ y ∈ xs.drop j, ∀ u ∈ y, u.oneCell' = true := fun y hy => hown.one y (List.mem_of_mem_drop hy)
  obtain ⟨news, hnews⟩ : ∃ news, news = (xs.drop j).flatten := ⟨_, rfl⟩
  have hlen : news.length = (n - j) * k := by rw [hnews, flat_len hyl, List.length_drop, hn]
  obtain ⟨A, hA, hsrc⟩ : ∃ A : Addr, (if cap = j then some (⟨g, 0, none⟩ : Addr) else some ⟨g, j * k, none⟩) = some A ∧ Hid (∀ t u, news[t]? = some u → w.drew.cell? (A.add t) = some u) := by
    by_cases h : cap = j
    · refine ⟨⟨g, 0, none⟩, by simp [h], fun t u hu => ?_⟩
      have h0 : news.length = 0 := by rw [hlen, show n - j = 0 by omega]; simp
      rw [List.length_eq_zero_iff.1 h0] at hu
      simp at hu
    · refine ⟨⟨g, j * k, none⟩, by simp [h], fun t u hu => ?_⟩
      rw [hnews, ← flat_drop hown.len, List.getElem?_drop] at hu
      have hc := World.ownsRow.cells hown.row (g := g) rfl (j * k + t) u hu
      rw [Addr.add_lit, Nat.zero_add] at hc
      rw [Addr.add_lit]
      exact hc
  have s1 : Hid (news.length = (n - j) * k) := hlen
  have s2 : Hid (∀ u ∈ news, u.oneCell' = true) := by
    intro u hu
    rw [hnews, List.mem_flatten] at hu
    obtain ⟨y, hy, hu⟩ := hu
    exact hy1 y hy u hu
  have hbnd : i * k + (n - j) * k ≤ cap * k := by rw [← Nat.add_mul]; exact mul (by omega)
  have s3 : Hid (∀ t, t < news.length → (w.drew.cell? ⟨g, 0 + i * k + t, none⟩).isSome = true ∧ w.drew.frozen? ⟨g, 0 + i * k + t, none⟩ = false) := by
    intro t ht
    rw [hlen] at ht
    exact ⟨hown.there _ (by omega), hown.frozen _⟩
  obtain ⟨W1, hW1⟩ : ∃ W1, W1 = w.drew.setCells g (i * k) news := ⟨_, rfl⟩
  have hput : OwnK k 36 W1 B (.slice (some ⟨g, 0, none⟩) (xs.take i ++ xs.drop j ++ xs.drop (i + (xs.drop j).length)).length cap) (xs.take i ++ xs.drop j ++ xs.drop (i + (xs.drop j).length)) := by
    rw [hW1, hnews]
    have h := (show OwnK k 36 w.drew B (.slice (some ⟨g, 0, none⟩) n cap) xs from hown.drewN 1).put i (xs.drop j) hyl hy1 (by omega) (by rw [List.length_drop]; omega)
    exact h
  have hLl : (xs.take i ++ xs.drop j ++ xs.drop (i + (xs.drop j).length)).length = n := by simp; omega
  rw [hLl] at hput
  have htk : (xs.take i ++ xs.drop j ++ xs.drop (i + (xs.drop j).length)).take (i + (n - j)) = xs.take i ++ xs.drop j := by
    have : (xs.take i ++ xs.drop j).length = i + (n - j) := by simp; omega
    rw [← this, List.take_left']
    rfl
  have hb2 : (i + (n - j)) * k + (j - i) * k ≤ cap * k := by rw [← Nat.add_mul]; exact mul (by omega)
  have hzl : (Builtin.zeroCells zc (j - i)).toList.length = (j - i) * k := by simp [Builtin.zeroCells, hzc]
  have e1 : n - (i + (n - j)) = j - i := by omega
  have hcl : ∀ ty, (Builtin.clear_ #[22] ty #[.slice (some ⟨g, (i + (n - j)) * k, none⟩) (n - (i + (n - j))) (cap - (i + (n - j)))]).run P W1 = .ok (.tuple #[]) (W1.setCells g ((i + (n - j)) * k) (Builtin.zeroCells zc (j - i)).toList) :=
    fun ty => by
      rw [e1]
      exact run_clear_K P W1 _ _ ty (.agg zc) k tS vE hzc hz1 g ((i + (n - j)) * k) (j - i) _ (by omega) (fun t ht => hput.there _ (by omega)) (fun t ht => hput.frozen _)
  have HE : Hid (OwnK k 36 (W1.setCells g ((i + (n - j)) * k) (Builtin.zeroCells zc (j - i)).toList) B (.slice (some ⟨g, 0, none⟩) (i + (n - j)) cap) (xs.take i ++ xs.drop j) ∧ w.grownBy (W1.setCells g ((i + (n - j)) * k) (Builtin.zeroCells zc (j - i)).toList) (some g)) := by
    have h := hput.wipe (i + (n - j)) (by rw [hLl]; omega) (Builtin.zeroCells zc (j - i)).toList (by rw [hzl]; exact hb2)
    rw [htk] at h
    refine ⟨h, gtrans ?_ (grown_setCells _ _ _ _)⟩
    rw [hW1]
    exact gtrans (show w.grownBy w.drew (some g) from below_grown (Below.refl _ _).drew _) (grown_setCells _ _ _ _)
  have hW : Hid (W1 = w.drew.setCells g (0 + i * k) news) := by show _ = _; rw [Nat.zero_add]; exact hW1
  generalize (Builtin.zeroCells zc (j - i)).toList = zs at hcl HE
  have hic : i ≤ cap := by omega
  have hjc : j ≤ cap := by omega
  have hneq : ((i : Int) == (j : Int)) = false := beq_eq_false_iff_ne.2 (by omega)
  have hij' : (i : Int) ≤ (j : Int) := by omega
  clear hW1 hput hown hnews hlen hLl htk hb2 hzl hzc hz1 hbnd hyl hy1 mul hn e1
  go_enter hf, Try.ntmps59
  go_wp2_with fail
  go_region_law_o (refine step_append_room rfl (.tmp 22) (.tmp 25) 22 rfl 36 i0 k tS hi0 hi1 g 0 i cap (by simp [Act.eval, Act.put]) A (n - j) (cap - j) news (by simp [Act.eval, Act.put]) s1.out hsrc.out s2.out (by omega) s3.out ?_; rw [← hW.out])
  go_wp2
  go_ret
  exact ⟨rfl, HE⟩
set_option maxHeartbeats 2000000 in
theorem infoG : (Try.prog.info? 36).map (fun i => i.size) = some 16 := by kernel_rfl
theorem dltG_any (g n cap B : Nat) (xs : List (List Value)) (hn : xs.length = n) (hbig : cap ≤ 9223372036854775807) (w : World) (hown : OwnK 16 36 w B (.slice (some ⟨g, 0, none⟩) n cap) xs) (i j : Nat) (hij : i < j) (hj : j ≤ n) :
    Calls Try.prog 59 #[.slice (some ⟨g, 0, none⟩) n cap, .int .i64 i, .int .i64 j] w fun e w' => e = .returned (.slice (some ⟨g, 0, none⟩) (i + (n - j)) cap) ∧ Hid (OwnK 16 36 w' B (.slice (some ⟨g, 0, none⟩) (i + (n - j)) cap) (xs.take i ++ xs.drop j) ∧ w.grownBy w' (some g)) := by
  obtain ⟨i0, hi0, hi1⟩ := Option.map_eq_some_iff.1 infoG
  exact dltG_of Try.prog Try.func59 (by kernel_rfl) Try.underlying22 Try.isAgg22 Try.sizeOf22 Try.underlying3 Try.isAgg3 Try.sizeOf3 Try.zeroValue3 Try.underlying4 Try.isAgg4 Try.sizeOf4 16 (by omega) Try.isAgg36 Try.sizeOf36 _ Try.zeroValue36 rfl (by decide) i0 hi0 hi1 g n cap B xs hn hbig w hown i j hij hj
set_option maxHeartbeats 1000000 in
theorem dltG_same (a : Option Addr) (n cap i : Nat) (hi : i ≤ n) (hn : n ≤ cap) (w : World) : Calls Try.prog 59 #[.slice a n cap, .int .i64 i, .int .i64 i] w fun e w' => e = .returned (.slice a n cap) ∧ w' = w := by
  have hic : i ≤ cap := by omega
  cases a with
  | none =>
    go_enter Try.func59, Try.ntmps59
    go_wp2
    all_goals (go_ret; exact ⟨rfl, rfl⟩)
  | some p =>
    go_enter Try.func59, Try.ntmps59
    go_wp2
    all_goals (go_ret; exact ⟨rfl, rfl⟩)
end Go.Proofs.Ytjadmldnpdmamaa

/- A row of structs with one more as its last one, without what that takes the place of, and without the first ones, if there are more than eight. -/
namespace Go.Proofs.Ytjadmldnpdmamaa
open Go.RowKit
set_option linter.unusedVariables false

theorem gcomp {w w1 w2 : World} {row row2 : Option Nat} (h1 : w.grownBy w1 row) (h2 : w1.grownBy w2 row2) (hr : ∀ k, row2 = some k → row = some k ∨ w.heap.size ≤ k) : w.grownBy w2 row :=
  ⟨h2.os.trans h1.os, h2.tape.trans h1.tape, h2.output.trans h1.output, Nat.le_trans h1.size h2.size, fun i hi hne => (h2.block i (Nat.lt_of_lt_of_le hi h1.size) (fun e => by
    rcases hr i e.symm with h | h
    · exact hne h.symm
    · omega)).trans (h1.block i hi hne)⟩
/-- The last eight. -/
def last8 {α : Type} (l : List α) : List α := l.drop (l.length - 8)
theorem last8_map {α β : Type} (f : α → β) (l : List α) : (last8 l).map f = last8 (l.map f) := by unfold last8; rw [List.map_drop, List.length_map]
theorem box_alloc {w : World} {g : Nat} {cs : Array Value} {t : TypeId} (h : w.heap[g]? = some (.cells cs t (0, 0))) (o : Obj) : (w.alloc o).heap[g]? = some (.cells cs t (0, 0)) := (Below.heap_alloc w o g (Array.getElem?_eq_some_iff.1 h).1).trans h
/-- The row behind slices.DeleteFunc, whatever it is. -/
theorem dlfG_all (val : Value) (xs : List (List Value)) (B : Nat) (hbig : xs.length ≤ 1000) (w : World) (hown : OwnK 16 36 w B val xs)
    (p : List Value → Bool) (fn : Nat) (lb : Array Value) (eg : ∀ args w, (callFunc fn args).run Try.prog w = .ok (.enter fn args) w) (hp : PredK Try.prog fn lb p xs w val.ownBlock) :
    Calls Try.prog 17 #[val, .func (.func fn) #[] lb] w fun e w' => ∃ v, e = .returned v ∧ Hid (OwnK 16 36 w' B v (xs.filter (fun y => !p y)) ∧ v.ownBlock = val.ownBlock ∧ w.grownBy w' val.ownBlock) := by
  rcases hown.forms with ⟨rfl, rfl⟩ | ⟨g, cap, rfl, _, _, _, _⟩
  · refine (dlfG_none w _).mono ?_
    rintro e w' ⟨rfl, rfl⟩
    exact ⟨_, rfl, ⟨hown, rfl, below_grown (Below.refl _ _) _⟩⟩
  · refine (dlfG_any g _ cap B xs rfl (by omega) w hown p fn lb eg hp).mono ?_
    rintro e w' ⟨m, rfl, H⟩
    exact ⟨_, rfl, ⟨H.out.1, rfl, H.out.2.2⟩⟩
set_option maxRecDepth 100000 in
theorem infoFG : (Try.prog.info? 36).map (fun i => (i.zero, i.size, i.bytes)) = some (some (.agg #[.bool false, .string ⟨#[]⟩, .int .i64 0, .bool false, .string ⟨#[]⟩, .string ⟨#[]⟩, .int .i64 0, .string ⟨#[]⟩, .string ⟨#[]⟩, .string ⟨#[]⟩, .bool false, .string ⟨#[]⟩, .bool false, .slice none 0 0, .int .i64 0, .slice none 0 0]), 16, 216) := by kernel_rfl
/-- A row behind slices.Delete of its first ones, whatever it is. -/
theorem cut8G (g n cap B : Nat) (xs : List (List Value)) (hn : xs.length = n) (hbig : cap ≤ 9223372036854775807) (w : World) (hown : OwnK 16 36 w B (.slice (some ⟨g, 0, none⟩) n cap) xs) (z : Int) (hz : z = ((n - 8 : Nat) : Int)) :
    Calls Try.prog 59 #[.slice (some ⟨g, 0, none⟩) n cap, .int .i64 0, .int .i64 z] w fun e w' => ∃ k, e = .returned (.slice (some ⟨g, 0, none⟩) k cap) ∧ Hid (OwnK 16 36 w' B (.slice (some ⟨g, 0, none⟩) k cap) (last8 xs) ∧ w.grownBy w' (some g)) := by
  have hnc : n ≤ cap := by
    rcases hown.forms with ⟨e, _⟩ | ⟨g', cap', e, _, _, h1, _⟩
    · cases e
    · injection e with _ _ e3
      rw [e3, ← hn]; exact h1
  obtain ⟨m, hm⟩ : ∃ m, m = n - 8 := ⟨_, rfl⟩
  rw [← hm] at hz
  subst hz
  rcases Nat.eq_zero_or_pos m with h0 | h0
  · subst h0
    refine (dltG_same (some ⟨g, 0, none⟩) n cap 0 (Nat.zero_le _) hnc w).mono ?_
    rintro e w' ⟨rfl, rfl⟩
    refine ⟨n, rfl, ⟨?_, below_grown (Below.refl _ _) _⟩⟩
    unfold last8
    rw [hn, ← hm]
    exact hown
  · refine (dltG_any g n cap B xs hn hbig w hown 0 m h0 (by omega)).mono ?_
    rintro e w' ⟨rfl, H⟩
    refine ⟨_, rfl, ⟨?_, H.out.2⟩⟩
    have h := H.out.1
    unfold last8
    rw [hn, ← hm]
    simpa using h
/-- What slices.DeleteFunc leaves, ahead of one more. -/
structure RenG (w W w2 : World) (B : Nat) (val u : Value) (ys : List (List Value)) (v : GrV) : Prop where
  own : OwnK 16 36 w2 B u ys
  row : u.ownBlock = val.ownBlock
  grown : w.grownBy w2 val.ownBlock
  grownW : W.grownBy w2 val.ownBlock
  box : w2.heap[w.heap.size]? = some (.cells #[.bool v.g.org.sec, .string v.g.org.host, .int .i64 v.g.org.port, .bool v.g.proxy, .string v.g.user, .string v.g.pass, .int .i64 v.g.ask.sch, .string v.g.ask.realm, .string v.g.ask.nonce, .string v.g.ask.opq, .bool v.g.ask.sess, .string v.g.ask.qop, .bool v.g.ask.stale, v.dv, .int .i64 v.g.count, v.pv] 36 (0, 0))
theorem renG_call (val : Value) (xs : List (List Value)) (B : Nat) (hbig : xs.length ≤ 1000) (w : World) (hown : OwnK 16 36 w B val xs) (v : GrV)
    (p : List Value → Bool) (fn : Nat) (lb : Array Value) (eg : ∀ args w, (callFunc fn args).run Try.prog w = .ok (.enter fn args) w) (hp : PredK Try.prog fn lb p xs w val.ownBlock) (W : World) (hb : Below (w.alloc (.cells #[.bool v.g.org.sec, .string v.g.org.host, .int .i64 v.g.org.port, .bool v.g.proxy, .string v.g.user, .string v.g.pass, .int .i64 v.g.ask.sch, .string v.g.ask.realm, .string v.g.ask.nonce, .string v.g.ask.opq, .bool v.g.ask.sess, .string v.g.ask.qop, .bool v.g.ask.stale, v.dv, .int .i64 v.g.count, v.pv] 36)).heap.size (w.alloc (.cells #[.bool v.g.org.sec, .string v.g.org.host, .int .i64 v.g.org.port, .bool v.g.proxy, .string v.g.user, .string v.g.pass, .int .i64 v.g.ask.sch, .string v.g.ask.realm, .string v.g.ask.nonce, .string v.g.ask.opq, .bool v.g.ask.sess, .string v.g.ask.qop, .bool v.g.ask.stale, v.dv, .int .i64 v.g.count, v.pv] 36)) W) :
    Calls Try.prog 17 #[val, .func (.func fn) #[] lb] W fun e w2 => ∃ u, e = .returned u ∧ Hid (RenG w W w2 B val u (xs.filter (fun y => !p y)) v) := by
  have hbb : Below w.heap.size w (w.alloc (.cells #[.bool v.g.org.sec, .string v.g.org.host, .int .i64 v.g.org.port, .bool v.g.proxy, .string v.g.user, .string v.g.pass, .int .i64 v.g.ask.sch, .string v.g.ask.realm, .string v.g.ask.nonce, .string v.g.ask.opq, .bool v.g.ask.sess, .string v.g.ask.qop, .bool v.g.ask.stale, v.dv, .int .i64 v.g.count, v.pv] 36)) := (Below.refl _ _).alloc (Nat.le_refl _) _
  have hbW : Below w.heap.size w W := hbb.trans (hb.mono hbb.size)
  have hbox := (hb.block w.heap.size (by simp)).trans (heap_alloc_new w (.cells #[.bool v.g.org.sec, .string v.g.org.host, .int .i64 v.g.org.port, .bool v.g.proxy, .string v.g.user, .string v.g.pass, .int .i64 v.g.ask.sch, .string v.g.ask.realm, .string v.g.ask.nonce, .string v.g.ask.opq, .bool v.g.ask.sess, .string v.g.ask.qop, .bool v.g.ask.stale, v.dv, .int .i64 v.g.count, v.pv] 36))
  refine (dlfG_all val xs B hbig W (hown.below hbW) p fn lb eg (fun W' x hx hg => hp W' x hx (gcomp (below_grown hbW _) hg (fun k hk => .inl hk)))).mono ?_
  rintro e w2 ⟨u, rfl, H⟩
  refine ⟨u, rfl, ⟨H.out.1, H.out.2.1, gcomp (below_grown hbW _) H.out.2.2 (fun k hk => .inl hk), H.out.2.2, (H.out.2.2.block _ (Array.getElem?_eq_some_iff.1 hbox).1 (fun e => ?_)).trans hbox⟩⟩
  have := (hown.lt _ e.symm).2
  omega
theorem renG_news {val u : Value} {xs ys : List (List Value)} {B : Nat} {w w2 : World} {v : GrV} (hown : OwnK 16 36 w B val xs) (h : RenG w ((w.alloc (.cells #[.bool v.g.org.sec, .string v.g.org.host, .int .i64 v.g.org.port, .bool v.g.proxy, .string v.g.user, .string v.g.pass, .int .i64 v.g.ask.sch, .string v.g.ask.realm, .string v.g.ask.nonce, .string v.g.ask.opq, .bool v.g.ask.sess, .string v.g.ask.qop, .bool v.g.ask.stale, v.dv, .int .i64 v.g.count, v.pv] 36)).alloc (.cells #[.bool v.g.org.sec, .string v.g.org.host, .int .i64 v.g.org.port, .bool v.g.proxy, .string v.g.user, .string v.g.pass, .int .i64 v.g.ask.sch, .string v.g.ask.realm, .string v.g.ask.nonce, .string v.g.ask.opq, .bool v.g.ask.sess, .string v.g.ask.qop, .bool v.g.ask.stale, v.dv, .int .i64 v.g.count, v.pv] 36)).drew w2 B val u ys v) : w2.heap[w.heap.size + 1]? = some (.cells #[.bool v.g.org.sec, .string v.g.org.host, .int .i64 v.g.org.port, .bool v.g.proxy, .string v.g.user, .string v.g.pass, .int .i64 v.g.ask.sch, .string v.g.ask.realm, .string v.g.ask.nonce, .string v.g.ask.opq, .bool v.g.ask.sess, .string v.g.ask.qop, .bool v.g.ask.stale, v.dv, .int .i64 v.g.count, v.pv] 36 (0, 0)) := by
  have e : ((w.alloc (.cells #[.bool v.g.org.sec, .string v.g.org.host, .int .i64 v.g.org.port, .bool v.g.proxy, .string v.g.user, .string v.g.pass, .int .i64 v.g.ask.sch, .string v.g.ask.realm, .string v.g.ask.nonce, .string v.g.ask.opq, .bool v.g.ask.sess, .string v.g.ask.qop, .bool v.g.ask.stale, v.dv, .int .i64 v.g.count, v.pv] 36)).alloc (.cells #[.bool v.g.org.sec, .string v.g.org.host, .int .i64 v.g.org.port, .bool v.g.proxy, .string v.g.user, .string v.g.pass, .int .i64 v.g.ask.sch, .string v.g.ask.realm, .string v.g.ask.nonce, .string v.g.ask.opq, .bool v.g.ask.sess, .string v.g.ask.qop, .bool v.g.ask.stale, v.dv, .int .i64 v.g.count, v.pv] 36)).drew.heap[w.heap.size + 1]? = some (.cells #[.bool v.g.org.sec, .string v.g.org.host, .int .i64 v.g.org.port, .bool v.g.proxy, .string v.g.user, .string v.g.pass, .int .i64 v.g.ask.sch, .string v.g.ask.realm, .string v.g.ask.nonce, .string v.g.ask.opq, .bool v.g.ask.sess, .string v.g.ask.qop, .bool v.g.ask.stale, v.dv, .int .i64 v.g.count, v.pv] 36 (0, 0)) := by
    have := heap_alloc_new (w.alloc (.cells #[.bool v.g.org.sec, .string v.g.org.host, .int .i64 v.g.org.port, .bool v.g.proxy, .string v.g.user, .string v.g.pass, .int .i64 v.g.ask.sch, .string v.g.ask.realm, .string v.g.ask.nonce, .string v.g.ask.opq, .bool v.g.ask.sess, .string v.g.ask.qop, .bool v.g.ask.stale, v.dv, .int .i64 v.g.count, v.pv] 36)) (.cells #[.bool v.g.org.sec, .string v.g.org.host, .int .i64 v.g.org.port, .bool v.g.proxy, .string v.g.user, .string v.g.pass, .int .i64 v.g.ask.sch, .string v.g.ask.realm, .string v.g.ask.nonce, .string v.g.ask.opq, .bool v.g.ask.sess, .string v.g.ask.qop, .bool v.g.ask.stale, v.dv, .int .i64 v.g.count, v.pv] 36)
    rw [World.size_alloc] at this
    exact this
  refine (h.grownW.block _ (Array.getElem?_eq_some_iff.1 e).1 (fun e2 => ?_)).trans e
  have := (hown.lt _ e2.symm).2
  omega
/-- Behind the append. -/
theorem renG_end {val u u4 : Value} {xs ys zs : List (List Value)} {B : Nat} {w W w2 w3 w4 : World} {v : GrV} (hown : OwnK 16 36 w B val xs) (hB : Hid (B ≤ w.heap.size)) (h : RenG w W w2 B val u ys v) (h3 : w2.grownBy w3 val.ownBlock) (h4 : w3.grownBy w4 u.ownBlock) (hu : OwnK 16 36 w4 B u4 zs) {g4 H : Nat} (hat : u.ownBlock = some g4 ∨ g4 = H) (hH : w.heap.size ≤ H) :
    Hid (OwnK 16 36 w4 B u4 zs ∧ w.grownBy w4 val.ownBlock ∧ w4.heap[w.heap.size]? = some (.cells #[.bool v.g.org.sec, .string v.g.org.host, .int .i64 v.g.org.port, .bool v.g.proxy, .string v.g.user, .string v.g.pass, .int .i64 v.g.ask.sch, .string v.g.ask.realm, .string v.g.ask.nonce, .string v.g.ask.opq, .bool v.g.ask.sess, .string v.g.ask.qop, .bool v.g.ask.stale, v.dv, .int .i64 v.g.count, v.pv] 36 (0, 0)) ∧ (val.ownBlock = some g4 ∨ w.heap.size ≤ g4)) := by
  have hlt : w.heap.size < w2.heap.size := (Array.getElem?_eq_some_iff.1 h.box).1
  have hne : some w.heap.size ≠ val.ownBlock := fun e => by
    have := (hown.lt _ e.symm).2
    omega
  refine ⟨hu, gcomp (gcomp h.grown h3 (fun k hk => .inl hk)) h4 (fun k hk => .inl (by rw [← h.row]; exact hk)), ?_, ?_⟩
  rotate_left
  · rcases hat with e | rfl
    · rw [h.row] at e; exact .inl e
    · exact .inr hH
  rw [h4.block _ (Nat.lt_of_lt_of_le hlt h3.size) (by rw [h.row]; exact hne), h3.block _ hlt hne]
  exact h.box
set_option maxRecDepth 100000 in
set_option maxHeartbeats 2000000 in
theorem renG_any (val : Value) (xs : List (List Value)) (B : Nat) (hbig : xs.length ≤ 1000) (w : World) (hB : B ≤ w.heap.size) (hown : OwnK 16 36 w B val xs) (v : GrV) (hx1 : ∀ u ∈ grCells v, u.oneCell' = true)
    (p : List Value → Bool) (fn : Nat) (lb : Array Value) (eg : ∀ args w, (callFunc fn args).run Try.prog w = .ok (.enter fn args) w) (hp : PredK Try.prog fn lb p xs w val.ownBlock) :
    Calls Try.prog 52 #[val, .agg (grCells v).toArray, .func (.func fn) #[] lb] w fun e w' => ∃ u, e = .returned u ∧ Hid (OwnK 16 36 w' B u (last8 (xs.filter (fun y => !p y) ++ [grCells v])) ∧ w.grownBy w' val.ownBlock ∧ ∀ k, u.ownBlock = some k → val.ownBlock = some k ∨ w.heap.size ≤ k) := by
  have HB : Hid (B ≤ w.heap.size) := hB
  have HP : Hid (OwnK 16 36 w B val xs ∧ PredK Try.prog fn lb p xs w val.ownBlock ∧ (∀ u ∈ grCells v, u.oneCell' = true) ∧ (∀ args w, (callFunc fn args).run Try.prog w = .ok (.enter fn args) w)) := ⟨hown, hp, hx1, eg⟩
  have hcall := renG_call val xs B hbig w hown v p fn lb eg hp
  have hQ : (w.alloc (.cells #[.bool v.g.org.sec, .string v.g.org.host, .int .i64 v.g.org.port, .bool v.g.proxy, .string v.g.user, .string v.g.pass, .int .i64 v.g.ask.sch, .string v.g.ask.realm, .string v.g.ask.nonce, .string v.g.ask.opq, .bool v.g.ask.sess, .string v.g.ask.qop, .bool v.g.ask.stale, v.dv, .int .i64 v.g.count, v.pv] 36)).drew.cell? ⟨w.heap.size, 0, none⟩ = some (.bool v.g.org.sec) ∧ (w.alloc (.cells #[.bool v.g.org.sec, .string v.g.org.host, .int .i64 v.g.org.port, .bool v.g.proxy, .string v.g.user, .string v.g.pass, .int .i64 v.g.ask.sch, .string v.g.ask.realm, .string v.g.ask.nonce, .string v.g.ask.opq, .bool v.g.ask.sess, .string v.g.ask.qop, .bool v.g.ask.stale, v.dv, .int .i64 v.g.count, v.pv] 36)).drew.cell? ⟨w.heap.size, 1, none⟩ = some (.string v.g.org.host) ∧ (w.alloc (.cells #[.bool v.g.org.sec, .string v.g.org.host, .int .i64 v.g.org.port, .bool v.g.proxy, .string v.g.user, .string v.g.pass, .int .i64 v.g.ask.sch, .string v.g.ask.realm, .string v.g.ask.nonce, .string v.g.ask.opq, .bool v.g.ask.sess, .string v.g.ask.qop, .bool v.g.ask.stale, v.dv, .int .i64 v.g.count, v.pv] 36)).drew.cell? ⟨w.heap.size, 2, none⟩ = some (.int .i64 v.g.org.port) ∧ (w.alloc (.cells #[.bool v.g.org.sec, .string v.g.org.host, .int .i64 v.g.org.port, .bool v.g.proxy, .string v.g.user, .string v.g.pass, .int .i64 v.g.ask.sch, .string v.g.ask.realm, .string v.g.ask.nonce, .string v.g.ask.opq, .bool v.g.ask.sess, .string v.g.ask.qop, .bool v.g.ask.stale, v.dv, .int .i64 v.g.count, v.pv] 36)).drew.cell? ⟨w.heap.size, 3, none⟩ = some (.bool v.g.proxy) ∧ (w.alloc (.cells #[.bool v.g.org.sec, .string v.g.org.host, .int .i64 v.g.org.port, .bool v.g.proxy, .string v.g.user, .string v.g.pass, .int .i64 v.g.ask.sch, .string v.g.ask.realm, .string v.g.ask.nonce, .string v.g.ask.opq, .bool v.g.ask.sess, .string v.g.ask.qop, .bool v.g.ask.stale, v.dv, .int .i64 v.g.count, v.pv] 36)).drew.cell? ⟨w.heap.size, 4, none⟩ = some (.string v.g.user) ∧ (w.alloc (.cells #[.bool v.g.org.sec, .string v.g.org.host, .int .i64 v.g.org.port, .bool v.g.proxy, .string v.g.user, .string v.g.pass, .int .i64 v.g.ask.sch, .string v.g.ask.realm, .string v.g.ask.nonce, .string v.g.ask.opq, .bool v.g.ask.sess, .string v.g.ask.qop, .bool v.g.ask.stale, v.dv, .int .i64 v.g.count, v.pv] 36)).drew.cell? ⟨w.heap.size, 5, none⟩ = some (.string v.g.pass) ∧ (w.alloc (.cells #[.bool v.g.org.sec, .string v.g.org.host, .int .i64 v.g.org.port, .bool v.g.proxy, .string v.g.user, .string v.g.pass, .int .i64 v.g.ask.sch, .string v.g.ask.realm, .string v.g.ask.nonce, .string v.g.ask.opq, .bool v.g.ask.sess, .string v.g.ask.qop, .bool v.g.ask.stale, v.dv, .int .i64 v.g.count, v.pv] 36)).drew.cell? ⟨w.heap.size, 6, none⟩ = some (.int .i64 v.g.ask.sch) ∧ (w.alloc (.cells #[.bool v.g.org.sec, .string v.g.org.host, .int .i64 v.g.org.port, .bool v.g.proxy, .string v.g.user, .string v.g.pass, .int .i64 v.g.ask.sch, .string v.g.ask.realm, .string v.g.ask.nonce, .string v.g.ask.opq, .bool v.g.ask.sess, .string v.g.ask.qop, .bool v.g.ask.stale, v.dv, .int .i64 v.g.count, v.pv] 36)).drew.cell? ⟨w.heap.size, 7, none⟩ = some (.string v.g.ask.realm) ∧ (w.alloc (.cells #[.bool v.g.org.sec, .string v.g.org.host, .int .i64 v.g.org.port, .bool v.g.proxy, .string v.g.user, .string v.g.pass, .int .i64 v.g.ask.sch, .string v.g.ask.realm, .string v.g.ask.nonce, .string v.g.ask.opq, .bool v.g.ask.sess, .string v.g.ask.qop, .bool v.g.ask.stale, v.dv, .int .i64 v.g.count, v.pv] 36)).drew.cell? ⟨w.heap.size, 8, none⟩ = some (.string v.g.ask.nonce) ∧ (w.alloc (.cells #[.bool v.g.org.sec, .string v.g.org.host, .int .i64 v.g.org.port, .bool v.g.proxy, .string v.g.user, .string v.g.pass, .int .i64 v.g.ask.sch, .string v.g.ask.realm, .string v.g.ask.nonce, .string v.g.ask.opq, .bool v.g.ask.sess, .string v.g.ask.qop, .bool v.g.ask.stale, v.dv, .int .i64 v.g.count, v.pv] 36)).drew.cell? ⟨w.heap.size, 9, none⟩ = some (.string v.g.ask.opq) ∧ (w.alloc (.cells #[.bool v.g.org.sec, .string v.g.org.host, .int .i64 v.g.org.port, .bool v.g.proxy, .string v.g.user, .string v.g.pass, .int .i64 v.g.ask.sch, .string v.g.ask.realm, .string v.g.ask.nonce, .string v.g.ask.opq, .bool v.g.ask.sess, .string v.g.ask.qop, .bool v.g.ask.stale, v.dv, .int .i64 v.g.count, v.pv] 36)).drew.cell? ⟨w.heap.size, 10, none⟩ = some (.bool v.g.ask.sess) ∧ (w.alloc (.cells #[.bool v.g.org.sec, .string v.g.org.host, .int .i64 v.g.org.port, .bool v.g.proxy, .string v.g.user, .string v.g.pass, .int .i64 v.g.ask.sch, .string v.g.ask.realm, .string v.g.ask.nonce, .string v.g.ask.opq, .bool v.g.ask.sess, .string v.g.ask.qop, .bool v.g.ask.stale, v.dv, .int .i64 v.g.count, v.pv] 36)).drew.cell? ⟨w.heap.size, 11, none⟩ = some (.string v.g.ask.qop) ∧ (w.alloc (.cells #[.bool v.g.org.sec, .string v.g.org.host, .int .i64 v.g.org.port, .bool v.g.proxy, .string v.g.user, .string v.g.pass, .int .i64 v.g.ask.sch, .string v.g.ask.realm, .string v.g.ask.nonce, .string v.g.ask.opq, .bool v.g.ask.sess, .string v.g.ask.qop, .bool v.g.ask.stale, v.dv, .int .i64 v.g.count, v.pv] 36)).drew.cell? ⟨w.heap.size, 12, none⟩ = some (.bool v.g.ask.stale) ∧ (w.alloc (.cells #[.bool v.g.org.sec, .string v.g.org.host, .int .i64 v.g.org.port, .bool v.g.proxy, .string v.g.user, .string v.g.pass, .int .i64 v.g.ask.sch, .string v.g.ask.realm, .string v.g.ask.nonce, .string v.g.ask.opq, .bool v.g.ask.sess, .string v.g.ask.qop, .bool v.g.ask.stale, v.dv, .int .i64 v.g.count, v.pv] 36)).drew.cell? ⟨w.heap.size, 13, none⟩ = some (v.dv) ∧ (w.alloc (.cells #[.bool v.g.org.sec, .string v.g.org.host, .int .i64 v.g.org.port, .bool v.g.proxy, .string v.g.user, .string v.g.pass, .int .i64 v.g.ask.sch, .string v.g.ask.realm, .string v.g.ask.nonce, .string v.g.ask.opq, .bool v.g.ask.sess, .string v.g.ask.qop, .bool v.g.ask.stale, v.dv, .int .i64 v.g.count, v.pv] 36)).drew.cell? ⟨w.heap.size, 14, none⟩ = some (.int .i64 v.g.count) ∧ (w.alloc (.cells #[.bool v.g.org.sec, .string v.g.org.host, .int .i64 v.g.org.port, .bool v.g.proxy, .string v.g.user, .string v.g.pass, .int .i64 v.g.ask.sch, .string v.g.ask.realm, .string v.g.ask.nonce, .string v.g.ask.opq, .bool v.g.ask.sess, .string v.g.ask.qop, .bool v.g.ask.stale, v.dv, .int .i64 v.g.count, v.pv] 36)).drew.cell? ⟨w.heap.size, 15, none⟩ = some (v.pv) := by
    have hn := heap_alloc_new w (.cells #[.bool v.g.org.sec, .string v.g.org.host, .int .i64 v.g.org.port, .bool v.g.proxy, .string v.g.user, .string v.g.pass, .int .i64 v.g.ask.sch, .string v.g.ask.realm, .string v.g.ask.nonce, .string v.g.ask.opq, .bool v.g.ask.sess, .string v.g.ask.qop, .bool v.g.ask.stale, v.dv, .int .i64 v.g.count, v.pv] 36)
    exact ⟨(cell_of (i := 0) hn).trans rfl, (cell_of (i := 1) hn).trans rfl, (cell_of (i := 2) hn).trans rfl, (cell_of (i := 3) hn).trans rfl, (cell_of (i := 4) hn).trans rfl, (cell_of (i := 5) hn).trans rfl, (cell_of (i := 6) hn).trans rfl, (cell_of (i := 7) hn).trans rfl, (cell_of (i := 8) hn).trans rfl, (cell_of (i := 9) hn).trans rfl, (cell_of (i := 10) hn).trans rfl, (cell_of (i := 11) hn).trans rfl, (cell_of (i := 12) hn).trans rfl, (cell_of (i := 13) hn).trans rfl, (cell_of (i := 14) hn).trans rfl, (cell_of (i := 15) hn).trans rfl⟩
  have hQB : ((w.alloc (.cells #[.bool v.g.org.sec, .string v.g.org.host, .int .i64 v.g.org.port, .bool v.g.proxy, .string v.g.user, .string v.g.pass, .int .i64 v.g.ask.sch, .string v.g.ask.realm, .string v.g.ask.nonce, .string v.g.ask.opq, .bool v.g.ask.sess, .string v.g.ask.qop, .bool v.g.ask.stale, v.dv, .int .i64 v.g.count, v.pv] 36)).alloc (.cells #[.bool v.g.org.sec, .string v.g.org.host, .int .i64 v.g.org.port, .bool v.g.proxy, .string v.g.user, .string v.g.pass, .int .i64 v.g.ask.sch, .string v.g.ask.realm, .string v.g.ask.nonce, .string v.g.ask.opq, .bool v.g.ask.sess, .string v.g.ask.qop, .bool v.g.ask.stale, v.dv, .int .i64 v.g.count, v.pv] 36)).drew.cell? ⟨w.heap.size, 0, none⟩ = some (.bool v.g.org.sec) ∧ ((w.alloc (.cells #[.bool v.g.org.sec, .string v.g.org.host, .int .i64 v.g.org.port, .bool v.g.proxy, .string v.g.user, .string v.g.pass, .int .i64 v.g.ask.sch, .string v.g.ask.realm, .string v.g.ask.nonce, .string v.g.ask.opq, .bool v.g.ask.sess, .string v.g.ask.qop, .bool v.g.ask.stale, v.dv, .int .i64 v.g.count, v.pv] 36)).alloc (.cells #[.bool v.g.org.sec, .string v.g.org.host, .int .i64 v.g.org.port, .bool v.g.proxy, .string v.g.user, .string v.g.pass, .int .i64 v.g.ask.sch, .string v.g.ask.realm, .string v.g.ask.nonce, .string v.g.ask.opq, .bool v.g.ask.sess, .string v.g.ask.qop, .bool v.g.ask.stale, v.dv, .int .i64 v.g.count, v.pv] 36)).drew.cell? ⟨w.heap.size, 1, none⟩ = some (.string v.g.org.host) ∧ ((w.alloc (.cells #[.bool v.g.org.sec, .string v.g.org.host, .int .i64 v.g.org.port, .bool v.g.proxy, .string v.g.user, .string v.g.pass, .int .i64 v.g.ask.sch, .string v.g.ask.realm, .string v.g.ask.nonce, .string v.g.ask.opq, .bool v.g.ask.sess, .string v.g.ask.qop, .bool v.g.ask.stale, v.dv, .int .i64 v.g.count, v.pv] 36)).alloc (.cells #[.bool v.g.org.sec, .string v.g.org.host, .int .i64 v.g.org.port, .bool v.g.proxy, .string v.g.user, .string v.g.pass, .int .i64 v.g.ask.sch, .string v.g.ask.realm, .string v.g.ask.nonce, .string v.g.ask.opq, .bool v.g.ask.sess, .string v.g.ask.qop, .bool v.g.ask.stale, v.dv, .int .i64 v.g.count, v.pv] 36)).drew.cell? ⟨w.heap.size, 2, none⟩ = some (.int .i64 v.g.org.port) ∧ ((w.alloc (.cells #[.bool v.g.org.sec, .string v.g.org.host, .int .i64 v.g.org.port, .bool v.g.proxy, .string v.g.user, .string v.g.pass, .int .i64 v.g.ask.sch, .string v.g.ask.realm, .string v.g.ask.nonce, .string v.g.ask.opq, .bool v.g.ask.sess, .string v.g.ask.qop, .bool v.g.ask.stale, v.dv, .int .i64 v.g.count, v.pv] 36)).alloc (.cells #[.bool v.g.org.sec, .string v.g.org.host, .int .i64 v.g.org.port, .bool v.g.proxy, .string v.g.user, .string v.g.pass, .int .i64 v.g.ask.sch, .string v.g.ask.realm, .string v.g.ask.nonce, .string v.g.ask.opq, .bool v.g.ask.sess, .string v.g.ask.qop, .bool v.g.ask.stale, v.dv, .int .i64 v.g.count, v.pv] 36)).drew.cell? ⟨w.heap.size, 3, none⟩ = some (.bool v.g.proxy) ∧ ((w.alloc (.cells #[.bool v.g.org.sec, .string v.g.org.host, .int .i64 v.g.org.port, .bool v.g.proxy, .string v.g.user, .string v.g.pass, .int .i64 v.g.ask.sch, .string v.g.ask.realm, .string v.g.ask.nonce, .string v.g.ask.opq, .bool v.g.ask.sess, .string v.g.ask.qop, .bool v.g.ask.stale, v.dv, .int .i64 v.g.count, v.pv] 36)).alloc (.cells #[.bool v.g.org.sec, .string v.g.org.host, .int .i64 v.g.org.port, .bool v.g.proxy, .string v.g.user, .string v.g.pass, .int .i64 v.g.ask.sch, .string v.g.ask.realm, .string v.g.ask.nonce, .string v.g.ask.opq, .bool v.g.ask.sess, .string v.g.ask.qop, .bool v.g.ask.stale, v.dv, .int .i64 v.g.count, v.pv] 36)).drew.cell? ⟨w.heap.size, 4, none⟩ = some (.string v.g.user) ∧ ((w.alloc (.cells #[.bool v.g.org.sec, .string v.g.org.host, .int .i64 v.g.org.port, .bool v.g.proxy, .string v.g.user, .string v.g.pass, .int .i64 v.g.ask.sch, .string v.g.ask.realm, .string v.g.ask.nonce, .string v.g.ask.opq, .bool v.g.ask.sess, .string v.g.ask.qop, .bool v.g.ask.stale, v.dv, .int .i64 v.g.count, v.pv] 36)).alloc (.cells #[.bool v.g.org.sec, .string v.g.org.host, .int .i64 v.g.org.port, .bool v.g.proxy, .string v.g.user, .string v.g.pass, .int .i64 v.g.ask.sch, .string v.g.ask.realm, .string v.g.ask.nonce, .string v.g.ask.opq, .bool v.g.ask.sess, .string v.g.ask.qop, .bool v.g.ask.stale, v.dv, .int .i64 v.g.count, v.pv] 36)).drew.cell? ⟨w.heap.size, 5, none⟩ = some (.string v.g.pass) ∧ ((w.alloc (.cells #[.bool v.g.org.sec, .string v.g.org.host, .int .i64 v.g.org.port, .bool v.g.proxy, .string v.g.user, .string v.g.pass, .int .i64 v.g.ask.sch, .string v.g.ask.realm, .string v.g.ask.nonce, .string v.g.ask.opq, .bool v.g.ask.sess, .string v.g.ask.qop, .bool v.g.ask.stale, v.dv, .int .i64 v.g.count, v.pv] 36)).alloc (.cells #[.bool v.g.org.sec, .string v.g.org.host, .int .i64 v.g.org.port, .bool v.g.proxy, .string v.g.user, .string v.g.pass, .int .i64 v.g.ask.sch, .string v.g.ask.realm, .string v.g.ask.nonce, .string v.g.ask.opq, .bool v.g.ask.sess, .string v.g.ask.qop, .bool v.g.ask.stale, v.dv, .int .i64 v.g.count, v.pv] 36)).drew.cell? ⟨w.heap.size, 6, none⟩ = some (.int .i64 v.g.ask.sch) ∧ ((w.alloc (.cells #[.bool v.g.org.sec, .string v.g.org.host, .int .i64 v.g.org.port, .bool v.g.proxy, .string v.g.user, .string v.g.pass, .int .i64 v.g.ask.sch, .string v.g.ask.realm, .string v.g.ask.nonce, .string v.g.ask.opq, .bool v.g.ask.sess, .string v.g.ask.qop, .bool v.g.ask.stale, v.dv, .int .i64 v.g.count, v.pv] 36)).alloc (.cells #[.bool v.g.org.sec, .string v.g.org.host, .int .i64 v.g.org.port, .bool v.g.proxy, .string v.g.user, .string v.g.pass, .int .i64 v.g.ask.sch, .string v.g.ask.realm, .string v.g.ask.nonce, .string v.g.ask.opq, .bool v.g.ask.sess, .string v.g.ask.qop, .bool v.g.ask.stale, v.dv, .int .i64 v.g.count, v.pv] 36)).drew.cell? ⟨w.heap.size, 7, none⟩ = some (.string v.g.ask.realm) ∧ ((w.alloc (.cells #[.bool v.g.org.sec, .string v.g.org.host, .int .i64 v.g.org.port, .bool v.g.proxy, .string v.g.user, .string v.g.pass, .int .i64 v.g.ask.sch, .string v.g.ask.realm, .string v.g.ask.nonce, .string v.g.ask.opq, .bool v.g.ask.sess, .string v.g.ask.qop, .bool v.g.ask.stale, v.dv, .int .i64 v.g.count, v.pv] 36)).alloc (.cells #[.bool v.g.org.sec, .string v.g.org.host, .int .i64 v.g.org.port, .bool v.g.proxy, .string v.g.user, .string v.g.pass, .int .i64 v.g.ask.sch, .string v.g.ask.realm, .string v.g.ask.nonce, .string v.g.ask.opq, .bool v.g.ask.sess, .string v.g.ask.qop, .bool v.g.ask.stale, v.dv, .int .i64 v.g.count, v.pv] 36)).drew.cell? ⟨w.heap.size, 8, none⟩ = some (.string v.g.ask.nonce) ∧ ((w.alloc (.cells #[.bool v.g.org.sec, .string v.g.org.host, .int .i64 v.g.org.port, .bool v.g.proxy, .string v.g.user, .string v.g.pass, .int .i64 v.g.ask.sch, .string v.g.ask.realm, .string v.g.ask.nonce, .string v.g.ask.opq, .bool v.g.ask.sess, .string v.g.ask.qop, .bool v.g.ask.stale, v.dv, .int .i64 v.g.count, v.pv] 36)).alloc (.cells #[.bool v.g.org.sec, .string v.g.org.host, .int .i64 v.g.org.port, .bool v.g.proxy, .string v.g.user, .string v.g.pass, .int .i64 v.g.ask.sch, .string v.g.ask.realm, .string v.g.ask.nonce, .string v.g.ask.opq, .bool v.g.ask.sess, .string v.g.ask.qop, .bool v.g.ask.stale, v.dv, .int .i64 v.g.count, v.pv] 36)).drew.cell? ⟨w.heap.size, 9, none⟩ = some (.string v.g.ask.opq) ∧ ((w.alloc (.cells #[.bool v.g.org.sec, .string v.g.org.host, .int .i64 v.g.org.port, .bool v.g.proxy, .string v.g.user, .string v.g.pass, .int .i64 v.g.ask.sch, .string v.g.ask.realm, .string v.g.ask.nonce, .string v.g.ask.opq, .bool v.g.ask.sess, .string v.g.ask.qop, .bool v.g.ask.stale, v.dv, .int .i64 v.g.count, v.pv] 36)).alloc (.cells #[.bool v.g.org.sec, .string v.g.org.host, .int .i64 v.g.org.port, .bool v.g.proxy, .string v.g.user, .string v.g.pass, .int .i64 v.g.ask.sch, .string v.g.ask.realm, .string v.g.ask.nonce, .string v.g.ask.opq, .bool v.g.ask.sess, .string v.g.ask.qop, .bool v.g.ask.stale, v.dv, .int .i64 v.g.count, v.pv] 36)).drew.cell? ⟨w.heap.size, 10, none⟩ = some (.bool v.g.ask.sess) ∧ ((w.alloc (.cells #[.bool v.g.org.sec, .string v.g.org.host, .int .i64 v.g.org.port, .bool v.g.proxy, .string v.g.user, .string v.g.pass, .int .i64 v.g.ask.sch, .string v.g.ask.realm, .string v.g.ask.nonce, .string v.g.ask.opq, .bool v.g.ask.sess, .string v.g.ask.qop, .bool v.g.ask.stale, v.dv, .int .i64 v.g.count, v.pv] 36)).alloc (.cells #[.bool v.g.org.sec, .string v.g.org.host, .int .i64 v.g.org.port, .bool v.g.proxy, .string v.g.user, .string v.g.pass, .int .i64 v.g.ask.sch, .string v.g.ask.realm, .string v.g.ask.nonce, .string v.g.ask.opq, .bool v.g.ask.sess, .string v.g.ask.qop, .bool v.g.ask.stale, v.dv, .int .i64 v.g.count, v.pv] 36)).drew.cell? ⟨w.heap.size, 11, none⟩ = some (.string v.g.ask.qop) ∧ ((w.alloc (.cells #[.bool v.g.org.sec, .string v.g.org.host, .int .i64 v.g.org.port, .bool v.g.proxy, .string v.g.user, .string v.g.pass, .int .i64 v.g.ask.sch, .string v.g.ask.realm, .string v.g.ask.nonce, .string v.g.ask.opq, .bool v.g.ask.sess, .string v.g.ask.qop, .bool v.g.ask.stale, v.dv, .int .i64 v.g.count, v.pv] 36)).alloc (.cells #[.bool v.g.org.sec, .string v.g.org.host, .int .i64 v.g.org.port, .bool v.g.proxy, .string v.g.user, .string v.g.pass, .int .i64 v.g.ask.sch, .string v.g.ask.realm, .string v.g.ask.nonce, .string v.g.ask.opq, .bool v.g.ask.sess, .string v.g.ask.qop, .bool v.g.ask.stale, v.dv, .int .i64 v.g.count, v.pv] 36)).drew.cell? ⟨w.heap.size, 12, none⟩ = some (.bool v.g.ask.stale) ∧ ((w.alloc (.cells #[.bool v.g.org.sec, .string v.g.org.host, .int .i64 v.g.org.port, .bool v.g.proxy, .string v.g.user, .string v.g.pass, .int .i64 v.g.ask.sch, .string v.g.ask.realm, .string v.g.ask.nonce, .string v.g.ask.opq, .bool v.g.ask.sess, .string v.g.ask.qop, .bool v.g.ask.stale, v.dv, .int .i64 v.g.count, v.pv] 36)).alloc (.cells #[.bool v.g.org.sec, .string v.g.org.host, .int .i64 v.g.org.port, .bool v.g.proxy, .string v.g.user, .string v.g.pass, .int .i64 v.g.ask.sch, .string v.g.ask.realm, .string v.g.ask.nonce, .string v.g.ask.opq, .bool v.g.ask.sess, .string v.g.ask.qop, .bool v.g.ask.stale, v.dv, .int .i64 v.g.count, v.pv] 36)).drew.cell? ⟨w.heap.size, 13, none⟩ = some (v.dv) ∧ ((w.alloc (.cells #[.bool v.g.org.sec, .string v.g.org.host, .int .i64 v.g.org.port, .bool v.g.proxy, .string v.g.user, .string v.g.pass, .int .i64 v.g.ask.sch, .string v.g.ask.realm, .string v.g.ask.nonce, .string v.g.ask.opq, .bool v.g.ask.sess, .string v.g.ask.qop, .bool v.g.ask.stale, v.dv, .int .i64 v.g.count, v.pv] 36)).alloc (.cells #[.bool v.g.org.sec, .string v.g.org.host, .int .i64 v.g.org.port, .bool v.g.proxy, .string v.g.user, .string v.g.pass, .int .i64 v.g.ask.sch, .string v.g.ask.realm, .string v.g.ask.nonce, .string v.g.ask.opq, .bool v.g.ask.sess, .string v.g.ask.qop, .bool v.g.ask.stale, v.dv, .int .i64 v.g.count, v.pv] 36)).drew.cell? ⟨w.heap.size, 14, none⟩ = some (.int .i64 v.g.count) ∧ ((w.alloc (.cells #[.bool v.g.org.sec, .string v.g.org.host, .int .i64 v.g.org.port, .bool v.g.proxy, .string v.g.user, .string v.g.pass, .int .i64 v.g.ask.sch, .string v.g.ask.realm, .string v.g.ask.nonce, .string v.g.ask.opq, .bool v.g.ask.sess, .string v.g.ask.qop, .bool v.g.ask.stale, v.dv, .int .i64 v.g.count, v.pv] 36)).alloc (.cells #[.bool v.g.org.sec, .string v.g.org.host, .int .i64 v.g.org.port, .bool v.g.proxy, .string v.g.user, .string v.g.pass, .int .i64 v.g.ask.sch, .string v.g.ask.realm, .string v.g.ask.nonce, .string v.g.ask.opq, .bool v.g.ask.sess, .string v.g.ask.qop, .bool v.g.ask.stale, v.dv, .int .i64 v.g.count, v.pv] 36)).drew.cell? ⟨w.heap.size, 15, none⟩ = some (v.pv) := by
    have hn := box_alloc (heap_alloc_new w (.cells #[.bool v.g.org.sec, .string v.g.org.host, .int .i64 v.g.org.port, .bool v.g.proxy, .string v.g.user, .string v.g.pass, .int .i64 v.g.ask.sch, .string v.g.ask.realm, .string v.g.ask.nonce, .string v.g.ask.opq, .bool v.g.ask.sess, .string v.g.ask.qop, .bool v.g.ask.stale, v.dv, .int .i64 v.g.count, v.pv] 36)) (.cells #[.bool v.g.org.sec, .string v.g.org.host, .int .i64 v.g.org.port, .bool v.g.proxy, .string v.g.user, .string v.g.pass, .int .i64 v.g.ask.sch, .string v.g.ask.realm, .string v.g.ask.nonce, .string v.g.ask.opq, .bool v.g.ask.sess, .string v.g.ask.qop, .bool v.g.ask.stale, v.dv, .int .i64 v.g.count, v.pv] 36)
    exact ⟨(cell_of (i := 0) hn).trans rfl, (cell_of (i := 1) hn).trans rfl, (cell_of (i := 2) hn).trans rfl, (cell_of (i := 3) hn).trans rfl, (cell_of (i := 4) hn).trans rfl, (cell_of (i := 5) hn).trans rfl, (cell_of (i := 6) hn).trans rfl, (cell_of (i := 7) hn).trans rfl, (cell_of (i := 8) hn).trans rfl, (cell_of (i := 9) hn).trans rfl, (cell_of (i := 10) hn).trans rfl, (cell_of (i := 11) hn).trans rfl, (cell_of (i := 12) hn).trans rfl, (cell_of (i := 13) hn).trans rfl, (cell_of (i := 14) hn).trans rfl, (cell_of (i := 15) hn).trans rfl⟩
  generalize hys : xs.filter (fun y => !p y) = ys at hcall ⊢
  have HL : Hid (ys.length ≤ xs.length) := by show _ ≤ _; rw [← hys]; exact List.length_filter_le _ _
  clear hown hp hx1 eg hys
  obtain ⟨i0, hi0, hz0, hz1, hz2⟩ := info_parts infoFG
  unfold grCells
  go_enter Try.func52, Try.ntmps52
  go_wp2_with fail
  go_region_held3 (fun W => W.cell? ⟨w.heap.size, 0, none⟩ = some (.bool v.g.org.sec) ∧ W.cell? ⟨w.heap.size, 1, none⟩ = some (.string v.g.org.host) ∧ W.cell? ⟨w.heap.size, 2, none⟩ = some (.int .i64 v.g.org.port) ∧ W.cell? ⟨w.heap.size, 3, none⟩ = some (.bool v.g.proxy) ∧ W.cell? ⟨w.heap.size, 4, none⟩ = some (.string v.g.user) ∧ W.cell? ⟨w.heap.size, 5, none⟩ = some (.string v.g.pass) ∧ W.cell? ⟨w.heap.size, 6, none⟩ = some (.int .i64 v.g.ask.sch) ∧ W.cell? ⟨w.heap.size, 7, none⟩ = some (.string v.g.ask.realm) ∧ W.cell? ⟨w.heap.size, 8, none⟩ = some (.string v.g.ask.nonce) ∧ W.cell? ⟨w.heap.size, 9, none⟩ = some (.string v.g.ask.opq) ∧ W.cell? ⟨w.heap.size, 10, none⟩ = some (.bool v.g.ask.sess) ∧ W.cell? ⟨w.heap.size, 11, none⟩ = some (.string v.g.ask.qop) ∧ W.cell? ⟨w.heap.size, 12, none⟩ = some (.bool v.g.ask.stale) ∧ W.cell? ⟨w.heap.size, 13, none⟩ = some (v.dv) ∧ W.cell? ⟨w.heap.size, 14, none⟩ = some (.int .i64 v.g.count) ∧ W.cell? ⟨w.heap.size, 15, none⟩ = some (v.pv)) (with_reducible assumption) (first
    | (have hoA := World.ownsRow.alloc HR.out.own.row (.cells #[.bool v.g.org.sec, .string v.g.org.host, .int .i64 v.g.org.port, .bool v.g.proxy, .string v.g.user, .string v.g.pass, .int .i64 v.g.ask.sch, .string v.g.ask.realm, .string v.g.ask.nonce, .string v.g.ask.opq, .bool v.g.ask.sess, .string v.g.ask.qop, .bool v.g.ask.stale, v.dv, .int .i64 v.g.count, v.pv] 36); refine step_append_lies (w2.alloc (.cells #[.bool v.g.org.sec, .string v.g.org.host, .int .i64 v.g.org.port, .bool v.g.proxy, .string v.g.user, .string v.g.pass, .int .i64 v.g.ask.sch, .string v.g.ask.realm, .string v.g.ask.nonce, .string v.g.ask.opq, .bool v.g.ask.sess, .string v.g.ask.qop, .bool v.g.ask.stale, v.dv, .int .i64 v.g.count, v.pv] 36)) rfl (.tmp 9) (.tmp 11) 22 rfl B 36 i0 (.agg #[.bool false, .string ⟨#[]⟩, .int .i64 0, .bool false, .string ⟨#[]⟩, .string ⟨#[]⟩, .int .i64 0, .string ⟨#[]⟩, .string ⟨#[]⟩, .string ⟨#[]⟩, .bool false, .string ⟨#[]⟩, .bool false, .slice none 0 0, .int .i64 0, .slice none 0 0]) 16 216 Try.underlying22 hi0 hz0 hz1 hz2 rfl ?_ u ys.length ys.flatten ?_ hoA ⟨w2.heap.size, 0, none⟩ 1 1 [.bool v.g.org.sec, .string v.g.org.host, .int .i64 v.g.org.port, .bool v.g.proxy, .string v.g.user, .string v.g.pass, .int .i64 v.g.ask.sch, .string v.g.ask.realm, .string v.g.ask.nonce, .string v.g.ask.opq, .bool v.g.ask.sess, .string v.g.ask.qop, .bool v.g.ask.stale, v.dv, .int .i64 v.g.count, v.pv] ?_ ?_ ?_ ?_ ?_ ?_ ?_ ?_ (w2.heap.size + 1) ?_ ?_; (· omega); (· rfl); (· rfl); (· rfl); (· exact World.news_of_block (cs := #[.bool v.g.org.sec, .string v.g.org.host, .int .i64 v.g.org.port, .bool v.g.proxy, .string v.g.user, .string v.g.pass, .int .i64 v.g.ask.sch, .string v.g.ask.realm, .string v.g.ask.nonce, .string v.g.ask.opq, .bool v.g.ask.sess, .string v.g.ask.qop, .bool v.g.ask.stale, v.dv, .int .i64 v.g.count, v.pv]) (t := 36) (fr := (0, 0)) (heap_alloc_new w2 _)); (· exact HP.out.2.2.1); (· omega); (· unfold maxLen; have := HL.out; omega); (· have := HL.out; omega); (· have := HR.out.grown.size; simp; omega); (· simp); intro g4 cap4 w4 hown4 hg4 hat4 hlt4; have HF := renG_end HP.out.1 HB HR.out (below_grown ((Below.refl _ _).alloc (Nat.le_refl _) _) _) hg4 (HR.out.own.appended rfl rfl HP.out.2.2.1 hown4) hat4 (by have := HR.out.grown.size; omega); have hbx4 := HF.out.2.2.1; have hQ4 : w4.cell? ⟨w.heap.size, 0, none⟩ = some (.bool v.g.org.sec) ∧ w4.cell? ⟨w.heap.size, 1, none⟩ = some (.string v.g.org.host) ∧ w4.cell? ⟨w.heap.size, 2, none⟩ = some (.int .i64 v.g.org.port) ∧ w4.cell? ⟨w.heap.size, 3, none⟩ = some (.bool v.g.proxy) ∧ w4.cell? ⟨w.heap.size, 4, none⟩ = some (.string v.g.user) ∧ w4.cell? ⟨w.heap.size, 5, none⟩ = some (.string v.g.pass) ∧ w4.cell? ⟨w.heap.size, 6, none⟩ = some (.int .i64 v.g.ask.sch) ∧ w4.cell? ⟨w.heap.size, 7, none⟩ = some (.string v.g.ask.realm) ∧ w4.cell? ⟨w.heap.size, 8, none⟩ = some (.string v.g.ask.nonce) ∧ w4.cell? ⟨w.heap.size, 9, none⟩ = some (.string v.g.ask.opq) ∧ w4.cell? ⟨w.heap.size, 10, none⟩ = some (.bool v.g.ask.sess) ∧ w4.cell? ⟨w.heap.size, 11, none⟩ = some (.string v.g.ask.qop) ∧ w4.cell? ⟨w.heap.size, 12, none⟩ = some (.bool v.g.ask.stale) ∧ w4.cell? ⟨w.heap.size, 13, none⟩ = some (v.dv) ∧ w4.cell? ⟨w.heap.size, 14, none⟩ = some (.int .i64 v.g.count) ∧ w4.cell? ⟨w.heap.size, 15, none⟩ = some (v.pv) := ⟨(cell_of (i := 0) hbx4).trans rfl, (cell_of (i := 1) hbx4).trans rfl, (cell_of (i := 2) hbx4).trans rfl, (cell_of (i := 3) hbx4).trans rfl, (cell_of (i := 4) hbx4).trans rfl, (cell_of (i := 5) hbx4).trans rfl, (cell_of (i := 6) hbx4).trans rfl, (cell_of (i := 7) hbx4).trans rfl, (cell_of (i := 8) hbx4).trans rfl, (cell_of (i := 9) hbx4).trans rfl, (cell_of (i := 10) hbx4).trans rfl, (cell_of (i := 11) hbx4).trans rfl, (cell_of (i := 12) hbx4).trans rfl, (cell_of (i := 13) hbx4).trans rfl, (cell_of (i := 14) hbx4).trans rfl, (cell_of (i := 15) hbx4).trans rfl⟩; clear hbx4 hown4 hg4 hat4 hlt4 hoA)
    | (have hoA := HR.out.own.row; refine step_append_lies w2 rfl (.tmp 9) (.tmp 11) 22 rfl B 36 i0 (.agg #[.bool false, .string ⟨#[]⟩, .int .i64 0, .bool false, .string ⟨#[]⟩, .string ⟨#[]⟩, .int .i64 0, .string ⟨#[]⟩, .string ⟨#[]⟩, .string ⟨#[]⟩, .bool false, .string ⟨#[]⟩, .bool false, .slice none 0 0, .int .i64 0, .slice none 0 0]) 16 216 Try.underlying22 hi0 hz0 hz1 hz2 rfl ?_ u ys.length ys.flatten ?_ hoA ⟨w.heap.size + 1, 0, none⟩ 1 1 [.bool v.g.org.sec, .string v.g.org.host, .int .i64 v.g.org.port, .bool v.g.proxy, .string v.g.user, .string v.g.pass, .int .i64 v.g.ask.sch, .string v.g.ask.realm, .string v.g.ask.nonce, .string v.g.ask.opq, .bool v.g.ask.sess, .string v.g.ask.qop, .bool v.g.ask.stale, v.dv, .int .i64 v.g.count, v.pv] ?_ ?_ ?_ ?_ ?_ ?_ ?_ ?_ w2.heap.size ?_ ?_; (· omega); (· rfl); (· rfl); (· rfl); (· exact World.news_of_block (cs := #[.bool v.g.org.sec, .string v.g.org.host, .int .i64 v.g.org.port, .bool v.g.proxy, .string v.g.user, .string v.g.pass, .int .i64 v.g.ask.sch, .string v.g.ask.realm, .string v.g.ask.nonce, .string v.g.ask.opq, .bool v.g.ask.sess, .string v.g.ask.qop, .bool v.g.ask.stale, v.dv, .int .i64 v.g.count, v.pv]) (t := 36) (fr := (0, 0)) (renG_news HP.out.1 HR.out)); (· exact HP.out.2.2.1); (· omega); (· unfold maxLen; have := HL.out; omega); (· have := HL.out; omega); (· have := HR.out.grown.size; omega); (· rfl); intro g4 cap4 w4 hown4 hg4 hat4 hlt4; have HF := renG_end HP.out.1 HB HR.out (below_grown (Below.refl _ _) _) hg4 (HR.out.own.appended rfl rfl HP.out.2.2.1 hown4) hat4 (by have := HR.out.grown.size; omega); have hbx4 := HF.out.2.2.1; have hQ4 : w4.cell? ⟨w.heap.size, 0, none⟩ = some (.bool v.g.org.sec) ∧ w4.cell? ⟨w.heap.size, 1, none⟩ = some (.string v.g.org.host) ∧ w4.cell? ⟨w.heap.size, 2, none⟩ = some (.int .i64 v.g.org.port) ∧ w4.cell? ⟨w.heap.size, 3, none⟩ = some (.bool v.g.proxy) ∧ w4.cell? ⟨w.heap.size, 4, none⟩ = some (.string v.g.user) ∧ w4.cell? ⟨w.heap.size, 5, none⟩ = some (.string v.g.pass) ∧ w4.cell? ⟨w.heap.size, 6, none⟩ = some (.int .i64 v.g.ask.sch) ∧ w4.cell? ⟨w.heap.size, 7, none⟩ = some (.string v.g.ask.realm) ∧ w4.cell? ⟨w.heap.size, 8, none⟩ = some (.string v.g.ask.nonce) ∧ w4.cell? ⟨w.heap.size, 9, none⟩ = some (.string v.g.ask.opq) ∧ w4.cell? ⟨w.heap.size, 10, none⟩ = some (.bool v.g.ask.sess) ∧ w4.cell? ⟨w.heap.size, 11, none⟩ = some (.string v.g.ask.qop) ∧ w4.cell? ⟨w.heap.size, 12, none⟩ = some (.bool v.g.ask.stale) ∧ w4.cell? ⟨w.heap.size, 13, none⟩ = some (v.dv) ∧ w4.cell? ⟨w.heap.size, 14, none⟩ = some (.int .i64 v.g.count) ∧ w4.cell? ⟨w.heap.size, 15, none⟩ = some (v.pv) := ⟨(cell_of (i := 0) hbx4).trans rfl, (cell_of (i := 1) hbx4).trans rfl, (cell_of (i := 2) hbx4).trans rfl, (cell_of (i := 3) hbx4).trans rfl, (cell_of (i := 4) hbx4).trans rfl, (cell_of (i := 5) hbx4).trans rfl, (cell_of (i := 6) hbx4).trans rfl, (cell_of (i := 7) hbx4).trans rfl, (cell_of (i := 8) hbx4).trans rfl, (cell_of (i := 9) hbx4).trans rfl, (cell_of (i := 10) hbx4).trans rfl, (cell_of (i := 11) hbx4).trans rfl, (cell_of (i := 12) hbx4).trans rfl, (cell_of (i := 13) hbx4).trans rfl, (cell_of (i := 14) hbx4).trans rfl, (cell_of (i := 15) hbx4).trans rfl⟩; clear hbx4 hown4 hg4 hat4 hlt4 hoA)
    | (go_at_call 17; refine (hcall (w.alloc (.cells #[.bool v.g.org.sec, .string v.g.org.host, .int .i64 v.g.org.port, .bool v.g.proxy, .string v.g.user, .string v.g.pass, .int .i64 v.g.ask.sch, .string v.g.ask.realm, .string v.g.ask.nonce, .string v.g.ask.opq, .bool v.g.ask.sess, .string v.g.ask.qop, .bool v.g.ask.stale, v.dv, .int .i64 v.g.count, v.pv] 36)).drew (Below.refl _ _).drew).mono ?_; rintro e w2 ⟨u, rfl, HR⟩; have hbx := HR.out.box; have hQ2 : w2.cell? ⟨w.heap.size, 0, none⟩ = some (.bool v.g.org.sec) ∧ w2.cell? ⟨w.heap.size, 1, none⟩ = some (.string v.g.org.host) ∧ w2.cell? ⟨w.heap.size, 2, none⟩ = some (.int .i64 v.g.org.port) ∧ w2.cell? ⟨w.heap.size, 3, none⟩ = some (.bool v.g.proxy) ∧ w2.cell? ⟨w.heap.size, 4, none⟩ = some (.string v.g.user) ∧ w2.cell? ⟨w.heap.size, 5, none⟩ = some (.string v.g.pass) ∧ w2.cell? ⟨w.heap.size, 6, none⟩ = some (.int .i64 v.g.ask.sch) ∧ w2.cell? ⟨w.heap.size, 7, none⟩ = some (.string v.g.ask.realm) ∧ w2.cell? ⟨w.heap.size, 8, none⟩ = some (.string v.g.ask.nonce) ∧ w2.cell? ⟨w.heap.size, 9, none⟩ = some (.string v.g.ask.opq) ∧ w2.cell? ⟨w.heap.size, 10, none⟩ = some (.bool v.g.ask.sess) ∧ w2.cell? ⟨w.heap.size, 11, none⟩ = some (.string v.g.ask.qop) ∧ w2.cell? ⟨w.heap.size, 12, none⟩ = some (.bool v.g.ask.stale) ∧ w2.cell? ⟨w.heap.size, 13, none⟩ = some (v.dv) ∧ w2.cell? ⟨w.heap.size, 14, none⟩ = some (.int .i64 v.g.count) ∧ w2.cell? ⟨w.heap.size, 15, none⟩ = some (v.pv) := ⟨(cell_of (i := 0) hbx).trans rfl, (cell_of (i := 1) hbx).trans rfl, (cell_of (i := 2) hbx).trans rfl, (cell_of (i := 3) hbx).trans rfl, (cell_of (i := 4) hbx).trans rfl, (cell_of (i := 5) hbx).trans rfl, (cell_of (i := 6) hbx).trans rfl, (cell_of (i := 7) hbx).trans rfl, (cell_of (i := 8) hbx).trans rfl, (cell_of (i := 9) hbx).trans rfl, (cell_of (i := 10) hbx).trans rfl, (cell_of (i := 11) hbx).trans rfl, (cell_of (i := 12) hbx).trans rfl, (cell_of (i := 13) hbx).trans rfl, (cell_of (i := 14) hbx).trans rfl, (cell_of (i := 15) hbx).trans rfl⟩; have hbx2 := box_alloc hbx (.cells #[.bool v.g.org.sec, .string v.g.org.host, .int .i64 v.g.org.port, .bool v.g.proxy, .string v.g.user, .string v.g.pass, .int .i64 v.g.ask.sch, .string v.g.ask.realm, .string v.g.ask.nonce, .string v.g.ask.opq, .bool v.g.ask.sess, .string v.g.ask.qop, .bool v.g.ask.stale, v.dv, .int .i64 v.g.count, v.pv] 36); have hQ3 : (w2.alloc (.cells #[.bool v.g.org.sec, .string v.g.org.host, .int .i64 v.g.org.port, .bool v.g.proxy, .string v.g.user, .string v.g.pass, .int .i64 v.g.ask.sch, .string v.g.ask.realm, .string v.g.ask.nonce, .string v.g.ask.opq, .bool v.g.ask.sess, .string v.g.ask.qop, .bool v.g.ask.stale, v.dv, .int .i64 v.g.count, v.pv] 36)).cell? ⟨w.heap.size, 0, none⟩ = some (.bool v.g.org.sec) ∧ (w2.alloc (.cells #[.bool v.g.org.sec, .string v.g.org.host, .int .i64 v.g.org.port, .bool v.g.proxy, .string v.g.user, .string v.g.pass, .int .i64 v.g.ask.sch, .string v.g.ask.realm, .string v.g.ask.nonce, .string v.g.ask.opq, .bool v.g.ask.sess, .string v.g.ask.qop, .bool v.g.ask.stale, v.dv, .int .i64 v.g.count, v.pv] 36)).cell? ⟨w.heap.size, 1, none⟩ = some (.string v.g.org.host) ∧ (w2.alloc (.cells #[.bool v.g.org.sec, .string v.g.org.host, .int .i64 v.g.org.port, .bool v.g.proxy, .string v.g.user, .string v.g.pass, .int .i64 v.g.ask.sch, .string v.g.ask.realm, .string v.g.ask.nonce, .string v.g.ask.opq, .bool v.g.ask.sess, .string v.g.ask.qop, .bool v.g.ask.stale, v.dv, .int .i64 v.g.count, v.pv] 36)).cell? ⟨w.heap.size, 2, none⟩ = some (.int .i64 v.g.org.port) ∧ (w2.alloc (.cells #[.bool v.g.org.sec, .string v.g.org.host, .int .i64 v.g.org.port, .bool v.g.proxy, .string v.g.user, .string v.g.pass, .int .i64 v.g.ask.sch, .string v.g.ask.realm, .string v.g.ask.nonce, .string v.g.ask.opq, .bool v.g.ask.sess, .string v.g.ask.qop, .bool v.g.ask.stale, v.dv, .int .i64 v.g.count, v.pv] 36)).cell? ⟨w.heap.size, 3, none⟩ = some (.bool v.g.proxy) ∧ (w2.alloc (.cells #[.bool v.g.org.sec, .string v.g.org.host, .int .i64 v.g.org.port, .bool v.g.proxy, .string v.g.user, .string v.g.pass, .int .i64 v.g.ask.sch, .string v.g.ask.realm, .string v.g.ask.nonce, .string v.g.ask.opq, .bool v.g.ask.sess, .string v.g.ask.qop, .bool v.g.ask.stale, v.dv, .int .i64 v.g.count, v.pv] 36)).cell? ⟨w.heap.size, 4, none⟩ = some (.string v.g.user) ∧ (w2.alloc (.cells #[.bool v.g.org.sec, .string v.g.org.host, .int .i64 v.g.org.port, .bool v.g.proxy, .string v.g.user, .string v.g.pass, .int .i64 v.g.ask.sch, .string v.g.ask.realm, .string v.g.ask.nonce, .string v.g.ask.opq, .bool v.g.ask.sess, .string v.g.ask.qop, .bool v.g.ask.stale, v.dv, .int .i64 v.g.count, v.pv] 36)).cell? ⟨w.heap.size, 5, none⟩ = some (.string v.g.pass) ∧ (w2.alloc (.cells #[.bool v.g.org.sec, .string v.g.org.host, .int .i64 v.g.org.port, .bool v.g.proxy, .string v.g.user, .string v.g.pass, .int .i64 v.g.ask.sch, .string v.g.ask.realm, .string v.g.ask.nonce, .string v.g.ask.opq, .bool v.g.ask.sess, .string v.g.ask.qop, .bool v.g.ask.stale, v.dv, .int .i64 v.g.count, v.pv] 36)).cell? ⟨w.heap.size, 6, none⟩ = some (.int .i64 v.g.ask.sch) ∧ (w2.alloc (.cells #[.bool v.g.org.sec, .string v.g.org.host, .int .i64 v.g.org.port, .bool v.g.proxy, .string v.g.user, .string v.g.pass, .int .i64 v.g.ask.sch, .string v.g.ask.realm, .string v.g.ask.nonce, .string v.g.ask.opq, .bool v.g.ask.sess, .string v.g.ask.qop, .bool v.g.ask.stale, v.dv, .int .i64 v.g.count, v.pv] 36)).cell? ⟨w.heap.size, 7, none⟩ = some (.string v.g.ask.realm) ∧ (w2.alloc (.cells #[.bool v.g.org.sec, .string v.g.org.host, .int .i64 v.g.org.port, .bool v.g.proxy, .string v.g.user, .string v.g.pass, .int .i64 v.g.ask.sch, .string v.g.ask.realm, .string v.g.ask.nonce, .string v.g.ask.opq, .bool v.g.ask.sess, .string v.g.ask.qop, .bool v.g.ask.stale, v.dv, .int .i64 v.g.count, v.pv] 36)).cell? ⟨w.heap.size, 8, none⟩ = some (.string v.g.ask.nonce) ∧ (w2.alloc (.cells #[.bool v.g.org.sec, .string v.g.org.host, .int .i64 v.g.org.port, .bool v.g.proxy, .string v.g.user, .string v.g.pass, .int .i64 v.g.ask.sch, .string v.g.ask.realm, .string v.g.ask.nonce, .string v.g.ask.opq, .bool v.g.ask.sess, .string v.g.ask.qop, .bool v.g.ask.stale, v.dv, .int .i64 v.g.count, v.pv] 36)).cell? ⟨w.heap.size, 9, none⟩ = some (.string v.g.ask.opq) ∧ (w2.alloc (.cells #[.bool v.g.org.sec, .string v.g.org.host, .int .i64 v.g.org.port, .bool v.g.proxy, .string v.g.user, .string v.g.pass, .int .i64 v.g.ask.sch, .string v.g.ask.realm, .string v.g.ask.nonce, .string v.g.ask.opq, .bool v.g.ask.sess, .string v.g.ask.qop, .bool v.g.ask.stale, v.dv, .int .i64 v.g.count, v.pv] 36)).cell? ⟨w.heap.size, 10, none⟩ = some (.bool v.g.ask.sess) ∧ (w2.alloc (.cells #[.bool v.g.org.sec, .string v.g.org.host, .int .i64 v.g.org.port, .bool v.g.proxy, .string v.g.user, .string v.g.pass, .int .i64 v.g.ask.sch, .string v.g.ask.realm, .string v.g.ask.nonce, .string v.g.ask.opq, .bool v.g.ask.sess, .string v.g.ask.qop, .bool v.g.ask.stale, v.dv, .int .i64 v.g.count, v.pv] 36)).cell? ⟨w.heap.size, 11, none⟩ = some (.string v.g.ask.qop) ∧ (w2.alloc (.cells #[.bool v.g.org.sec, .string v.g.org.host, .int .i64 v.g.org.port, .bool v.g.proxy, .string v.g.user, .string v.g.pass, .int .i64 v.g.ask.sch, .string v.g.ask.realm, .string v.g.ask.nonce, .string v.g.ask.opq, .bool v.g.ask.sess, .string v.g.ask.qop, .bool v.g.ask.stale, v.dv, .int .i64 v.g.count, v.pv] 36)).cell? ⟨w.heap.size, 12, none⟩ = some (.bool v.g.ask.stale) ∧ (w2.alloc (.cells #[.bool v.g.org.sec, .string v.g.org.host, .int .i64 v.g.org.port, .bool v.g.proxy, .string v.g.user, .string v.g.pass, .int .i64 v.g.ask.sch, .string v.g.ask.realm, .string v.g.ask.nonce, .string v.g.ask.opq, .bool v.g.ask.sess, .string v.g.ask.qop, .bool v.g.ask.stale, v.dv, .int .i64 v.g.count, v.pv] 36)).cell? ⟨w.heap.size, 13, none⟩ = some (v.dv) ∧ (w2.alloc (.cells #[.bool v.g.org.sec, .string v.g.org.host, .int .i64 v.g.org.port, .bool v.g.proxy, .string v.g.user, .string v.g.pass, .int .i64 v.g.ask.sch, .string v.g.ask.realm, .string v.g.ask.nonce, .string v.g.ask.opq, .bool v.g.ask.sess, .string v.g.ask.qop, .bool v.g.ask.stale, v.dv, .int .i64 v.g.count, v.pv] 36)).cell? ⟨w.heap.size, 14, none⟩ = some (.int .i64 v.g.count) ∧ (w2.alloc (.cells #[.bool v.g.org.sec, .string v.g.org.host, .int .i64 v.g.org.port, .bool v.g.proxy, .string v.g.user, .string v.g.pass, .int .i64 v.g.ask.sch, .string v.g.ask.realm, .string v.g.ask.nonce, .string v.g.ask.opq, .bool v.g.ask.sess, .string v.g.ask.qop, .bool v.g.ask.stale, v.dv, .int .i64 v.g.count, v.pv] 36)).cell? ⟨w.heap.size, 15, none⟩ = some (v.pv) := ⟨(cell_of (i := 0) hbx2).trans rfl, (cell_of (i := 1) hbx2).trans rfl, (cell_of (i := 2) hbx2).trans rfl, (cell_of (i := 3) hbx2).trans rfl, (cell_of (i := 4) hbx2).trans rfl, (cell_of (i := 5) hbx2).trans rfl, (cell_of (i := 6) hbx2).trans rfl, (cell_of (i := 7) hbx2).trans rfl, (cell_of (i := 8) hbx2).trans rfl, (cell_of (i := 9) hbx2).trans rfl, (cell_of (i := 10) hbx2).trans rfl, (cell_of (i := 11) hbx2).trans rfl, (cell_of (i := 12) hbx2).trans rfl, (cell_of (i := 13) hbx2).trans rfl, (cell_of (i := 14) hbx2).trans rfl, (cell_of (i := 15) hbx2).trans rfl⟩; clear hbx hbx2)
    | (go_at_call 17; refine (hcall ((w.alloc (.cells #[.bool v.g.org.sec, .string v.g.org.host, .int .i64 v.g.org.port, .bool v.g.proxy, .string v.g.user, .string v.g.pass, .int .i64 v.g.ask.sch, .string v.g.ask.realm, .string v.g.ask.nonce, .string v.g.ask.opq, .bool v.g.ask.sess, .string v.g.ask.qop, .bool v.g.ask.stale, v.dv, .int .i64 v.g.count, v.pv] 36)).alloc (.cells #[.bool v.g.org.sec, .string v.g.org.host, .int .i64 v.g.org.port, .bool v.g.proxy, .string v.g.user, .string v.g.pass, .int .i64 v.g.ask.sch, .string v.g.ask.realm, .string v.g.ask.nonce, .string v.g.ask.opq, .bool v.g.ask.sess, .string v.g.ask.qop, .bool v.g.ask.stale, v.dv, .int .i64 v.g.count, v.pv] 36)).drew ((Below.refl _ _).alloc (Nat.le_refl _) _).drew).mono ?_; rintro e w2 ⟨u, rfl, HR⟩; have hbx := HR.out.box; have hQ2 : w2.cell? ⟨w.heap.size, 0, none⟩ = some (.bool v.g.org.sec) ∧ w2.cell? ⟨w.heap.size, 1, none⟩ = some (.string v.g.org.host) ∧ w2.cell? ⟨w.heap.size, 2, none⟩ = some (.int .i64 v.g.org.port) ∧ w2.cell? ⟨w.heap.size, 3, none⟩ = some (.bool v.g.proxy) ∧ w2.cell? ⟨w.heap.size, 4, none⟩ = some (.string v.g.user) ∧ w2.cell? ⟨w.heap.size, 5, none⟩ = some (.string v.g.pass) ∧ w2.cell? ⟨w.heap.size, 6, none⟩ = some (.int .i64 v.g.ask.sch) ∧ w2.cell? ⟨w.heap.size, 7, none⟩ = some (.string v.g.ask.realm) ∧ w2.cell? ⟨w.heap.size, 8, none⟩ = some (.string v.g.ask.nonce) ∧ w2.cell? ⟨w.heap.size, 9, none⟩ = some (.string v.g.ask.opq) ∧ w2.cell? ⟨w.heap.size, 10, none⟩ = some (.bool v.g.ask.sess) ∧ w2.cell? ⟨w.heap.size, 11, none⟩ = some (.string v.g.ask.qop) ∧ w2.cell? ⟨w.heap.size, 12, none⟩ = some (.bool v.g.ask.stale) ∧ w2.cell? ⟨w.heap.size, 13, none⟩ = some (v.dv) ∧ w2.cell? ⟨w.heap.size, 14, none⟩ = some (.int .i64 v.g.count) ∧ w2.cell? ⟨w.heap.size, 15, none⟩ = some (v.pv) := ⟨(cell_of (i := 0) hbx).trans rfl, (cell_of (i := 1) hbx).trans rfl, (cell_of (i := 2) hbx).trans rfl, (cell_of (i := 3) hbx).trans rfl, (cell_of (i := 4) hbx).trans rfl, (cell_of (i := 5) hbx).trans rfl, (cell_of (i := 6) hbx).trans rfl, (cell_of (i := 7) hbx).trans rfl, (cell_of (i := 8) hbx).trans rfl, (cell_of (i := 9) hbx).trans rfl, (cell_of (i := 10) hbx).trans rfl, (cell_of (i := 11) hbx).trans rfl, (cell_of (i := 12) hbx).trans rfl, (cell_of (i := 13) hbx).trans rfl, (cell_of (i := 14) hbx).trans rfl, (cell_of (i := 15) hbx).trans rfl⟩; have hbx2 := box_alloc hbx (.cells #[.bool v.g.org.sec, .string v.g.org.host, .int .i64 v.g.org.port, .bool v.g.proxy, .string v.g.user, .string v.g.pass, .int .i64 v.g.ask.sch, .string v.g.ask.realm, .string v.g.ask.nonce, .string v.g.ask.opq, .bool v.g.ask.sess, .string v.g.ask.qop, .bool v.g.ask.stale, v.dv, .int .i64 v.g.count, v.pv] 36); have hQ3 : (w2.alloc (.cells #[.bool v.g.org.sec, .string v.g.org.host, .int .i64 v.g.org.port, .bool v.g.proxy, .string v.g.user, .string v.g.pass, .int .i64 v.g.ask.sch, .string v.g.ask.realm, .string v.g.ask.nonce, .string v.g.ask.opq, .bool v.g.ask.sess, .string v.g.ask.qop, .bool v.g.ask.stale, v.dv, .int .i64 v.g.count, v.pv] 36)).cell? ⟨w.heap.size, 0, none⟩ = some (.bool v.g.org.sec) ∧ (w2.alloc (.cells #[.bool v.g.org.sec, .string v.g.org.host, .int .i64 v.g.org.port, .bool v.g.proxy, .string v.g.user, .string v.g.pass, .int .i64 v.g.ask.sch, .string v.g.ask.realm, .string v.g.ask.nonce, .string v.g.ask.opq, .bool v.g.ask.sess, .string v.g.ask.qop, .bool v.g.ask.stale, v.dv, .int .i64 v.g.count, v.pv] 36)).cell? ⟨w.heap.size, 1, none⟩ = some (.string v.g.org.host) ∧ (w2.alloc (.cells #[.bool v.g.org.sec, .string v.g.org.host, .int .i64 v.g.org.port, .bool v.g.proxy, .string v.g.user, .string v.g.pass, .int .i64 v.g.ask.sch, .string v.g.ask.realm, .string v.g.ask.nonce, .string v.g.ask.opq, .bool v.g.ask.sess, .string v.g.ask.qop, .bool v.g.ask.stale, v.dv, .int .i64 v.g.count, v.pv] 36)).cell? ⟨w.heap.size, 2, none⟩ = some (.int .i64 v.g.org.port) ∧ (w2.alloc (.cells #[.bool v.g.org.sec, .string v.g.org.host, .int .i64 v.g.org.port, .bool v.g.proxy, .string v.g.user, .string v.g.pass, .int .i64 v.g.ask.sch, .string v.g.ask.realm, .string v.g.ask.nonce, .string v.g.ask.opq, .bool v.g.ask.sess, .string v.g.ask.qop, .bool v.g.ask.stale, v.dv, .int .i64 v.g.count, v.pv] 36)).cell? ⟨w.heap.size, 3, none⟩ = some (.bool v.g.proxy) ∧ (w2.alloc (.cells #[.bool v.g.org.sec, .string v.g.org.host, .int .i64 v.g.org.port, .bool v.g.proxy, .string v.g.user, .string v.g.pass, .int .i64 v.g.ask.sch, .string v.g.ask.realm, .string v.g.ask.nonce, .string v.g.ask.opq, .bool v.g.ask.sess, .string v.g.ask.qop, .bool v.g.ask.stale, v.dv, .int .i64 v.g.count, v.pv] 36)).cell? ⟨w.heap.size, 4, none⟩ = some (.string v.g.user) ∧ (w2.alloc (.cells #[.bool v.g.org.sec, .string v.g.org.host, .int .i64 v.g.org.port, .bool v.g.proxy, .string v.g.user, .string v.g.pass, .int .i64 v.g.ask.sch, .string v.g.ask.realm, .string v.g.ask.nonce, .string v.g.ask.opq, .bool v.g.ask.sess, .string v.g.ask.qop, .bool v.g.ask.stale, v.dv, .int .i64 v.g.count, v.pv] 36)).cell? ⟨w.heap.size, 5, none⟩ = some (.string v.g.pass) ∧ (w2.alloc (.cells #[.bool v.g.org.sec, .string v.g.org.host, .int .i64 v.g.org.port, .bool v.g.proxy, .string v.g.user, .string v.g.pass, .int .i64 v.g.ask.sch, .string v.g.ask.realm, .string v.g.ask.nonce, .string v.g.ask.opq, .bool v.g.ask.sess, .string v.g.ask.qop, .bool v.g.ask.stale, v.dv, .int .i64 v.g.count, v.pv] 36)).cell? ⟨w.heap.size, 6, none⟩ = some (.int .i64 v.g.ask.sch) ∧ (w2.alloc (.cells #[.bool v.g.org.sec, .string v.g.org.host, .int .i64 v.g.org.port, .bool v.g.proxy, .string v.g.user, .string v.g.pass, .int .i64 v.g.ask.sch, .string v.g.ask.realm, .string v.g.ask.nonce, .string v.g.ask.opq, .bool v.g.ask.sess, .string v.g.ask.qop, .bool v.g.ask.stale, v.dv, .int .i64 v.g.count, v.pv] 36)).cell? ⟨w.heap.size, 7, none⟩ = some (.string v.g.ask.realm) ∧ (w2.alloc (.cells #[.bool v.g.org.sec, .string v.g.org.host, .int .i64 v.g.org.port, .bool v.g.proxy, .string v.g.user, .string v.g.pass, .int .i64 v.g.ask.sch, .string v.g.ask.realm, .string v.g.ask.nonce, .string v.g.ask.opq, .bool v.g.ask.sess, .string v.g.ask.qop, .bool v.g.ask.stale, v.dv, .int .i64 v.g.count, v.pv] 36)).cell? ⟨w.heap.size, 8, none⟩ = some (.string v.g.ask.nonce) ∧ (w2.alloc (.cells #[.bool v.g.org.sec, .string v.g.org.host, .int .i64 v.g.org.port, .bool v.g.proxy, .string v.g.user, .string v.g.pass, .int .i64 v.g.ask.sch, .string v.g.ask.realm, .string v.g.ask.nonce, .string v.g.ask.opq, .bool v.g.ask.sess, .string v.g.ask.qop, .bool v.g.ask.stale, v.dv, .int .i64 v.g.count, v.pv] 36)).cell? ⟨w.heap.size, 9, none⟩ = some (.string v.g.ask.opq) ∧ (w2.alloc (.cells #[.bool v.g.org.sec, .string v.g.org.host, .int .i64 v.g.org.port, .bool v.g.proxy, .string v.g.user, .string v.g.pass, .int .i64 v.g.ask.sch, .string v.g.ask.realm, .string v.g.ask.nonce, .string v.g.ask.opq, .bool v.g.ask.sess, .string v.g.ask.qop, .bool v.g.ask.stale, v.dv, .int .i64 v.g.count, v.pv] 36)).cell? ⟨w.heap.size, 10, none⟩ = some (.bool v.g.ask.sess) ∧ (w2.alloc (.cells #[.bool v.g.org.sec, .string v.g.org.host, .int .i64 v.g.org.port, .bool v.g.proxy, .string v.g.user, .string v.g.pass, .int .i64 v.g.ask.sch, .string v.g.ask.realm, .string v.g.ask.nonce, .string v.g.ask.opq, .bool v.g.ask.sess, .string v.g.ask.qop, .bool v.g.ask.stale, v.dv, .int .i64 v.g.count, v.pv] 36)).cell? ⟨w.heap.size, 11, none⟩ = some (.string v.g.ask.qop) ∧ (w2.alloc (.cells #[.bool v.g.org.sec, .string v.g.org.host, .int .i64 v.g.org.port, .bool v.g.proxy, .string v.g.user, .string v.g.pass, .int .i64 v.g.ask.sch, .string v.g.ask.realm, .string v.g.ask.nonce, .string v.g.ask.opq, .bool v.g.ask.sess, .string v.g.ask.qop, .bool v.g.ask.stale, v.dv, .int .i64 v.g.count, v.pv] 36)).cell? ⟨w.heap.size, 12, none⟩ = some (.bool v.g.ask.stale) ∧ (w2.alloc (.cells #[.bool v.g.org.sec, .string v.g.org.host, .int .i64 v.g.org.port, .bool v.g.proxy, .string v.g.user, .string v.g.pass, .int .i64 v.g.ask.sch, .string v.g.ask.realm, .string v.g.ask.nonce, .string v.g.ask.opq, .bool v.g.ask.sess, .string v.g.ask.qop, .bool v.g.ask.stale, v.dv, .int .i64 v.g.count, v.pv] 36)).cell? ⟨w.heap.size, 13, none⟩ = some (v.dv) ∧ (w2.alloc (.cells #[.bool v.g.org.sec, .string v.g.org.host, .int .i64 v.g.org.port, .bool v.g.proxy, .string v.g.user, .string v.g.pass, .int .i64 v.g.ask.sch, .string v.g.ask.realm, .string v.g.ask.nonce, .string v.g.ask.opq, .bool v.g.ask.sess, .string v.g.ask.qop, .bool v.g.ask.stale, v.dv, .int .i64 v.g.count, v.pv] 36)).cell? ⟨w.heap.size, 14, none⟩ = some (.int .i64 v.g.count) ∧ (w2.alloc (.cells #[.bool v.g.org.sec, .string v.g.org.host, .int .i64 v.g.org.port, .bool v.g.proxy, .string v.g.user, .string v.g.pass, .int .i64 v.g.ask.sch, .string v.g.ask.realm, .string v.g.ask.nonce, .string v.g.ask.opq, .bool v.g.ask.sess, .string v.g.ask.qop, .bool v.g.ask.stale, v.dv, .int .i64 v.g.count, v.pv] 36)).cell? ⟨w.heap.size, 15, none⟩ = some (v.pv) := ⟨(cell_of (i := 0) hbx2).trans rfl, (cell_of (i := 1) hbx2).trans rfl, (cell_of (i := 2) hbx2).trans rfl, (cell_of (i := 3) hbx2).trans rfl, (cell_of (i := 4) hbx2).trans rfl, (cell_of (i := 5) hbx2).trans rfl, (cell_of (i := 6) hbx2).trans rfl, (cell_of (i := 7) hbx2).trans rfl, (cell_of (i := 8) hbx2).trans rfl, (cell_of (i := 9) hbx2).trans rfl, (cell_of (i := 10) hbx2).trans rfl, (cell_of (i := 11) hbx2).trans rfl, (cell_of (i := 12) hbx2).trans rfl, (cell_of (i := 13) hbx2).trans rfl, (cell_of (i := 14) hbx2).trans rfl, (cell_of (i := 15) hbx2).trans rfl⟩; clear hbx hbx2))
  all_goals
    obtain ⟨n1, HN1⟩ : ∃ n1, Hid (ys.length + 1 = n1) := ⟨_, rfl⟩
    rw [HN1.out] at HF ⊢
    have HN2 : Hid ((ys ++ [[.bool v.g.org.sec, .string v.g.org.host, .int .i64 v.g.org.port, .bool v.g.proxy, .string v.g.user, .string v.g.pass, .int .i64 v.g.ask.sch, .string v.g.ask.realm, .string v.g.ask.nonce, .string v.g.ask.opq, .bool v.g.ask.sess, .string v.g.ask.qop, .bool v.g.ask.stale, v.dv, .int .i64 v.g.count, v.pv]]).length = n1 ∧ cap4 ≤ 9223372036854775807) := by
      refine ⟨by rw [List.length_append, List.length_singleton]; exact HN1.out, ?_⟩
      rcases HF.out.1.forms with ⟨e, _⟩ | ⟨g', cap', e, _, _, _, h2⟩
      · cases e
      · injection e with _ _ e3
        rw [e3]
        unfold maxLen at h2
        omega
    have HE : Hid (∀ k w5, OwnK 16 36 w5 B (.slice (some ⟨g4, 0, none⟩) k cap4) (last8 (ys ++ [[.bool v.g.org.sec, .string v.g.org.host, .int .i64 v.g.org.port, .bool v.g.proxy, .string v.g.user, .string v.g.pass, .int .i64 v.g.ask.sch, .string v.g.ask.realm, .string v.g.ask.nonce, .string v.g.ask.opq, .bool v.g.ask.sess, .string v.g.ask.qop, .bool v.g.ask.stale, v.dv, .int .i64 v.g.count, v.pv]])) → w4.grownBy w5 (some g4) → OwnK 16 36 w5 B (.slice (some ⟨g4, 0, none⟩) k cap4) (last8 (ys ++ [[.bool v.g.org.sec, .string v.g.org.host, .int .i64 v.g.org.port, .bool v.g.proxy, .string v.g.user, .string v.g.pass, .int .i64 v.g.ask.sch, .string v.g.ask.realm, .string v.g.ask.nonce, .string v.g.ask.opq, .bool v.g.ask.sess, .string v.g.ask.qop, .bool v.g.ask.stale, v.dv, .int .i64 v.g.count, v.pv]])) ∧ w.grownBy w5 val.ownBlock ∧ ∀ j, (Value.slice (some ⟨g4, 0, none⟩) k cap4).ownBlock = some j → val.ownBlock = some j ∨ w.heap.size ≤ j) := fun k w5 h1 h2 => ⟨h1, gcomp HF.out.2.1 h2 (fun j hj => by injection hj with hj; subst hj; exact HF.out.2.2.2), fun j hj => by
      have e : g4 = j := by simpa [Value.ownBlock] using hj
      subst e
      exact HF.out.2.2.2⟩
    have HNL : Hid ((n1 : Int) ≤ 100000) := by show _ ≤ _; have := HL.out; have := HN1.out; omega
    clear hcall
    go_wp2_with fail
    refine (cut8G g4 n1 cap4 B _ HN2.out.1 HN2.out.2 _ HF.out.1 _ ?hz).mono ?_
    case hz =>
      unfold wrap64
      have := HNL.out
      omega
    rintro e w5 ⟨k, rfl, H5⟩
    go_wp2
    go_ret
    exact ⟨_, rfl, HE.out k w5 H5.out.1 H5.out.2⟩
end Go.Proofs.Ytjadmldnpdmamaa

/- A row of structs with one more as its last one, without what that takes the place of, and without the first ones, if there are more than eight. -/
namespace Go.Proofs.Ytjadmldnpdmamaa
open Go.RowKit
set_option linter.unusedVariables false

/-- The row behind slices.DeleteFunc, whatever it is. -/
theorem dlfW_all (val : Value) (xs : List (List Value)) (B : Nat) (hbig : xs.length ≤ 1000) (w : World) (hown : OwnK 13 38 w B val xs)
    (p : List Value → Bool) (fn : Nat) (lb : Array Value) (eg : ∀ args w, (callFunc fn args).run Try.prog w = .ok (.enter fn args) w) (hp : PredK Try.prog fn lb p xs w val.ownBlock) :
    Calls Try.prog 42 #[val, .func (.func fn) #[] lb] w fun e w' => ∃ v, e = .returned v ∧ Hid (OwnK 13 38 w' B v (xs.filter (fun y => !p y)) ∧ v.ownBlock = val.ownBlock ∧ w.grownBy w' val.ownBlock) := by
  rcases hown.forms with ⟨rfl, rfl⟩ | ⟨g, cap, rfl, _, _, _, _⟩
  · refine (dlfW_none w _).mono ?_
    rintro e w' ⟨rfl, rfl⟩
    exact ⟨_, rfl, ⟨hown, rfl, below_grown (Below.refl _ _) _⟩⟩
  · refine (dlfW_any g _ cap B xs rfl (by omega) w hown p fn lb eg hp).mono ?_
    rintro e w' ⟨m, rfl, H⟩
    exact ⟨_, rfl, ⟨H.out.1, rfl, H.out.2.2⟩⟩
set_option maxRecDepth 100000 in
theorem infoFW : (Try.prog.info? 38).map (fun i => (i.zero, i.size, i.bytes)) = some (some (.agg #[.bool false, .string ⟨#[]⟩, .int .i64 0, .bool false, .string ⟨#[]⟩, .int .i64 0, .string ⟨#[]⟩, .string ⟨#[]⟩, .string ⟨#[]⟩, .bool false, .string ⟨#[]⟩, .bool false, .slice none 0 0]), 13, 168) := by kernel_rfl
/-- A row behind slices.Delete of its first ones, whatever it is. -/
theorem cut8W (g n cap B : Nat) (xs : List (List Value)) (hn : xs.length = n) (hbig : cap ≤ 9223372036854775807) (w : World) (hown : OwnK 13 38 w B (.slice (some ⟨g, 0, none⟩) n cap) xs) (z : Int) (hz : z = ((n - 8 : Nat) : Int)) :
    Calls Try.prog 48 #[.slice (some ⟨g, 0, none⟩) n cap, .int .i64 0, .int .i64 z] w fun e w' => ∃ k, e = .returned (.slice (some ⟨g, 0, none⟩) k cap) ∧ Hid (OwnK 13 38 w' B (.slice (some ⟨g, 0, none⟩) k cap) (last8 xs) ∧ w.grownBy w' (some g)) := by
  have hnc : n ≤ cap := by
    rcases hown.forms with ⟨e, _⟩ | ⟨g', cap', e, _, _, h1, _⟩
    · cases e
    · injection e with _ _ e3
      rw [e3, ← hn]; exact h1
  obtain ⟨m, hm⟩ : ∃ m, m = n - 8 := ⟨_, rfl⟩
  rw [← hm] at hz
  subst hz
  rcases Nat.eq_zero_or_pos m with h0 | h0
  · subst h0
    refine (dltW_same (some ⟨g, 0, none⟩) n cap 0 (Nat.zero_le _) hnc w).mono ?_
    rintro e w' ⟨rfl, rfl⟩
    refine ⟨n, rfl, ⟨?_, below_grown (Below.refl _ _) _⟩⟩
    unfold last8
    rw [hn, ← hm]
    exact hown
  · refine (dltW_any g n cap B xs hn hbig w hown 0 m h0 (by omega)).mono ?_
    rintro e w' ⟨rfl, H⟩
    refine ⟨_, rfl, ⟨?_, H.out.2⟩⟩
    have h := H.out.1
    unfold last8
    rw [hn, ← hm]
    simpa using h
/-- What slices.DeleteFunc leaves, ahead of one more. -/
structure RenW (w W w2 : World) (B : Nat) (val u : Value) (ys : List (List Value)) (v : WtV) : Prop where
  own : OwnK 13 38 w2 B u ys
  row : u.ownBlock = val.ownBlock
  grown : w.grownBy w2 val.ownBlock
  grownW : W.grownBy w2 val.ownBlock
  box : w2.heap[w.heap.size]? = some (.cells #[.bool v.g.org.sec, .string v.g.org.host, .int .i64 v.g.org.port, .bool v.g.proxy, .string v.g.path, .int .i64 v.g.ask.sch, .string v.g.ask.realm, .string v.g.ask.nonce, .string v.g.ask.opq, .bool v.g.ask.sess, .string v.g.ask.qop, .bool v.g.ask.stale, v.dv] 38 (0, 0))
theorem renW_call (val : Value) (xs : List (List Value)) (B : Nat) (hbig : xs.length ≤ 1000) (w : World) (hown : OwnK 13 38 w B val xs) (v : WtV)
    (p : List Value → Bool) (fn : Nat) (lb : Array Value) (eg : ∀ args w, (callFunc fn args).run Try.prog w = .ok (.enter fn args) w) (hp : PredK Try.prog fn lb p xs w val.ownBlock) (W : World) (hb : Below (w.alloc (.cells #[.bool v.g.org.sec, .string v.g.org.host, .int .i64 v.g.org.port, .bool v.g.proxy, .string v.g.path, .int .i64 v.g.ask.sch, .string v.g.ask.realm, .string v.g.ask.nonce, .string v.g.ask.opq, .bool v.g.ask.sess, .string v.g.ask.qop, .bool v.g.ask.stale, v.dv] 38)).heap.size (w.alloc (.cells #[.bool v.g.org.sec, .string v.g.org.host, .int .i64 v.g.org.port, .bool v.g.proxy, .string v.g.path, .int .i64 v.g.ask.sch, .string v.g.ask.realm, .string v.g.ask.nonce, .string v.g.ask.opq, .bool v.g.ask.sess, .string v.g.ask.qop, .bool v.g.ask.stale, v.dv] 38)) W) :
    Calls Try.prog 42 #[val, .func (.func fn) #[] lb] W fun e w2 => ∃ u, e = .returned u ∧ Hid (RenW w W w2 B val u (xs.filter (fun y => !p y)) v) := by
  have hbb : Below w.heap.size w (w.alloc (.cells #[.bool v.g.org.sec, .string v.g.org.host, .int .i64 v.g.org.port, .bool v.g.proxy, .string v.g.path, .int .i64 v.g.ask.sch, .string v.g.ask.realm, .string v.g.ask.nonce, .string v.g.ask.opq, .bool v.g.ask.sess, .string v.g.ask.qop, .bool v.g.ask.stale, v.dv] 38)) := (Below.refl _ _).alloc (Nat.le_refl _) _
  have hbW : Below w.heap.size w W := hbb.trans (hb.mono hbb.size)
  have hbox := (hb.block w.heap.size (by simp)).trans (heap_alloc_new w (.cells #[.bool v.g.org.sec, .string v.g.org.host, .int .i64 v.g.org.port, .bool v.g.proxy, .string v.g.path, .int .i64 v.g.ask.sch, .string v.g.ask.realm, .string v.g.ask.nonce, .string v.g.ask.opq, .bool v.g.ask.sess, .string v.g.ask.qop, .bool v.g.ask.stale, v.dv] 38))
  refine (dlfW_all val xs B hbig W (hown.below hbW) p fn lb eg (fun W' x hx hg => hp W' x hx (gcomp (below_grown hbW _) hg (fun k hk => .inl hk)))).mono ?_
  rintro e w2 ⟨u, rfl, H⟩
  refine ⟨u, rfl, ⟨H.out.1, H.out.2.1, gcomp (below_grown hbW _) H.out.2.2 (fun k hk => .inl hk), H.out.2.2, (H.out.2.2.block _ (Array.getElem?_eq_some_iff.1 hbox).1 (fun e => ?_)).trans hbox⟩⟩
  have := (hown.lt _ e.symm).2
  omega
theorem renW_news {val u : Value} {xs ys : List (List Value)} {B : Nat} {w w2 : World} {v : WtV} (hown : OwnK 13 38 w B val xs) (h : RenW w ((w.alloc (.cells #[.bool v.g.org.sec, .string v.g.org.host, .int .i64 v.g.org.port, .bool v.g.proxy, .string v.g.path, .int .i64 v.g.ask.sch, .string v.g.ask.realm, .string v.g.ask.nonce, .string v.g.ask.opq, .bool v.g.ask.sess, .string v.g.ask.qop, .bool v.g.ask.stale, v.dv] 38)).alloc (.cells #[.bool v.g.org.sec, .string v.g.org.host, .int .i64 v.g.org.port, .bool v.g.proxy, .string v.g.path, .int .i64 v.g.ask.sch, .string v.g.ask.realm, .string v.g.ask.nonce, .string v.g.ask.opq, .bool v.g.ask.sess, .string v.g.ask.qop, .bool v.g.ask.stale, v.dv] 38)).drew w2 B val u ys v) : w2.heap[w.heap.size + 1]? = some (.cells #[.bool v.g.org.sec, .string v.g.org.host, .int .i64 v.g.org.port, .bool v.g.proxy, .string v.g.path, .int .i64 v.g.ask.sch, .string v.g.ask.realm, .string v.g.ask.nonce, .string v.g.ask.opq, .bool v.g.ask.sess, .string v.g.ask.qop, .bool v.g.ask.stale, v.dv] 38 (0, 0)) := by
  have e : ((w.alloc (.cells #[.bool v.g.org.sec, .string v.g.org.host, .int .i64 v.g.org.port, .bool v.g.proxy, .string v.g.path, .int .i64 v.g.ask.sch, .string v.g.ask.realm, .string v.g.ask.nonce, .string v.g.ask.opq, .bool v.g.ask.sess, .string v.g.ask.qop, .bool v.g.ask.stale, v.dv] 38)).alloc (.cells #[.bool v.g.org.sec, .string v.g.org.host, .int .i64 v.g.org.port, .bool v.g.proxy, .string v.g.path, .int .i64 v.g.ask.sch, .string v.g.ask.realm, .string v.g.ask.nonce, .string v.g.ask.opq, .bool v.g.ask.sess, .string v.g.ask.qop, .bool v.g.ask.stale, v.dv] 38)).drew.heap[w.heap.size + 1]? = some (.cells #[.bool v.g.org.sec, .string v.g.org.host, .int .i64 v.g.org.port, .bool v.g.proxy, .string v.g.path, .int .i64 v.g.ask.sch, .string v.g.ask.realm, .string v.g.ask.nonce, .string v.g.ask.opq, .bool v.g.ask.sess, .string v.g.ask.qop, .bool v.g.ask.stale, v.dv] 38 (0, 0)) := by
    have := heap_alloc_new (w.alloc (.cells #[.bool v.g.org.sec, .string v.g.org.host, .int .i64 v.g.org.port, .bool v.g.proxy, .string v.g.path, .int .i64 v.g.ask.sch, .string v.g.ask.realm, .string v.g.ask.nonce, .string v.g.ask.opq, .bool v.g.ask.sess, .string v.g.ask.qop, .bool v.g.ask.stale, v.dv] 38)) (.cells #[.bool v.g.org.sec, .string v.g.org.host, .int .i64 v.g.org.port, .bool v.g.proxy, .string v.g.path, .int .i64 v.g.ask.sch, .string v.g.ask.realm, .string v.g.ask.nonce, .string v.g.ask.opq, .bool v.g.ask.sess, .string v.g.ask.qop, .bool v.g.ask.stale, v.dv] 38)
    rw [World.size_alloc] at this
    exact this
  refine (h.grownW.block _ (Array.getElem?_eq_some_iff.1 e).1 (fun e2 => ?_)).trans e
  have := (hown.lt _ e2.symm).2
  omega
/-- Behind the append. -/
theorem renW_end {val u u4 : Value} {xs ys zs : List (List Value)} {B : Nat} {w W w2 w3 w4 : World} {v : WtV} (hown : OwnK 13 38 w B val xs) (hB : Hid (B ≤ w.heap.size)) (h : RenW w W w2 B val u ys v) (h3 : w2.grownBy w3 val.ownBlock) (h4 : w3.grownBy w4 u.ownBlock) (hu : OwnK 13 38 w4 B u4 zs) {g4 H : Nat} (hat : u.ownBlock = some g4 ∨ g4 = H) (hH : w.heap.size ≤ H) :
    Hid (OwnK 13 38 w4 B u4 zs ∧ w.grownBy w4 val.ownBlock ∧ w4.heap[w.heap.size]? = some (.cells #[.bool v.g.org.sec, .string v.g.org.host, .int .i64 v.g.org.port, .bool v.g.proxy, .string v.g.path, .int .i64 v.g.ask.sch, .string v.g.ask.realm, .string v.g.ask.nonce, .string v.g.ask.opq, .bool v.g.ask.sess, .string v.g.ask.qop, .bool v.g.ask.stale, v.dv] 38 (0, 0)) ∧ (val.ownBlock = some g4 ∨ w.heap.size ≤ g4)) := by
  have hlt : w.heap.size < w2.heap.size := (Array.getElem?_eq_some_iff.1 h.box).1
  have hne : some w.heap.size ≠ val.ownBlock := fun e => by
    have := (hown.lt _ e.symm).2
    omega
  refine ⟨hu, gcomp (gcomp h.grown h3 (fun k hk => .inl hk)) h4 (fun k hk => .inl (by rw [← h.row]; exact hk)), ?_, ?_⟩
  rotate_left
  · rcases hat with e | rfl
    · rw [h.row] at e; exact .inl e
    · exact .inr hH
  rw [h4.block _ (Nat.lt_of_lt_of_le hlt h3.size) (by rw [h.row]; exact hne), h3.block _ hlt hne]
  exact h.box
set_option maxRecDepth 100000 in
set_option maxHeartbeats 2000000 in
theorem renW_any (val : Value) (xs : List (List Value)) (B : Nat) (hbig : xs.length ≤ 1000) (w : World) (hB : B ≤ w.heap.size) (hown : OwnK 13 38 w B val xs) (v : WtV) (hx1 : ∀ u ∈ wtCells v, u.oneCell' = true)
    (p : List Value → Bool) (fn : Nat) (lb : Array Value) (eg : ∀ args w, (callFunc fn args).run Try.prog w = .ok (.enter fn args) w) (hp : PredK Try.prog fn lb p xs w val.ownBlock) :
    Calls Try.prog 36 #[val, .agg (wtCells v).toArray, .func (.func fn) #[] lb] w fun e w' => ∃ u, e = .returned u ∧ Hid (OwnK 13 38 w' B u (last8 (xs.filter (fun y => !p y) ++ [wtCells v])) ∧ w.grownBy w' val.ownBlock ∧ ∀ k, u.ownBlock = some k → val.ownBlock = some k ∨ w.heap.size ≤ k) := by
  have HB : Hid (B ≤ w.heap.size) := hB
  have HP : Hid (OwnK 13 38 w B val xs ∧ PredK Try.prog fn lb p xs w val.ownBlock ∧ (∀ u ∈ wtCells v, u.oneCell' = true) ∧ (∀ args w, (callFunc fn args).run Try.prog w = .ok (.enter fn args) w)) := ⟨hown, hp, hx1, eg⟩
  have hcall := renW_call val xs B hbig w hown v p fn lb eg hp
  have hQ : (w.alloc (.cells #[.bool v.g.org.sec, .string v.g.org.host, .int .i64 v.g.org.port, .bool v.g.proxy, .string v.g.path, .int .i64 v.g.ask.sch, .string v.g.ask.realm, .string v.g.ask.nonce, .string v.g.ask.opq, .bool v.g.ask.sess, .string v.g.ask.qop, .bool v.g.ask.stale, v.dv] 38)).drew.cell? ⟨w.heap.size, 0, none⟩ = some (.bool v.g.org.sec) ∧ (w.alloc (.cells #[.bool v.g.org.sec, .string v.g.org.host, .int .i64 v.g.org.port, .bool v.g.proxy, .string v.g.path, .int .i64 v.g.ask.sch, .string v.g.ask.realm, .string v.g.ask.nonce, .string v.g.ask.opq, .bool v.g.ask.sess, .string v.g.ask.qop, .bool v.g.ask.stale, v.dv] 38)).drew.cell? ⟨w.heap.size, 1, none⟩ = some (.string v.g.org.host) ∧ (w.alloc (.cells #[.bool v.g.org.sec, .string v.g.org.host, .int .i64 v.g.org.port, .bool v.g.proxy, .string v.g.path, .int .i64 v.g.ask.sch, .string v.g.ask.realm, .string v.g.ask.nonce, .string v.g.ask.opq, .bool v.g.ask.sess, .string v.g.ask.qop, .bool v.g.ask.stale, v.dv] 38)).drew.cell? ⟨w.heap.size, 2, none⟩ = some (.int .i64 v.g.org.port) ∧ (w.alloc (.cells #[.bool v.g.org.sec, .string v.g.org.host, .int .i64 v.g.org.port, .bool v.g.proxy, .string v.g.path, .int .i64 v.g.ask.sch, .string v.g.ask.realm, .string v.g.ask.nonce, .string v.g.ask.opq, .bool v.g.ask.sess, .string v.g.ask.qop, .bool v.g.ask.stale, v.dv] 38)).drew.cell? ⟨w.heap.size, 3, none⟩ = some (.bool v.g.proxy) ∧ (w.alloc (.cells #[.bool v.g.org.sec, .string v.g.org.host, .int .i64 v.g.org.port, .bool v.g.proxy, .string v.g.path, .int .i64 v.g.ask.sch, .string v.g.ask.realm, .string v.g.ask.nonce, .string v.g.ask.opq, .bool v.g.ask.sess, .string v.g.ask.qop, .bool v.g.ask.stale, v.dv] 38)).drew.cell? ⟨w.heap.size, 4, none⟩ = some (.string v.g.path) ∧ (w.alloc (.cells #[.bool v.g.org.sec, .string v.g.org.host, .int .i64 v.g.org.port, .bool v.g.proxy, .string v.g.path, .int .i64 v.g.ask.sch, .string v.g.ask.realm, .string v.g.ask.nonce, .string v.g.ask.opq, .bool v.g.ask.sess, .string v.g.ask.qop, .bool v.g.ask.stale, v.dv] 38)).drew.cell? ⟨w.heap.size, 5, none⟩ = some (.int .i64 v.g.ask.sch) ∧ (w.alloc (.cells #[.bool v.g.org.sec, .string v.g.org.host, .int .i64 v.g.org.port, .bool v.g.proxy, .string v.g.path, .int .i64 v.g.ask.sch, .string v.g.ask.realm, .string v.g.ask.nonce, .string v.g.ask.opq, .bool v.g.ask.sess, .string v.g.ask.qop, .bool v.g.ask.stale, v.dv] 38)).drew.cell? ⟨w.heap.size, 6, none⟩ = some (.string v.g.ask.realm) ∧ (w.alloc (.cells #[.bool v.g.org.sec, .string v.g.org.host, .int .i64 v.g.org.port, .bool v.g.proxy, .string v.g.path, .int .i64 v.g.ask.sch, .string v.g.ask.realm, .string v.g.ask.nonce, .string v.g.ask.opq, .bool v.g.ask.sess, .string v.g.ask.qop, .bool v.g.ask.stale, v.dv] 38)).drew.cell? ⟨w.heap.size, 7, none⟩ = some (.string v.g.ask.nonce) ∧ (w.alloc (.cells #[.bool v.g.org.sec, .string v.g.org.host, .int .i64 v.g.org.port, .bool v.g.proxy, .string v.g.path, .int .i64 v.g.ask.sch, .string v.g.ask.realm, .string v.g.ask.nonce, .string v.g.ask.opq, .bool v.g.ask.sess, .string v.g.ask.qop, .bool v.g.ask.stale, v.dv] 38)).drew.cell? ⟨w.heap.size, 8, none⟩ = some (.string v.g.ask.opq) ∧ (w.alloc (.cells #[.bool v.g.org.sec, .string v.g.org.host, .int .i64 v.g.org.port, .bool v.g.proxy, .string v.g.path, .int .i64 v.g.ask.sch, .string v.g.ask.realm, .string v.g.ask.nonce, .string v.g.ask.opq, .bool v.g.ask.sess, .string v.g.ask.qop, .bool v.g.ask.stale, v.dv] 38)).drew.cell? ⟨w.heap.size, 9, none⟩ = some (.bool v.g.ask.sess) ∧ (w.alloc (.cells #[.bool v.g.org.sec, .string v.g.org.host, .int .i64 v.g.org.port, .bool v.g.proxy, .string v.g.path, .int .i64 v.g.ask.sch, .string v.g.ask.realm, .string v.g.ask.nonce, .string v.g.ask.opq, .bool v.g.ask.sess, .string v.g.ask.qop, .bool v.g.ask.stale, v.dv] 38)).drew.cell? ⟨w.heap.size, 10, none⟩ = some (.string v.g.ask.qop) ∧ (w.alloc (.cells #[.bool v.g.org.sec, .string v.g.org.host, .int .i64 v.g.org.port, .bool v.g.proxy, .string v.g.path, .int .i64 v.g.ask.sch, .string v.g.ask.realm, .string v.g.ask.nonce, .string v.g.ask.opq, .bool v.g.ask.sess, .string v.g.ask.qop, .bool v.g.ask.stale, v.dv] 38)).drew.cell? ⟨w.heap.size, 11, none⟩ = some (.bool v.g.ask.stale) ∧ (w.alloc (.cells #[.bool v.g.org.sec, .string v.g.org.host, .int .i64 v.g.org.port, .bool v.g.proxy, .string v.g.path, .int .i64 v.g.ask.sch, .string v.g.ask.realm, .string v.g.ask.nonce, .string v.g.ask.opq, .bool v.g.ask.sess, .string v.g.ask.qop, .bool v.g.ask.stale, v.dv] 38)).drew.cell? ⟨w.heap.size, 12, none⟩ = some (v.dv) := by
    have hn := heap_alloc_new w (.cells #[.bool v.g.org.sec, .string v.g.org.host, .int .i64 v.g.org.port, .bool v.g.proxy, .string v.g.path, .int .i64 v.g.ask.sch, .string v.g.ask.realm, .string v.g.ask.nonce, .string v.g.ask.opq, .bool v.g.ask.sess, .string v.g.ask.qop, .bool v.g.ask.stale, v.dv] 38)
    exact ⟨(cell_of (i := 0) hn).trans rfl, (cell_of (i := 1) hn).trans rfl, (cell_of (i := 2) hn).trans rfl, (cell_of (i := 3) hn).trans rfl, (cell_of (i := 4) hn).trans rfl, (cell_of (i := 5) hn).trans rfl, (cell_of (i := 6) hn).trans rfl, (cell_of (i := 7) hn).trans rfl, (cell_of (i := 8) hn).trans rfl, (cell_of (i := 9) hn).trans rfl, (cell_of (i := 10) hn).trans rfl, (cell_of (i := 11) hn).trans rfl, (cell_of (i := 12) hn).trans rfl⟩
  have hQB : ((w.alloc (.cells #[.bool v.g.org.sec, .string v.g.org.host, .int .i64 v.g.org.port, .bool v.g.proxy, .string v.g.path, .int .i64 v.g.ask.sch, .string v.g.ask.realm, .string v.g.ask.nonce, .string v.g.ask.opq, .bool v.g.ask.sess, .string v.g.ask.qop, .bool v.g.ask.stale, v.dv] 38)).alloc (.cells #[.bool v.g.org.sec, .string v.g.org.host, .int .i64 v.g.org.port, .bool v.g.proxy, .string v.g.path, .int .i64 v.g.ask.sch, .string v.g.ask.realm, .string v.g.ask.nonce, .string v.g.ask.opq, .bool v.g.ask.sess, .string v.g.ask.qop, .bool v.g.ask.stale, v.dv] 38)).drew.cell? ⟨w.heap.size, 0, none⟩ = some (.bool v.g.org.sec) ∧ ((w.alloc (.cells #[.bool v.g.org.sec, .string v.g.org.host, .int .i64 v.g.org.port, .bool v.g.proxy, .string v.g.path, .int .i64 v.g.ask.sch, .string v.g.ask.realm, .string v.g.ask.nonce, .string v.g.ask.opq, .bool v.g.ask.sess, .string v.g.ask.qop, .bool v.g.ask.stale, v.dv] 38)).alloc (.cells #[.bool v.g.org.sec, .string v.g.org.host, .int .i64 v.g.org.port, .bool v.g.proxy, .string v.g.path, .int .i64 v.g.ask.sch, .string v.g.ask.realm, .string v.g.ask.nonce, .string v.g.ask.opq, .bool v.g.ask.sess, .string v.g.ask.qop, .bool v.g.ask.stale, v.dv] 38)).drew.cell? ⟨w.heap.size, 1, none⟩ = some (.string v.g.org.host) ∧ ((w.alloc (.cells #[.bool v.g.org.sec, .string v.g.org.host, .int .i64 v.g.org.port, .bool v.g.proxy, .string v.g.path, .int .i64 v.g.ask.sch, .string v.g.ask.realm, .string v.g.ask.nonce, .string v.g.ask.opq, .bool v.g.ask.sess, .string v.g.ask.qop, .bool v.g.ask.stale, v.dv] 38)).alloc (.cells #[.bool v.g.org.sec, .string v.g.org.host, .int .i64 v.g.org.port, .bool v.g.proxy, .string v.g.path, .int .i64 v.g.ask.sch, .string v.g.ask.realm, .string v.g.ask.nonce, .string v.g.ask.opq, .bool v.g.ask.sess, .string v.g.ask.qop, .bool v.g.ask.stale, v.dv] 38)).drew.cell? ⟨w.heap.size, 2, none⟩ = some (.int .i64 v.g.org.port) ∧ ((w.alloc (.cells #[.bool v.g.org.sec, .string v.g.org.host, .int .i64 v.g.org.port, .bool v.g.proxy, .string v.g.path, .int .i64 v.g.ask.sch, .string v.g.ask.realm, .string v.g.ask.nonce, .string v.g.ask.opq, .bool v.g.ask.sess, .string v.g.ask.qop, .bool v.g.ask.stale, v.dv] 38)).alloc (.cells #[.bool v.g.org.sec, .string v.g.org.host, .int .i64 v.g.org.port, .bool v.g.proxy, .string v.g.path, .int .i64 v.g.ask.sch, .string v.g.ask.realm, .string v.g.ask.nonce, .string v.g.ask.opq, .bool v.g.ask.sess, .string v.g.ask.qop, .bool v.g.ask.stale, v.dv] 38)).drew.cell? ⟨w.heap.size, 3, none⟩ = some (.bool v.g.proxy) ∧ ((w.alloc (.cells #[.bool v.g.org.sec, .string v.g.org.host, .int .i64 v.g.org.port, .bool v.g.proxy, .string v.g.path, .int .i64 v.g.ask.sch, .string v.g.ask.realm, .string v.g.ask.nonce, .string v.g.ask.opq, .bool v.g.ask.sess, .string v.g.ask.qop, .bool v.g.ask.stale, v.dv] 38)).alloc (.cells #[.bool v.g.org.sec, .string v.g.org.host, .int .i64 v.g.org.port, .bool v.g.proxy, .string v.g.path, .int .i64 v.g.ask.sch, .string v.g.ask.realm, .string v.g.ask.nonce, .string v.g.ask.opq, .bool v.g.ask.sess, .string v.g.ask.qop, .bool v.g.ask.stale, v.dv] 38)).drew.cell? ⟨w.heap.size, 4, none⟩ = some (.string v.g.path) ∧ ((w.alloc (.cells #[.bool v.g.org.sec, .string v.g.org.host, .int .i64 v.g.org.port, .bool v.g.proxy, .string v.g.path, .int .i64 v.g.ask.sch, .string v.g.ask.realm, .string v.g.ask.nonce, .string v.g.ask.opq, .bool v.g.ask.sess, .string v.g.ask.qop, .bool v.g.ask.stale, v.dv] 38)).alloc (.cells #[.bool v.g.org.sec, .string v.g.org.host, .int .i64 v.g.org.port, .bool v.g.proxy, .string v.g.path, .int .i64 v.g.ask.sch, .string v.g.ask.realm, .string v.g.ask.nonce, .string v.g.ask.opq, .bool v.g.ask.sess, .string v.g.ask.qop, .bool v.g.ask.stale, v.dv] 38)).drew.cell? ⟨w.heap.size, 5, none⟩ = some (.int .i64 v.g.ask.sch) ∧ ((w.alloc (.cells #[.bool v.g.org.sec, .string v.g.org.host, .int .i64 v.g.org.port, .bool v.g.proxy, .string v.g.path, .int .i64 v.g.ask.sch, .string v.g.ask.realm, .string v.g.ask.nonce, .string v.g.ask.opq, .bool v.g.ask.sess, .string v.g.ask.qop, .bool v.g.ask.stale, v.dv] 38)).alloc (.cells #[.bool v.g.org.sec, .string v.g.org.host, .int .i64 v.g.org.port, .bool v.g.proxy, .string v.g.path, .int .i64 v.g.ask.sch, .string v.g.ask.realm, .string v.g.ask.nonce, .string v.g.ask.opq, .bool v.g.ask.sess, .string v.g.ask.qop, .bool v.g.ask.stale, v.dv] 38)).drew.cell? ⟨w.heap.size, 6, none⟩ = some (.string v.g.ask.realm) ∧ ((w.alloc (.cells #[.bool v.g.org.sec, .string v.g.org.host, .int .i64 v.g.org.port, .bool v.g.proxy, .string v.g.path, .int .i64 v.g.ask.sch, .string v.g.ask.realm, .string v.g.ask.nonce, .string v.g.ask.opq, .bool v.g.ask.sess, .string v.g.ask.qop, .bool v.g.ask.stale, v.dv] 38)).alloc (.cells #[.bool v.g.org.sec, .string v.g.org.host, .int .i64 v.g.org.port, .bool v.g.proxy, .string v.g.path, .int .i64 v.g.ask.sch, .string v.g.ask.realm, .string v.g.ask.nonce, .string v.g.ask.opq, .bool v.g.ask.sess, .string v.g.ask.qop, .bool v.g.ask.stale, v.dv] 38)).drew.cell? ⟨w.heap.size, 7, none⟩ = some (.string v.g.ask.nonce) ∧ ((w.alloc (.cells #[.bool v.g.org.sec, .string v.g.org.host, .int .i64 v.g.org.port, .bool v.g.proxy, .string v.g.path, .int .i64 v.g.ask.sch, .string v.g.ask.realm, .string v.g.ask.nonce, .string v.g.ask.opq, .bool v.g.ask.sess, .string v.g.ask.qop, .bool v.g.ask.stale, v.dv] 38)).alloc (.cells #[.bool v.g.org.sec, .string v.g.org.host, .int .i64 v.g.org.port, .bool v.g.proxy, .string v.g.path, .int .i64 v.g.ask.sch, .string v.g.ask.realm, .string v.g.ask.nonce, .string v.g.ask.opq, .bool v.g.ask.sess, .string v.g.ask.qop, .bool v.g.ask.stale, v.dv] 38)).drew.cell? ⟨w.heap.size, 8, none⟩ = some (.string v.g.ask.opq) ∧ ((w.alloc (.cells #[.bool v.g.org.sec, .string v.g.org.host, .int .i64 v.g.org.port, .bool v.g.proxy, .string v.g.path, .int .i64 v.g.ask.sch, .string v.g.ask.realm, .string v.g.ask.nonce, .string v.g.ask.opq, .bool v.g.ask.sess, .string v.g.ask.qop, .bool v.g.ask.stale, v.dv] 38)).alloc (.cells #[.bool v.g.org.sec, .string v.g.org.host, .int .i64 v.g.org.port, .bool v.g.proxy, .string v.g.path, .int .i64 v.g.ask.sch, .string v.g.ask.realm, .string v.g.ask.nonce, .string v.g.ask.opq, .bool v.g.ask.sess, .string v.g.ask.qop, .bool v.g.ask.stale, v.dv] 38)).drew.cell? ⟨w.heap.size, 9, none⟩ = some (.bool v.g.ask.sess) ∧ ((w.alloc (.cells #[.bool v.g.org.sec, .string v.g.org.host, .int .i64 v.g.org.port, .bool v.g.proxy, .string v.g.path, .int .i64 v.g.ask.sch, .string v.g.ask.realm, .string v.g.ask.nonce, .string v.g.ask.opq, .bool v.g.ask.sess, .string v.g.ask.qop, .bool v.g.ask.stale, v.dv] 38)).alloc (.cells #[.bool v.g.org.sec, .string v.g.org.host, .int .i64 v.g.org.port, .bool v.g.proxy, .string v.g.path, .int .i64 v.g.ask.sch, .string v.g.ask.realm, .string v.g.ask.nonce, .string v.g.ask.opq, .bool v.g.ask.sess, .string v.g.ask.qop, .bool v.g.ask.stale, v.dv] 38)).drew.cell? ⟨w.heap.size, 10, none⟩ = some (.string v.g.ask.qop) ∧ ((w.alloc (.cells #[.bool v.g.org.sec, .string v.g.org.host, .int .i64 v.g.org.port, .bool v.g.proxy, .string v.g.path, .int .i64 v.g.ask.sch, .string v.g.ask.realm, .string v.g.ask.nonce, .string v.g.ask.opq, .bool v.g.ask.sess, .string v.g.ask.qop, .bool v.g.ask.stale, v.dv] 38)).alloc (.cells #[.bool v.g.org.sec, .string v.g.org.host, .int .i64 v.g.org.port, .bool v.g.proxy, .string v.g.path, .int .i64 v.g.ask.sch, .string v.g.ask.realm, .string v.g.ask.nonce, .string v.g.ask.opq, .bool v.g.ask.sess, .string v.g.ask.qop, .bool v.g.ask.stale, v.dv] 38)).drew.cell? ⟨w.heap.size, 11, none⟩ = some (.bool v.g.ask.stale) ∧ ((w.alloc (.cells #[.bool v.g.org.sec, .string v.g.org.host, .int .i64 v.g.org.port, .bool v.g.proxy, .string v.g.path, .int .i64 v.g.ask.sch, .string v.g.ask.realm, .string v.g.ask.nonce, .string v.g.ask.opq, .bool v.g.ask.sess, .string v.g.ask.qop, .bool v.g.ask.stale, v.dv] 38)).alloc (.cells #[.bool v.g.org.sec, .string v.g.org.host, .int .i64 v.g.org.port, .bool v.g.proxy, .string v.g.path, .int .i64 v.g.ask.sch, .string v.g.ask.realm, .string v.g.ask.nonce, .string v.g.ask.opq, .bool v.g.ask.sess, .string v.g.ask.qop, .bool v.g.ask.stale, v.dv] 38)).drew.cell? ⟨w.heap.size, 12, none⟩ = some (v.dv) := by
    have hn := box_alloc (heap_alloc_new w (.cells #[.bool v.g.org.sec, .string v.g.org.host, .int .i64 v.g.org.port, .bool v.g.proxy, .string v.g.path, .int .i64 v.g.ask.sch, .string v.g.ask.realm, .string v.g.ask.nonce, .string v.g.ask.opq, .bool v.g.ask.sess, .string v.g.ask.qop, .bool v.g.ask.stale, v.dv] 38)) (.cells #[.bool v.g.org.sec, .string v.g.org.host, .int .i64 v.g.org.port, .bool v.g.proxy, .string v.g.path, .int .i64 v.g.ask.sch, .string v.g.ask.realm, .string v.g.ask.nonce, .string v.g.ask.opq, .bool v.g.ask.sess, .string v.g.ask.qop, .bool v.g.ask.stale, v.dv] 38)
    exact ⟨(cell_of (i := 0) hn).trans rfl, (cell_of (i := 1) hn).trans rfl, (cell_of (i := 2) hn).trans rfl, (cell_of (i := 3) hn).trans rfl, (cell_of (i := 4) hn).trans rfl, (cell_of (i := 5) hn).trans rfl, (cell_of (i := 6) hn).trans rfl, (cell_of (i := 7) hn).trans rfl, (cell_of (i := 8) hn).trans rfl, (cell_of (i := 9) hn).trans rfl, (cell_of (i := 10) hn).trans rfl, (cell_of (i := 11) hn).trans rfl, (cell_of (i := 12) hn).trans rfl⟩
  generalize hys : xs.filter (fun y => !p y) = ys at hcall ⊢
  have HL : Hid (ys.length ≤ xs.length) := by show _ ≤ _; rw [← hys]; exact List.length_filter_le _ _
  clear hown hp hx1 eg hys
  obtain ⟨i0, hi0, hz0, hz1, hz2⟩ := info_parts infoFW
  unfold wtCells
  go_enter Try.func36, Try.ntmps36
  go_wp2_with fail
  go_region_held3 (fun W => W.cell? ⟨w.heap.size, 0, none⟩ = some (.bool v.g.org.sec) ∧ W.cell? ⟨w.heap.size, 1, none⟩ = some (.string v.g.org.host) ∧ W.cell? ⟨w.heap.size, 2, none⟩ = some (.int .i64 v.g.org.port) ∧ W.cell? ⟨w.heap.size, 3, none⟩ = some (.bool v.g.proxy) ∧ W.cell? ⟨w.heap.size, 4, none⟩ = some (.string v.g.path) ∧ W.cell? ⟨w.heap.size, 5, none⟩ = some (.int .i64 v.g.ask.sch) ∧ W.cell? ⟨w.heap.size, 6, none⟩ = some (.string v.g.ask.realm) ∧ W.cell? ⟨w.heap.size, 7, none⟩ = some (.string v.g.ask.nonce) ∧ W.cell? ⟨w.heap.size, 8, none⟩ = some (.string v.g.ask.opq) ∧ W.cell? ⟨w.heap.size, 9, none⟩ = some (.bool v.g.ask.sess) ∧ W.cell? ⟨w.heap.size, 10, none⟩ = some (.string v.g.ask.qop) ∧ W.cell? ⟨w.heap.size, 11, none⟩ = some (.bool v.g.ask.stale) ∧ W.cell? ⟨w.heap.size, 12, none⟩ = some (v.dv)) (with_reducible assumption) (first
    | (have hoA := World.ownsRow.alloc HR.out.own.row (.cells #[.bool v.g.org.sec, .string v.g.org.host, .int .i64 v.g.org.port, .bool v.g.proxy, .string v.g.path, .int .i64 v.g.ask.sch, .string v.g.ask.realm, .string v.g.ask.nonce, .string v.g.ask.opq, .bool v.g.ask.sess, .string v.g.ask.qop, .bool v.g.ask.stale, v.dv] 38); refine step_append_lies (w2.alloc (.cells #[.bool v.g.org.sec, .string v.g.org.host, .int .i64 v.g.org.port, .bool v.g.proxy, .string v.g.path, .int .i64 v.g.ask.sch, .string v.g.ask.realm, .string v.g.ask.nonce, .string v.g.ask.opq, .bool v.g.ask.sess, .string v.g.ask.qop, .bool v.g.ask.stale, v.dv] 38)) rfl (.tmp 9) (.tmp 11) 50 rfl B 38 i0 (.agg #[.bool false, .string ⟨#[]⟩, .int .i64 0, .bool false, .string ⟨#[]⟩, .int .i64 0, .string ⟨#[]⟩, .string ⟨#[]⟩, .string ⟨#[]⟩, .bool false, .string ⟨#[]⟩, .bool false, .slice none 0 0]) 13 168 Try.underlying50 hi0 hz0 hz1 hz2 rfl ?_ u ys.length ys.flatten ?_ hoA ⟨w2.heap.size, 0, none⟩ 1 1 [.bool v.g.org.sec, .string v.g.org.host, .int .i64 v.g.org.port, .bool v.g.proxy, .string v.g.path, .int .i64 v.g.ask.sch, .string v.g.ask.realm, .string v.g.ask.nonce, .string v.g.ask.opq, .bool v.g.ask.sess, .string v.g.ask.qop, .bool v.g.ask.stale, v.dv] ?_ ?_ ?_ ?_ ?_ ?_ ?_ ?_ (w2.heap.size + 1) ?_ ?_; (· omega); (· rfl); (· rfl); (· rfl); (· exact World.news_of_block (cs := #[.bool v.g.org.sec, .string v.g.org.host, .int .i64 v.g.org.port, .bool v.g.proxy, .string v.g.path, .int .i64 v.g.ask.sch, .string v.g.ask.realm, .string v.g.ask.nonce, .string v.g.ask.opq, .bool v.g.ask.sess, .string v.g.ask.qop, .bool v.g.ask.stale, v.dv]) (t := 38) (fr := (0, 0)) (heap_alloc_new w2 _)); (· exact HP.out.2.2.1); (· omega); (· unfold maxLen; have := HL.out; omega); (· have := HL.out; omega); (· have := HR.out.grown.size; simp; omega); (· simp); intro g4 cap4 w4 hown4 hg4 hat4 hlt4; have HF := renW_end HP.out.1 HB HR.out (below_grown ((Below.refl _ _).alloc (Nat.le_refl _) _) _) hg4 (HR.out.own.appended rfl rfl HP.out.2.2.1 hown4) hat4 (by have := HR.out.grown.size; omega); have hbx4 := HF.out.2.2.1; have hQ4 : w4.cell? ⟨w.heap.size, 0, none⟩ = some (.bool v.g.org.sec) ∧ w4.cell? ⟨w.heap.size, 1, none⟩ = some (.string v.g.org.host) ∧ w4.cell? ⟨w.heap.size, 2, none⟩ = some (.int .i64 v.g.org.port) ∧ w4.cell? ⟨w.heap.size, 3, none⟩ = some (.bool v.g.proxy) ∧ w4.cell? ⟨w.heap.size, 4, none⟩ = some (.string v.g.path) ∧ w4.cell? ⟨w.heap.size, 5, none⟩ = some (.int .i64 v.g.ask.sch) ∧ w4.cell? ⟨w.heap.size, 6, none⟩ = some (.string v.g.ask.realm) ∧ w4.cell? ⟨w.heap.size, 7, none⟩ = some (.string v.g.ask.nonce) ∧ w4.cell? ⟨w.heap.size, 8, none⟩ = some (.string v.g.ask.opq) ∧ w4.cell? ⟨w.heap.size, 9, none⟩ = some (.bool v.g.ask.sess) ∧ w4.cell? ⟨w.heap.size, 10, none⟩ = some (.string v.g.ask.qop) ∧ w4.cell? ⟨w.heap.size, 11, none⟩ = some (.bool v.g.ask.stale) ∧ w4.cell? ⟨w.heap.size, 12, none⟩ = some (v.dv) := ⟨(cell_of (i := 0) hbx4).trans rfl, (cell_of (i := 1) hbx4).trans rfl, (cell_of (i := 2) hbx4).trans rfl, (cell_of (i := 3) hbx4).trans rfl, (cell_of (i := 4) hbx4).trans rfl, (cell_of (i := 5) hbx4).trans rfl, (cell_of (i := 6) hbx4).trans rfl, (cell_of (i := 7) hbx4).trans rfl, (cell_of (i := 8) hbx4).trans rfl, (cell_of (i := 9) hbx4).trans rfl, (cell_of (i := 10) hbx4).trans rfl, (cell_of (i := 11) hbx4).trans rfl, (cell_of (i := 12) hbx4).trans rfl⟩; clear hbx4 hown4 hg4 hat4 hlt4 hoA)
    | (have hoA := HR.out.own.row; refine step_append_lies w2 rfl (.tmp 9) (.tmp 11) 50 rfl B 38 i0 (.agg #[.bool false, .string ⟨#[]⟩, .int .i64 0, .bool false, .string ⟨#[]⟩, .int .i64 0, .string ⟨#[]⟩, .string ⟨#[]⟩, .string ⟨#[]⟩, .bool false, .string ⟨#[]⟩, .bool false, .slice none 0 0]) 13 168 Try.underlying50 hi0 hz0 hz1 hz2 rfl ?_ u ys.length ys.flatten ?_ hoA ⟨w.heap.size + 1, 0, none⟩ 1 1 [.bool v.g.org.sec, .string v.g.org.host, .int .i64 v.g.org.port, .bool v.g.proxy, .string v.g.path, .int .i64 v.g.ask.sch, .string v.g.ask.realm, .string v.g.ask.nonce, .string v.g.ask.opq, .bool v.g.ask.sess, .string v.g.ask.qop, .bool v.g.ask.stale, v.dv] ?_ ?_ ?_ ?_ ?_ ?_ ?_ ?_ w2.heap.size ?_ ?_; (· omega); (· rfl); (· rfl); (· rfl); (· exact World.news_of_block (cs := #[.bool v.g.org.sec, .string v.g.org.host, .int .i64 v.g.org.port, .bool v.g.proxy, .string v.g.path, .int .i64 v.g.ask.sch, .string v.g.ask.realm, .string v.g.ask.nonce, .string v.g.ask.opq, .bool v.g.ask.sess, .string v.g.ask.qop, .bool v.g.ask.stale, v.dv]) (t := 38) (fr := (0, 0)) (renW_news HP.out.1 HR.out)); (· exact HP.out.2.2.1); (· omega); (· unfold maxLen; have := HL.out; omega); (· have := HL.out; omega); (· have := HR.out.grown.size; omega); (· rfl); intro g4 cap4 w4 hown4 hg4 hat4 hlt4; have HF := renW_end HP.out.1 HB HR.out (below_grown (Below.refl _ _) _) hg4 (HR.out.own.appended rfl rfl HP.out.2.2.1 hown4) hat4 (by have := HR.out.grown.size; omega); have hbx4 := HF.out.2.2.1; have hQ4 : w4.cell? ⟨w.heap.size, 0, none⟩ = some (.bool v.g.org.sec) ∧ w4.cell? ⟨w.heap.size, 1, none⟩ = some (.string v.g.org.host) ∧ w4.cell? ⟨w.heap.size, 2, none⟩ = some (.int .i64 v.g.org.port) ∧ w4.cell? ⟨w.heap.size, 3, none⟩ = some (.bool v.g.proxy) ∧ w4.cell? ⟨w.heap.size, 4, none⟩ = some (.string v.g.path) ∧ w4.cell? ⟨w.heap.size, 5, none⟩ = some (.int .i64 v.g.ask.sch) ∧ w4.cell? ⟨w.heap.size, 6, none⟩ = some (.string v.g.ask.realm) ∧ w4.cell? ⟨w.heap.size, 7, none⟩ = some (.string v.g.ask.nonce) ∧ w4.cell? ⟨w.heap.size, 8, none⟩ = some (.string v.g.ask.opq) ∧ w4.cell? ⟨w.heap.size, 9, none⟩ = some (.bool v.g.ask.sess) ∧ w4.cell? ⟨w.heap.size, 10, none⟩ = some (.string v.g.ask.qop) ∧ w4.cell? ⟨w.heap.size, 11, none⟩ = some (.bool v.g.ask.stale) ∧ w4.cell? ⟨w.heap.size, 12, none⟩ = some (v.dv) := ⟨(cell_of (i := 0) hbx4).trans rfl, (cell_of (i := 1) hbx4).trans rfl, (cell_of (i := 2) hbx4).trans rfl, (cell_of (i := 3) hbx4).trans rfl, (cell_of (i := 4) hbx4).trans rfl, (cell_of (i := 5) hbx4).trans rfl, (cell_of (i := 6) hbx4).trans rfl, (cell_of (i := 7) hbx4).trans rfl, (cell_of (i := 8) hbx4).trans rfl, (cell_of (i := 9) hbx4).trans rfl, (cell_of (i := 10) hbx4).trans rfl, (cell_of (i := 11) hbx4).trans rfl, (cell_of (i := 12) hbx4).trans rfl⟩; clear hbx4 hown4 hg4 hat4 hlt4 hoA)
    | (go_at_call 42; refine (hcall (w.alloc (.cells #[.bool v.g.org.sec, .string v.g.org.host, .int .i64 v.g.org.port, .bool v.g.proxy, .string v.g.path, .int .i64 v.g.ask.sch, .string v.g.ask.realm, .string v.g.ask.nonce, .string v.g.ask.opq, .bool v.g.ask.sess, .string v.g.ask.qop, .bool v.g.ask.stale, v.dv] 38)).drew (Below.refl _ _).drew).mono ?_; rintro e w2 ⟨u, rfl, HR⟩; have hbx := HR.out.box; have hQ2 : w2.cell? ⟨w.heap.size, 0, none⟩ = some (.bool v.g.org.sec) ∧ w2.cell? ⟨w.heap.size, 1, none⟩ = some (.string v.g.org.host) ∧ w2.cell? ⟨w.heap.size, 2, none⟩ = some (.int .i64 v.g.org.port) ∧ w2.cell? ⟨w.heap.size, 3, none⟩ = some (.bool v.g.proxy) ∧ w2.cell? ⟨w.heap.size, 4, none⟩ = some (.string v.g.path) ∧ w2.cell? ⟨w.heap.size, 5, none⟩ = some (.int .i64 v.g.ask.sch) ∧ w2.cell? ⟨w.heap.size, 6, none⟩ = some (.string v.g.ask.realm) ∧ w2.cell? ⟨w.heap.size, 7, none⟩ = some (.string v.g.ask.nonce) ∧ w2.cell? ⟨w.heap.size, 8, none⟩ = some (.string v.g.ask.opq) ∧ w2.cell? ⟨w.heap.size, 9, none⟩ = some (.bool v.g.ask.sess) ∧ w2.cell? ⟨w.heap.size, 10, none⟩ = some (.string v.g.ask.qop) ∧ w2.cell? ⟨w.heap.size, 11, none⟩ = some (.bool v.g.ask.stale) ∧ w2.cell? ⟨w.heap.size, 12, none⟩ = some (v.dv) := ⟨(cell_of (i := 0) hbx).trans rfl, (cell_of (i := 1) hbx).trans rfl, (cell_of (i := 2) hbx).trans rfl, (cell_of (i := 3) hbx).trans rfl, (cell_of (i := 4) hbx).trans rfl, (cell_of (i := 5) hbx).trans rfl, (cell_of (i := 6) hbx).trans rfl, (cell_of (i := 7) hbx).trans rfl, (cell_of (i := 8) hbx).trans rfl, (cell_of (i := 9) hbx).trans rfl, (cell_of (i := 10) hbx).trans rfl, (cell_of (i := 11) hbx).trans rfl, (cell_of (i := 12) hbx).trans rfl⟩; have hbx2 := box_alloc hbx (.cells #[.bool v.g.org.sec, .string v.g.org.host, .int .i64 v.g.org.port, .bool v.g.proxy, .string v.g.path, .int .i64 v.g.ask.sch, .string v.g.ask.realm, .string v.g.ask.nonce, .string v.g.ask.opq, .bool v.g.ask.sess, .string v.g.ask.qop, .bool v.g.ask.stale, v.dv] 38); have hQ3 : (w2.alloc (.cells #[.bool v.g.org.sec, .string v.g.org.host, .int .i64 v.g.org.port, .bool v.g.proxy, .string v.g.path, .int .i64 v.g.ask.sch, .string v.g.ask.realm, .string v.g.ask.nonce, .string v.g.ask.opq, .bool v.g.ask.sess, .string v.g.ask.qop, .bool v.g.ask.stale, v.dv] 38)).cell? ⟨w.heap.size, 0, none⟩ = some (.bool v.g.org.sec) ∧ (w2.alloc (.cells #[.bool v.g.org.sec, .string v.g.org.host, .int .i64 v.g.org.port, .bool v.g.proxy, .string v.g.path, .int .i64 v.g.ask.sch, .string v.g.ask.realm, .string v.g.ask.nonce, .string v.g.ask.opq, .bool v.g.ask.sess, .string v.g.ask.qop, .bool v.g.ask.stale, v.dv] 38)).cell? ⟨w.heap.size, 1, none⟩ = some (.string v.g.org.host) ∧ (w2.alloc (.cells #[.bool v.g.org.sec, .string v.g.org.host, .int .i64 v.g.org.port, .bool v.g.proxy, .string v.g.path, .int .i64 v.g.ask.sch, .string v.g.ask.realm, .string v.g.ask.nonce, .string v.g.ask.opq, .bool v.g.ask.sess, .string v.g.ask.qop, .bool v.g.ask.stale, v.dv] 38)).cell? ⟨w.heap.size, 2, none⟩ = some (.int .i64 v.g.org.port) ∧ (w2.alloc (.cells #[.bool v.g.org.sec, .string v.g.org.host, .int .i64 v.g.org.port, .bool v.g.proxy, .string v.g.path, .int .i64 v.g.ask.sch, .string v.g.ask.realm, .string v.g.ask.nonce, .string v.g.ask.opq, .bool v.g.ask.sess, .string v.g.ask.qop, .bool v.g.ask.stale, v.dv] 38)).cell? ⟨w.heap.size, 3, none⟩ = some (.bool v.g.proxy) ∧ (w2.alloc (.cells #[.bool v.g.org.sec, .string v.g.org.host, .int .i64 v.g.org.port, .bool v.g.proxy, .string v.g.path, .int .i64 v.g.ask.sch, .string v.g.ask.realm, .string v.g.ask.nonce, .string v.g.ask.opq, .bool v.g.ask.sess, .string v.g.ask.qop, .bool v.g.ask.stale, v.dv] 38)).cell? ⟨w.heap.size, 4, none⟩ = some (.string v.g.path) ∧ (w2.alloc (.cells #[.bool v.g.org.sec, .string v.g.org.host, .int .i64 v.g.org.port, .bool v.g.proxy, .string v.g.path, .int .i64 v.g.ask.sch, .string v.g.ask.realm, .string v.g.ask.nonce, .string v.g.ask.opq, .bool v.g.ask.sess, .string v.g.ask.qop, .bool v.g.ask.stale, v.dv] 38)).cell? ⟨w.heap.size, 5, none⟩ = some (.int .i64 v.g.ask.sch) ∧ (w2.alloc (.cells #[.bool v.g.org.sec, .string v.g.org.host, .int .i64 v.g.org.port, .bool v.g.proxy, .string v.g.path, .int .i64 v.g.ask.sch, .string v.g.ask.realm, .string v.g.ask.nonce, .string v.g.ask.opq, .bool v.g.ask.sess, .string v.g.ask.qop, .bool v.g.ask.stale, v.dv] 38)).cell? ⟨w.heap.size, 6, none⟩ = some (.string v.g.ask.realm) ∧ (w2.alloc (.cells #[.bool v.g.org.sec, .string v.g.org.host, .int .i64 v.g.org.port, .bool v.g.proxy, .string v.g.path, .int .i64 v.g.ask.sch, .string v.g.ask.realm, .string v.g.ask.nonce, .string v.g.ask.opq, .bool v.g.ask.sess, .string v.g.ask.qop, .bool v.g.ask.stale, v.dv] 38)).cell? ⟨w.heap.size, 7, none⟩ = some (.string v.g.ask.nonce) ∧ (w2.alloc (.cells #[.bool v.g.org.sec, .string v.g.org.host, .int .i64 v.g.org.port, .bool v.g.proxy, .string v.g.path, .int .i64 v.g.ask.sch, .string v.g.ask.realm, .string v.g.ask.nonce, .string v.g.ask.opq, .bool v.g.ask.sess, .string v.g.ask.qop, .bool v.g.ask.stale, v.dv] 38)).cell? ⟨w.heap.size, 8, none⟩ = some (.string v.g.ask.opq) ∧ (w2.alloc (.cells #[.bool v.g.org.sec, .string v.g.org.host, .int .i64 v.g.org.port, .bool v.g.proxy, .string v.g.path, .int .i64 v.g.ask.sch, .string v.g.ask.realm, .string v.g.ask.nonce, .string v.g.ask.opq, .bool v.g.ask.sess, .string v.g.ask.qop, .bool v.g.ask.stale, v.dv] 38)).cell? ⟨w.heap.size, 9, none⟩ = some (.bool v.g.ask.sess) ∧ (w2.alloc (.cells #[.bool v.g.org.sec, .string v.g.org.host, .int .i64 v.g.org.port, .bool v.g.proxy, .string v.g.path, .int .i64 v.g.ask.sch, .string v.g.ask.realm, .string v.g.ask.nonce, .string v.g.ask.opq, .bool v.g.ask.sess, .string v.g.ask.qop, .bool v.g.ask.stale, v.dv] 38)).cell? ⟨w.heap.size, 10, none⟩ = some (.string v.g.ask.qop) ∧ (w2.alloc (.cells #[.bool v.g.org.sec, .string v.g.org.host, .int .i64 v.g.org.port, .bool v.g.proxy, .string v.g.path, .int .i64 v.g.ask.sch, .string v.g.ask.realm, .string v.g.ask.nonce, .string v.g.ask.opq, .bool v.g.ask.sess, .string v.g.ask.qop, .bool v.g.ask.stale, v.dv] 38)).cell? ⟨w.heap.size, 11, none⟩ = some (.bool v.g.ask.stale) ∧ (w2.alloc (.cells #[.bool v.g.org.sec, .string v.g.org.host, .int .i64 v.g.org.port, .bool v.g.proxy, .string v.g.path, .int .i64 v.g.ask.sch, .string v.g.ask.realm, .string v.g.ask.nonce, .string v.g.ask.opq, .bool v.g.ask.sess, .string v.g.ask.qop, .bool v.g.ask.stale, v.dv] 38)).cell? ⟨w.heap.size, 12, none⟩ = some (v.dv) := ⟨(cell_of (i := 0) hbx2).trans rfl, (cell_of (i := 1) hbx2).trans rfl, (cell_of (i := 2) hbx2).trans rfl, (cell_of (i := 3) hbx2).trans rfl, (cell_of (i := 4) hbx2).trans rfl, (cell_of (i := 5) hbx2).trans rfl, (cell_of (i := 6) hbx2).trans rfl, (cell_of (i := 7) hbx2).trans rfl, (cell_of (i := 8) hbx2).trans rfl, (cell_of (i := 9) hbx2).trans rfl, (cell_of (i := 10) hbx2).trans rfl, (cell_of (i := 11) hbx2).trans rfl, (cell_of (i := 12) hbx2).trans rfl⟩; clear hbx hbx2)
    | (go_at_call 42; refine (hcall ((w.alloc (.cells #[.bool v.g.org.sec, .string v.g.org.host, .int .i64 v.g.org.port, .bool v.g.proxy, .string v.g.path, .int .i64 v.g.ask.sch, .string v.g.ask.realm, .string v.g.ask.nonce, .string v.g.ask.opq, .bool v.g.ask.sess, .string v.g.ask.qop, .bool v.g.ask.stale, v.dv] 38)).alloc (.cells #[.bool v.g.org.sec, .string v.g.org.host, .int .i64 v.g.org.port, .bool v.g.proxy, .string v.g.path, .int .i64 v.g.ask.sch, .string v.g.ask.realm, .string v.g.ask.nonce, .string v.g.ask.opq, .bool v.g.ask.sess, .string v.g.ask.qop, .bool v.g.ask.stale, v.dv] 38)).drew ((Below.refl _ _).alloc (Nat.le_refl _) _).drew).mono ?_; rintro e w2 ⟨u, rfl, HR⟩; have hbx := HR.out.box; have hQ2 : w2.cell? ⟨w.heap.size, 0, none⟩ = some (.bool v.g.org.sec) ∧ w2.cell? ⟨w.heap.size, 1, none⟩ = some (.string v.g.org.host) ∧ w2.cell? ⟨w.heap.size, 2, none⟩ = some (.int .i64 v.g.org.port) ∧ w2.cell? ⟨w.heap.size, 3, none⟩ = some (.bool v.g.proxy) ∧ w2.cell? ⟨w.heap.size, 4, none⟩ = some (.string v.g.path) ∧ w2.cell? ⟨w.heap.size, 5, none⟩ = some (.int .i64 v.g.ask.sch) ∧ w2.cell? ⟨w.heap.size, 6, none⟩ = some (.string v.g.ask.realm) ∧ w2.cell? ⟨w.heap.size, 7, none⟩ = some (.string v.g.ask.nonce) ∧ w2.cell? ⟨w.heap.size, 8, none⟩ = some (.string v.g.ask.opq) ∧ w2.cell? ⟨w.heap.size, 9, none⟩ = some (.bool v.g.ask.sess) ∧ w2.cell? ⟨w.heap.size, 10, none⟩ = some (.string v.g.ask.qop) ∧ w2.cell? ⟨w.heap.size, 11, none⟩ = some (.bool v.g.ask.stale) ∧ w2.cell? ⟨w.heap.size, 12, none⟩ = some (v.dv) := ⟨(cell_of (i := 0) hbx).trans rfl, (cell_of (i := 1) hbx).trans rfl, (cell_of (i := 2) hbx).trans rfl, (cell_of (i := 3) hbx).trans rfl, (cell_of (i := 4) hbx).trans rfl, (cell_of (i := 5) hbx).trans rfl, (cell_of (i := 6) hbx).trans rfl, (cell_of (i := 7) hbx).trans rfl, (cell_of (i := 8) hbx).trans rfl, (cell_of (i := 9) hbx).trans rfl, (cell_of (i := 10) hbx).trans rfl, (cell_of (i := 11) hbx).trans rfl, (cell_of (i := 12) hbx).trans rfl⟩; have hbx2 := box_alloc hbx (.cells #[.bool v.g.org.sec, .string v.g.org.host, .int .i64 v.g.org.port, .bool v.g.proxy, .string v.g.path, .int .i64 v.g.ask.sch, .string v.g.ask.realm, .string v.g.ask.nonce, .string v.g.ask.opq, .bool v.g.ask.sess, .string v.g.ask.qop, .bool v.g.ask.stale, v.dv] 38); have hQ3 : (w2.alloc (.cells #[.bool v.g.org.sec, .string v.g.org.host, .int .i64 v.g.org.port, .bool v.g.proxy, .string v.g.path, .int .i64 v.g.ask.sch, .string v.g.ask.realm, .string v.g.ask.nonce, .string v.g.ask.opq, .bool v.g.ask.sess, .string v.g.ask.qop, .bool v.g.ask.stale, v.dv] 38)).cell? ⟨w.heap.size, 0, none⟩ = some (.bool v.g.org.sec) ∧ (w2.alloc (.cells #[.bool v.g.org.sec, .string v.g.org.host, .int .i64 v.g.org.port, .bool v.g.proxy, .string v.g.path, .int .i64 v.g.ask.sch, .string v.g.ask.realm, .string v.g.ask.nonce, .string v.g.ask.opq, .bool v.g.ask.sess, .string v.g.ask.qop, .bool v.g.ask.stale, v.dv] 38)).cell? ⟨w.heap.size, 1, none⟩ = some (.string v.g.org.host) ∧ (w2.alloc (.cells #[.bool v.g.org.sec, .string v.g.org.host, .int .i64 v.g.org.port, .bool v.g.proxy, .string v.g.path, .int .i64 v.g.ask.sch, .string v.g.ask.realm, .string v.g.ask.nonce, .string v.g.ask.opq, .bool v.g.ask.sess, .string v.g.ask.qop, .bool v.g.ask.stale, v.dv] 38)).cell? ⟨w.heap.size, 2, none⟩ = some (.int .i64 v.g.org.port) ∧ (w2.alloc (.cells #[.bool v.g.org.sec, .string v.g.org.host, .int .i64 v.g.org.port, .bool v.g.proxy, .string v.g.path, .int .i64 v.g.ask.sch, .string v.g.ask.realm, .string v.g.ask.nonce, .string v.g.ask.opq, .bool v.g.ask.sess, .string v.g.ask.qop, .bool v.g.ask.stale, v.dv] 38)).cell? ⟨w.heap.size, 3, none⟩ = some (.bool v.g.proxy) ∧ (w2.alloc (.cells #[.bool v.g.org.sec, .string v.g.org.host, .int .i64 v.g.org.port, .bool v.g.proxy, .string v.g.path, .int .i64 v.g.ask.sch, .string v.g.ask.realm, .string v.g.ask.nonce, .string v.g.ask.opq, .bool v.g.ask.sess, .string v.g.ask.qop, .bool v.g.ask.stale, v.dv] 38)).cell? ⟨w.heap.size, 4, none⟩ = some (.string v.g.path) ∧ (w2.alloc (.cells #[.bool v.g.org.sec, .string v.g.org.host, .int .i64 v.g.org.port, .bool v.g.proxy, .string v.g.path, .int .i64 v.g.ask.sch, .string v.g.ask.realm, .string v.g.ask.nonce, .string v.g.ask.opq, .bool v.g.ask.sess, .string v.g.ask.qop, .bool v.g.ask.stale, v.dv] 38)).cell? ⟨w.heap.size, 5, none⟩ = some (.int .i64 v.g.ask.sch) ∧ (w2.alloc (.cells #[.bool v.g.org.sec, .string v.g.org.host, .int .i64 v.g.org.port, .bool v.g.proxy, .string v.g.path, .int .i64 v.g.ask.sch, .string v.g.ask.realm, .string v.g.ask.nonce, .string v.g.ask.opq, .bool v.g.ask.sess, .string v.g.ask.qop, .bool v.g.ask.stale, v.dv] 38)).cell? ⟨w.heap.size, 6, none⟩ = some (.string v.g.ask.realm) ∧ (w2.alloc (.cells #[.bool v.g.org.sec, .string v.g.org.host, .int .i64 v.g.org.port, .bool v.g.proxy, .string v.g.path, .int .i64 v.g.ask.sch, .string v.g.ask.realm, .string v.g.ask.nonce, .string v.g.ask.opq, .bool v.g.ask.sess, .string v.g.ask.qop, .bool v.g.ask.stale, v.dv] 38)).cell? ⟨w.heap.size, 7, none⟩ = some (.string v.g.ask.nonce) ∧ (w2.alloc (.cells #[.bool v.g.org.sec, .string v.g.org.host, .int .i64 v.g.org.port, .bool v.g.proxy, .string v.g.path, .int .i64 v.g.ask.sch, .string v.g.ask.realm, .string v.g.ask.nonce, .string v.g.ask.opq, .bool v.g.ask.sess, .string v.g.ask.qop, .bool v.g.ask.stale, v.dv] 38)).cell? ⟨w.heap.size, 8, none⟩ = some (.string v.g.ask.opq) ∧ (w2.alloc (.cells #[.bool v.g.org.sec, .string v.g.org.host, .int .i64 v.g.org.port, .bool v.g.proxy, .string v.g.path, .int .i64 v.g.ask.sch, .string v.g.ask.realm, .string v.g.ask.nonce, .string v.g.ask.opq, .bool v.g.ask.sess, .string v.g.ask.qop, .bool v.g.ask.stale, v.dv] 38)).cell? ⟨w.heap.size, 9, none⟩ = some (.bool v.g.ask.sess) ∧ (w2.alloc (.cells #[.bool v.g.org.sec, .string v.g.org.host, .int .i64 v.g.org.port, .bool v.g.proxy, .string v.g.path, .int .i64 v.g.ask.sch, .string v.g.ask.realm, .string v.g.ask.nonce, .string v.g.ask.opq, .bool v.g.ask.sess, .string v.g.ask.qop, .bool v.g.ask.stale, v.dv] 38)).cell? ⟨w.heap.size, 10, none⟩ = some (.string v.g.ask.qop) ∧ (w2.alloc (.cells #[.bool v.g.org.sec, .string v.g.org.host, .int .i64 v.g.org.port, .bool v.g.proxy, .string v.g.path, .int .i64 v.g.ask.sch, .string v.g.ask.realm, .string v.g.ask.nonce, .string v.g.ask.opq, .bool v.g.ask.sess, .string v.g.ask.qop, .bool v.g.ask.stale, v.dv] 38)).cell? ⟨w.heap.size, 11, none⟩ = some (.bool v.g.ask.stale) ∧ (w2.alloc (.cells #[.bool v.g.org.sec, .string v.g.org.host, .int .i64 v.g.org.port, .bool v.g.proxy, .string v.g.path, .int .i64 v.g.ask.sch, .string v.g.ask.realm, .string v.g.ask.nonce, .string v.g.ask.opq, .bool v.g.ask.sess, .string v.g.ask.qop, .bool v.g.ask.stale, v.dv] 38)).cell? ⟨w.heap.size, 12, none⟩ = some (v.dv) := ⟨(cell_of (i := 0) hbx2).trans rfl, (cell_of (i := 1) hbx2).trans rfl, (cell_of (i := 2) hbx2).trans rfl, (cell_of (i := 3) hbx2).trans rfl, (cell_of (i := 4) hbx2).trans rfl, (cell_of (i := 5) hbx2).trans rfl, (cell_of (i := 6) hbx2).trans rfl, (cell_of (i := 7) hbx2).trans rfl, (cell_of (i := 8) hbx2).trans rfl, (cell_of (i := 9) hbx2).trans rfl, (cell_of (i := 10) hbx2).trans rfl, (cell_of (i := 11) hbx2).trans rfl, (cell_of (i := 12) hbx2).trans rfl⟩; clear hbx hbx2))
  all_goals
    obtain ⟨n1, HN1⟩ : ∃ n1, Hid (ys.length + 1 = n1) := ⟨_, rfl⟩
    rw [HN1.out] at HF ⊢
    have HN2 : Hid ((ys ++ [[.bool v.g.org.sec, .string v.g.org.host, .int .i64 v.g.org.port, .bool v.g.proxy, .string v.g.path, .int .i64 v.g.ask.sch, .string v.g.ask.realm, .string v.g.ask.nonce, .string v.g.ask.opq, .bool v.g.ask.sess, .string v.g.ask.qop, .bool v.g.ask.stale, v.dv]]).length = n1 ∧ cap4 ≤ 9223372036854775807) := by
      refine ⟨by rw [List.length_append, List.length_singleton]; exact HN1.out, ?_⟩
      rcases HF.out.1.forms with ⟨e, _⟩ | ⟨g', cap', e, _, _, _, h2⟩
      · cases e
      · injection e with _ _ e3
        rw [e3]
        unfold maxLen at h2
        omega
    have HE : Hid (∀ k w5, OwnK 13 38 w5 B (.slice (some ⟨g4, 0, none⟩) k cap4) (last8 (ys ++ [[.bool v.g.org.sec, .string v.g.org.host, .int .i64 v.g.org.port, .bool v.g.proxy, .string v.g.path, .int .i64 v.g.ask.sch, .string v.g.ask.realm, .string v.g.ask.nonce, .string v.g.ask.opq, .bool v.g.ask.sess, .string v.g.ask.qop, .bool v.g.ask.stale, v.dv]])) → w4.grownBy w5 (some g4) → OwnK 13 38 w5 B (.slice (some ⟨g4, 0, none⟩) k cap4) (last8 (ys ++ [[.bool v.g.org.sec, .string v.g.org.host, .int .i64 v.g.org.port, .bool v.g.proxy, .string v.g.path, .int .i64 v.g.ask.sch, .string v.g.ask.realm, .string v.g.ask.nonce, .string v.g.ask.opq, .bool v.g.ask.sess, .string v.g.ask.qop, .bool v.g.ask.stale, v.dv]])) ∧ w.grownBy w5 val.ownBlock ∧ ∀ j, (Value.slice (some ⟨g4, 0, none⟩) k cap4).ownBlock = some j → val.ownBlock = some j ∨ w.heap.size ≤ j) := fun k w5 h1 h2 => ⟨h1, gcomp HF.out.2.1 h2 (fun j hj => by injection hj with hj; subst hj; exact HF.out.2.2.2), fun j hj => by
      have e : g4 = j := by simpa [Value.ownBlock] using hj
      subst e
      exact HF.out.2.2.2⟩
    have HNL : Hid ((n1 : Int) ≤ 100000) := by show _ ≤ _; have := HL.out; have := HN1.out; omega
    clear hcall
    go_wp2_with fail
    refine (cut8W g4 n1 cap4 B _ HN2.out.1 HN2.out.2 _ HF.out.1 _ ?hz).mono ?_
    case hz =>
      unfold wrap64
      have := HNL.out
      omega
    rintro e w5 ⟨k, rfl, H5⟩
    go_wp2
    go_ret
    exact ⟨_, rfl, HE.out k w5 H5.out.1 H5.out.2⟩
end Go.Proofs.Ytjadmldnpdmamaa

/- The bank's closures that find grants. -/
namespace Go.Proofs.Ytjadmldnpdmamaa
open Go.RowKit
set_option linter.unusedVariables false

def orgB (a b : OrgV) : Bool := a.sec == b.sec && (a.host.toList == b.host.toList && a.port == b.port)
theorem eqOrg (a b : OrgV) (E : Bool) (hE : orgB a b = E) (w : World) :
    (Op.equalIn 10000 24 (.agg #[.bool a.sec, .string a.host, .int .i64 a.port]) (.agg #[.bool b.sec, .string b.host, .int .i64 b.port])).run Try.prog w = .ok E w := by
  have u3 := Try.underlying3
  have u4 := Try.underlying4
  have u9 := Try.underlying9
  have a3 := Try.isAgg3
  have z3 := Try.sizeOf3
  have hS : Try.prog.underlying 24 = some (.struct (Try.prog.fieldsOf 24)) := by kernel_rfl
  have hp : Try.prog.stoodInHeld 24 = false := by kernel_rfl
  rw [show (10000 : Nat) = 9999 + 1 from rfl, run_equalIn_agg w 9999 24 _ _ hS hp, ← hE]
  unfold orgB
  simp only [Program.fieldsOf, Try.underlying24]
  go_simp
  by_cases h1 : a.sec = b.sec <;> by_cases h2 : a.host.toList = b.host.toList <;> by_cases h3 : a.port = b.port <;> simp [h1, h2, h3]
/-- Whether a grant is an origin's, of a proxy or not, and of a realm. -/
def realmB (o : OrgV) (p : Bool) (r : ByteArray) (g : GrP) : Bool := orgB g.org o && (g.proxy == p && g.ask.realm.toList == r.toList)
/-- What a function of origin, proxy and realm says of a grant's cells. -/
def onG (q : OrgV → Bool → ByteArray → Bool) : List Value → Bool
  | .bool s :: .string h :: .int _ n :: .bool p :: _ :: _ :: _ :: .string r :: _ => q ⟨s, h, n⟩ p r
  | _ => false
theorem onG_at (q : OrgV → Bool → ByteArray → Bool) (v : GrV) : onG q (grCells v) = q v.g.org v.g.proxy v.g.ask.realm := rfl
/-- Three boxes of an origin, a proxy, and a text. -/
structure Box3 (w : World) (a b c : Nat) (o : OrgV) (p : Bool) (r : ByteArray) : Prop where
  org : w.heap[a]? = some (.cells #[.bool o.sec, .string o.host, .int .i64 o.port] 24 (0, 0))
  prx : w.heap[b]? = some (.cells #[.bool p] 4 (0, 0))
  txt : w.heap[c]? = some (.cells #[.string r] 9 (0, 0))
theorem Box3.below {w w' : World} {a b c : Nat} {o : OrgV} {p : Bool} {r : ByteArray} (h : Box3 w a b c o p r) (hb : Below w.heap.size w w') : Box3 w' a b c o p r :=
  ⟨(hb.block _ (Array.getElem?_eq_some_iff.1 h.org).1).trans h.org, (hb.block _ (Array.getElem?_eq_some_iff.1 h.prx).1).trans h.prx, (hb.block _ (Array.getElem?_eq_some_iff.1 h.txt).1).trans h.txt⟩
theorem Box3.grown {w w' : World} {a b c g : Nat} {o : OrgV} {p : Bool} {r : ByteArray} {cs : Array Value} (h : Box3 w a b c o p r) (hg : w.grownBy w' (some g)) (hh : w.heap[g]? = some (.cells cs 36 (0, 0))) : Box3 w' a b c o p r := by
  have ne : ∀ {x : Nat} {cur : Array Value} {t : TypeId}, w.heap[x]? = some (.cells cur t (0, 0)) → t ≠ 36 → some x ≠ some g := fun hx ht e => by
    injection e with e
    subst e
    rw [hx] at hh
    injection hh with hh
    injection hh with _ h3
    exact ht h3
  exact ⟨(hg.block _ (Array.getElem?_eq_some_iff.1 h.org).1 (ne h.org (by decide))).trans h.org, (hg.block _ (Array.getElem?_eq_some_iff.1 h.prx).1 (ne h.prx (by decide))).trans h.prx, (hg.block _ (Array.getElem?_eq_some_iff.1 h.txt).1 (ne h.txt (by decide))).trans h.txt⟩
set_option maxRecDepth 100000 in
set_option maxHeartbeats 4000000 in
theorem grantIs_any (v : GrV) (hone : ∀ u ∈ grCells v, u.oneCell' = true) (o : OrgV) (p : Bool) (r : ByteArray) (a b c : Nat) (w : World) (hb : Box3 w a b c o p r) :
    Calls Try.prog 64 #[.agg (grCells v).toArray, .pointer (some ⟨a, 0, none⟩), .pointer (some ⟨b, 0, none⟩), .pointer (some ⟨c, 0, none⟩)] w fun e w' => e = .returned (.bool (realmB o p r v.g)) ∧ Below w.heap.size w w' := by
  have hbb : Below w.heap.size w (w.alloc (.cells (grCells v).toArray 36)) := (Below.refl _ _).alloc (Nat.le_refl _) _
  have hb2 := hb.below hbb
  have hn := heap_alloc_new w (.cells (grCells v).toArray 36)
  unfold grCells at hbb hb2 hn ⊢
  have HB : Hid (Below w.heap.size w (w.alloc (.cells [Value.bool v.g.org.sec, .string v.g.org.host, .int .i64 v.g.org.port, .bool v.g.proxy, .string v.g.user, .string v.g.pass, .int .i64 v.g.ask.sch, .string v.g.ask.realm, .string v.g.ask.nonce, .string v.g.ask.opq, .bool v.g.ask.sess, .string v.g.ask.qop, .bool v.g.ask.stale, v.dv, .int .i64 v.g.count, v.pv].toArray 36))) := hbb
  have c0 := (cell_of (i := 0) hb2.org)
  have c1 := (cell_of (i := 1) hb2.org)
  have c2 := (cell_of (i := 2) hb2.org)
  have c3 := (cell_of (i := 0) hb2.prx)
  have c4 := (cell_of (i := 0) hb2.txt)
  have n0 := cell_of (i := 0) hn
  have n1 := cell_of (i := 1) hn
  have n2 := cell_of (i := 2) hn
  have n3 := cell_of (i := 3) hn
  have n7 := cell_of (i := 7) hn
  simp only [List.getElem?_toArray, List.getElem?_cons_zero, List.getElem?_cons_succ] at c0 c1 c2 c3 c4 n0 n1 n2 n3 n7
  have e1 := eqOrg v.g.org o (orgB v.g.org o) rfl
  clear hb hb2 hn hbb hone
  go_enter Try.func64, Try.ntmps64
  obtain ⟨E1, h1⟩ : ∃ E, orgB v.g.org o = E := ⟨_, rfl⟩
  obtain ⟨E2, h2⟩ : ∃ E, (v.g.proxy == p) = E := ⟨_, rfl⟩
  obtain ⟨E3, h3⟩ : ∃ E, (v.g.ask.realm.toList == r.toList) = E := ⟨_, rfl⟩
  have HE : Hid (realmB o p r v.g = (E1 && (E2 && E3))) := by show _ = _; unfold realmB; rw [h1, h2, h3]
  rw [h1] at e1
  clear h1
  rw [HE.out]
  cases E1
  · go_wp2
    go_ret
    exact ⟨rfl, HB.out⟩
  · cases E2
    · go_wp2
      go_ret
      exact ⟨rfl, HB.out⟩
    · cases E3
      · go_wp2
        go_ret
        exact ⟨rfl, HB.out⟩
      · go_wp2
        go_ret
        exact ⟨rfl, HB.out⟩
set_option maxRecDepth 100000 in
set_option maxHeartbeats 2000000 in
theorem grantOf_any (o : OrgV) (p : Bool) (r : ByteArray) (w : World) :
    Calls Try.prog 53 #[.agg #[.bool o.sec, .string o.host, .int .i64 o.port], .bool p, .string r] w fun e w' => (∃ a b c, e = .returned (.func (.func 64) #[] #[.pointer (some ⟨a, 0, none⟩), .pointer (some ⟨b, 0, none⟩), .pointer (some ⟨c, 0, none⟩)]) ∧ Hid (Box3 w' a b c o p r)) ∧ Below w.heap.size w w' := by
  have hb1 : Below w.heap.size w (((w.alloc (.cells #[.bool o.sec, .string o.host, .int .i64 o.port] 24)).alloc (.cells #[.bool p] 4)).alloc (.cells #[.string r] 9)) := (((Below.refl _ _).alloc (Nat.le_refl _) _).alloc (by simp) _).alloc (by simp; omega) _
  have h1 : Hid (Box3 (((w.alloc (.cells #[.bool o.sec, .string o.host, .int .i64 o.port] 24)).alloc (.cells #[.bool p] 4)).alloc (.cells #[.string r] 9)) w.heap.size (w.heap.size + 1) (w.heap.size + 2) o p r) := by
    have e1 := heap_alloc_new w (.cells #[.bool o.sec, .string o.host, .int .i64 o.port] 24)
    have e2 := heap_alloc_new (w.alloc (.cells #[.bool o.sec, .string o.host, .int .i64 o.port] 24)) (.cells #[.bool p] 4)
    have e3 := heap_alloc_new ((w.alloc (.cells #[.bool o.sec, .string o.host, .int .i64 o.port] 24)).alloc (.cells #[.bool p] 4)) (.cells #[.string r] 9)
    simp only [World.size_alloc] at e2 e3
    refine ⟨?_, ?_, e3⟩
    · rw [heap_alloc_old _ _ (by simp; omega), heap_alloc_old _ _ (by simp)]
      exact e1
    · rw [heap_alloc_old _ _ (by simp)]
      exact e2
  go_enter Try.func53, Try.ntmps53
  go_wp2
  go_ret
  exact ⟨⟨_, _, _, rfl, h1⟩, hb1⟩
end Go.Proofs.Ytjadmldnpdmamaa

/- Which waits are an origin's, by the program. -/
namespace Go.Proofs.Ytjadmldnpdmamaa
open Go.RowKit
set_option linter.unusedVariables false

/-- Two boxes of an origin and a proxy. -/
structure Box2 (w : World) (a b : Nat) (o : OrgV) (p : Bool) : Prop where
  org : w.heap[a]? = some (.cells #[.bool o.sec, .string o.host, .int .i64 o.port] 24 (0, 0))
  prx : w.heap[b]? = some (.cells #[.bool p] 4 (0, 0))
theorem Box2.below {w w' : World} {a b : Nat} {o : OrgV} {p : Bool} (h : Box2 w a b o p) (hb : Below w.heap.size w w') : Box2 w' a b o p :=
  ⟨(hb.block _ (Array.getElem?_eq_some_iff.1 h.org).1).trans h.org, (hb.block _ (Array.getElem?_eq_some_iff.1 h.prx).1).trans h.prx⟩
/-- Whether a wait is an origin's, of a proxy or not. -/
def waitB (o : OrgV) (p : Bool) (v : WtP) : Bool := orgB v.org o && v.proxy == p
/-- What a function of origin and proxy says of a wait's cells. -/
def onW (q : OrgV → Bool → Bool) : List Value → Bool
  | .bool s :: .string h :: .int _ n :: .bool p :: _ => q ⟨s, h, n⟩ p
  | _ => false
theorem onW_at (q : OrgV → Bool → Bool) (v : WtV) : onW q (wtCells v) = q v.g.org v.g.proxy := rfl
set_option maxRecDepth 100000 in
set_option maxHeartbeats 4000000 in
theorem waitIs_any (v : WtV) (o : OrgV) (p : Bool) (a b : Nat) (w : World) (hb : Box2 w a b o p) :
    Calls Try.prog 62 #[.agg (wtCells v).toArray, .pointer (some ⟨a, 0, none⟩), .pointer (some ⟨b, 0, none⟩)] w fun e w' => e = .returned (.bool (waitB o p v.g)) ∧ Below w.heap.size w w' := by
  have hbb : Below w.heap.size w (w.alloc (.cells (wtCells v).toArray 38)) := (Below.refl _ _).alloc (Nat.le_refl _) _
  have hb2 := hb.below hbb
  have hn := heap_alloc_new w (.cells (wtCells v).toArray 38)
  unfold wtCells at hbb hb2 hn ⊢
  have HB : Hid (Below w.heap.size w (w.alloc (.cells [Value.bool v.g.org.sec, .string v.g.org.host, .int .i64 v.g.org.port, .bool v.g.proxy, .string v.g.path, .int .i64 v.g.ask.sch, .string v.g.ask.realm, .string v.g.ask.nonce, .string v.g.ask.opq, .bool v.g.ask.sess, .string v.g.ask.qop, .bool v.g.ask.stale, v.dv].toArray 38))) := hbb
  have c0 := (cell_of (i := 0) hb2.org)
  have c1 := (cell_of (i := 1) hb2.org)
  have c2 := (cell_of (i := 2) hb2.org)
  have c3 := (cell_of (i := 0) hb2.prx)
  have n0 := cell_of (i := 0) hn
  have n1 := cell_of (i := 1) hn
  have n2 := cell_of (i := 2) hn
  have n3 := cell_of (i := 3) hn
  simp only [List.getElem?_toArray, List.getElem?_cons_zero, List.getElem?_cons_succ] at c0 c1 c2 c3 n0 n1 n2 n3
  have e1 := eqOrg v.g.org o (orgB v.g.org o) rfl
  clear hb hb2 hn hbb
  go_enter Try.func62, Try.ntmps62
  obtain ⟨E1, h1⟩ : ∃ E, orgB v.g.org o = E := ⟨_, rfl⟩
  obtain ⟨E2, h2⟩ : ∃ E, (v.g.proxy == p) = E := ⟨_, rfl⟩
  have HE : Hid (waitB o p v.g = (E1 && E2)) := by show _ = _; unfold waitB; rw [h1, h2]
  rw [h1] at e1
  clear h1
  rw [HE.out]
  cases E1
  · go_wp2
    go_ret
    exact ⟨rfl, HB.out⟩
  · cases E2
    · go_wp2
      go_ret
      exact ⟨rfl, HB.out⟩
    · go_wp2
      go_ret
      exact ⟨rfl, HB.out⟩
set_option maxRecDepth 100000 in
set_option maxHeartbeats 2000000 in
theorem waitOf_any (o : OrgV) (p : Bool) (w : World) :
    Calls Try.prog 38 #[.agg #[.bool o.sec, .string o.host, .int .i64 o.port], .bool p] w fun e w' => (∃ a b, e = .returned (.func (.func 62) #[] #[.pointer (some ⟨a, 0, none⟩), .pointer (some ⟨b, 0, none⟩)]) ∧ Hid (Box2 w' a b o p)) ∧ Below w.heap.size w w' := by
  have hb1 : Below w.heap.size w ((w.alloc (.cells #[.bool o.sec, .string o.host, .int .i64 o.port] 24)).alloc (.cells #[.bool p] 4)) := ((Below.refl _ _).alloc (Nat.le_refl _) _).alloc (by simp) _
  have h1 : Hid (Box2 ((w.alloc (.cells #[.bool o.sec, .string o.host, .int .i64 o.port] 24)).alloc (.cells #[.bool p] 4)) w.heap.size (w.heap.size + 1) o p) := by
    have e1 := heap_alloc_new w (.cells #[.bool o.sec, .string o.host, .int .i64 o.port] 24)
    have e2 := heap_alloc_new (w.alloc (.cells #[.bool o.sec, .string o.host, .int .i64 o.port] 24)) (.cells #[.bool p] 4)
    simp only [World.size_alloc] at e2
    refine ⟨?_, e2⟩
    rw [heap_alloc_old _ _ (by simp)]
    exact e1
  go_enter Try.func38, Try.ntmps38
  go_wp2
  go_ret
  exact ⟨⟨_, _, rfl, h1⟩, hb1⟩
end Go.Proofs.Ytjadmldnpdmamaa

/- What was asked for, cloned. -/
namespace Go.Proofs.Ytjadmldnpdmamaa
open Go.RowKit
set_option linter.unusedVariables false

def WtFit (g : WtP) : Prop := g.org.host.size ≤ 140737488355328 ∧ g.path.size ≤ 140737488355328 ∧ AskFit g.ask
set_option maxRecDepth 100000 in
set_option maxHeartbeats 4000000 in
theorem freshW_at (g : WtP) (hg : WtFit g) (da : Option Addr) (dl dc db doff : Nat) (w : World) (hd : Strs w da dl db doff g.ask.dom) :
    Calls Try.prog 37 #[.agg #[.bool g.org.sec, .string g.org.host, .int .i64 g.org.port, .bool g.proxy, .string g.path, .int .i64 g.ask.sch, .string g.ask.realm, .string g.ask.nonce, .string g.ask.opq, .bool g.ask.sess, .string g.ask.qop, .bool g.ask.stale, .slice da dl dc]] w fun e w' => (∃ v, e = .returned (.agg #[.bool g.org.sec, .string g.org.host, .int .i64 g.org.port, .bool g.proxy, .string g.path, .int .i64 g.ask.sch, .string g.ask.realm, .string g.ask.nonce, .string g.ask.opq, .bool g.ask.sess, .string g.ask.qop, .bool g.ask.stale, v]) ∧ OwnS w' w.heap.size v g.ask.dom) ∧ Below w.heap.size w w' := by
  obtain ⟨z1, z2, z4⟩ := hg
  have hs0 := boxF_start w #[.bool g.org.sec, .string g.org.host, .int .i64 g.org.port, .bool g.proxy, .string g.path, .int .i64 g.ask.sch, .string g.ask.realm, .string g.ask.nonce, .string g.ask.opq, .bool g.ask.sess, .string g.ask.qop, .bool g.ask.stale, .slice da dl dc] #[.bool false, .string ⟨#[]⟩, .int .i64 0, .bool false, .string ⟨#[]⟩, .int .i64 0, .string ⟨#[]⟩, .string ⟨#[]⟩, .string ⟨#[]⟩, .bool false, .string ⟨#[]⟩, .bool false, .slice none 0 0] 38
  have HX : Hid (Strs w da dl db doff g.ask.dom ∧ AskFit g.ask) := ⟨hd, z4⟩
  have HW : Hid (BoxF w ((w.alloc (.cells #[.bool g.org.sec, .string g.org.host, .int .i64 g.org.port, .bool g.proxy, .string g.path, .int .i64 g.ask.sch, .string g.ask.realm, .string g.ask.nonce, .string g.ask.opq, .bool g.ask.sess, .string g.ask.qop, .bool g.ask.stale, .slice da dl dc] 38)).alloc (.cells #[.bool false, .string ⟨#[]⟩, .int .i64 0, .bool false, .string ⟨#[]⟩, .int .i64 0, .string ⟨#[]⟩, .string ⟨#[]⟩, .string ⟨#[]⟩, .bool false, .string ⟨#[]⟩, .bool false, .slice none 0 0] 38)) _ _ 38) := hs0
  clear hs0 hd z4
  go_enter Try.func37, Try.ntmps37
  go_wp2_with fail
  refine (freshO_any g.org z1 _).mono ?_
  rintro e w1 ⟨rfl, hb1⟩
  have H1 := (show BoxF _ _ _ _ _ from HW.out).below hb1
  have HH1 : Hid (BoxF w w1 _ _ 38) := H1
  have c0 := H1.at 0 (v := .bool g.org.sec) rfl
  have c1 := H1.at 1 (v := .string g.org.host) rfl
  have c2 := H1.at 2 (v := .int .i64 g.org.port) rfl
  have c4 := H1.at 4 (v := .string g.path) rfl
  have f1 := free_of H1.box
  have s0 := H1.same (i := 0) (v := .bool g.org.sec) rfl
  have s1 := H1.same (i := 1) (v := .string g.org.host) rfl
  have s2 := H1.same (i := 2) (v := .int .i64 g.org.port) rfl
  clear hb1 HW H1
  go_wp2_with fail
  refine (cloneS_any g.path z2 _).mono ?_
  rintro e w3 ⟨rfl, hb3⟩
  have H3 := (show BoxF _ _ _ _ _ from HH1.out).below hb3
  have HH3 : Hid (BoxF w w3 _ _ 38) := H3
  have f3 := free_of H3.box
  have s4 := H3.same (i := 4) (v := .string g.path) rfl
  clear hb3 c0 c1 c2 c4 f1 s0 s1 s2
  have q4 := H3.at 4 (v := .string g.path) rfl
  have q5 := H3.at 5 (v := .int .i64 g.ask.sch) rfl
  have q6 := H3.at 6 (v := .string g.ask.realm) rfl
  have q7 := H3.at 7 (v := .string g.ask.nonce) rfl
  have q8 := H3.at 8 (v := .string g.ask.opq) rfl
  have q9 := H3.at 9 (v := .bool g.ask.sess) rfl
  have q10 := H3.at 10 (v := .string g.ask.qop) rfl
  have q11 := H3.at 11 (v := .bool g.ask.stale) rfl
  have q12 := H3.at 12 (v := .slice da dl dc) rfl
  clear H3
  go_wp2_with fail

  refine (freshA_any g.ask HX.out.2 da dl dc db doff _ (HX.out.1.below (show BoxF _ _ _ _ _ from HH3.out).bel)).mono ?_
  rintro e w4 ⟨⟨v, rfl, hown⟩, hb4⟩
  obtain ⟨va, vc, vg, rfl, _⟩ := hown.strs
  obtain ⟨vn, HVN⟩ : ∃ vn, Hid (g.ask.dom.length = vn) := ⟨_, rfl⟩
  rw [HVN.out] at hown ⊢
  have H4 := (show BoxF _ _ _ _ _ from HH3.out).below hb4
  have H5 := H4.set 12 (.slice va vn vc)
  have HG4 : Hid (w4.grownBy (w4.setCell ⟨w.heap.size, 12, none⟩ (.slice va vn vc)) (some w.heap.size)) := grown_setCells w4 w.heap.size 12 [.slice va vn vc]
  have HO4 : Hid (OwnS w4 w3.heap.size (.slice va vn vc) g.ask.dom ∧ w.heap.size + 1 < w3.heap.size ∧ w3.heap.size ≤ w4.heap.size) := ⟨hown, (Array.getElem?_eq_some_iff.1 (show BoxF _ _ _ _ _ from HH3.out).res).1, hb4.size⟩
  have HH4 : Hid (BoxF w w4 _ _ 38) := H4
  have HH5 : Hid (BoxF w (w4.setCell ⟨w.heap.size, 12, none⟩ (.slice va vn vc)) _ _ 38) := H5
  have s5 := H4.same (i := 5) (v := .int .i64 g.ask.sch) rfl
  have s6 := H4.same (i := 6) (v := .string g.ask.realm) rfl
  have s7 := H4.same (i := 7) (v := .string g.ask.nonce) rfl
  have s8 := H4.same (i := 8) (v := .string g.ask.opq) rfl
  have s9 := H4.same (i := 9) (v := .bool g.ask.sess) rfl
  have s10 := H4.same (i := 10) (v := .string g.ask.qop) rfl
  have s11 := H4.same (i := 11) (v := .bool g.ask.stale) rfl
  have t5 := H4.at 5 (v := .int .i64 g.ask.sch) rfl
  have t6 := H4.at 6 (v := .string g.ask.realm) rfl
  have t7 := H4.at 7 (v := .string g.ask.nonce) rfl
  have t8 := H4.at 8 (v := .string g.ask.opq) rfl
  have t9 := H4.at 9 (v := .bool g.ask.sess) rfl
  have t10 := H4.at 10 (v := .string g.ask.qop) rfl
  have t11 := H4.at 11 (v := .bool g.ask.stale) rfl
  have t12 := H4.at 12 (v := .slice da dl dc) rfl
  have f4 := free_of H4.box
  have g0 := H5.at 0 (v := .bool g.org.sec) rfl
  have g1 := H5.at 1 (v := .string g.org.host) rfl
  have g2 := H5.at 2 (v := .int .i64 g.org.port) rfl
  have g3 := H5.at 3 (v := .bool g.proxy) rfl
  have g4 := H5.at 4 (v := .string g.path) rfl
  have g5 := H5.at 5 (v := .int .i64 g.ask.sch) rfl
  have g6 := H5.at 6 (v := .string g.ask.realm) rfl
  have g7 := H5.at 7 (v := .string g.ask.nonce) rfl
  have g8 := H5.at 8 (v := .string g.ask.opq) rfl
  have g9 := H5.at 9 (v := .bool g.ask.sess) rfl
  have g10 := H5.at 10 (v := .string g.ask.qop) rfl
  have g11 := H5.at 11 (v := .bool g.ask.stale) rfl
  have g12 := H5.at 12 (v := .slice va vn vc) rfl
  have d0 : (w4.setCell ⟨w.heap.size, 12, none⟩ (.slice va vn vc)).cell? ⟨w.heap.size + 1, 0, none⟩ = some (.bool false) := cell_of H5.res
  have d1 : (w4.setCell ⟨w.heap.size, 12, none⟩ (.slice va vn vc)).cell? ⟨w.heap.size + 1, 1, none⟩ = some (.string ⟨#[]⟩) := cell_of H5.res
  have d2 : (w4.setCell ⟨w.heap.size, 12, none⟩ (.slice va vn vc)).cell? ⟨w.heap.size + 1, 2, none⟩ = some (.int .i64 0) := cell_of H5.res
  have d3 : (w4.setCell ⟨w.heap.size, 12, none⟩ (.slice va vn vc)).cell? ⟨w.heap.size + 1, 3, none⟩ = some (.bool false) := cell_of H5.res
  have d4 : (w4.setCell ⟨w.heap.size, 12, none⟩ (.slice va vn vc)).cell? ⟨w.heap.size + 1, 4, none⟩ = some (.string ⟨#[]⟩) := cell_of H5.res
  have d5 : (w4.setCell ⟨w.heap.size, 12, none⟩ (.slice va vn vc)).cell? ⟨w.heap.size + 1, 5, none⟩ = some (.int .i64 0) := cell_of H5.res
  have d6 : (w4.setCell ⟨w.heap.size, 12, none⟩ (.slice va vn vc)).cell? ⟨w.heap.size + 1, 6, none⟩ = some (.string ⟨#[]⟩) := cell_of H5.res
  have d7 : (w4.setCell ⟨w.heap.size, 12, none⟩ (.slice va vn vc)).cell? ⟨w.heap.size + 1, 7, none⟩ = some (.string ⟨#[]⟩) := cell_of H5.res
  have d8 : (w4.setCell ⟨w.heap.size, 12, none⟩ (.slice va vn vc)).cell? ⟨w.heap.size + 1, 8, none⟩ = some (.string ⟨#[]⟩) := cell_of H5.res
  have d9 : (w4.setCell ⟨w.heap.size, 12, none⟩ (.slice va vn vc)).cell? ⟨w.heap.size + 1, 9, none⟩ = some (.bool false) := cell_of H5.res
  have d10 : (w4.setCell ⟨w.heap.size, 12, none⟩ (.slice va vn vc)).cell? ⟨w.heap.size + 1, 10, none⟩ = some (.string ⟨#[]⟩) := cell_of H5.res
  have d11 : (w4.setCell ⟨w.heap.size, 12, none⟩ (.slice va vn vc)).cell? ⟨w.heap.size + 1, 11, none⟩ = some (.bool false) := cell_of H5.res
  have d12 : (w4.setCell ⟨w.heap.size, 12, none⟩ (.slice va vn vc)).cell? ⟨w.heap.size + 1, 12, none⟩ = some (.slice none 0 0) := cell_of H5.res
  have fr := free_of H5.res
  clear hb4 H4 H5 hown
  go_wp2_with fail
  obtain ⟨z1, z2⟩ := setAll [.bool g.org.sec, .string g.org.host, .int .i64 g.org.port, .bool g.proxy, .string g.path, .int .i64 g.ask.sch, .string g.ask.realm, .string g.ask.nonce, .string g.ask.opq, .bool g.ask.sess, .string g.ask.qop, .bool g.ask.stale, .slice va vn vc] (show BoxF _ _ _ _ _ from HH5.out).res rfl
  simp only [World.setCells, Nat.reduceAdd] at z1 z2
  have hb9 := (show BoxF _ _ _ _ _ from HH5.out).bel
  clear g0 g1 g2 g3 g4 g5 g6 g7 g8 g9 g10 g11 g12 d0 d1 d2 d3 d4 d5 d6 d7 d8 d9 d10 d11 d12 fr
  refine bodyPost_ret (v := .agg #[.bool g.org.sec, .string g.org.host, .int .i64 g.org.port, .bool g.proxy, .string g.path, .int .i64 g.ask.sch, .string g.ask.realm, .string g.ask.nonce, .string g.ask.opq, .bool g.ask.sess, .string g.ask.qop, .bool g.ask.stale, .slice va vn vc]) (res_cell rfl rfl Try.isAgg38 Try.sizeOf38 rfl z1) rfl ?_
  refine ⟨⟨_, rfl, ?_⟩, hb9.grown z2 hb9.size (fun i hi => by injection hi with hi; omega)⟩
  exact ownS_mono ((HO4.out.1.grown HG4.out (by have := HO4.out.2.1; omega)).grown z2 (by have := HO4.out.2.1; omega)) (by have := HO4.out.2.1; omega)
end Go.Proofs.Ytjadmldnpdmamaa

/- A grant, cloned. -/
namespace Go.Proofs.Ytjadmldnpdmamaa
open Go.RowKit
set_option linter.unusedVariables false

def GrFit (g : GrP) : Prop := g.org.host.size ≤ 140737488355328 ∧ g.user.size ≤ 140737488355328 ∧ g.pass.size ≤ 140737488355328 ∧ AskFit g.ask ∧ g.paths.length ≤ 1000 ∧ (∀ x ∈ g.paths, x.size ≤ 140737488355328) ∧ -9223372036854775808 ≤ g.count
set_option maxRecDepth 100000 in
set_option maxHeartbeats 4000000 in
theorem freshG_at (g : GrP) (hg : GrFit g) (da pa : Option Addr) (dl dc pl pc db doff pb poff : Nat) (w : World) (hd : Strs w da dl db doff g.ask.dom) (hp : Strs w pa pl pb poff g.paths) :
    Calls Try.prog 40 #[.agg #[.bool g.org.sec, .string g.org.host, .int .i64 g.org.port, .bool g.proxy, .string g.user, .string g.pass, .int .i64 g.ask.sch, .string g.ask.realm, .string g.ask.nonce, .string g.ask.opq, .bool g.ask.sess, .string g.ask.qop, .bool g.ask.stale, .slice da dl dc, .int .i64 g.count, .slice pa pl pc]] w fun e w' => (∃ v u, e = .returned (.agg #[.bool g.org.sec, .string g.org.host, .int .i64 g.org.port, .bool g.proxy, .string g.user, .string g.pass, .int .i64 g.ask.sch, .string g.ask.realm, .string g.ask.nonce, .string g.ask.opq, .bool g.ask.sess, .string g.ask.qop, .bool g.ask.stale, v, .int .i64 g.count, u]) ∧ OwnS w' w.heap.size v g.ask.dom ∧ OwnS w' w.heap.size u g.paths) ∧ Below w.heap.size w w' := by
  obtain ⟨z1, z2, z3, z4, z5, z6, _⟩ := hg
  have hlen : pl ≤ 1000 := by rw [← hp.len_eq]; exact z5
  have hs0 := boxF_start w #[.bool g.org.sec, .string g.org.host, .int .i64 g.org.port, .bool g.proxy, .string g.user, .string g.pass, .int .i64 g.ask.sch, .string g.ask.realm, .string g.ask.nonce, .string g.ask.opq, .bool g.ask.sess, .string g.ask.qop, .bool g.ask.stale, .slice da dl dc, .int .i64 g.count, .slice pa pl pc] #[.bool false, .string ⟨#[]⟩, .int .i64 0, .bool false, .string ⟨#[]⟩, .string ⟨#[]⟩, .int .i64 0, .string ⟨#[]⟩, .string ⟨#[]⟩, .string ⟨#[]⟩, .bool false, .string ⟨#[]⟩, .bool false, .slice none 0 0, .int .i64 0, .slice none 0 0] 36
  have HX : Hid (Strs w da dl db doff g.ask.dom ∧ Strs w pa pl pb poff g.paths ∧ (∀ x ∈ g.paths, x.size ≤ 140737488355328) ∧ AskFit g.ask) := ⟨hd, hp, z6, z4⟩
  have HW : Hid (BoxF w ((w.alloc (.cells #[.bool g.org.sec, .string g.org.host, .int .i64 g.org.port, .bool g.proxy, .string g.user, .string g.pass, .int .i64 g.ask.sch, .string g.ask.realm, .string g.ask.nonce, .string g.ask.opq, .bool g.ask.sess, .string g.ask.qop, .bool g.ask.stale, .slice da dl dc, .int .i64 g.count, .slice pa pl pc] 36)).alloc (.cells #[.bool false, .string ⟨#[]⟩, .int .i64 0, .bool false, .string ⟨#[]⟩, .string ⟨#[]⟩, .int .i64 0, .string ⟨#[]⟩, .string ⟨#[]⟩, .string ⟨#[]⟩, .bool false, .string ⟨#[]⟩, .bool false, .slice none 0 0, .int .i64 0, .slice none 0 0] 36)) _ _ 36) := hs0
  clear hs0 hd hp z4 z5 z6
  go_enter Try.func40, Try.ntmps40
  go_wp2_with fail
  refine (freshO_any g.org z1 _).mono ?_
  rintro e w1 ⟨rfl, hb1⟩
  have H1 := (show BoxF _ _ _ _ _ from HW.out).below hb1
  have HH1 : Hid (BoxF w w1 _ _ 36) := H1
  have c0 := H1.at 0 (v := .bool g.org.sec) rfl
  have c1 := H1.at 1 (v := .string g.org.host) rfl
  have c2 := H1.at 2 (v := .int .i64 g.org.port) rfl
  have c4 := H1.at 4 (v := .string g.user) rfl
  have c5 := H1.at 5 (v := .string g.pass) rfl
  have f1 := free_of H1.box
  have s0 := H1.same (i := 0) (v := .bool g.org.sec) rfl
  have s1 := H1.same (i := 1) (v := .string g.org.host) rfl
  have s2 := H1.same (i := 2) (v := .int .i64 g.org.port) rfl
  clear hb1 HW H1
  go_wp2_with fail
  clear c0 c1 c2 c4 c5 f1 s0 s1 s2
  have H1d := (show BoxF _ _ _ _ _ from HH1.out).below (Below.refl _ _).drew
  have hQ : w1.drew.cell? ⟨w.heap.size, 4, none⟩ = some (.string g.user) ∧ w1.drew.cell? ⟨w.heap.size, 5, none⟩ = some (.string g.pass) ∧ Hid (BoxF w w1.drew #[.bool g.org.sec, .string g.org.host, .int .i64 g.org.port, .bool g.proxy, .string g.user, .string g.pass, .int .i64 g.ask.sch, .string g.ask.realm, .string g.ask.nonce, .string g.ask.opq, .bool g.ask.sess, .string g.ask.qop, .bool g.ask.stale, .slice da dl dc, .int .i64 g.count, .slice pa pl pc] #[.bool false, .string ⟨#[]⟩, .int .i64 0, .bool false, .string ⟨#[]⟩, .string ⟨#[]⟩, .int .i64 0, .string ⟨#[]⟩, .string ⟨#[]⟩, .string ⟨#[]⟩, .bool false, .string ⟨#[]⟩, .bool false, .slice none 0 0, .int .i64 0, .slice none 0 0] 36) := ⟨H1d.at 4 rfl, H1d.at 5 rfl, H1d⟩
  clear H1d
  go_region_held3 (fun W => W.cell? ⟨w.heap.size, 4, none⟩ = some (.string g.user) ∧ W.cell? ⟨w.heap.size, 5, none⟩ = some (.string g.pass) ∧ Hid (BoxF w W #[.bool g.org.sec, .string g.org.host, .int .i64 g.org.port, .bool g.proxy, .string g.user, .string g.pass, .int .i64 g.ask.sch, .string g.ask.realm, .string g.ask.nonce, .string g.ask.opq, .bool g.ask.sess, .string g.ask.qop, .bool g.ask.stale, .slice da dl dc, .int .i64 g.count, .slice pa pl pc] #[.bool false, .string ⟨#[]⟩, .int .i64 0, .bool false, .string ⟨#[]⟩, .string ⟨#[]⟩, .int .i64 0, .string ⟨#[]⟩, .string ⟨#[]⟩, .string ⟨#[]⟩, .bool false, .string ⟨#[]⟩, .bool false, .slice none 0 0, .int .i64 0, .slice none 0 0] 36)) (with_reducible assumption) (first
    | (go_at_call 58; refine (cloneS_any g.pass z3 _).mono ?_; rintro e w3 ⟨rfl, hb3⟩; have H3 := (show BoxF _ _ _ _ _ from hQ2.2.2.out).below hb3; have HH3 : Hid (BoxF w w3 #[.bool g.org.sec, .string g.org.host, .int .i64 g.org.port, .bool g.proxy, .string g.user, .string g.pass, .int .i64 g.ask.sch, .string g.ask.realm, .string g.ask.nonce, .string g.ask.opq, .bool g.ask.sess, .string g.ask.qop, .bool g.ask.stale, .slice da dl dc, .int .i64 g.count, .slice pa pl pc] #[.bool false, .string ⟨#[]⟩, .int .i64 0, .bool false, .string ⟨#[]⟩, .string ⟨#[]⟩, .int .i64 0, .string ⟨#[]⟩, .string ⟨#[]⟩, .string ⟨#[]⟩, .bool false, .string ⟨#[]⟩, .bool false, .slice none 0 0, .int .i64 0, .slice none 0 0] 36) := H3; have f3 := free_of H3.box; have c4 := H3.at 4 (v := .string g.user) rfl; have c5 := H3.at 5 (v := .string g.pass) rfl; have s4 := H3.same (i := 4) (v := .string g.user) rfl; have s5 := H3.same (i := 5) (v := .string g.pass) rfl; have hQ3 : w3.cell? ⟨w.heap.size, 4, none⟩ = some (.string g.user) ∧ w3.cell? ⟨w.heap.size, 5, none⟩ = some (.string g.pass) ∧ Hid (BoxF w w3 #[.bool g.org.sec, .string g.org.host, .int .i64 g.org.port, .bool g.proxy, .string g.user, .string g.pass, .int .i64 g.ask.sch, .string g.ask.realm, .string g.ask.nonce, .string g.ask.opq, .bool g.ask.sess, .string g.ask.qop, .bool g.ask.stale, .slice da dl dc, .int .i64 g.count, .slice pa pl pc] #[.bool false, .string ⟨#[]⟩, .int .i64 0, .bool false, .string ⟨#[]⟩, .string ⟨#[]⟩, .int .i64 0, .string ⟨#[]⟩, .string ⟨#[]⟩, .string ⟨#[]⟩, .bool false, .string ⟨#[]⟩, .bool false, .slice none 0 0, .int .i64 0, .slice none 0 0] 36) := ⟨H3.at 4 rfl, H3.at 5 rfl, H3⟩; clear H3 hb3)
    | (go_at_call 58; refine (cloneS_any g.user z2 _).mono ?_; rintro e w2 ⟨rfl, hb2⟩; have H2 := (show BoxF _ _ _ _ _ from hQ.2.2.out).below hb2; have hQ2 : w2.cell? ⟨w.heap.size, 4, none⟩ = some (.string g.user) ∧ w2.cell? ⟨w.heap.size, 5, none⟩ = some (.string g.pass) ∧ Hid (BoxF w w2 #[.bool g.org.sec, .string g.org.host, .int .i64 g.org.port, .bool g.proxy, .string g.user, .string g.pass, .int .i64 g.ask.sch, .string g.ask.realm, .string g.ask.nonce, .string g.ask.opq, .bool g.ask.sess, .string g.ask.qop, .bool g.ask.stale, .slice da dl dc, .int .i64 g.count, .slice pa pl pc] #[.bool false, .string ⟨#[]⟩, .int .i64 0, .bool false, .string ⟨#[]⟩, .string ⟨#[]⟩, .int .i64 0, .string ⟨#[]⟩, .string ⟨#[]⟩, .string ⟨#[]⟩, .bool false, .string ⟨#[]⟩, .bool false, .slice none 0 0, .int .i64 0, .slice none 0 0] 36) := ⟨H2.at 4 rfl, H2.at 5 rfl, H2⟩; clear H2 hb2))
  have H3 := (show BoxF _ _ _ _ _ from HH3.out)
  have q6 := H3.at 6 (v := .int .i64 g.ask.sch) rfl
  have q7 := H3.at 7 (v := .string g.ask.realm) rfl
  have q8 := H3.at 8 (v := .string g.ask.nonce) rfl
  have q9 := H3.at 9 (v := .string g.ask.opq) rfl
  have q10 := H3.at 10 (v := .bool g.ask.sess) rfl
  have q11 := H3.at 11 (v := .string g.ask.qop) rfl
  have q12 := H3.at 12 (v := .bool g.ask.stale) rfl
  have q13 := H3.at 13 (v := .slice da dl dc) rfl
  clear H3
  go_wp2_with fail
  refine (freshA_any g.ask HX.out.2.2.2 da dl dc db doff _ (HX.out.1.below (show BoxF _ _ _ _ _ from HH3.out).bel)).mono ?_
  rintro e w4 ⟨⟨v, rfl, hown⟩, hb4⟩
  obtain ⟨va, vc, vg, rfl, _⟩ := hown.strs
  obtain ⟨vn, HVN⟩ : ∃ vn, Hid (g.ask.dom.length = vn) := ⟨_, rfl⟩
  rw [HVN.out] at hown ⊢
  have H4 := (show BoxF _ _ _ _ _ from HH3.out).below hb4
  have H5 := H4.set 13 (.slice va vn vc)
  have HG4 : Hid (w4.grownBy (w4.setCell ⟨w.heap.size, 13, none⟩ (.slice va vn vc)) (some w.heap.size)) := grown_setCells w4 w.heap.size 13 [.slice va vn vc]
  have HO4 : Hid (OwnS w4 w3.heap.size (.slice va vn vc) g.ask.dom ∧ w.heap.size + 1 < w3.heap.size ∧ w3.heap.size ≤ w4.heap.size) := ⟨hown, (Array.getElem?_eq_some_iff.1 (show BoxF _ _ _ _ _ from HH3.out).res).1, hb4.size⟩
  have HH4 : Hid (BoxF w w4 _ _ 36) := H4
  have HH5 : Hid (BoxF w (w4.setCell ⟨w.heap.size, 13, none⟩ (.slice va vn vc)) _ _ 36) := H5
  have s6 := H4.same (i := 6) (v := .int .i64 g.ask.sch) rfl
  have s7 := H4.same (i := 7) (v := .string g.ask.realm) rfl
  have s8 := H4.same (i := 8) (v := .string g.ask.nonce) rfl
  have s9 := H4.same (i := 9) (v := .string g.ask.opq) rfl
  have s10 := H4.same (i := 10) (v := .bool g.ask.sess) rfl
  have s11 := H4.same (i := 11) (v := .string g.ask.qop) rfl
  have s12 := H4.same (i := 12) (v := .bool g.ask.stale) rfl
  have t6 := H4.at 6 (v := .int .i64 g.ask.sch) rfl
  have t7 := H4.at 7 (v := .string g.ask.realm) rfl
  have t8 := H4.at 8 (v := .string g.ask.nonce) rfl
  have t9 := H4.at 9 (v := .string g.ask.opq) rfl
  have t10 := H4.at 10 (v := .bool g.ask.sess) rfl
  have t11 := H4.at 11 (v := .string g.ask.qop) rfl
  have t12 := H4.at 12 (v := .bool g.ask.stale) rfl
  have t13 := H4.at 13 (v := .slice da dl dc) rfl
  have t15 := H4.at 15 (v := .slice pa pl pc) rfl
  have f4 := free_of H4.box
  clear hb4 H4 H5 hown q6 q7 q8 q9 q10 q11 q12 q13
  go_wp2_with fail
  refine (eachS_any g.paths HX.out.2.2.1 pa pl pc pb poff hlen _ (HX.out.2.1.below (show BoxF _ _ _ _ _ from HH5.out).bel)).mono ?_
  rintro e w5 ⟨⟨u, rfl, hown5⟩, hb5⟩
  obtain ⟨ua, uc, ug, rfl, _⟩ := hown5.strs
  obtain ⟨un, HUN⟩ : ∃ un, Hid (g.paths.length = un) := ⟨_, rfl⟩
  rw [HUN.out] at hown5 ⊢
  have H6 := (show BoxF _ _ _ _ _ from HH5.out).below hb5
  have H7 := H6.set 15 (.slice ua un uc)
  have HH7 : Hid (BoxF w (w5.setCell ⟨w.heap.size, 15, none⟩ (.slice ua un uc)) _ _ 36) := H7
  have HG7 : Hid (w5.grownBy (w5.setCell ⟨w.heap.size, 15, none⟩ (.slice ua un uc)) (some w.heap.size)) := grown_setCells w5 w.heap.size 15 [.slice ua un uc]
  have HO5 : Hid (OwnS w5 w4.heap.size (.slice ua un uc) g.paths ∧ OwnS w5 w3.heap.size (.slice va vn vc) g.ask.dom) := ⟨ownS_mono hown5 (by simp [World.setCell]), (HO4.out.1.grown HG4.out (by have := HO4.out.2.1; omega)).below hb5⟩
  have f6 := free_of H6.box
  have r15 := H6.at 15 (v := .slice pa pl pc) rfl
  have g0 := H7.at 0 (v := .bool g.org.sec) rfl
  have g1 := H7.at 1 (v := .string g.org.host) rfl
  have g2 := H7.at 2 (v := .int .i64 g.org.port) rfl
  have g3 := H7.at 3 (v := .bool g.proxy) rfl
  have g4 := H7.at 4 (v := .string g.user) rfl
  have g5 := H7.at 5 (v := .string g.pass) rfl
  have g6 := H7.at 6 (v := .int .i64 g.ask.sch) rfl
  have g7 := H7.at 7 (v := .string g.ask.realm) rfl
  have g8 := H7.at 8 (v := .string g.ask.nonce) rfl
  have g9 := H7.at 9 (v := .string g.ask.opq) rfl
  have g10 := H7.at 10 (v := .bool g.ask.sess) rfl
  have g11 := H7.at 11 (v := .string g.ask.qop) rfl
  have g12 := H7.at 12 (v := .bool g.ask.stale) rfl
  have g13 := H7.at 13 (v := .slice va vn vc) rfl
  have g14 := H7.at 14 (v := .int .i64 g.count) rfl
  have g15 := H7.at 15 (v := .slice ua un uc) rfl
  have d0 : (w5.setCell ⟨w.heap.size, 15, none⟩ (.slice ua un uc)).cell? ⟨w.heap.size + 1, 0, none⟩ = some (.bool false) := cell_of H7.res
  have d1 : (w5.setCell ⟨w.heap.size, 15, none⟩ (.slice ua un uc)).cell? ⟨w.heap.size + 1, 1, none⟩ = some (.string ⟨#[]⟩) := cell_of H7.res
  have d2 : (w5.setCell ⟨w.heap.size, 15, none⟩ (.slice ua un uc)).cell? ⟨w.heap.size + 1, 2, none⟩ = some (.int .i64 0) := cell_of H7.res
  have d3 : (w5.setCell ⟨w.heap.size, 15, none⟩ (.slice ua un uc)).cell? ⟨w.heap.size + 1, 3, none⟩ = some (.bool false) := cell_of H7.res
  have d4 : (w5.setCell ⟨w.heap.size, 15, none⟩ (.slice ua un uc)).cell? ⟨w.heap.size + 1, 4, none⟩ = some (.string ⟨#[]⟩) := cell_of H7.res
  have d5 : (w5.setCell ⟨w.heap.size, 15, none⟩ (.slice ua un uc)).cell? ⟨w.heap.size + 1, 5, none⟩ = some (.string ⟨#[]⟩) := cell_of H7.res
  have d6 : (w5.setCell ⟨w.heap.size, 15, none⟩ (.slice ua un uc)).cell? ⟨w.heap.size + 1, 6, none⟩ = some (.int .i64 0) := cell_of H7.res
  have d7 : (w5.setCell ⟨w.heap.size, 15, none⟩ (.slice ua un uc)).cell? ⟨w.heap.size + 1, 7, none⟩ = some (.string ⟨#[]⟩) := cell_of H7.res
  have d8 : (w5.setCell ⟨w.heap.size, 15, none⟩ (.slice ua un uc)).cell? ⟨w.heap.size + 1, 8, none⟩ = some (.string ⟨#[]⟩) := cell_of H7.res
  have d9 : (w5.setCell ⟨w.heap.size, 15, none⟩ (.slice ua un uc)).cell? ⟨w.heap.size + 1, 9, none⟩ = some (.string ⟨#[]⟩) := cell_of H7.res
  have d10 : (w5.setCell ⟨w.heap.size, 15, none⟩ (.slice ua un uc)).cell? ⟨w.heap.size + 1, 10, none⟩ = some (.bool false) := cell_of H7.res
  have d11 : (w5.setCell ⟨w.heap.size, 15, none⟩ (.slice ua un uc)).cell? ⟨w.heap.size + 1, 11, none⟩ = some (.string ⟨#[]⟩) := cell_of H7.res
  have d12 : (w5.setCell ⟨w.heap.size, 15, none⟩ (.slice ua un uc)).cell? ⟨w.heap.size + 1, 12, none⟩ = some (.bool false) := cell_of H7.res
  have d13 : (w5.setCell ⟨w.heap.size, 15, none⟩ (.slice ua un uc)).cell? ⟨w.heap.size + 1, 13, none⟩ = some (.slice none 0 0) := cell_of H7.res
  have d14 : (w5.setCell ⟨w.heap.size, 15, none⟩ (.slice ua un uc)).cell? ⟨w.heap.size + 1, 14, none⟩ = some (.int .i64 0) := cell_of H7.res
  have d15 : (w5.setCell ⟨w.heap.size, 15, none⟩ (.slice ua un uc)).cell? ⟨w.heap.size + 1, 15, none⟩ = some (.slice none 0 0) := cell_of H7.res
  have fr := free_of H7.res
  clear hb5 H6 H7 hown5 f4 s6 s7 s8 s9 s10 s11 s12 t6 t7 t8 t9 t10 t11 t12 t13 t15
  go_wp2_with fail
  obtain ⟨z1, z2⟩ := setAll [.bool g.org.sec, .string g.org.host, .int .i64 g.org.port, .bool g.proxy, .string g.user, .string g.pass, .int .i64 g.ask.sch, .string g.ask.realm, .string g.ask.nonce, .string g.ask.opq, .bool g.ask.sess, .string g.ask.qop, .bool g.ask.stale, .slice va vn vc, .int .i64 g.count, .slice ua un uc] (show BoxF _ _ _ _ _ from HH7.out).res rfl
  simp only [World.setCells, Nat.reduceAdd] at z1 z2
  have hb9 := (show BoxF _ _ _ _ _ from HH7.out).bel
  clear g0 g1 g2 g3 g4 g5 g6 g7 g8 g9 g10 g11 g12 g13 g14 g15 d0 d1 d2 d3 d4 d5 d6 d7 d8 d9 d10 d11 d12 d13 d14 d15 fr
  refine bodyPost_ret (v := .agg #[.bool g.org.sec, .string g.org.host, .int .i64 g.org.port, .bool g.proxy, .string g.user, .string g.pass, .int .i64 g.ask.sch, .string g.ask.realm, .string g.ask.nonce, .string g.ask.opq, .bool g.ask.sess, .string g.ask.qop, .bool g.ask.stale, .slice va vn vc, .int .i64 g.count, .slice ua un uc]) (res_cell rfl rfl Try.isAgg36 Try.sizeOf36 rfl z1) rfl ?_
  refine ⟨⟨_, _, rfl, ?_, ?_⟩, hb9.grown z2 hb9.size (fun i hi => by injection hi with hi; omega)⟩
  · exact ownS_mono ((HO5.out.2.grown HG7.out (by have := HO4.out.2.1; omega)).grown z2 (by have := HO4.out.2.1; omega)) (by have := HO4.out.2.1; omega)
  · exact ownS_mono ((HO5.out.1.grown HG7.out (by have := HO4.out.2; omega)).grown z2 (by have := HO4.out.2; omega)) (by have := HO4.out.2; omega)
end Go.Proofs.Ytjadmldnpdmamaa
