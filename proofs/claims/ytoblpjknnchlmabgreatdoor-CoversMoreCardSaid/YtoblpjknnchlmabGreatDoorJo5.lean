/- Texts of one claim, joined: each begins with what it proves. -/
import Derived.Test.YtoblpjknnchlmabGreatDoorJo4
import Derived.Test.YtoblpjknnchlmabGreatDoorJo1
import Derived.Test.YtoblpjknnchlmabGreatDoorJo2
import Derived.Test.YtoblpjknnchlmabGreatDoorJo3
import Derived.Deep.AppendLies
import Derived.Deep.Cut
import Derived.Deep.QuietTactic
import Derived.BigQuiet
import Derived.Deep.Draws
import Derived.Deep.LoopGhost
import Derived.Deep.CutRange
import Derived.Deep.DeepCutAuto
/- Passes that differ by method and header alone, in a row that a call owns; one more. -/
namespace Go.Proofs.YtoblpjknnchlmabGreatDoor
open Go.RowKit

theorem infoX : (Tryz.prog.info? 50).map (fun i => (i.zero, i.size, i.bytes)) = some (some (.agg #[.bool false, .string ⟨#[]⟩, .int .i64 0, .bool false, .string ⟨#[]⟩, .int .i64 0, .string ⟨#[]⟩, .string ⟨#[]⟩, .bool false, .string ⟨#[]⟩, .string ⟨#[]⟩, .int .i64 0]), 12, 144) := by kernel_rfl
def cellsX (p : PsV) (l : List (ByteArray × ByteArray)) : List (List Value) := l.map fun x => (p.of x).vals
/-- A value of type []api.Pass that owns these, among the blocks from B on. -/
def OwnX (p : PsV) (w : World) (B : Nat) (v : Value) (l : List (ByteArray × ByteArray)) : Prop := OwnK 12 50 w B v (cellsX p l)
theorem vals_len (v : PsV) : v.vals.length = 12 := rfl
theorem vals_one (v : PsV) : ∀ u ∈ v.vals, u.oneCell' = true := by
  intro u hu
  simp only [PsV.vals, List.mem_cons, List.not_mem_nil, or_false] at hu
  rcases hu with h | h | h | h | h | h | h | h | h | h | h | h <;> subst h <;> rfl
theorem ownX_nil (p : PsV) (w : World) (B : Nat) : OwnX p w B (.slice none 0 0) [] := ownK_nil 12 50 w B
theorem OwnX.pss {p : PsV} {w : World} {B : Nat} {v : Value} {l : List (ByteArray × ByteArray)} (h : OwnX p w B v l) : ∃ (a : Option Addr) (cap g : Nat), v = .slice a l.length cap ∧ Pss w a l.length g 0 (l.map p.of) := by
  have hl : (cellsX p l).length = l.length := by unfold cellsX; simp
  rcases OwnK.forms h with ⟨rfl, he⟩ | ⟨g, cap, rfl, hB, hg, hc, _⟩
  · have h0 : l = [] := by unfold cellsX at he; simpa using he
    subst h0
    exact ⟨none, 0, 0, rfl, pss_nil w⟩
  · refine ⟨_, cap, g, by rw [hl], by simp, fun _ => ⟨rfl, hg⟩, fun j v hj i u hi => ?_⟩
    obtain ⟨x, hx, rfl⟩ : ∃ x, l[j]? = some x ∧ p.of x = v := by
      rw [List.getElem?_map] at hj
      simpa using hj
    have hj' : (cellsX p l)[j]? = some (p.of x).vals := by unfold cellsX; rw [List.getElem?_map, hx]; rfl
    rw [Nat.zero_add]
    exact OwnK.cell (show OwnK 12 50 w B (.slice (some ⟨g, 0, none⟩) (cellsX p l).length cap) (cellsX p l) from h) hj' hi
theorem OwnX.below {p : PsV} {w w' : World} {B : Nat} {v : Value} {l : List (ByteArray × ByteArray)} (h : OwnX p w B v l) (hb : Below w.heap.size w w') : OwnX p w' B v l := OwnK.below h hb
theorem OwnX.kept {p : PsV} {w w' : World} {B : Nat} {row : Option Nat} {v : Value} {l : List (ByteArray × ByteArray)} (h : OwnX p w B v l) (hg : w.grownBy w' row) (hne : v.ownBlock = none ∨ v.ownBlock ≠ row) : OwnX p w' B v l := OwnK.kept h hg hne
theorem wp_appX {ops : Array Oper} {rest : List Oper} {o : Oper} {a : Act} {Q : Exit → Act → World → Prop} (hgd : o.guard = none) (s x : Operand)
    (ho : o.op = .call { callee := .builtin .append, args := #[s, x], argTypes := #[46, 46] })
    (p : PsV) (B : Nat) (wr : World) (v : Value) (l : List (ByteArray × ByteArray)) (n : Nat) (hs : a.eval s = v) (hown : OwnX p wr B v l) (hn : l.length = n) (hl : n ≤ 1000) (hB : B ≤ wr.heap.size)
    (y : ByteArray × ByteArray) (hx : a.eval x = .slice (some ⟨wr.heap.size, 0, none⟩) 1 1)
    (h : ∀ g cap w', OwnX p w' B (.slice (some ⟨g, 0, none⟩) (n + 1) cap) (l ++ [y]) → (wr.alloc (.cells #[.bool p.fs, .string p.fh, .int .i64 p.fp, .bool p.us, .string p.uh, .int .i64 p.up, .string p.pa, .string p.qu, .bool p.wi, .string y.1, .string y.2, .int .i64 p.un] 50)).grownBy w' v.ownBlock → g < w'.heap.size → B ≤ g → wpList Tryz.prog ops Q rest (a.put o.dst (.slice (some ⟨g, 0, none⟩) (n + 1) cap)) w') :
    wpList Tryz.prog ops Q (o :: rest) a (wr.alloc (.cells #[.bool p.fs, .string p.fh, .int .i64 p.fp, .bool p.us, .string p.uh, .int .i64 p.up, .string p.pa, .string p.qu, .bool p.wi, .string y.1, .string y.2, .int .i64 p.un] 50)) := by
  subst hn
  obtain ⟨i0, hi0, hz0, hz1, hz2⟩ := info_parts infoX
  have hlc : (cellsX p l).length = l.length := by unfold cellsX; simp
  refine wpList_append_lies _ hgd s x 46 ho B 50 i0 (.agg #[.bool false, .string ⟨#[]⟩, .int .i64 0, .bool false, .string ⟨#[]⟩, .int .i64 0, .string ⟨#[]⟩, .string ⟨#[]⟩, .bool false, .string ⟨#[]⟩, .string ⟨#[]⟩, .int .i64 0]) 12 144 Tryz.underlying46 hi0 hz0 hz1 hz2 rfl (by omega) v (cellsX p l).length _ hs (World.ownsRow.alloc hown.row _) ⟨wr.heap.size, 0, none⟩ 1 1 (p.of y).vals hx rfl
    (World.news_of_block (cs := #[.bool p.fs, .string p.fh, .int .i64 p.fp, .bool p.us, .string p.uh, .int .i64 p.up, .string p.pa, .string p.qu, .bool p.wi, .string y.1, .string y.2, .int .i64 p.un]) (t := 50) (fr := (0, 0)) (heap_alloc_new wr _)) (vals_one _) (by omega) (by rw [hlc]; unfold maxLen; omega) (by omega) (by simp; omega) _ rfl ?_
  intro g cap w' hown1 hgrow _ hlt
  have hnew : OwnX p w' B (.slice (some ⟨g, 0, none⟩) (l.length + 1) cap) (l ++ [y]) := by
    have hc : cellsX p (l ++ [y]) = cellsX p l ++ [(p.of y).vals] := by unfold cellsX; simp
    refine ⟨?_, ?_, ?_⟩
    · rw [hc, List.length_append, List.flatten_append, hlc]
      rw [hlc] at hown1
      simpa using hown1
    · intro z hz
      rw [hc] at hz
      rcases List.mem_append.1 hz with hz | hz
      · exact hown.len z hz
      · rw [List.mem_singleton.1 hz]; rfl
    · intro z hz
      rw [hc] at hz
      rcases List.mem_append.1 hz with hz | hz
      · exact hown.one z hz
      · rw [List.mem_singleton.1 hz]; exact vals_one _
  rw [hlc]
  exact h g cap w' hnew hgrow hlt (OwnK.lt hnew g rfl).1
end Go.Proofs.YtoblpjknnchlmabGreatDoor

/- A text cloned, however long; what a world is where a cell is told again what it holds. -/
namespace Go.Proofs.YtoblpjknnchlmabGreatDoor
open Go.RowKit Go.Shelf

theorem cloneS_any (s : ByteArray) (hs : s.size ≤ 140737488355328) (w : World) :
    Calls Tryz.prog 31 #[.string s] w fun e w' => e = .returned (.string s) ∧ Below w.heap.size w w' := by
  have hc : ∀ w, Calls Tryz.prog 58 #[.string s] w fun e w' => e = .returned (.string s) ∧ Below w.heap.size w w' := fun w => Any.stringslite_Clone laysM316 s w (by omega)
  go_enter Tryz.func31, Tryz.ntmps31
  go_wp2_with (go_at_call 58; refine (hc _).mono ?_; rintro e w' ⟨rfl, hb⟩)
  go_ret
  exact ⟨rfl, hb⟩
/-- A cell is told again what it holds: the world is as it was. -/
theorem setCell_same {w : World} {g i : Nat} {cs : Array Value} {t : TypeId} (h : w.heap[g]? = some (.cells cs t (0, 0))) {v : Value} (hv : cs[i]? = some v) : w.setCell ⟨g, i, none⟩ v = w := by
  have e : (w.setCell ⟨g, i, none⟩ v).heap = w.heap := by
    apply Array.ext_getElem?
    intro j
    by_cases hj : j = g
    · subst hj
      rw [heap_setCell_same w j i cs t v h, h]
      congr 2
      apply Array.ext_getElem?
      intro m
      rw [Array.getElem?_setIfInBounds]
      by_cases hm : i = m
      · subst hm
        rw [if_pos rfl, hv, if_pos (Array.getElem?_eq_some_iff.1 hv).1]
      · rw [if_neg hm]
    · exact Below.heap_setCell w ⟨g, i, none⟩ v j hj
  show { w with heap := _ } = w
  have : (w.setCell ⟨g, i, none⟩ v).heap = w.heap := e
  cases w
  simp only [World.setCell] at this ⊢
  congr
/-- All cells of a block anew. -/
theorem heap_setAll (g : Nat) (t : TypeId) (vs : List Value) (w : World) (cur : Array Value) (h : w.heap[g]? = some (.cells cur t (0, 0))) (hs : cur.size = vs.length) : (w.setCells g 0 vs).heap[g]? = some (.cells vs.toArray t (0, 0)) := by
  obtain ⟨cur', h1, h2, h3⟩ := heap_setCells g t vs 0 w cur h
  have e := h3 (by omega)
  rw [List.take_zero, List.nil_append, Nat.zero_add, List.drop_of_length_le (by rw [Array.length_toList]; omega), List.append_nil] at e
  have : cur' = vs.toArray := by rw [← e]
  rw [h1, this]
theorem cell_of {w : World} {g i : Nat} {cs : Array Value} {t : TypeId} (h : w.heap[g]? = some (.cells cs t (0, 0))) : w.cell? ⟨g, i, none⟩ = cs[i]? := cell_of_row w g i cs t (0, 0) h
theorem free_of {w : World} {g : Nat} {cs : Array Value} {t : TypeId} (h : w.heap[g]? = some (.cells cs t (0, 0))) (i : Nat) : w.frozen? ⟨g, i, none⟩ = false := frozen_of_row w g i cs t h
end Go.Proofs.YtoblpjknnchlmabGreatDoor

/- A block of an argument's and one of an answer's own. -/
namespace Go.Proofs.YtoblpjknnchlmabGreatDoor
open Go.RowKit
set_option linter.unusedVariables false

/-- All cells anew: what stands there, and what may have turned. -/
theorem setAll {wi : World} {g : Nat} {cur : Array Value} {T : TypeId} (vs : List Value) (h : wi.heap[g]? = some (.cells cur T (0, 0))) (hs : cur.size = vs.length) : (wi.setCells g 0 vs).heap[g]? = some (.cells vs.toArray T (0, 0)) ∧ wi.grownBy (wi.setCells g 0 vs) (some g) := ⟨heap_setAll g T vs wi cur h hs, grown_setCells _ _ _ _⟩
theorem boxes2 (w : World) (x y : Array Value) (t u : TypeId) : Below w.heap.size w ((w.alloc (.cells x t)).alloc (.cells y u)) ∧ ((w.alloc (.cells x t)).alloc (.cells y u)).heap[w.heap.size]? = some (.cells x t (0, 0)) ∧ ((w.alloc (.cells x t)).alloc (.cells y u)).heap[w.heap.size + 1]? = some (.cells y u (0, 0)) := by
  refine ⟨((Below.refl _ _).alloc (Nat.le_refl _) _).alloc (by simp) _, ?_, ?_⟩
  · rw [heap_alloc_old _ _ (by simp)]
    exact heap_alloc_new w _
  · have := heap_alloc_new (w.alloc (.cells x t)) (.cells y u)
    simpa using this
/-- What is kept of a box, and of the result's, by a call. -/
structure BoxF (w w1 : World) (x y : Array Value) (t : TypeId) : Prop where
  bel : Below w.heap.size w w1
  box : w1.heap[w.heap.size]? = some (.cells x t (0, 0))
  res : w1.heap[w.heap.size + 1]? = some (.cells y t (0, 0))
theorem boxF_start (w : World) (x y : Array Value) (t : TypeId) : BoxF w ((w.alloc (.cells x t)).alloc (.cells y t)) x y t := ⟨(boxes2 w x y t t).1, (boxes2 w x y t t).2.1, (boxes2 w x y t t).2.2⟩
theorem BoxF.below {w w1 w2 : World} {x y : Array Value} {t : TypeId} (h : BoxF w w1 x y t) (hb : Below w1.heap.size w1 w2) : BoxF w w2 x y t := by
  have h2 : w.heap.size + 1 < w1.heap.size := (Array.getElem?_eq_some_iff.1 h.res).1
  exact ⟨h.bel.trans (hb.mono h.bel.size), by rw [hb.block _ (by omega)]; exact h.box, by rw [hb.block _ h2]; exact h.res⟩
theorem BoxF.set {w w1 : World} {x y : Array Value} {t : TypeId} (h : BoxF w w1 x y t) (i : Nat) (v : Value) : BoxF w (w1.setCell ⟨w.heap.size, i, none⟩ v) (x.setIfInBounds i v) y t :=
  ⟨h.bel.setCell (Nat.le_refl _) v, heap_setCell_same w1 _ i x t v h.box, (Below.heap_setCell w1 ⟨w.heap.size, i, none⟩ v _ (by show w.heap.size + 1 ≠ w.heap.size; omega)).trans h.res⟩
theorem BoxF.same {w w1 : World} {x y : Array Value} {t : TypeId} (h : BoxF w w1 x y t) {i : Nat} {v : Value} (hv : x[i]? = some v) : w1.setCell ⟨w.heap.size, i, none⟩ v = w1 := setCell_same h.box hv
theorem BoxF.at {w w1 : World} {x y : Array Value} {t : TypeId} (h : BoxF w w1 x y t) (i : Nat) {v : Value} (hv : x[i]? = some v) : w1.cell? ⟨w.heap.size, i, none⟩ = some v := (cell_of h.box).trans hv
/-- What a function answers whose result lies in a block. -/
theorem res_cell {P : Program} {fn : Func} {tmps : Array Value} {W : World} {a : Tmp} {t u : TypeId} {g : Nat} {vs : List Value} {k : Nat} (hf : fn.results = #[.cell a t]) (hp : tmps.getD a undef = .pointer (some ⟨g, 0, none⟩)) (ha : ∀ w, (isAgg t).run P w = .ok true w) (hs : ∀ w, (Go.sizeOf t).run P w = .ok k w) (hk : vs.length = k) (h : W.heap[g]? = some (.cells vs.toArray u (0, 0))) :
    (results fn tmps).run P W = .ok (.agg vs.toArray) W := by
  have hl := run_loadCellsFrom_list P W ⟨g, 0, none⟩ vs k hk (fun i v hi => by
    rw [Addr.add_lit, Nat.zero_add, cell_of h]
    simpa using hi)
  simp only [Array.getD_eq_getD_getElem?] at hp
  unfold results
  rw [hf]
  simp [hp, loadVar, ha, hs, asAddr, loadCells, hl]
end Go.Proofs.YtoblpjknnchlmabGreatDoor

/- A block of an argument's, and one of an answer's that is written into. -/
namespace Go.Proofs.YtoblpjknnchlmabGreatDoor
open Go.RowKit

structure BoxG (w : World) (x : Array Value) (n : Nat) (t : TypeId) (W : World) : Prop where
  bel : Below w.heap.size w W
  box : W.heap[w.heap.size]? = some (.cells x t (0, 0))
  res : ∃ y : Array Value, y.size = n ∧ W.heap[w.heap.size + 1]? = some (.cells y t (0, 0))
theorem BoxG.below {w w1 w2 : World} {x : Array Value} {n : Nat} {t : TypeId} (h : BoxG w x n t w1) (hb : Below w1.heap.size w1 w2) : BoxG w x n t w2 := by
  obtain ⟨y, hy, hr⟩ := h.res
  have h2 : w.heap.size + 1 < w1.heap.size := (Array.getElem?_eq_some_iff.1 hr).1
  exact ⟨h.bel.trans (hb.mono h.bel.size), by rw [hb.block _ (by omega)]; exact h.box, y, hy, by rw [hb.block _ h2]; exact hr⟩
theorem BoxG.at {w w1 : World} {x : Array Value} {n : Nat} {t : TypeId} (h : BoxG w x n t w1) (i : Nat) {v : Value} (hv : x[i]? = some v) : w1.cell? ⟨w.heap.size, i, none⟩ = some v := (cell_of h.box).trans hv
theorem BoxG.of {w w1 : World} {x y : Array Value} {t : TypeId} (h : BoxF w w1 x y t) : BoxG w x y.size t w1 := ⟨h.bel, h.box, y, rfl, h.res⟩
theorem BoxG.store {w w1 : World} {x : Array Value} {n : Nat} {t : TypeId} (h : BoxG w x n t w1) (vs : List Value) (hn : vs.length = n) :
    BoxG w x n t (w1.setCells (w.heap.size + 1) 0 vs) ∧ (w1.setCells (w.heap.size + 1) 0 vs).heap[w.heap.size + 1]? = some (.cells vs.toArray t (0, 0)) := by
  obtain ⟨y, hy, hr⟩ := h.res
  obtain ⟨z1, z2⟩ := setAll vs hr (by omega)
  have h2 : w.heap.size < w1.heap.size := (Array.getElem?_eq_some_iff.1 h.box).1
  exact ⟨⟨h.bel.grown z2 h.bel.size (fun i hi => by injection hi with hi; omega), by rw [z2.block _ h2 (by simp)]; exact h.box, _, by simpa using hn, z1⟩, z1⟩
theorem BoxG.frees {w w1 : World} {x : Array Value} {n : Nat} {t : TypeId} (h : BoxG w x n t w1) (i : Nat) : w1.frozen? ⟨w.heap.size + 1, i, none⟩ = false := by
  obtain ⟨y, hy, hr⟩ := h.res
  exact free_of hr i
theorem BoxG.some {w w1 : World} {x : Array Value} {n : Nat} {t : TypeId} (h : BoxG w x n t w1) (i : Nat) (hi : i < n) : ∃ v, w1.cell? ⟨w.heap.size + 1, i, none⟩ = some v := by
  obtain ⟨y, hy, hr⟩ := h.res
  exact ⟨y[i]'(by omega), (cell_of hr).trans (Array.getElem?_eq_getElem (by omega))⟩
end Go.Proofs.YtoblpjknnchlmabGreatDoor

/- passesFor's closure: one pass more, if it isn't there. -/
namespace Go.Proofs.YtoblpjknnchlmabGreatDoor
open Go.RowKit

def addX (l : List (ByteArray × ByteArray)) (x : ByteArray × ByteArray) : List (ByteArray × ByteArray) := if l.any (sameX x) then l else l ++ [x]
/-- What passesFor's closure holds: a pass, and the passes so far. -/
structure HoldX (p : PsV) (gp gs B : Nat) (l : List (ByteArray × ByteArray)) (W : World) : Prop where
  one : W.heap[gp]? = some (.cells #[.bool p.fs, .string p.fh, .int .i64 p.fp, .bool p.us, .string p.uh, .int .i64 p.up, .string p.pa, .string p.qu, .bool p.wi, .string ⟨#[]⟩, .string ⟨#[]⟩, .int .i64 p.un] 50 (0, 0))
  own : ∃ v, W.heap[gs]? = some (.cells #[v] 46 (0, 0)) ∧ OwnX p W B v l
  gpB : gp < B
  gsB : gs < B
  ne : gp ≠ gs
  bW : B ≤ W.heap.size
theorem HoldX.below {p : PsV} {gp gs B : Nat} {l : List (ByteArray × ByteArray)} {W W' : World} (h : HoldX p gp gs B l W) (hb : Below W.heap.size W W') : HoldX p gp gs B l W' := by
  obtain ⟨v, h1, h2⟩ := h.own
  refine ⟨?_, ⟨v, ?_, h2.below hb⟩, h.gpB, h.gsB, h.ne, Nat.le_trans h.bW hb.size⟩
  · rw [hb.block _ (Array.getElem?_eq_some_iff.1 h.one).1]; exact h.one
  · rw [hb.block _ (Array.getElem?_eq_some_iff.1 h1).1]; exact h1
theorem HoldX.setTo {p : PsV} {gp gs B : Nat} {l' : List (ByteArray × ByteArray)} {W : World} {g cap n : Nat} (h1 : W.heap[gp]? = some (.cells #[.bool p.fs, .string p.fh, .int .i64 p.fp, .bool p.us, .string p.uh, .int .i64 p.up, .string p.pa, .string p.qu, .bool p.wi, .string ⟨#[]⟩, .string ⟨#[]⟩, .int .i64 p.un] 50 (0, 0))) (h2 : ∃ u, W.heap[gs]? = some (.cells #[u] 46 (0, 0))) (hown : OwnX p W B (.slice (some ⟨g, 0, none⟩) n cap) l') (hgp : gp < B) (hgs : gs < B) (hne : gp ≠ gs) (hbW : B ≤ W.heap.size) :
    HoldX p gp gs B l' (W.setCell ⟨gs, 0, none⟩ (.slice (some ⟨g, 0, none⟩) n cap)) := by
  obtain ⟨u, hu⟩ := h2
  have hg : W.grownBy (W.setCell ⟨gs, 0, none⟩ (.slice (some ⟨g, 0, none⟩) n cap)) (some gs) := grown_setCells W gs 0 [.slice (some ⟨g, 0, none⟩) n cap]
  have hlt : gp < W.heap.size := (Array.getElem?_eq_some_iff.1 h1).1
  refine ⟨?_, ⟨.slice (some ⟨g, 0, none⟩) n cap, ?_, ?_⟩, hgp, hgs, hne, Nat.le_trans hbW hg.size⟩
  · rw [hg.block _ hlt (by intro e; injection e with e; exact hne e)]
    exact h1
  · have := heap_setCell_same W gs 0 #[u] 46 (.slice (some ⟨g, 0, none⟩) n cap) hu
    simpa using this
  · refine hown.kept hg (.inr ?_)
    have := (OwnK.lt hown g rfl).1
    intro e
    have e2 : (some g : Option Nat) = some gs := e
    injection e2 with e2
    omega
set_option maxRecDepth 100000 in
set_option maxHeartbeats 8000000 in
theorem add9_any (p : PsV) (gp gs B : Nat) (l : List (ByteArray × ByteArray)) (hl : l.length ≤ 500) (x y : ByteArray) (w : World) (h : HoldX p gp gs B l w) :
    Calls Tryz.prog 75 #[.string x, .string y, .pointer (some ⟨gp, 0, none⟩), .pointer (some ⟨gs, 0, none⟩)] w fun e w' => e = .returned (.tuple #[]) ∧ HoldX p gp gs B (addX l (x, y)) w' ∧ Below gs w w' := by
  have H : Hid (HoldX p gp gs B l w) := h
  obtain ⟨v, hv, hown⟩ := h.own
  obtain ⟨a, cap, g, rfl, hps⟩ := hown.pss
  obtain ⟨n, HN⟩ : ∃ n, Hid (l.length = n) := ⟨_, rfl⟩
  rw [HN.out] at hv hown hps hl
  have HV : Hid (w.heap[gs]? = some (.cells #[.slice a n cap] 46 (0, 0)) ∧ OwnX p w B (.slice a n cap) l ∧ Pss w a n g 0 (l.map p.of)) := ⟨hv, hown, hps⟩
  have sv : w.cell? ⟨gs, 0, none⟩ = some (.slice a n cap) := cell_of hv
  have HGSW : Hid (gs ≤ w.heap.size ∧ gs < B ∧ gp < B ∧ gp ≠ gs ∧ B ≤ w.heap.size) := ⟨Nat.le_of_lt (Array.getElem?_eq_some_iff.1 hv).1, h.gsB, h.gpB, h.ne, h.bW⟩
  have c0 : w.cell? ⟨gp, 0, none⟩ = some (.bool p.fs) := cell_of h.one
  have c1 : w.cell? ⟨gp, 1, none⟩ = some (.string p.fh) := cell_of h.one
  have c2 : w.cell? ⟨gp, 2, none⟩ = some (.int .i64 p.fp) := cell_of h.one
  have c3 : w.cell? ⟨gp, 3, none⟩ = some (.bool p.us) := cell_of h.one
  have c4 : w.cell? ⟨gp, 4, none⟩ = some (.string p.uh) := cell_of h.one
  have c5 : w.cell? ⟨gp, 5, none⟩ = some (.int .i64 p.up) := cell_of h.one
  have c6 : w.cell? ⟨gp, 6, none⟩ = some (.string p.pa) := cell_of h.one
  have c7 : w.cell? ⟨gp, 7, none⟩ = some (.string p.qu) := cell_of h.one
  have c8 : w.cell? ⟨gp, 8, none⟩ = some (.bool p.wi) := cell_of h.one
  have c9 : w.cell? ⟨gp, 9, none⟩ = some (.string ⟨#[]⟩) := cell_of h.one
  have c10 : w.cell? ⟨gp, 10, none⟩ = some (.string ⟨#[]⟩) := cell_of h.one
  have c11 : w.cell? ⟨gp, 11, none⟩ = some (.int .i64 p.un) := cell_of h.one
  clear h hv hown hps
  have HQ : Hid (BoxQ 50 w #[.bool p.fs, .string p.fh, .int .i64 p.fp, .bool p.us, .string p.uh, .int .i64 p.up, .string p.pa, .string p.qu, .bool p.wi, .string x, .string y, .int .i64 p.un] (w.alloc (.cells #[.bool p.fs, .string p.fh, .int .i64 p.fp, .bool p.us, .string p.uh, .int .i64 p.up, .string p.pa, .string p.qu, .bool p.wi, .string x, .string y, .int .i64 p.un] 50))) := BoxQ.new _ _ _
  have hsv1 : (w.alloc (.cells #[.bool p.fs, .string p.fh, .int .i64 p.fp, .bool p.us, .string p.uh, .int .i64 p.up, .string p.pa, .string p.qu, .bool p.wi, .string x, .string y, .int .i64 p.un] 50)).cell? ⟨gs, 0, none⟩ = some (.slice a n cap) := (HQ.out.bel.cell (p := ⟨gs, 0, none⟩) (lt_cell9 sv)).trans sv
  have q0 := HQ.out.at 0 _ rfl
  have q1 := HQ.out.at 1 _ rfl
  have q2 := HQ.out.at 2 _ rfl
  have q3 := HQ.out.at 3 _ rfl
  have q4 := HQ.out.at 4 _ rfl
  have q5 := HQ.out.at 5 _ rfl
  have q6 := HQ.out.at 6 _ rfl
  have q7 := HQ.out.at 7 _ rfl
  have q8 := HQ.out.at 8 _ rfl
  have q9 := HQ.out.at 9 _ rfl
  have q10 := HQ.out.at 10 _ rfl
  have q11 := HQ.out.at 11 _ rfl
  go_enter Tryz.func75, Tryz.ntmps75
  go_wp2_with fail
  refine (containsX_any p (x, y) l a n cap g 0 (by omega) _ (HV.out.2.2.below HQ.out.bel)).mono ?_
  rintro e w2 ⟨rfl, hb2⟩
  have HB2 : Hid (Below w.heap.size w w2) := HQ.out.inB hb2
  have HQ2 : Hid (BoxQ 50 w #[.bool p.fs, .string p.fh, .int .i64 p.fp, .bool p.us, .string p.uh, .int .i64 p.up, .string p.pa, .string p.qu, .bool p.wi, .string x, .string y, .int .i64 p.un] w2) := HQ.out.step hb2
  clear hb2 HQ sv hsv1 c0 q0 c1 q1 c2 q2 c3 q3 c4 q4 c5 q5 c6 q6 c7 q7 c8 q8 c9 q9 c10 q10 c11 q11
  obtain ⟨t, HT⟩ : ∃ t, Hid (l.any (sameX (x, y)) = t) := ⟨_, rfl⟩
  rw [HT.out]
  cases t
  · have HA : Hid (addX l (x, y) = l ++ [(x, y)]) := by show _ = _; unfold addX; rw [HT.out]; rfl
    have HV2 : Hid (w2.heap[gs]? = some (.cells #[.slice a n cap] 46 (0, 0)) ∧ w2.heap[gp]? = some (.cells #[.bool p.fs, .string p.fh, .int .i64 p.fp, .bool p.us, .string p.uh, .int .i64 p.up, .string p.pa, .string p.qu, .bool p.wi, .string ⟨#[]⟩, .string ⟨#[]⟩, .int .i64 p.un] 50 (0, 0)) ∧ OwnX p w2 B (.slice a n cap) l) :=
      ⟨by rw [HB2.out.block _ (Array.getElem?_eq_some_iff.1 HV.out.1).1]; exact HV.out.1, by rw [HB2.out.block _ (Array.getElem?_eq_some_iff.1 H.out.one).1]; exact H.out.one, HV.out.2.1.below HB2.out⟩
    have sv2 : w2.cell? ⟨gs, 0, none⟩ = some (.slice a n cap) := cell_of HV2.out.1
    have hz2 : B ≤ w2.heap.size := Nat.le_trans HGSW.out.2.2.2.2 HB2.out.size
    have b0 := HQ2.out.at 0 _ rfl
    have b1 := HQ2.out.at 1 _ rfl
    have b2 := HQ2.out.at 2 _ rfl
    have b3 := HQ2.out.at 3 _ rfl
    have b4 := HQ2.out.at 4 _ rfl
    have b5 := HQ2.out.at 5 _ rfl
    have b6 := HQ2.out.at 6 _ rfl
    have b7 := HQ2.out.at 7 _ rfl
    have b8 := HQ2.out.at 8 _ rfl
    have b9 := HQ2.out.at 9 _ rfl
    have b10 := HQ2.out.at 10 _ rfl
    have b11 := HQ2.out.at 11 _ rfl
    go_wp2_with (at_builtin; refine wp_appX rfl _ _ rfl p B w2 (.slice a n cap) l n rfl HV2.out.2.2 HN.out (by omega) hz2 (x, y) rfl ?_; intro g4 cap4 w4 hown4 hg4 hlt4 hBg; have HR4 : Hid (OwnX p w4 B (.slice (some ⟨g4, 0, none⟩) (n + 1) cap4) (l ++ [(x, y)]) ∧ w4.heap[gs]? = some (.cells #[.slice a n cap] 46 (0, 0)) ∧ w4.heap[gp]? = some (.cells #[.bool p.fs, .string p.fh, .int .i64 p.fp, .bool p.us, .string p.uh, .int .i64 p.up, .string p.pa, .string p.qu, .bool p.wi, .string ⟨#[]⟩, .string ⟨#[]⟩, .int .i64 p.un] 50 (0, 0)) ∧ Below gs w w4 ∧ B ≤ w4.heap.size) := (have hA : Below w2.heap.size w2 (w2.alloc (.cells #[.bool p.fs, .string p.fh, .int .i64 p.fp, .bool p.us, .string p.uh, .int .i64 p.up, .string p.pa, .string p.qu, .bool p.wi, .string x, .string y, .int .i64 p.un] 50)) := (Below.refl _ _).alloc (Nat.le_refl _) _; have hob : ∀ k, k < B → some k ≠ (Value.slice a n cap).ownBlock := fun k hk e => (by have := (OwnK.lt HV2.out.2.2 k e.symm).1; omega); have hk4 : ∀ k, k < B → w4.heap[k]? = w2.heap[k]? := fun k hk => (by rw [hg4.block k (by simp; omega) (hob k hk), hA.block k (by omega)]); ⟨hown4, (by rw [hk4 _ HGSW.out.2.1]; exact HV2.out.1), (by rw [hk4 _ HGSW.out.2.2.1]; exact HV2.out.2.1), ((HB2.out.mono HGSW.out.1).alloc (by have := HGSW.out.1; have := HB2.out.size; omega) _).grown hg4 (by have := HGSW.out.1; have := HB2.out.size; simp; omega) (fun i hi => by have := (OwnK.lt HV2.out.2.2 i hi).1; have := HGSW.out.2.1; omega), Nat.le_trans (by simp; omega) hg4.size⟩); clear hown4 hg4 hlt4 hBg; have sv4 : w4.cell? ⟨gs, 0, none⟩ = some (.slice a n cap) := cell_of HR4.out.2.1; have fz4 := free_of HR4.out.2.1)
    have HF : Hid (HoldX p gp gs B (l ++ [(x, y)]) (w4.setCell ⟨gs, 0, none⟩ (.slice (some ⟨g4, 0, none⟩) (n + 1) cap4)) ∧ Below gs w (w4.setCell ⟨gs, 0, none⟩ (.slice (some ⟨g4, 0, none⟩) (n + 1) cap4))) :=
      ⟨HoldX.setTo HR4.out.2.2.1 ⟨_, HR4.out.2.1⟩ HR4.out.1 HGSW.out.2.2.1 HGSW.out.2.1 HGSW.out.2.2.2.1 HR4.out.2.2.2.2, HR4.out.2.2.2.1.setCell (Nat.le_refl _) _⟩
    go_wp2
    go_end0
    exact ⟨rfl, by rw [HA.out]; exact HF.out.1, HF.out.2⟩
  · have HA : Hid (addX l (x, y) = l) := by show _ = _; unfold addX; rw [HT.out]; rfl
    go_wp2
    go_end0
    exact ⟨rfl, by rw [HA.out]; exact H.out.below HB2.out, HB2.out.mono HGSW.out.1⟩
end Go.Proofs.YtoblpjknnchlmabGreatDoor

/- The passes for a request, each once. -/
namespace Go.Proofs.YtoblpjknnchlmabGreatDoor

theorem addX_len (l : List (ByteArray × ByteArray)) (x : ByteArray × ByteArray) : (addX l x).length ≤ l.length + 1 := by
  unfold addX
  split <;> simp
theorem foldX_len (s : List (ByteArray × ByteArray)) : ∀ (l : List (ByteArray × ByteArray)), (l.foldl addX s).length ≤ s.length + l.length := by
  intro l
  induction l generalizing s with
  | nil => simp
  | cons x r ih =>
    have h1 := ih (addX s x)
    have h2 := addX_len s x
    simp only [List.foldl_cons, List.length_cons]
    omega
theorem foldX_snoc {α : Type} (f : α → ByteArray × ByteArray) (s : List (ByteArray × ByteArray)) {xs : List α} {k : Nat} {x : α} (h : xs[k]? = some x) : ((xs.take (k + 1)).map f).foldl addX s = addX (((xs.take k).map f).foldl addX s) (f x) := by
  obtain ⟨hk, e⟩ := List.getElem?_eq_some_iff.1 h
  rw [List.take_succ_eq_append_getElem hk, List.map_append, List.foldl_append, e]
  rfl
def mX (m : ByteArray) : ByteArray × ByteArray := (m, ⟨#[]⟩)
def hX (h : ByteArray) : ByteArray × ByteArray := (⟨#[]⟩, bs (h.data.toList.map low))
def passM (ms : List ByteArray) : List (ByteArray × ByteArray) := (ms.map mX).foldl addX []
def passL (ms hs : List ByteArray) : List (ByteArray × ByteArray) := (hs.map hX).foldl addX (passM ms)
theorem passM_len (ms : List ByteArray) : (passM ms).length ≤ ms.length := by
  have := foldX_len [] (ms.map mX)
  simpa [passM] using this
theorem passL_len (ms hs : List ByteArray) : (passL ms hs).length ≤ ms.length + hs.length := by
  have h1 := foldX_len (passM ms) (hs.map hX)
  have h2 := passM_len ms
  unfold passL
  rw [List.length_map] at h1
  omega
end Go.Proofs.YtoblpjknnchlmabGreatDoor

/- What a field's name tells in an answer. -/
namespace Go.Proofs.YtoblpjknnchlmabGreatDoor

/-- One value more behind what is there. -/
def joinV (s : Option (List UInt8)) (v : List UInt8) : List UInt8 := match s with | none => v | some o => o ++ 44 :: 32 :: v
def getStep (n : List UInt8) (s : Option (List UInt8)) (p : Par) : Option (List UInt8) := if sameL p.1.data.toList n then some (joinV s p.2.data.toList) else s
/-- The values of a name, a comma and a blank between. -/
def fieldL (n : List UInt8) (ps : List Par) : Option (List UInt8) := ps.foldl (getStep n) none
def fieldT (n : List UInt8) (ps : List Par) : List UInt8 := (fieldL n ps).getD []
theorem fieldL_snoc (n : List UInt8) {ps : List Par} {k : Nat} {p : Par} (h : ps[k]? = some p) : fieldL n (ps.take (k + 1)) = getStep n (fieldL n (ps.take k)) p := by
  obtain ⟨hk, e⟩ := List.getElem?_eq_some_iff.1 h
  rw [List.take_succ_eq_append_getElem hk, e]
  unfold fieldL
  rw [List.foldl_append]
  rfl
theorem fieldL_other {n : List UInt8} {ps : List Par} {k : Nat} {p : Par} (h : ps[k]? = some p) (hs : sameL p.1.data.toList n = false) : fieldL n (ps.take (k + 1)) = fieldL n (ps.take k) := by
  rw [fieldL_snoc n h]
  unfold getStep
  rw [hs]
  rfl
theorem fieldL_same {n : List UInt8} {ps : List Par} {k : Nat} {p : Par} (h : ps[k]? = some p) (hs : sameL p.1.data.toList n = true) : fieldL n (ps.take (k + 1)) = some (joinV (fieldL n (ps.take k)) p.2.data.toList) := by
  rw [fieldL_snoc n h]
  unfold getStep
  rw [hs]
  rfl
theorem fieldT_none {n : List UInt8} {ps : List Par} (h : fieldL n ps = none) : fieldT n ps = [] := by unfold fieldT; rw [h]; rfl
theorem fieldT_some {n : List UInt8} {ps : List Par} {o : List UInt8} (h : fieldL n ps = some o) : fieldT n ps = o := by unfold fieldT; rw [h]; rfl
/-- The names' letters alone count. -/
theorem sameL_low {n m : List UInt8} (h : n.map low = m.map low) (a : List UInt8) : sameL a n = sameL a m := by unfold sameL; rw [h]
theorem fieldL_low {n m : List UInt8} (h : n.map low = m.map low) (ps : List Par) : fieldL n ps = fieldL m ps := by
  unfold fieldL
  congr 1
  funext s p
  unfold getStep
  rw [sameL_low h]
theorem fieldT_low {n m : List UInt8} (h : n.map low = m.map low) (ps : List Par) : fieldT n ps = fieldT m ps := by unfold fieldT; rw [fieldL_low h]
theorem fieldT_step_len (n : List UInt8) (s : Option (List UInt8)) (p : Par) : ((getStep n s p).getD []).length ≤ (s.getD []).length + p.2.size + 2 := by
  have hz : p.2.data.toList.length = p.2.size := Array.length_toList
  unfold getStep
  split
  · cases s with
    | none => simp only [Option.getD_some, Option.getD_none, joinV, hz]; simp
    | some o => simp only [Option.getD_some, joinV, List.length_append, List.length_cons, hz]; omega
  · omega
theorem fieldT_take_len (n : List UInt8) (ps : List Par) (m : Nat) (hm : ∀ p ∈ ps, p.2.size ≤ m) (k : Nat) : (fieldT n (ps.take k)).length ≤ (m + 2) * k := by
  induction k with
  | zero => simp [fieldT, fieldL]
  | succ k ih =>
    by_cases h : k < ps.length
    · have h1 : ps[k]? = some ps[k] := List.getElem?_eq_getElem h
      have h2 := fieldT_step_len n (fieldL n (ps.take k)) ps[k]
      have h3 := hm _ (List.getElem_mem h)
      unfold fieldT at ih ⊢
      rw [fieldL_snoc n h1, Nat.mul_succ]
      omega
    · rw [List.take_of_length_le (by omega)] at ih ⊢
      rw [Nat.mul_succ]
      omega
theorem fieldT_len (n : List UInt8) (ps : List Par) (m : Nat) (hm : ∀ p ∈ ps, p.2.size ≤ m) : (fieldT n ps).length ≤ (m + 2) * ps.length := by
  have h := fieldT_take_len n ps m hm ps.length
  rwa [List.take_length] at h
/-- Fields of an answer that are few and small enough. -/
def Few9 (ps : List Par) : Prop := ps.length ≤ 45 ∧ ∀ p ∈ ps, p.1.size ≤ 300 ∧ p.2.size ≤ 300
theorem Few9.len {ps : List Par} (h : Few9 ps) (n : List UInt8) : (fieldT n ps).length ≤ 13590 := by
  have h1 := fieldT_len n ps 300 (fun p hp => (h.2 p hp).2)
  have h2 := h.1
  have h3 : (300 + 2) * ps.length ≤ 302 * 45 := Nat.mul_le_mul_left _ h2
  omega
end Go.Proofs.YtoblpjknnchlmabGreatDoor

/- One element more at a row that a call owns. -/
namespace Go.Proofs.YtoblpjknnchlmabGreatDoor
open Go.RowKit

theorem Own.lt {w : World} {B : Nat} {v : Value} {l : List UInt8} (h : Own w B v l) : ∀ k, v.ownBlock = some k → B ≤ k ∧ k < w.heap.size := World.ownsRow.lt h
theorem Own.keep {w w' : World} {B : Nat} {v : Value} {l : List UInt8} (h : Own w B v l) (hb : Below w.heap.size w w') : Own w' B v l := by
  refine World.ownsRow.kept (row := none) h ⟨hb.1, hb.2, hb.3, hb.size, fun k hk _ => hb.block k hk⟩ ?_
  rcases v.ownBlock with _ | k
  · exact .inl rfl
  · exact .inr (by simp)
/-- A byte more at a row of bytes. -/
theorem wp_app1 {ops : Array Oper} {rest : List Oper} {o : Oper} {a : Act} {Q : Exit → Act → World → Prop} (hgd : o.guard = none) (s x : Operand)
    (ho : o.op = .call { callee := .builtin .append, args := #[s, x], argTypes := #[70, 70] })
    (B : Nat) (w0 wr : World) (v : Value) (l : List UInt8) (n : Nat) (hs : a.eval s = v) (hown : Own wr B v l) (hn : l.length = n) (hl : n ≤ 100000) (hb : Below B w0 wr) (hB : B ≤ wr.heap.size)
    (d : UInt8) (dn : Int) (hd : dn = (d.toNat : Int)) (hx : a.eval x = .slice (some ⟨wr.heap.size, 0, none⟩) 1 1)
    (h : ∀ g cap w', Own w' B (.slice (some ⟨g, 0, none⟩) (n + 1) cap) (l ++ [d]) → Below B w0 w' → g < w'.heap.size → (wr.alloc (.cells #[.int .u8 dn] 5)).grownBy w' v.ownBlock → wpList Tryz.prog ops Q rest (a.put o.dst (.slice (some ⟨g, 0, none⟩) (n + 1) cap)) w') :
    wpList Tryz.prog ops Q (o :: rest) a (wr.alloc (.cells #[.int .u8 dn] 5)) := by
  subst hd
  obtain ⟨i0, hi0, hz0, hz1, hz2⟩ := info_parts info5
  refine wpList_append_lies _ hgd s x 70 ho B 5 i0 (.int .u8 0) 1 1 Tryz.underlying70 hi0 hz0 hz1 hz2 rfl (by omega) v n _ hs ((hown.rows hn).alloc _) ⟨wr.heap.size, 0, none⟩ 1 1 [.int .u8 (d.toNat : Int)] hx rfl
    (World.news_of_block (cs := #[.int .u8 (d.toNat : Int)]) (t := 5) (fr := (0, 0)) (heap_alloc_new wr _)) (by simp [Value.oneCell']) (by omega) (by unfold maxLen; omega) (by omega) (by simp; omega) _ rfl ?_
  intro g cap w' hown1 hgrow _ hlt
  refine h g cap w' (Own.more (ds := [d]) hown1 hn rfl) ?_ hlt hgrow
  refine (hb.alloc hB _).grown hgrow (by simp; omega) (fun k hk => (hown.lt k hk).1)
end Go.Proofs.YtoblpjknnchlmabGreatDoor

/- Where a cursor is, and what of the world it leaves as it was. -/
namespace Go.Proofs.YtoblpjknnchlmabGreatDoor
open Go.RowKit

/-- A cursor at block b: its text, and where it is. -/
structure Cur (w : World) (b : Nat) (s : ByteArray) (k : Nat) : Prop where
  text : w.cell? ⟨b, 0, none⟩ = some (.string s)
  place : w.cell? ⟨b, 1, none⟩ = some (.int .i64 (k : Int))
  free : w.frozen? ⟨b, 1, none⟩ = false
  le : k ≤ s.size
theorem Cur.drewN {w : World} {b : Nat} {s : ByteArray} {k : Nat} (h : Cur w b s k) (n : Nat) : Cur (w.drewN n) b s k := ⟨h.text, h.place, h.free, h.le⟩
theorem Cur.drew {w : World} {b : Nat} {s : ByteArray} {k : Nat} (h : Cur w b s k) : Cur w.drew b s k := ⟨h.text, h.place, h.free, h.le⟩
theorem Cur.lt {w : World} {b : Nat} {s : ByteArray} {k : Nat} (h : Cur w b s k) : b < w.heap.size := by
  rcases Nat.lt_or_ge b w.heap.size with h1 | h1
  · exact h1
  · have := h.text
    simp [World.cell?, Array.getElem?_eq_none h1] at this
theorem Cur.set {w : World} {b : Nat} {s : ByteArray} {k : Nat} (h : Cur w b s k) (m : Nat) (hm : m ≤ s.size) (v : Int) (hv : v = (m : Int)) : Cur (w.setCell ⟨b, 1, none⟩ (.int .i64 v)) b s m := by
  subst hv
  refine ⟨?_, World.cell?_setCell_same _ _ _ h.place, ?_, hm⟩
  · rw [World.cell?_setCell_other _ _ _ _ (by intro e; injection e with _ e2; omega)]
    exact h.text
  · have := h.free
    simpa using this
theorem Cur.grown {w w' : World} {b : Nat} {s : ByteArray} {k : Nat} {row : Option Nat} (h : Cur w b s k) (hg : w.grownBy w' row) (hr : some b ≠ row) : Cur w' b s k :=
  ⟨hg.cell h.text hr, hg.cell h.place hr, (World.frozen?_of_block (a := ⟨b, 1, none⟩) (hg.block b h.lt hr)).trans h.free, h.le⟩
theorem Cur.below {w w' : World} {b : Nat} {s : ByteArray} {k : Nat} (h : Cur w b s k) (hb : Below w.heap.size w w') : Cur w' b s k :=
  h.grown (row := none) ⟨hb.os, hb.tape, hb.output, hb.size, fun i hi _ => hb.block i hi⟩ (by simp)
theorem grown_drewN (w : World) (n : Nat) (row : Option Nat) : w.grownBy (w.drewN n) row := ⟨rfl, rfl, rfl, Nat.le_refl _, fun _ _ _ => rfl⟩
theorem grown_set (w : World) (b i : Nat) (v : Value) : w.grownBy (w.setCell ⟨b, i, none⟩ v) (some b) :=
  ⟨rfl, rfl, rfl, by simp [World.setCell], fun k _ hk => Below.heap_setCell _ _ _ _ (by intro e; apply hk; rw [e])⟩
theorem grown_trans {a b c : World} {row : Option Nat} (h : a.grownBy b row) (k : b.grownBy c row) : a.grownBy c row :=
  ⟨k.os.trans h.os, k.tape.trans h.tape, k.output.trans h.output, Nat.le_trans h.size k.size, fun i hi hr => (k.block i (Nat.lt_of_lt_of_le hi h.size) hr).trans (h.block i hi hr)⟩
theorem grown_below {w w' : World} (hb : Below w.heap.size w w') (row : Option Nat) : w.grownBy w' row := ⟨hb.os, hb.tape, hb.output, hb.size, fun i hi _ => hb.block i hi⟩

theorem blankB_32 (c : UInt8) (h : (c.toNat : Int) = 32) : blankB c = true := by
  rw [(u8_is (n := 32) (by omega)).1 h]
  rfl
theorem blankB_9 (c : UInt8) (h : (c.toNat : Int) = 9) : blankB c = true := by
  rw [(u8_is (n := 9) (by omega)).1 h]
  rfl
theorem blankB_no (c : UInt8) (h : ¬ (c.toNat : Int) = 32) (h2 : ¬ (c.toNat : Int) = 9) : blankB c = false := by
  unfold blankB
  rw [beq_eq_false_iff_ne.2 (by rintro rfl; exact h rfl), beq_eq_false_iff_ne.2 (by rintro rfl; exact h2 rfl)]
  rfl
theorem blank_any (c : UInt8) (w : World) : Calls Tryz.prog 129 #[.int .u8 (c.toNat : Int)] w fun e w' => e = .returned (.bool (blankB c)) ∧ w' = w := by
  by_cases h : (c.toNat : Int) = 32
  · rw [blankB_32 c h]
    go_enter Tryz.func129, Tryz.ntmps129
    go_wp2
    go_ret
    exact ⟨rfl, rfl⟩
  · by_cases h2 : (c.toNat : Int) = 9
    · rw [blankB_9 c h2]
      go_enter Tryz.func129, Tryz.ntmps129
      go_wp2
      go_ret
      exact ⟨rfl, rfl⟩
    · rw [blankB_no c h h2]
      have e1 := beq_eq_false_iff_ne.2 h
      have e2 := beq_eq_false_iff_ne.2 h2
      go_enter Tryz.func129, Tryz.ntmps129
      go_wp2
      go_ret
      exact ⟨rfl, rfl⟩
theorem kind_blank : Kind 129 blankB := ⟨blank_any, enters_at Tryz.func129 (by kernel_rfl) rfl⟩

theorem on_any (s : ByteArray) (w : World) :
    Calls Tryz.prog 97 #[.string s] w fun e w' => e = .returned (.pointer (some ⟨w.heap.size, 0, none⟩)) ∧ Cur w' w.heap.size s 0 ∧ Below w.heap.size w w' ∧ w.heap.size < w'.heap.size := by
  go_enter Tryz.func97, Tryz.ntmps97
  go_wp2
  go_ret
  exact ⟨rfl, ⟨by simp, by simp, by simp, Nat.zero_le _⟩, (Below.refl _ _).alloc (Nat.le_refl _) _, by simp⟩
theorem at_any (b : Nat) (s : ByteArray) (k : Nat) (w : World) (hc : Cur w b s k) :
    Calls Tryz.prog 102 #[.pointer (some ⟨b, 0, none⟩)] w fun e w' => e = .returned (.int .i64 (k : Int)) ∧ w' = w := by
  obtain ⟨h1, h2, h3, h4⟩ := hc
  go_enter Tryz.func102, Tryz.ntmps102
  go_wp2
  go_ret
  exact ⟨rfl, rfl⟩
theorem end_any (b : Nat) (s : ByteArray) (k : Nat) (w : World) (hc : Cur w b s k) :
    Calls Tryz.prog 100 #[.pointer (some ⟨b, 0, none⟩)] w fun e w' => e = .returned (.bool ((k : Int) == (s.size : Int))) ∧ ∃ n, w' = w.drewN n := by
  obtain ⟨h1, h2, h3, h4⟩ := hc
  go_enter Tryz.func100, Tryz.ntmps100
  go_wp2
  go_quiet (fail)
  go_wp2
  go_ret
  exact ⟨rfl, _, rfl⟩
end Go.Proofs.YtoblpjknnchlmabGreatDoor

/- What a cursor goes over. -/
namespace Go.Proofs.YtoblpjknnchlmabGreatDoor
open Go.RowKit

theorem len_data (s : ByteArray) : s.data.toList.length = s.size := Array.length_toList
theorem rest_size (s : ByteArray) (k : Nat) : (s.extract k s.size).size = s.size - k := by simp
theorem run_rest_le (f : UInt8 → Bool) (s : ByteArray) (k : Nat) (hk : k ≤ s.size) : k + runL f (s.data.toList.drop k) ≤ s.size := by
  have := runL_le f (s.data.toList.drop k)
  rw [List.length_drop, len_data] at this
  omega
set_option maxHeartbeats 1000000 in
theorem over_any (K : Nat) (f : UInt8 → Bool) (hK : Kind K f) (b : Nat) (s : ByteArray) (hs : s.size ≤ 20000) (k : Nat) (w : World) (hc : Cur w b s k) :
    Calls Tryz.prog 128 #[.pointer (some ⟨b, 0, none⟩), .func (.func K) #[] #[]] w fun e w' => ∃ t : ByteArray, e = .returned (.string t) ∧ t.size = runL f (s.data.toList.drop k) ∧ Hid (t.data.toList = (s.data.toList.drop k).takeWhile f) ∧ Cur w' b s (k + runL f (s.data.toList.drop k)) ∧ w.grownBy w' (some b) := by
  obtain ⟨r, HR⟩ : ∃ r : ByteArray, Hid (s.extract k s.size = r) := ⟨_, rfl⟩
  have hr : r.size = s.size - k := by rw [← HR.out, rest_size]
  have HD : Hid (r.data.toList = s.data.toList.drop k) := by show _ = _; rw [← HR.out, from_data]
  obtain ⟨n, HN⟩ : ∃ n : Nat, Hid (runL f (s.data.toList.drop k) = n) := ⟨_, rfl⟩
  have hn : k + n ≤ s.size := by rw [← HN.out]; exact run_rest_le f s k hc.le
  have HC : Hid (Cur w b s k) := hc
  have HT : Hid ((r.extract 0 n).data.toList = (s.data.toList.drop k).takeWhile f) := by show _ = _; rw [upto_data, HD.out, ← HN.out, take_runL]
  have HZ : Hid ((r.extract 0 n).size = n) := by
    show _ = _
    simp
    omega
  obtain ⟨h1, h2, h3, h4⟩ := hc
  have hkS : (k : Int) ≤ (s.size : Int) := by omega
  go_enter Tryz.func128, Tryz.ntmps128
  go_wp2
  go_quiet (fail)
  rw [HR.out]
  go_wp2_with fail
  refine (run_any K f hK r (by omega) _).mono ?_
  rintro e w' ⟨rfl, hw⟩
  obtain rfl := hw.symm
  rw [HD.out, HN.out]
  have hnr : (n : Int) ≤ (r.size : Int) := by omega
  go_wp2
  go_ret
  refine ⟨_, rfl, ?_, ?_, ?_, ?_⟩
  · rw [HN.out]; exact HZ
  · exact HT
  · rw [HN.out]; exact (HC.out.drewN _).set _ hn _ (by push_cast; rfl)
  · exact grown_trans (grown_drewN w _ _) (grown_set _ _ _ _)
end Go.Proofs.YtoblpjknnchlmabGreatDoor

/- A cursor's blanks, words and marks, by the program. -/
namespace Go.Proofs.YtoblpjknnchlmabGreatDoor
open Go.RowKit

theorem ne_zero_list (t : ByteArray) (n : Nat) (h : t.size = n) : (!t.toList.isEmpty) = decide (0 < n) := by
  subst h
  rw [ByteArray.toList_eq]
  by_cases h0 : t.size = 0
  · have e : t.data.toList = [] := List.eq_nil_of_length_eq_zero (by rw [len_data]; exact h0)
    rw [e, decide_eq_false (by omega)]
    rfl
  · have e : t.data.toList ≠ [] := by
      intro e
      have := len_data t
      rw [e] at this
      exact h0 this.symm
    rw [decide_eq_true (by omega)]
    cases e2 : t.data.toList with
    | nil => exact absurd e2 e
    | cons x r => rfl
set_option maxHeartbeats 1000000 in
theorem blanks_any (b : Nat) (s : ByteArray) (hs : s.size ≤ 20000) (k : Nat) (w : World) (hc : Cur w b s k) :
    Calls Tryz.prog 98 #[.pointer (some ⟨b, 0, none⟩)] w fun e w' => e = .returned (.bool (decide (0 < runL blankB (s.data.toList.drop k)))) ∧ Cur w' b s (k + runL blankB (s.data.toList.drop k)) ∧ w.grownBy w' (some b) := by
  go_enter Tryz.func98, Tryz.ntmps98
  go_wp2_with (go_at_call 128; refine (over_any _ _ kind_blank b s (by omega) k _ hc).mono ?_; rintro e w' ⟨t, rfl, ht, HT, hc2, hg⟩)
  go_ret
  exact ⟨ret_bool (ne_zero_list t _ ht), hc2, hg⟩
set_option maxHeartbeats 1000000 in
theorem word_any (b : Nat) (s : ByteArray) (hs : s.size ≤ 20000) (k : Nat) (w : World) (hc : Cur w b s k) :
    Calls Tryz.prog 99 #[.pointer (some ⟨b, 0, none⟩)] w fun e w' => ∃ t : ByteArray, e = .returned (.string t) ∧ t.size = runL tokB (s.data.toList.drop k) ∧ Hid (t.data.toList = (s.data.toList.drop k).takeWhile tokB) ∧ Cur w' b s (k + runL tokB (s.data.toList.drop k)) ∧ w.grownBy w' (some b) := by
  have hle := run_rest_le tokB s k hc.le
  obtain ⟨n, HN⟩ : ∃ n : Nat, Hid (runL tokB (s.data.toList.drop k) = n) := ⟨_, rfl⟩
  rw [HN.out] at hle
  go_enter Tryz.func99, Tryz.ntmps99
  go_wp2_with (first | (go_at_call 128; refine (over_any _ _ kind_byte b s (by omega) k _ hc).mono ?_; rintro e w1 ⟨t, rfl, ht, HT, hc2, hg⟩; have htz : t.size ≤ 20000 := by rw [ht, HN.out]; omega) | (go_at_call 31; refine (clone_any _ htz _).mono ?_; rintro e w2 ⟨rfl, hb2⟩))
  go_ret
  exact ⟨t, rfl, ht, HT, hc2.below hb2, grown_trans hg (grown_below hb2 _)⟩
set_option maxHeartbeats 1000000 in
theorem mark_end (b : Nat) (s : ByteArray) (c : UInt8) (w : World) (hc : Cur w b s s.size) :
    Calls Tryz.prog 101 #[.pointer (some ⟨b, 0, none⟩), .int .u8 (c.toNat : Int)] w fun e w' => e = .returned (.bool false) ∧ ∃ n, w' = w.drewN n := by
  have HC : Hid (Cur w b s s.size) := hc
  have hend : ∀ n, Calls Tryz.prog 100 #[.pointer (some ⟨b, 0, none⟩)] (w.drewN n) fun e w' => e = .returned (.bool true) ∧ ∃ m, w' = (w.drewN n).drewN m := fun n => by
    refine (end_any b s s.size _ (HC.out.drewN n)).mono ?_
    rintro e w' ⟨rfl, h⟩
    exact ⟨ret_bool (by simp), h⟩
  clear hc
  go_enter Tryz.func101, Tryz.ntmps101
  go_wp2
  go_quiet ((go_at_call 100; exact Calls.quiet_of (hend _)))
  go_wp2
  go_ret
  exact ⟨rfl, _, rfl⟩
set_option maxHeartbeats 1000000 in
theorem mark_other (b : Nat) (s : ByteArray) (k : Nat) (hk : k < s.size) (c : UInt8) (hne : s[k] ≠ c) (w : World) (hc : Cur w b s k) :
    Calls Tryz.prog 101 #[.pointer (some ⟨b, 0, none⟩), .int .u8 (c.toNat : Int)] w fun e w' => e = .returned (.bool false) ∧ ∃ n, w' = w.drewN n := by
  have HC : Hid (Cur w b s k) := hc
  have hend : ∀ n, Calls Tryz.prog 100 #[.pointer (some ⟨b, 0, none⟩)] (w.drewN n) fun e w' => e = .returned (.bool false) ∧ ∃ m, w' = (w.drewN n).drewN m := fun n => by
    refine (end_any b s k _ (HC.out.drewN n)).mono ?_
    rintro e w' ⟨rfl, h⟩
    exact ⟨ret_bool (beq_eq_false_iff_ne.2 (by omega)), h⟩
  obtain ⟨d, hd⟩ : ∃ d : UInt8, s[k] = d := ⟨_, rfl⟩
  have hq : ((d.toNat : Int) != (c.toNat : Int)) = true := by
    rw [bne_iff_ne]
    intro e
    apply hne
    rw [hd]
    exact UInt8.toNat_inj.1 (by omega)
  obtain ⟨h1, h2, h3, h4⟩ := hc
  clear hne
  have hkS : (k : Int) < (s.size : Int) := by omega
  go_enter Tryz.func101, Tryz.ntmps101
  go_wp2
  go_quiet ((go_at_call 100; exact Calls.quiet_of (hend _)))
  go_wp2
  go_ret
  exact ⟨rfl, _, rfl⟩
set_option maxHeartbeats 1000000 in
theorem mark_yes (b : Nat) (s : ByteArray) (hs : s.size ≤ 20000) (k : Nat) (hk : k < s.size) (c : UInt8) (he : s[k] = c) (w : World) (hc : Cur w b s k) :
    Calls Tryz.prog 101 #[.pointer (some ⟨b, 0, none⟩), .int .u8 (c.toNat : Int)] w fun e w' => e = .returned (.bool true) ∧ Cur w' b s (k + 1) ∧ w.grownBy w' (some b) := by
  have HC : Hid (Cur w b s k) := hc
  have hend : ∀ n, Calls Tryz.prog 100 #[.pointer (some ⟨b, 0, none⟩)] (w.drewN n) fun e w' => e = .returned (.bool false) ∧ ∃ m, w' = (w.drewN n).drewN m := fun n => by
    refine (end_any b s k _ (HC.out.drewN n)).mono ?_
    rintro e w' ⟨rfl, h⟩
    exact ⟨ret_bool (beq_eq_false_iff_ne.2 (by omega)), h⟩
  have hq : ((c.toNat : Int) != (c.toNat : Int)) = false := by simp
  obtain ⟨h1, h2, h3, h4⟩ := hc
  have hkS : (k : Int) < (s.size : Int) := by omega
  go_enter Tryz.func101, Tryz.ntmps101
  go_wp2
  go_quiet ((go_at_call 100; exact Calls.quiet_of (hend _)))
  go_wp2
  go_ret
  exact ⟨rfl, (HC.out.drewN _).set _ (by omega) _ (by push_cast; rfl), grown_trans (grown_drewN w _ _) (grown_set _ _ _ _)⟩
/-- The place that a number stands for. -/
def clampK (n : Nat) (m : Int) : Nat := (max 0 (min m (n : Int))).toNat
theorem clampK_le (n : Nat) (m : Int) : clampK n m ≤ n := by unfold clampK; omega
end Go.Proofs.YtoblpjknnchlmabGreatDoor

/- A world that has drawn an order is the same. -/
namespace Go.Proofs.YtoblpjknnchlmabGreatDoor
open Go.RowKit

theorem drewN_at {B : Nat} {a w : World} (h : Below B a w) (n : Nat) : Below B a (w.drewN n) := h.trans ⟨rfl, rfl, rfl, Nat.le_refl _, fun _ _ => rfl⟩
end Go.Proofs.YtoblpjknnchlmabGreatDoor

/- The words of a list, by the program. -/
namespace Go.Proofs.YtoblpjknnchlmabGreatDoor
open Go.RowKit

/-- What is known of the whole list behind k bytes. -/
def ListAt (l : List UInt8) (ws : List (List UInt8)) (k : Nat) : Prop := listP 0 (splitL 44 l) = (listP k (splitL 44 (l.drop k))).map (ws ++ ·)
theorem drop_drop' (l : List UInt8) (a b : Nat) : (l.drop a).drop b = l.drop (a + b) := by rw [List.drop_drop]
theorem consW_nil (w : List UInt8) : consW w [] = if w = [] then [] else [w] := rfl
theorem consW_app (ws : List (List UInt8)) (w : List UInt8) (r : List (List UInt8)) : ws ++ consW w r = (ws ++ consW w []) ++ r := by
  unfold consW
  split <;> simp
theorem map_map_ex (x : Except Nat (List (List UInt8))) (f g : List (List UInt8) → List (List UInt8)) : (x.map f).map g = x.map fun y => g (f y) := by cases x <;> rfl
theorem listAt_end {l : List UInt8} {ws : List (List UInt8)} {k : Nat} (h : ListAt l ws k) (hr : restP (l.drop k) = []) : listP 0 (splitL 44 l) = .ok (ws ++ consW (wordP (l.drop k)) []) := by
  unfold ListAt at h
  rw [h, list_end _ _ hr]
  rfl
theorem listAt_more {l t : List UInt8} {ws : List (List UInt8)} {k : Nat} (h : ListAt l ws k) (hr : restP (l.drop k) = 44 :: t) (m : Nat) (hm : l.drop m = t) (hk : m = k + ((l.drop k).length - t.length)) : ListAt l (ws ++ consW (wordP (l.drop k)) []) m := by
  unfold ListAt at *
  rw [h, list_more _ _ _ hr, map_map_ex, hm, hk]
  congr 1
  funext y
  rw [consW_app]
theorem listAt_bad {l t : List UInt8} {c : UInt8} {ws : List (List UInt8)} {k : Nat} (h : ListAt l ws k) (hr : restP (l.drop k) = c :: t) (hc : c ≠ 44) : listP 0 (splitL 44 l) = .error (k + ((l.drop k).length - (restP (l.drop k)).length)) := by
  unfold ListAt at h
  rw [h, list_bad _ _ _ _ hr hc]
  rfl
/-- Where the word, and what stands behind it, begin. -/
theorem rest_at (l : List UInt8) (k : Nat) :
    wordP (l.drop k) = (l.drop (k + runL blankB (l.drop k))).takeWhile tokB ∧
    restP (l.drop k) = l.drop (k + runL blankB (l.drop k) + runL tokB (l.drop (k + runL blankB (l.drop k))) + runL blankB (l.drop (k + runL blankB (l.drop k) + runL tokB (l.drop (k + runL blankB (l.drop k)))))) := by
  have e1 : (l.drop k).dropWhile blankB = l.drop (k + runL blankB (l.drop k)) := by rw [← drop_runL, drop_drop']
  have e2 : (l.drop (k + runL blankB (l.drop k))).dropWhile tokB = l.drop (k + runL blankB (l.drop k) + runL tokB (l.drop (k + runL blankB (l.drop k)))) := by rw [← drop_runL, drop_drop']
  refine ⟨?_, ?_⟩
  · unfold wordP
    rw [e1]
  · unfold restP
    rw [e1, e2, ← drop_runL, drop_drop']
def texts (xs : List ByteArray) : List (List UInt8) := xs.map (·.data.toList)
theorem texts_snoc (xs : List ByteArray) (t : ByteArray) (w : List UInt8) (ht : t.data.toList = w) (h : t.size ≠ 0) : texts (xs ++ [t]) = texts xs ++ consW w [] := by
  have hw : w ≠ [] := by
    rw [← ht]
    intro e
    have := len_data t
    rw [e] at this
    exact h this.symm
  unfold texts consW
  rw [List.map_append, List.map_singleton, ht, if_neg hw]
theorem texts_same (xs : List ByteArray) (t : ByteArray) (w : List UInt8) (ht : t.data.toList = w) (h : t.size = 0) : texts xs = texts xs ++ consW w [] := by
  have hw : w = [] := by
    rw [← ht]
    exact List.eq_nil_of_length_eq_zero (by rw [len_data]; exact h)
  unfold consW
  rw [if_pos hw, List.append_nil]
theorem empty_at {s : ByteArray} (h : s.size = 0) : s = ⟨#[]⟩ := by
  apply ByteArray.ext
  exact Array.eq_empty_of_size_eq_zero h
theorem not_empty_at {s : ByteArray} (h : s.size ≠ 0) : s.toList.isEmpty = false := by
  rw [ByteArray.toList_eq]
  cases e : s.data.toList with
  | nil =>
    have := len_data s
    rw [e] at this
    exact absurd this.symm h
  | cons x r => rfl
theorem cells_at (W : World) (cs : Array Value) (t : TypeId) (j : Nat) : (W.alloc (.cells cs t)).cell? ⟨W.heap.size, j, none⟩ = cs[j]? := World.cell?_alloc_mark _ _ _ _ _
/-- What List answers. -/
def LstAns (s : ByteArray) (B : Nat) (e : Ending) (w' : World) : Prop :=
  (∃ (xs : List ByteArray) (v : Value), listP 0 (splitL 44 s.data.toList) = .ok (texts xs) ∧ xs.length ≤ 40 ∧ e = .returned (.tuple #[v, .nilIface]) ∧ OwnS w' B v xs) ∨
  (∃ xs : List ByteArray, listP 0 (splitL 44 s.data.toList) = .ok (texts xs) ∧ 40 < xs.length ∧ e = .returned (.tuple #[.slice none 0 0, .iface 56 (.int .i64 4)])) ∨
  (∃ p g : Nat, listP 0 (splitL 44 s.data.toList) = .error p ∧ e = .returned (.tuple #[.slice none 0 0, .iface 63 (.pointer (some ⟨g, 0, none⟩))]) ∧ w'.cell? ⟨g, 0, none⟩ = some (.int .i64 3) ∧ w'.cell? ⟨g, 1, none⟩ = some (.int .i64 (p : Int)) ∧ B ≤ g)
set_option maxRecDepth 100000 in
set_option maxHeartbeats 4000000 in
theorem list_any (s : ByteArray) (hs : s.size ≤ 20000) (w : World) :
    Calls Tryz.prog 72 #[.string s] w fun e w' => LstAns s (w.heap.size + 1) e w' ∧ Below w.heap.size w w' := by
  go_enter Tryz.func72, Tryz.ntmps72
  go_wp2_with (go_at_call 97; refine (on_any s _).mono ?_; rintro e w1 ⟨rfl, hc1, hb1, hz1⟩)
  have HC1 : Hid (Cur w1 w.heap.size s 0) := hc1
  clear hc1
  go_loopg [4] s.size (fun gh v wr => ∃ (k n cap : Nat) (a : Option Addr) (xs : List ByteArray), s.size - k = gh ∧ k ≤ s.size ∧ n ≤ 41 ∧ v = .slice a n cap ∧ Hid (OwnS wr (w.heap.size + 1) (.slice a n cap) (xs.take 41) ∧ (xs.take 41).length = n ∧ ListAt s.data.toList (texts xs) k ∧ Cur wr w.heap.size s k) ∧ Below w.heap.size w wr ∧ w.heap.size < wr.heap.size)
  case atStart => exact ⟨0, 0, 0, none, [], by omega, Nat.zero_le _, by omega, rfl, ⟨ownS_nil _ _, rfl, by unfold ListAt; rw [List.drop_zero]; cases listP 0 (splitL 44 s.data.toList) <;> rfl, HC1⟩, hb1, hz1⟩
  case round =>
    obtain ⟨k, n, cap, a, xs, hgk, hk, hn, rfl, HO, hb, hz⟩ := hrel
    obtain ⟨eW, eR⟩ := rest_at s.data.toList k
    obtain ⟨k1, HK1⟩ : ∃ k1, Hid (k + runL blankB (s.data.toList.drop k) = k1) := ⟨_, rfl⟩
    rw [HK1.out] at eW eR
    obtain ⟨k2, HK2⟩ : ∃ k2, Hid (k1 + runL tokB (s.data.toList.drop k1) = k2) := ⟨_, rfl⟩
    rw [HK2.out] at eR
    obtain ⟨k3, HK3⟩ : ∃ k3, Hid (k2 + runL blankB (s.data.toList.drop k2) = k3) := ⟨_, rfl⟩
    rw [HK3.out] at eR
    have EW : Hid (wordP (s.data.toList.drop k) = (s.data.toList.drop k1).takeWhile tokB) := eW
    have ER : Hid (restP (s.data.toList.drop k) = s.data.toList.drop k3) := eR
    have hk1 : k1 ≤ s.size := by rw [← HK1.out]; exact run_rest_le _ s k hk
    have hk2 : k2 ≤ s.size := by rw [← HK2.out]; exact run_rest_le _ s k1 hk1
    have hk3 : k3 ≤ s.size := by rw [← HK3.out]; exact run_rest_le _ s k2 hk2
    have hkk : k ≤ k1 ∧ k1 ≤ k2 ∧ k2 ≤ k3 := ⟨by rw [← HK1.out]; omega, by rw [← HK2.out]; omega, by rw [← HK3.out]; omega⟩
    have HGK : Hid (s.size - k = gk) := hgk
    have HKK : Hid (k ≤ k1 ∧ k1 ≤ k2 ∧ k2 ≤ k3) := hkk
    clear eW eR hgk hkk HC1 hb1 hz1
    go_wp2_with fail
    refine (blanks_any w.heap.size s (by omega) k _ HO.out.2.2.2).mono ?_
    rintro e w2 ⟨rfl, hc2, hg2⟩
    rw [HK1.out] at hc2
    have HC2 : Hid (Cur w2 w.heap.size s k1 ∧ OwnS w2 (w.heap.size + 1) (.slice a n cap) (xs.take 41)) := ⟨hc2, HO.out.1.grown hg2 (by omega)⟩
    have hb2 : Below w.heap.size w w2 := hb.grown hg2 (by omega) (fun i hi => by injection hi with hi; omega)
    have hz2 : w.heap.size < w2.heap.size := Nat.lt_of_lt_of_le hz hg2.size
    clear hc2 hg2
    go_wp2_with fail
    refine (word_any w.heap.size s hs k1 _ HC2.out.1).mono ?_
    rintro e w3 ⟨t, rfl, ht, HT, hc3, hg3⟩
    rw [HK2.out] at hc3
    have HC3 : Hid (Cur w3 w.heap.size s k2 ∧ OwnS w3 (w.heap.size + 1) (.slice a n cap) (xs.take 41)) := ⟨hc3, HC2.out.2.grown hg3 (by omega)⟩
    have hb3 : Below w.heap.size w w3 := hb2.grown hg3 (by omega) (fun i hi => by injection hi with hi; omega)
    have hz3 : w.heap.size < w3.heap.size := Nat.lt_of_lt_of_le hz2 hg3.size
    have HTW : Hid (t.data.toList = wordP (s.data.toList.drop k)) := by show _ = _; rw [HT.out, EW.out]
    clear hc3 hg3 ht hb hz hb2 hz2
    obtain ⟨q, HQ⟩ : ∃ q : Bool, Hid (decide (t.size ≠ 0 ∧ n ≤ 40) = q) := ⟨_, rfl⟩
    go_upto_region 5 with fail
    go_cut [19] (fun v wc => v = .bool q ∧ wc = w3)
    case first =>
      by_cases ht0 : t.size = 0
      · have hq : q = false := by rw [← HQ.out]; exact decide_eq_false (fun h => h.1 ht0)
        obtain rfl := empty_at ht0
        subst hq
        go_wp2
        go_meet
        exact ⟨rfl, rfl⟩
      · have hne : t.toList.isEmpty = false := not_empty_at ht0
        by_cases h40 : n ≤ 40
        · have h40' : (n : Int) ≤ 40 := by omega
          have hq : q = true := by rw [← HQ.out]; exact decide_eq_true ⟨ht0, h40⟩
          subst hq
          go_wp2
          go_meet
          exact ⟨rfl, rfl⟩
        · have h40' : ¬ (n : Int) ≤ 40 := by omega
          have hq : q = false := by rw [← HQ.out]; exact decide_eq_false (fun h => h40 h.2)
          subst hq
          go_wp2
          go_meet
          exact ⟨rfl, rfl⟩
    case rest =>
    obtain ⟨rfl, hw3⟩ := hcut
    obtain rfl := hw3.symm
    clear hw3
    go_upto_if 19 with fail
    go_cut [4] (fun v wc => ∃ (n' cap' : Nat) (a' : Option Addr) (ys : List ByteArray), n' ≤ 41 ∧ v = .slice a' n' cap' ∧ Hid (OwnS wc (w.heap.size + 1) (.slice a' n' cap') (ys.take 41) ∧ (ys.take 41).length = n' ∧ texts ys = texts xs ++ consW (wordP (s.data.toList.drop k)) [] ∧ Cur wc w.heap.size s k2) ∧ Below w.heap.size w wc ∧ w.heap.size < wc.heap.size)
    case first =>
      cases q
      · have hor : t.size = 0 ∨ 40 < n := by
          have := of_decide_eq_false HQ.out
          omega
        by_cases ht0 : t.size = 0
        · have HX : Hid (texts xs = texts xs ++ consW (wordP (s.data.toList.drop k)) []) := texts_same xs t _ HTW.out ht0
          go_wp2
          go_meet
          exact ⟨n, cap, a, xs, hn, rfl, ⟨HC3.out.2, HO.out.2.1, HX, HC3.out.1⟩, hb3, hz3⟩
        · have HX : Hid (texts (xs ++ [t]) = texts xs ++ consW (wordP (s.data.toList.drop k)) []) := texts_snoc xs t _ HTW.out ht0
          have HXL2 : Hid ((xs ++ [t]).take 41 = xs.take 41) := by
            show _ = _
            rw [List.take_append_of_le_length]
            have := HO.out.2.1
            rw [List.length_take] at this
            omega
          go_wp2
          go_meet
          exact ⟨n, cap, a, xs ++ [t], hn, rfl, ⟨by rw [HXL2.out]; exact HC3.out.2, by rw [HXL2.out]; exact HO.out.2.1, HX, HC3.out.1⟩, hb3, hz3⟩
      · have hand : t.size ≠ 0 ∧ n ≤ 40 := of_decide_eq_true HQ.out
        obtain ⟨ht0, h40⟩ := hand
        have HX : Hid (texts (xs ++ [t]) = texts xs ++ consW (wordP (s.data.toList.drop k)) []) := texts_snoc xs t _ HTW.out ht0
        have HXL : Hid (xs.take 41 = xs) := List.take_of_length_le (by have := HO.out.2.1; rw [List.length_take] at this; omega)
        have HXL2 : Hid ((xs ++ [t]).take 41 = xs.take 41 ++ [t]) := by
          show _ = _
          rw [HXL.out, List.take_of_length_le]
          have := HO.out.2.1
          rw [HXL.out] at this
          simp
          omega
        go_wp2_with (at_builtin; refine wp_apps rfl _ _ rfl (w.heap.size + 1) w3 (.slice a n cap) (xs.take 41) n rfl HC3.out.2 HO.out.2.1 (by omega) (by omega) t rfl ?_; intro g4 cap4 w4 hown4 hg4 hlt4; have HO4 : Hid (OwnS w4 (w.heap.size + 1) (.slice (some ⟨g4, 0, none⟩) (n + 1) cap4) (xs.take 41 ++ [t]) ∧ Cur w4 w.heap.size s k2) := ⟨hown4, (HC3.out.1.below ((Below.refl _ _).alloc (Nat.le_refl _) _)).grown hg4 (fun e => by have := (HC3.out.2.lt _ e.symm).1; omega)⟩; have hb4 : Below w.heap.size w w4 := (hb3.alloc (by omega) _).grown hg4 (by simp; omega) (fun i hi => by have := (HC3.out.2.lt _ hi).1; omega); have hz4 : w.heap.size < w4.heap.size := (by have := hg4.size; simp at this; omega); clear hown4 hg4 hlt4)
        go_meet
        exact ⟨n + 1, cap4, some ⟨g4, 0, none⟩, xs ++ [t], by omega, rfl, ⟨by rw [HXL2.out]; exact HO4.out.1, by rw [HXL2.out, List.length_append, HO.out.2.1]; rfl, HX, HO4.out.2⟩, hb4, hz4⟩
    case rest =>
      obtain ⟨n', cap', a', ys, hn', rfl, HY, hbc, hzc⟩ := hcut
      go_wp2_with fail
      refine (blanks_any w.heap.size s (by omega) k2 _ HY.out.2.2.2).mono ?_
      rintro e w5 ⟨rfl, hc5, hg5⟩
      rw [HK3.out] at hc5
      have HC5 : Hid (Cur w5 w.heap.size s k3 ∧ OwnS w5 (w.heap.size + 1) (.slice a' n' cap') (ys.take 41)) := ⟨hc5, HY.out.1.grown hg5 (by omega)⟩
      have hb5 : Below w.heap.size w w5 := hbc.grown hg5 (by omega) (fun i hi => by injection hi with hi; omega)
      have hz5 : w.heap.size < w5.heap.size := Nat.lt_of_lt_of_le hzc hg5.size
      clear hc5 hg5 hbc hzc hb3 hz3
      go_wp2_with fail
      refine (end_any w.heap.size s k3 _ HC5.out.1).mono ?_
      rintro e w6 ⟨rfl, nd, rfl⟩
      by_cases hend : k3 = s.size
      · have hE : ((k3 : Int) == (s.size : Int)) = true := by rw [hend]; simp
        rw [hE]
        have HA : Hid (listP 0 (splitL 44 s.data.toList) = .ok (texts ys)) := by
          show _ = _
          rw [HY.out.2.2.1]
          refine listAt_end HO.out.2.2.1 ?_
          rw [ER.out, hend, List.drop_of_length_le (by rw [len_data]; exact Nat.le_refl _)]
        have HL : Hid ((ys.take 41).length = n') := HY.out.2.1
        by_cases hbig : (40 : Int) < (n' : Int)
        · go_wp2
          go_ret2
          refine ⟨.inr (.inl ⟨ys, HA, ?_, rfl⟩), drewN_at hb5 _⟩
          have := HL.out
          rw [List.length_take] at this
          omega
        · have HXL : Hid (ys.take 41 = ys) := List.take_of_length_le (by have := HL.out; rw [List.length_take] at this; omega)
          go_wp2
          go_ret2
          refine ⟨.inl ⟨ys, _, HA, ?_, rfl, ?_⟩, drewN_at hb5 _⟩
          · have := HL.out
            rw [HXL.out] at this
            omega
          · have := HC5.out.2
            rw [HXL.out] at this
            exact this
      · have hE : ((k3 : Int) == (s.size : Int)) = false := beq_eq_false_iff_ne.2 (by omega)
        rw [hE]
        have hlt3 : k3 < s.size := by omega
        obtain ⟨c, hcd⟩ : ∃ c : UInt8, s[k3] = c := ⟨_, rfl⟩
        have HD : Hid (restP (s.data.toList.drop k) = c :: s.data.toList.drop (k3 + 1)) := by
          show _ = _
          rw [ER.out, List.drop_eq_getElem_cons (by rw [len_data]; exact hlt3), ← hcd]
          rfl
        by_cases h44 : c = 44
        · subst h44
          have HA : Hid (ListAt s.data.toList (texts ys) (k3 + 1)) := by
            show ListAt _ _ _
            rw [HY.out.2.2.1]
            refine listAt_more HO.out.2.2.1 HD.out _ rfl ?_
            rw [List.length_drop, List.length_drop, len_data]
            have := HKK.out
            omega
          go_wp2_with fail
          refine (mark_yes w.heap.size s (by omega) k3 hlt3 44 hcd _ (HC5.out.1.drewN nd)).mono ?_
          rintro e w7 ⟨rfl, hc7, hg7⟩
          have HC7 : Hid (Cur w7 w.heap.size s (k3 + 1) ∧ OwnS w7 (w.heap.size + 1) (.slice a' n' cap') (ys.take 41)) := ⟨hc7, OwnS.grown (w := w5.drewN nd) HC5.out.2 hg7 (by omega)⟩
          have hb7 : Below w.heap.size w w7 := (drewN_at hb5 nd).grown hg7 (by show w.heap.size ≤ w5.heap.size; omega) (fun i hi => by injection hi with hi; omega)
          have hz7 : w.heap.size < w7.heap.size := Nat.lt_of_lt_of_le hz5 hg7.size
          clear hc7 hg7
          go_wp2
          go_roundg (s.size - (k3 + 1))
          case measure => have := HKK.out; have := HGK.out; omega
          case rel => exact ⟨k3 + 1, n', cap', a', ys, rfl, by omega, hn', rfl, ⟨HC7.out.2, HY.out.2.1, HA, HC7.out.1⟩, hb7, hz7⟩
        · have HA : Hid (listP 0 (splitL 44 s.data.toList) = .error k3) := by
            show _ = _
            rw [listAt_bad HO.out.2.2.1 HD.out h44, ER.out, List.length_drop, List.length_drop, len_data]
            congr 1
            have := HKK.out
            omega
          go_wp2_with fail
          refine (mark_other w.heap.size s k3 hlt3 44 (by rw [hcd]; exact h44) _ (HC5.out.1.drewN nd)).mono ?_
          rintro e w7 ⟨rfl, ne, rfl⟩
          go_wp2_with fail
          refine (at_any w.heap.size s k3 _ (HC5.out.1.drewN (nd + ne))).mono ?_
          rintro e w8 ⟨rfl, rfl⟩
          go_wp2
          go_ret2
          refine ⟨.inr (.inr ⟨k3, _, HA, rfl, ?_, ?_, ?_⟩), ?_⟩
          · exact cells_at _ _ _ 0
          · exact cells_at _ _ _ 1
          · exact hz5
          · exact (drewN_at hb5 (nd + ne)).alloc (by show w.heap.size ≤ w5.heap.size; omega) _
end Go.Proofs.YtoblpjknnchlmabGreatDoor

/- The words that a field tells. -/
namespace Go.Proofs.YtoblpjknnchlmabGreatDoor

/-- The words of a list, if it can be read and holds no more than forty. -/
def wordsO (x : List UInt8) : Option (List ByteArray) := match listP 0 (splitL 44 x) with
  | .ok ws => if ws.length ≤ 40 then some (ws.map bs) else none
  | .error _ => none
theorem texts_bs (xs : List ByteArray) : (texts xs).map bs = xs := by
  unfold texts
  rw [List.map_map]
  conv => rhs; rw [← List.map_id xs]
  apply List.map_congr_left
  intro x _
  exact bs_self x
theorem wordsO_ok {x : List UInt8} {xs : List ByteArray} (h : listP 0 (splitL 44 x) = .ok (texts xs)) (hl : xs.length ≤ 40) : wordsO x = some xs := by
  unfold wordsO
  rw [h]
  show (if (texts xs).length ≤ 40 then _ else _) = _
  rw [if_pos (by unfold texts; simpa using hl), texts_bs]
theorem wordsO_many {x : List UInt8} {xs : List ByteArray} (h : listP 0 (splitL 44 x) = .ok (texts xs)) (hl : 40 < xs.length) : wordsO x = none := by
  unfold wordsO
  rw [h]
  show (if (texts xs).length ≤ 40 then _ else _) = _
  rw [if_neg (by unfold texts; simp; omega)]
theorem wordsO_bad {x : List UInt8} {p : Nat} (h : listP 0 (splitL 44 x) = .error p) : wordsO x = none := by
  unfold wordsO
  rw [h]
theorem listP_lens : ∀ (P : List (List UInt8)) (k : Nat) (ws : List (List UInt8)) (n : Nat), listP k P = .ok ws → (∀ p ∈ P, p.length ≤ n) → ∀ w ∈ ws, w.length ≤ n
  | [], k, ws, n, h, _, w, hw => by
    simp only [listP, Except.ok.injEq] at h
    rw [← h] at hw
    cases hw
  | p :: r, k, ws, n, h, hn, w, hw => by
    rw [listP] at h
    split at h
    · rcases e : listP (k + p.length + 1) r with x | ys
      · rw [e] at h
        cases h
      · rw [e] at h
        have h' : consW (wordP p) ys = ws := by injection h
        rw [← h'] at hw
        have hwp : (wordP p).length ≤ n := by
          have h1 := hn p List.mem_cons_self
          have h2 : (wordP p).length ≤ p.length := by
            unfold wordP
            exact Nat.le_trans (List.Sublist.length_le (List.takeWhile_sublist _)) (List.Sublist.length_le (List.dropWhile_sublist _))
          omega
        have ih := listP_lens r _ ys n e (fun q hq => hn q (List.mem_cons_of_mem _ hq))
        unfold consW at hw
        split at hw
        · exact ih w hw
        · rcases List.mem_cons.1 hw with hw | hw
          · rw [hw]; exact hwp
          · exact ih w hw
    · cases h
theorem wordsO_len {x : List UInt8} {xs : List ByteArray} (h : wordsO x = some xs) : xs.length ≤ 40 ∧ ∀ w ∈ xs, w.size ≤ x.length := by
  unfold wordsO at h
  split at h
  · rename_i ws hws
    split at h
    · rename_i hl
      simp only [Option.some.injEq] at h
      rw [← h]
      refine ⟨by simpa using hl, fun w hw => ?_⟩
      obtain ⟨v, hv, rfl⟩ := List.mem_map.1 hw
      rw [bs_size]
      exact listP_lens _ _ _ _ hws (fun p hp => splitL_lens 44 x p hp) v hv
    · cases h
  · cases h
def mN : List UInt8 := [65, 99, 99, 101, 115, 115, 45, 67, 111, 110, 116, 114, 111, 108, 45, 65, 108, 108, 111, 119, 45, 77, 101, 116, 104, 111, 100, 115]
def hN : List UInt8 := [65, 99, 99, 101, 115, 115, 45, 67, 111, 110, 116, 114, 111, 108, 45, 65, 108, 108, 111, 119, 45, 72, 101, 97, 100, 101, 114, 115]
end Go.Proofs.YtoblpjknnchlmabGreatDoor
