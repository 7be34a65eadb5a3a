/- Texts of one claim, joined: each begins with what it proves. -/
import Derived.Test.YtihhabidfcgogaaDoorJo1
import Derived.Laws.OwnMore
import Derived.Laws.IdiomCopy
import Derived.Deep.Upon
import Derived.Deep.Onto
import Derived.Below
import Derived.Shelf.SlicesQ.Load
import Derived.Deep.RegionHeld3
import Derived.RegionTactic
import Derived.Deep.Cut
import Derived.Deep.CutRange
import Derived.Deep.DeepCutAuto
import Derived.Shelf.Spec.SlicesGrow
import Derived.Deep.Draws
import Derived.Deep.LoopGhost
import Derived.WalkKit
import Derived.Shelf.RegionOpenPlain
import Derived.Deep.AppendLies
/- Rows of elements of some cells each that a call owns, and how they are written into. -/
namespace Go.Proofs.YtihhabidfcgogaaDoor
open Go.RowKit

theorem heap_setCells (g : Nat) (t : TypeId) : ∀ (vs : List Value) (o : Nat) (w : World) (cur : Array Value), w.heap[g]? = some (.cells cur t (0, 0)) →
    ∃ cur', (w.setCells g o vs).heap[g]? = some (.cells cur' t (0, 0)) ∧ cur'.size = cur.size ∧ (o + vs.length ≤ cur.size → cur'.toList = cur.toList.take o ++ vs ++ cur.toList.drop (o + vs.length))
  | [], o, w, cur, h => ⟨cur, h, rfl, fun _ => by simp⟩
  | v :: r, o, w, cur, h => by
    obtain ⟨cur', h1, h2, h3⟩ := heap_setCells g t r (o + 1) (w.setCell ⟨g, o, none⟩ v) (cur.setIfInBounds o v) (heap_setCell_same w g o cur t v h)
    refine ⟨cur', h1, by rw [h2]; simp, fun hl => ?_⟩
    simp only [List.length_cons] at hl
    rw [h3 (by simp; omega), Array.toList_setIfInBounds]
    have ho : o < cur.toList.length := by rw [Array.length_toList]; omega
    have e1 : (cur.toList.set o v).take (o + 1) = cur.toList.take o ++ [v] := by
      apply List.ext_getElem?
      intro i
      simp only [List.getElem?_take, List.getElem?_set, List.getElem?_append, List.length_take]
      by_cases h1 : i < o
      · rw [if_pos (by omega), if_neg (by omega), if_pos (by omega), if_pos h1]
      · by_cases h2 : i = o
        · subst h2
          rw [if_pos (by omega), if_pos rfl, if_pos ho, if_neg (by omega)]
          rw [show i - min i cur.toList.length = 0 by omega]
          rfl
        · rw [if_neg (by omega), if_neg (by omega)]
          symm
          rw [List.getElem?_eq_none]
          simp
          omega
    have e2 : (cur.toList.set o v).drop (o + 1 + r.length) = cur.toList.drop (o + (v :: r).length) := by
      rw [List.drop_set_of_lt (by omega)]
      congr 1
      simp
      omega
    rw [e1, e2]
    simp
theorem grown_setCells (w : World) (g o : Nat) (vs : List Value) : w.grownBy (w.setCells g o vs) (some g) :=
  ⟨World.os_setCells w g o vs, by
    induction vs generalizing o w with
    | nil => rfl
    | cons v r ih => exact (ih (w.setCell ⟨g, o, none⟩ v) (o + 1)).trans rfl, World.output_setCells w g o vs, by
    induction vs generalizing o w with
    | nil => exact Nat.le_refl _
    | cons v r ih => exact Nat.le_trans (by simp [World.setCell]) (ih (w.setCell ⟨g, o, none⟩ v) (o + 1)), fun k hk hne => World.heap_setCells_other w g o vs hk (fun e => hne (by rw [e]))⟩

theorem gtrans {a b c : World} {row : Option Nat} (h : a.grownBy b row) (k : b.grownBy c row) : a.grownBy c row :=
  ⟨k.os.trans h.os, k.tape.trans h.tape, k.output.trans h.output, Nat.le_trans h.size k.size, fun i hi hne => (k.block i (Nat.lt_of_lt_of_le hi h.size) hne).trans (h.block i hi hne)⟩
theorem flat_len {k : Nat} : ∀ {xs : List (List Value)}, (∀ x ∈ xs, x.length = k) → xs.flatten.length = xs.length * k
  | [], _ => by simp
  | x :: r, h => by
    rw [List.flatten_cons, List.length_append, h x (by simp), flat_len (fun y hy => h y (by simp [hy])), List.length_cons, Nat.succ_mul, Nat.add_comm]
theorem flat_take {k : Nat} : ∀ {xs : List (List Value)} (_ : ∀ x ∈ xs, x.length = k) (i : Nat), xs.flatten.take (i * k) = (xs.take i).flatten
  | [], _, i => by simp
  | x :: r, h, 0 => by simp
  | x :: r, h, i + 1 => by
    have hx := h x (by simp)
    rw [List.flatten_cons, List.take_succ_cons, List.flatten_cons, ← flat_take (fun y hy => h y (by simp [hy])) i, Nat.succ_mul, Nat.add_comm, List.take_append]
    rw [hx, Nat.add_sub_cancel_left, List.take_of_length_le (by omega)]
theorem flat_drop {k : Nat} : ∀ {xs : List (List Value)} (_ : ∀ x ∈ xs, x.length = k) (i : Nat), xs.flatten.drop (i * k) = (xs.drop i).flatten
  | [], _, i => by simp
  | x :: r, h, 0 => by simp
  | x :: r, h, i + 1 => by
    have hx := h x (by simp)
    rw [List.flatten_cons, List.drop_succ_cons, ← flat_drop (fun y hy => h y (by simp [hy])) i, Nat.succ_mul, Nat.add_comm, List.drop_append]
    rw [hx, Nat.add_sub_cancel_left, List.drop_of_length_le (by omega), List.nil_append]
theorem flat_at {k : Nat} {xs : List (List Value)} (h : ∀ x ∈ xs, x.length = k) {j i : Nat} {x : List Value} {u : Value} (hj : xs[j]? = some x) (hi : x[i]? = some u) : xs.flatten[j * k + i]? = some u := by
  have e := flat_drop h j
  obtain ⟨hjl, hx⟩ := List.getElem?_eq_some_iff.1 hj
  rw [List.drop_eq_getElem_cons hjl, hx, List.flatten_cons] at e
  have e2 : (xs.flatten.drop (j * k))[i]? = some u := by
    rw [e, List.getElem?_append_left (List.getElem?_eq_some_iff.1 hi).1]
    exact hi
  rwa [List.getElem?_drop] at e2

/-- A value of slice type that owns these elements, of k cells each, among the blocks from B on. -/
structure OwnK (k : Nat) (t : TypeId) (w : World) (B : Nat) (v : Value) (xs : List (List Value)) : Prop where
  row : w.ownsRow B t k v xs.length xs.flatten
  len : ∀ x ∈ xs, x.length = k
  one : ∀ x ∈ xs, ∀ u ∈ x, u.oneCell' = true
theorem ownK_nil (k : Nat) (t : TypeId) (w : World) (B : Nat) : OwnK k t w B (.slice none 0 0) [] := ⟨⟨by simp, .inl ⟨rfl, rfl⟩⟩, fun x hx => (by cases hx), fun x hx => (by cases hx)⟩
section
variable {k n cap g B : Nat} {t : TypeId} {w : World} {v : Value} {xs : List (List Value)}
theorem OwnK.lt (h : OwnK k t w B v xs) : ∀ b, v.ownBlock = some b → B ≤ b ∧ b < w.heap.size := World.ownsRow.lt h.row
theorem OwnK.mono {B' : Nat} (h : OwnK k t w B v xs) (hb : B' ≤ B) : OwnK k t w B' v xs := ⟨World.ownsRow.mono h.row hb, h.len, h.one⟩
theorem OwnK.kept {w' : World} {row : Option Nat} (h : OwnK k t w B v xs) (hg : w.grownBy w' row) (hne : v.ownBlock = none ∨ v.ownBlock ≠ row) : OwnK k t w' B v xs := ⟨World.ownsRow.kept h.row hg hne, h.len, h.one⟩
theorem OwnK.below {w' : World} (h : OwnK k t w B v xs) (hb : Below w.heap.size w w') : OwnK k t w' B v xs := by
  refine h.kept (row := none) ⟨hb.os, hb.tape, hb.output, hb.size, fun i hi _ => hb.block i hi⟩ ?_
  rcases v.ownBlock with _ | k
  · exact .inl rfl
  · exact .inr (by simp)
theorem OwnK.drewN (h : OwnK k t w B v xs) (q : Nat) : OwnK k t (w.drewN q) B v xs := ⟨h.row, h.len, h.one⟩
/-- What it looks like. -/
theorem OwnK.forms (h : OwnK k t w B v xs) : (v = .slice none 0 0 ∧ xs = []) ∨ ∃ g cap, v = .slice (some ⟨g, 0, none⟩) xs.length cap ∧ B ≤ g ∧ g < w.heap.size ∧ xs.length ≤ cap ∧ cap ≤ maxLen := by
  rcases h.row.2 with ⟨e, h0⟩ | ⟨g, cap, cur, e, hB, hh, h1, h2, _⟩
  · exact .inl ⟨e, List.eq_nil_of_length_eq_zero h0⟩
  · exact .inr ⟨g, cap, e, hB, (Array.getElem?_eq_some_iff.1 hh).1, h1, h2⟩
theorem OwnK.cell (h : OwnK k t w B (.slice (some ⟨g, 0, none⟩) n cap) xs) {j i : Nat} {x : List Value} {u : Value} (hj : xs[j]? = some x) (hi : x[i]? = some u) : w.cell? ⟨g, j * k + i, none⟩ = some u := by
  have hc := World.ownsRow.cells h.row (g := g) rfl (j * k + i) u (flat_at h.len hj hi)
  rw [Addr.add_lit, Nat.zero_add] at hc
  exact hc
theorem OwnK.load (P : Program) (h : OwnK k t w B (.slice (some ⟨g, 0, none⟩) n cap) xs) {j : Nat} {x : List Value} (hj : xs[j]? = some x) : Sem.run P (loadCellsFrom ⟨g, j * k, none⟩ 0 k #[]) w = .ok x.toArray w :=
  run_loadCellsFrom_list P w _ x k (h.len x (List.mem_of_getElem? hj)) (fun i u hi => by rw [Addr.add_lit]; exact h.cell hj hi)
theorem OwnK.frozen (h : OwnK k t w B (.slice (some ⟨g, 0, none⟩) n cap) xs) (j : Nat) : w.frozen? ⟨g, j, none⟩ = false := by
  rcases h.row.2 with ⟨e, _⟩ | ⟨g', cap', cur, e, _, hh, _⟩
  · cases e
  · injection e with e1 _ _
    injection e1 with e1
    injection e1 with e1
    subst e1
    simp [World.frozen?, hh]
theorem OwnK.there (h : OwnK k t w B (.slice (some ⟨g, 0, none⟩) n cap) xs) (j : Nat) (hj : j < cap * k) : (w.cell? ⟨g, j, none⟩).isSome = true := by
  rcases h.row.2 with ⟨e, _⟩ | ⟨g', cap', cur, e, _, hh, _, _, hs, _⟩
  · cases e
  · injection e with e1 e2 e3
    injection e1 with e1
    injection e1 with e1
    subst e1 e3
    rw [cell_of_row w g j cur t (0, 0) hh, Array.getElem?_eq_getElem (by omega)]
    rfl
/-- Elements are written at a place. -/
theorem OwnK.put (h : OwnK k t w B (.slice (some ⟨g, 0, none⟩) n cap) xs) (i : Nat) (ys : List (List Value)) (hy : ∀ y ∈ ys, y.length = k) (hy1 : ∀ y ∈ ys, ∀ u ∈ y, u.oneCell' = true) (hi : i ≤ xs.length) (hc : i + ys.length ≤ cap) :
    OwnK k t (w.setCells g (i * k) ys.flatten) B (.slice (some ⟨g, 0, none⟩) (xs.take i ++ ys ++ xs.drop (i + ys.length)).length cap) (xs.take i ++ ys ++ xs.drop (i + ys.length)) := by
  have hall : ∀ x ∈ xs.take i ++ ys ++ xs.drop (i + ys.length), x ∈ xs ∨ x ∈ ys := fun x hx => by
    rcases List.mem_append.1 hx with hx | hx
    · rcases List.mem_append.1 hx with hx | hx
      · exact .inl (List.mem_of_mem_take hx)
      · exact .inr hx
    · exact .inl (List.mem_of_mem_drop hx)
  have hlen : ∀ x ∈ xs.take i ++ ys ++ xs.drop (i + ys.length), x.length = k := fun x hx => (hall x hx).elim (h.len x) (hy x)
  refine ⟨⟨flat_len hlen, ?_⟩, hlen, fun x hx => (hall x hx).elim (h.one x) (hy1 x)⟩
  rcases h.row.2 with ⟨e, _⟩ | ⟨g', cap', cur, e, hB, hh, hn, hm, hs, ht⟩
  · cases e
  · injection e with e1 e2 e3
    injection e1 with e1
    injection e1 with e1
    subst e1 e3
    obtain ⟨cur', h1, h2, h3⟩ := heap_setCells g t ys.flatten (i * k) w cur hh
    have hyl := flat_len hy
    have hck : i * k + ys.flatten.length ≤ cur.size := by
      rw [hyl, hs, ← Nat.add_mul]
      exact Nat.mul_le_mul_right _ hc
    have h3 := h3 hck
    have hLl : (xs.take i ++ ys ++ xs.drop (i + ys.length)).length ≤ cap := by simp; omega
    refine .inr ⟨g, cap, cur', rfl, hB, h1, hLl, hm, by rw [h2, hs], ?_⟩
    rw [h3]
    have hd : (xs.drop (i + ys.length)).flatten = (cur.toList.drop (i * k + ys.flatten.length)).take ((xs.length - (i + ys.length)) * k) := by
      rw [← flat_drop h.len, ← ht, hyl, ← Nat.add_mul, List.drop_take, Nat.sub_mul]
    have htk : (xs.take i).flatten = cur.toList.take (i * k) := by
      rw [← flat_take h.len, ← ht, List.take_take, Nat.min_eq_left (Nat.mul_le_mul_right _ hi)]
    have hl1 : (cur.toList.take (i * k)).length = i * k := by rw [List.length_take, Array.length_toList]; omega
    rw [List.flatten_append, List.flatten_append, hd, htk]
    have hT : (xs.take i ++ ys ++ xs.drop (i + ys.length)).length = i + ys.length + (xs.length - (i + ys.length)) := by simp; omega
    rw [hT, Nat.add_mul, Nat.add_mul, ← hyl, List.take_append, List.length_append, hl1]
    rw [List.take_of_length_le (by rw [List.length_append, hl1]; omega)]
    congr 2
    omega
theorem OwnK.set (h : OwnK k t w B (.slice (some ⟨g, 0, none⟩) n cap) xs) (i : Nat) (x : List Value) (hx : x.length = k) (hx1 : ∀ u ∈ x, u.oneCell' = true) (hi : i < xs.length) :
    OwnK k t (w.setCells g (i * k) x) B (.slice (some ⟨g, 0, none⟩) n cap) (xs.set i x) := by
  have hn : n = xs.length ∧ xs.length ≤ cap := by
    rcases h.forms with ⟨e, _⟩ | ⟨g', cap', e, _, _, h1, _⟩
    · cases e
    · injection e with e1 e2 e3
      subst e2 e3
      exact ⟨rfl, h1⟩
  have h2 := h.put i [x] (fun y hy => by rw [List.mem_singleton.1 hy]; exact hx) (fun y hy => by rw [List.mem_singleton.1 hy]; exact hx1) (by omega) (by simp; omega)
  have e1 : xs.take i ++ [x] ++ xs.drop (i + [x].length) = xs.set i x := by rw [List.set_eq_take_append_cons_drop, if_pos hi]; simp
  have e2 : [x].flatten = x := by simp
  rw [e1, e2, List.length_set, ← hn.1] at h2
  exact h2
theorem OwnK.cut (h : OwnK k t w B (.slice (some ⟨g, 0, none⟩) n cap) xs) (i : Nat) (hi : i ≤ xs.length) : OwnK k t w B (.slice (some ⟨g, 0, none⟩) i cap) (xs.take i) := by
  have hlen : ∀ x ∈ xs.take i, x.length = k := fun x hx => h.len x (List.mem_of_mem_take hx)
  have hl : (xs.take i).length = i := by rw [List.length_take]; omega
  refine ⟨⟨flat_len hlen, ?_⟩, hlen, fun x hx => h.one x (List.mem_of_mem_take hx)⟩
  rcases h.row.2 with ⟨e, _⟩ | ⟨g', cap', cur, e, hB, hh, hn, hm, hs, ht⟩
  · cases e
  · injection e with e1 e2 e3
    injection e1 with e1
    injection e1 with e1
    subst e1 e3
    refine .inr ⟨g, cap, cur, by rw [hl], hB, hh, by omega, hm, hs, ?_⟩
    rw [← flat_take h.len, ← ht, List.take_take, hl, Nat.min_eq_left (Nat.mul_le_mul_right _ hi)]
/-- What stands behind a place is written over, and cut off. -/
theorem OwnK.wipe (h : OwnK k t w B (.slice (some ⟨g, 0, none⟩) n cap) xs) (i : Nat) (hi : i ≤ xs.length) (vs : List Value) (hv : i * k + vs.length ≤ cap * k) : OwnK k t (w.setCells g (i * k) vs) B (.slice (some ⟨g, 0, none⟩) i cap) (xs.take i) := by
  have hc := h.cut i hi
  refine ⟨⟨hc.row.1, ?_⟩, hc.len, hc.one⟩
  rcases hc.row.2 with ⟨e, _⟩ | ⟨g', cap', cur, e, hB, hh, hn, hm, hs, ht⟩
  · cases e
  · injection e with e1 e2 e3
    injection e1 with e1
    injection e1 with e1
    subst e1 e3
    obtain ⟨cur', h1, h2, h3⟩ := heap_setCells g t vs (i * k) w cur hh
    have hl : (xs.take i).length = i := by rw [List.length_take]; omega
    refine .inr ⟨g, cap, cur', by rw [hl], hB, h1, hn, hm, by rw [h2, hs], ?_⟩
    rw [h3 (by rw [hs]; exact hv), ← ht, hl, List.take_append, List.take_append, List.take_take]
    rw [List.length_take, Array.length_toList]
    have hik : i * k ≤ cur.size := by omega
    rw [show i * k - min (i * k) cur.size = 0 by omega, Nat.min_self, List.length_append, List.length_take, Array.length_toList]
    rw [show i * k - (min (i * k) cur.size + vs.length) = 0 by omega]
    simp
end
end Go.Proofs.YtihhabidfcgogaaDoor

/- A text cloned, however long; what a world is where a cell is told again what it holds. -/
namespace Go.Proofs.YtihhabidfcgogaaDoor
open Go.RowKit Go.Shelf

theorem cloneS_any (s : ByteArray) (hs : s.size ≤ 140737488355328) (w : World) :
    Calls Tryd.prog 39 #[.string s] w fun e w' => e = .returned (.string s) ∧ Below w.heap.size w w' := by
  have hc : ∀ w, Calls Tryd.prog 53 #[.string s] w fun e w' => e = .returned (.string s) ∧ Below w.heap.size w w' := fun w => Any.stringslite_Clone laysM316 s w (by omega)
  go_enter Tryd.func39, Tryd.ntmps39
  go_wp2_with (go_at_call 53; refine (hc _).mono ?_; rintro e w' ⟨rfl, hb⟩)
  go_ret
  exact ⟨rfl, hb⟩
/-- A cell is told again what it holds: the world is as it was. -/
theorem setCell_same {w : World} {g i : Nat} {cs : Array Value} {t : TypeId} (h : w.heap[g]? = some (.cells cs t (0, 0))) {v : Value} (hv : cs[i]? = some v) : w.setCell ⟨g, i, none⟩ v = w := by
  have e : (w.setCell ⟨g, i, none⟩ v).heap = w.heap := by
    apply Array.ext_getElem?
    intro j
    by_cases hj : j = g
    · subst hj
      rw [heap_setCell_same w j i cs t v h, h]
      congr 2
      apply Array.ext_getElem?
      intro m
      rw [Array.getElem?_setIfInBounds]
      by_cases hm : i = m
      · subst hm
        rw [if_pos rfl, hv, if_pos (Array.getElem?_eq_some_iff.1 hv).1]
      · rw [if_neg hm]
    · exact Below.heap_setCell w ⟨g, i, none⟩ v j hj
  show { w with heap := _ } = w
  have : (w.setCell ⟨g, i, none⟩ v).heap = w.heap := e
  cases w
  simp only [World.setCell] at this ⊢
  congr
/-- All cells of a block anew. -/
theorem heap_setAll (g : Nat) (t : TypeId) (vs : List Value) (w : World) (cur : Array Value) (h : w.heap[g]? = some (.cells cur t (0, 0))) (hs : cur.size = vs.length) : (w.setCells g 0 vs).heap[g]? = some (.cells vs.toArray t (0, 0)) := by
  obtain ⟨cur', h1, h2, h3⟩ := heap_setCells g t vs 0 w cur h
  have e := h3 (by omega)
  rw [List.take_zero, List.nil_append, Nat.zero_add, List.drop_of_length_le (by rw [Array.length_toList]; omega), List.append_nil] at e
  have : cur' = vs.toArray := by rw [← e]
  rw [h1, this]
theorem cell_of {w : World} {g i : Nat} {cs : Array Value} {t : TypeId} (h : w.heap[g]? = some (.cells cs t (0, 0))) : w.cell? ⟨g, i, none⟩ = cs[i]? := cell_of_row w g i cs t (0, 0) h
theorem free_of {w : World} {g : Nat} {cs : Array Value} {t : TypeId} (h : w.heap[g]? = some (.cells cs t (0, 0))) (i : Nat) : w.frozen? ⟨g, i, none⟩ = false := frozen_of_row w g i cs t h
end Go.Proofs.YtihhabidfcgogaaDoor

/- A block of an argument's and one of an answer's own. -/
namespace Go.Proofs.YtihhabidfcgogaaDoor
open Go.RowKit
set_option linter.unusedVariables false

/-- All cells anew: what stands there, and what may have turned. -/
theorem setAll {wi : World} {g : Nat} {cur : Array Value} {T : TypeId} (vs : List Value) (h : wi.heap[g]? = some (.cells cur T (0, 0))) (hs : cur.size = vs.length) : (wi.setCells g 0 vs).heap[g]? = some (.cells vs.toArray T (0, 0)) ∧ wi.grownBy (wi.setCells g 0 vs) (some g) := ⟨heap_setAll g T vs wi cur h hs, grown_setCells _ _ _ _⟩
theorem boxes2 (w : World) (x y : Array Value) (t u : TypeId) : Below w.heap.size w ((w.alloc (.cells x t)).alloc (.cells y u)) ∧ ((w.alloc (.cells x t)).alloc (.cells y u)).heap[w.heap.size]? = some (.cells x t (0, 0)) ∧ ((w.alloc (.cells x t)).alloc (.cells y u)).heap[w.heap.size + 1]? = some (.cells y u (0, 0)) := by
  refine ⟨((Below.refl _ _).alloc (Nat.le_refl _) _).alloc (by simp) _, ?_, ?_⟩
  · rw [heap_alloc_old _ _ (by simp)]
    exact heap_alloc_new w _
  · have := heap_alloc_new (w.alloc (.cells x t)) (.cells y u)
    simpa using this
/-- What is kept of a box, and of the result's, by a call. -/
structure BoxF (w w1 : World) (x y : Array Value) (t : TypeId) : Prop where
  bel : Below w.heap.size w w1
  box : w1.heap[w.heap.size]? = some (.cells x t (0, 0))
  res : w1.heap[w.heap.size + 1]? = some (.cells y t (0, 0))
theorem boxF_start (w : World) (x y : Array Value) (t : TypeId) : BoxF w ((w.alloc (.cells x t)).alloc (.cells y t)) x y t := ⟨(boxes2 w x y t t).1, (boxes2 w x y t t).2.1, (boxes2 w x y t t).2.2⟩
theorem BoxF.below {w w1 w2 : World} {x y : Array Value} {t : TypeId} (h : BoxF w w1 x y t) (hb : Below w1.heap.size w1 w2) : BoxF w w2 x y t := by
  have h2 : w.heap.size + 1 < w1.heap.size := (Array.getElem?_eq_some_iff.1 h.res).1
  exact ⟨h.bel.trans (hb.mono h.bel.size), by rw [hb.block _ (by omega)]; exact h.box, by rw [hb.block _ h2]; exact h.res⟩
theorem BoxF.set {w w1 : World} {x y : Array Value} {t : TypeId} (h : BoxF w w1 x y t) (i : Nat) (v : Value) : BoxF w (w1.setCell ⟨w.heap.size, i, none⟩ v) (x.setIfInBounds i v) y t :=
  ⟨h.bel.setCell (Nat.le_refl _) v, heap_setCell_same w1 _ i x t v h.box, (Below.heap_setCell w1 ⟨w.heap.size, i, none⟩ v _ (by show w.heap.size + 1 ≠ w.heap.size; omega)).trans h.res⟩
theorem BoxF.same {w w1 : World} {x y : Array Value} {t : TypeId} (h : BoxF w w1 x y t) {i : Nat} {v : Value} (hv : x[i]? = some v) : w1.setCell ⟨w.heap.size, i, none⟩ v = w1 := setCell_same h.box hv
theorem BoxF.at {w w1 : World} {x y : Array Value} {t : TypeId} (h : BoxF w w1 x y t) (i : Nat) {v : Value} (hv : x[i]? = some v) : w1.cell? ⟨w.heap.size, i, none⟩ = some v := (cell_of h.box).trans hv
/-- What a function answers whose result lies in a block. -/
theorem res_cell {P : Program} {fn : Func} {tmps : Array Value} {W : World} {a : Tmp} {t u : TypeId} {g : Nat} {vs : List Value} {k : Nat} (hf : fn.results = #[.cell a t]) (hp : tmps.getD a undef = .pointer (some ⟨g, 0, none⟩)) (ha : ∀ w, (isAgg t).run P w = .ok true w) (hs : ∀ w, (Go.sizeOf t).run P w = .ok k w) (hk : vs.length = k) (h : W.heap[g]? = some (.cells vs.toArray u (0, 0))) :
    (results fn tmps).run P W = .ok (.agg vs.toArray) W := by
  have hl := run_loadCellsFrom_list P W ⟨g, 0, none⟩ vs k hk (fun i v hi => by
    rw [Addr.add_lit, Nat.zero_add, cell_of h]
    simpa using hi)
  simp only [Array.getD_eq_getD_getElem?] at hp
  unfold results
  rw [hf]
  simp [hp, loadVar, ha, hs, asAddr, loadCells, hl]
end Go.Proofs.YtihhabidfcgogaaDoor

/- An origin that shares nothing with another one, by the program. -/
namespace Go.Proofs.YtihhabidfcgogaaDoor
open Go.RowKit
set_option linter.unusedVariables false

set_option maxRecDepth 100000 in
set_option maxHeartbeats 2000000 in
theorem fresh9_any (sec : Bool) (host : ByteArray) (port : Int) (ho : host.size ≤ 140737488355328) (w : World) :
    Calls Tryd.prog 46 #[.agg #[.bool sec, .string host, .int .i64 port]] w fun e w' => e = .returned (.agg #[.bool sec, .string host, .int .i64 port]) ∧ Below w.heap.size w w' := by
  have hb0 : Below w.heap.size w ((w.alloc (.cells #[.bool sec, .string host, .int .i64 port] 31)).alloc (.cells #[.bool false, .string ⟨#[]⟩, .int .i64 0] 31)) := ((Below.refl _ _).alloc (Nat.le_refl _) _).alloc (by simp) _
  have h1 : ((w.alloc (.cells #[.bool sec, .string host, .int .i64 port] 31)).alloc (.cells #[.bool false, .string ⟨#[]⟩, .int .i64 0] 31)).heap[w.heap.size]? = some (.cells #[.bool sec, .string host, .int .i64 port] 31 (0, 0)) := by
    rw [heap_alloc_old _ _ (by simp)]
    exact heap_alloc_new w _
  have h2 : ((w.alloc (.cells #[.bool sec, .string host, .int .i64 port] 31)).alloc (.cells #[.bool false, .string ⟨#[]⟩, .int .i64 0] 31)).heap[w.heap.size + 1]? = some (.cells #[.bool false, .string ⟨#[]⟩, .int .i64 0] 31 (0, 0)) := by
    have := heap_alloc_new (w.alloc (.cells #[.bool sec, .string host, .int .i64 port] 31)) (.cells #[.bool false, .string ⟨#[]⟩, .int .i64 0] 31)
    simpa using this
  have HW : Hid (Below w.heap.size w ((w.alloc (.cells #[.bool sec, .string host, .int .i64 port] 31)).alloc (.cells #[.bool false, .string ⟨#[]⟩, .int .i64 0] 31)) ∧ _ ∧ _) := ⟨hb0, h1, h2⟩
  clear hb0 h1 h2
  go_enter Tryd.func46, Tryd.ntmps46
  go_wp2_with fail
  refine (cloneS_any _ ho _).mono ?_
  rintro e w1 ⟨rfl, hb1⟩
  have HB : Hid (Below w.heap.size w w1 ∧ w1.heap[w.heap.size]? = some (.cells #[.bool sec, .string host, .int .i64 port] 31 (0, 0)) ∧ w1.heap[w.heap.size + 1]? = some (.cells #[.bool false, .string ⟨#[]⟩, .int .i64 0] 31 (0, 0))) :=
    ⟨HW.out.1.trans (hb1.mono HW.out.1.size), by rw [hb1.block _ (by simp; omega)]; exact HW.out.2.1, by rw [hb1.block _ (by simp)]; exact HW.out.2.2⟩
  clear hb1 HW
  have c0 := cell_of (i := 0) HB.out.2.1
  have c1 := cell_of (i := 1) HB.out.2.1
  have c2 := cell_of (i := 2) HB.out.2.1
  have d0 := cell_of (i := 0) HB.out.2.2
  have d1 := cell_of (i := 1) HB.out.2.2
  have d2 := cell_of (i := 2) HB.out.2.2
  have f0 := free_of HB.out.2.1
  have f1 := free_of HB.out.2.2
  have s1 : w1.setCell ⟨w.heap.size, 1, none⟩ (.string host) = w1 := setCell_same HB.out.2.1 rfl
  simp only [List.getElem?_toArray, List.getElem?_cons_zero, List.getElem?_cons_succ] at c0 c1 c2 d0 d1 d2
  go_wp2
  obtain ⟨z1, z2⟩ := setAll [.bool sec, .string host, .int .i64 port] HB.out.2.2 rfl
  simp only [World.setCells, Nat.reduceAdd] at z1 z2
  have e0 := cell_of (i := 0) z1
  have e1 := cell_of (i := 1) z1
  have e2 := cell_of (i := 2) z1
  simp only [List.getElem?_toArray, List.getElem?_cons_zero, List.getElem?_cons_succ] at e0 e1 e2
  exact bodyPost_ret (v := .agg #[.bool sec, .string host, .int .i64 port]) (by simp [results, Tryd.f46, go_sem, e0, e1, e2]) rfl ⟨rfl, HB.out.1.grown z2 HB.out.1.size (fun i hi => by injection hi with hi; omega)⟩
end Go.Proofs.YtihhabidfcgogaaDoor

/- A block of an argument's, and one of an answer's that is written into. -/
namespace Go.Proofs.YtihhabidfcgogaaDoor
open Go.RowKit

structure BoxG (w : World) (x : Array Value) (n : Nat) (t : TypeId) (W : World) : Prop where
  bel : Below w.heap.size w W
  box : W.heap[w.heap.size]? = some (.cells x t (0, 0))
  res : ∃ y : Array Value, y.size = n ∧ W.heap[w.heap.size + 1]? = some (.cells y t (0, 0))
theorem BoxG.below {w w1 w2 : World} {x : Array Value} {n : Nat} {t : TypeId} (h : BoxG w x n t w1) (hb : Below w1.heap.size w1 w2) : BoxG w x n t w2 := by
  obtain ⟨y, hy, hr⟩ := h.res
  have h2 : w.heap.size + 1 < w1.heap.size := (Array.getElem?_eq_some_iff.1 hr).1
  exact ⟨h.bel.trans (hb.mono h.bel.size), by rw [hb.block _ (by omega)]; exact h.box, y, hy, by rw [hb.block _ h2]; exact hr⟩
theorem BoxG.at {w w1 : World} {x : Array Value} {n : Nat} {t : TypeId} (h : BoxG w x n t w1) (i : Nat) {v : Value} (hv : x[i]? = some v) : w1.cell? ⟨w.heap.size, i, none⟩ = some v := (cell_of h.box).trans hv
theorem BoxG.of {w w1 : World} {x y : Array Value} {t : TypeId} (h : BoxF w w1 x y t) : BoxG w x y.size t w1 := ⟨h.bel, h.box, y, rfl, h.res⟩
theorem BoxG.store {w w1 : World} {x : Array Value} {n : Nat} {t : TypeId} (h : BoxG w x n t w1) (vs : List Value) (hn : vs.length = n) :
    BoxG w x n t (w1.setCells (w.heap.size + 1) 0 vs) ∧ (w1.setCells (w.heap.size + 1) 0 vs).heap[w.heap.size + 1]? = some (.cells vs.toArray t (0, 0)) := by
  obtain ⟨y, hy, hr⟩ := h.res
  obtain ⟨z1, z2⟩ := setAll vs hr (by omega)
  have h2 : w.heap.size < w1.heap.size := (Array.getElem?_eq_some_iff.1 h.box).1
  exact ⟨⟨h.bel.grown z2 h.bel.size (fun i hi => by injection hi with hi; omega), by rw [z2.block _ h2 (by simp)]; exact h.box, _, by simpa using hn, z1⟩, z1⟩
theorem BoxG.frees {w w1 : World} {x : Array Value} {n : Nat} {t : TypeId} (h : BoxG w x n t w1) (i : Nat) : w1.frozen? ⟨w.heap.size + 1, i, none⟩ = false := by
  obtain ⟨y, hy, hr⟩ := h.res
  exact free_of hr i
theorem BoxG.some {w w1 : World} {x : Array Value} {n : Nat} {t : TypeId} (h : BoxG w x n t w1) (i : Nat) (hi : i < n) : ∃ v, w1.cell? ⟨w.heap.size + 1, i, none⟩ = some v := by
  obtain ⟨y, hy, hr⟩ := h.res
  exact ⟨y[i]'(by omega), (cell_of hr).trans (Array.getElem?_eq_getElem (by omega))⟩
end Go.Proofs.YtihhabidfcgogaaDoor

/- A URL that shares nothing with another one, by the program. -/
namespace Go.Proofs.YtihhabidfcgogaaDoor
open Go.RowKit
set_option linter.unusedVariables false

set_option maxRecDepth 100000 in
set_option maxHeartbeats 4000000 in
theorem freshU9_any (sec : Bool) (host : ByteArray) (port : Int) (pa qu : ByteArray) (h1 : host.size ≤ 140737488355328) (h2 : pa.size ≤ 140737488355328) (h3 : qu.size ≤ 140737488355328) (w : World) :
    Calls Tryd.prog 47 #[.agg #[.bool sec, .string host, .int .i64 port, .string pa, .string qu]] w fun e w' => e = .returned (.agg #[.bool sec, .string host, .int .i64 port, .string pa, .string qu]) ∧ Below w.heap.size w w' := by
  have hd := BoxG.of ((boxF_start w #[.bool sec, .string host, .int .i64 port, .string pa, .string qu] #[.bool false, .string ⟨#[]⟩, .int .i64 0, .string ⟨#[]⟩, .string ⟨#[]⟩] 33).below (Below.refl _ _).drew)
  have hQ : ((w.alloc (.cells #[.bool sec, .string host, .int .i64 port, .string pa, .string qu] 33)).alloc (.cells #[.bool false, .string ⟨#[]⟩, .int .i64 0, .string ⟨#[]⟩, .string ⟨#[]⟩] 33)).drew.cell? ⟨w.heap.size, 0, none⟩ = some (.bool sec) ∧ ((w.alloc (.cells #[.bool sec, .string host, .int .i64 port, .string pa, .string qu] 33)).alloc (.cells #[.bool false, .string ⟨#[]⟩, .int .i64 0, .string ⟨#[]⟩, .string ⟨#[]⟩] 33)).drew.cell? ⟨w.heap.size, 1, none⟩ = some (.string host) ∧ ((w.alloc (.cells #[.bool sec, .string host, .int .i64 port, .string pa, .string qu] 33)).alloc (.cells #[.bool false, .string ⟨#[]⟩, .int .i64 0, .string ⟨#[]⟩, .string ⟨#[]⟩] 33)).drew.cell? ⟨w.heap.size, 2, none⟩ = some (.int .i64 port) ∧ ((w.alloc (.cells #[.bool sec, .string host, .int .i64 port, .string pa, .string qu] 33)).alloc (.cells #[.bool false, .string ⟨#[]⟩, .int .i64 0, .string ⟨#[]⟩, .string ⟨#[]⟩] 33)).drew.cell? ⟨w.heap.size, 3, none⟩ = some (.string pa) ∧ ((w.alloc (.cells #[.bool sec, .string host, .int .i64 port, .string pa, .string qu] 33)).alloc (.cells #[.bool false, .string ⟨#[]⟩, .int .i64 0, .string ⟨#[]⟩, .string ⟨#[]⟩] 33)).drew.cell? ⟨w.heap.size, 4, none⟩ = some (.string qu) ∧ Hid (BoxG w #[.bool sec, .string host, .int .i64 port, .string pa, .string qu] 5 33 ((w.alloc (.cells #[.bool sec, .string host, .int .i64 port, .string pa, .string qu] 33)).alloc (.cells #[.bool false, .string ⟨#[]⟩, .int .i64 0, .string ⟨#[]⟩, .string ⟨#[]⟩] 33)).drew) := ⟨hd.at 0 rfl, hd.at 1 rfl, hd.at 2 rfl, hd.at 3 rfl, hd.at 4 rfl, hd⟩
  clear hd
  go_enter Tryd.func47, Tryd.ntmps47
  go_upto_region 1 with fail
  generalize hW0 : ((w.alloc (.cells #[.bool sec, .string host, .int .i64 port, .string pa, .string qu] 33)).alloc (.cells #[.bool false, .string ⟨#[]⟩, .int .i64 0, .string ⟨#[]⟩, .string ⟨#[]⟩] 33)) = W0 at hQ ⊢
  clear hW0
  go_region_held3 (fun W => W.cell? ⟨w.heap.size, 0, none⟩ = some (.bool sec) ∧ W.cell? ⟨w.heap.size, 1, none⟩ = some (.string host) ∧ W.cell? ⟨w.heap.size, 2, none⟩ = some (.int .i64 port) ∧ W.cell? ⟨w.heap.size, 3, none⟩ = some (.string pa) ∧ W.cell? ⟨w.heap.size, 4, none⟩ = some (.string qu) ∧ Hid (BoxG w #[.bool sec, .string host, .int .i64 port, .string pa, .string qu] 5 33 W)) (with_reducible assumption) (first
    | (go_at_call 39; refine (cloneS_any qu h3 _).mono ?_; rintro e w3 ⟨rfl, hb3⟩; have H3 := (show BoxG _ _ _ _ _ from hQ2.2.2.2.2.2.out).below hb3; have hQ3 : w3.cell? ⟨w.heap.size, 0, none⟩ = some (.bool sec) ∧ w3.cell? ⟨w.heap.size, 1, none⟩ = some (.string host) ∧ w3.cell? ⟨w.heap.size, 2, none⟩ = some (.int .i64 port) ∧ w3.cell? ⟨w.heap.size, 3, none⟩ = some (.string pa) ∧ w3.cell? ⟨w.heap.size, 4, none⟩ = some (.string qu) ∧ Hid (BoxG w #[.bool sec, .string host, .int .i64 port, .string pa, .string qu] 5 33 w3) := ⟨H3.at 0 rfl, H3.at 1 rfl, H3.at 2 rfl, H3.at 3 rfl, H3.at 4 rfl, H3⟩; have f3 := H3.frees; obtain ⟨y0, d0⟩ := H3.some 0 (by decide); obtain ⟨y1, d1⟩ := H3.some 1 (by decide); obtain ⟨y2, d2⟩ := H3.some 2 (by decide); obtain ⟨y3, d3⟩ := H3.some 3 (by decide); obtain ⟨y4, d4⟩ := H3.some 4 (by decide); have H4 := H3.store [.bool sec, .string host, .int .i64 port, .string pa, .string qu] rfl; simp only [World.setCells, Nat.reduceAdd, Nat.zero_add] at H4; have HZ : Hid ((((((w3.setCell ⟨w.heap.size + 1, 0, none⟩ (.bool sec)).setCell ⟨w.heap.size + 1, 1, none⟩ (.string host)).setCell ⟨w.heap.size + 1, 2, none⟩ (.int .i64 port)).setCell ⟨w.heap.size + 1, 3, none⟩ (.string pa)).setCell ⟨w.heap.size + 1, 4, none⟩ (.string qu)).heap[w.heap.size + 1]? = some (.cells #[.bool sec, .string host, .int .i64 port, .string pa, .string qu] 33 (0, 0))) := H4.2; have hQ4 : (((((w3.setCell ⟨w.heap.size + 1, 0, none⟩ (.bool sec)).setCell ⟨w.heap.size + 1, 1, none⟩ (.string host)).setCell ⟨w.heap.size + 1, 2, none⟩ (.int .i64 port)).setCell ⟨w.heap.size + 1, 3, none⟩ (.string pa)).setCell ⟨w.heap.size + 1, 4, none⟩ (.string qu)).cell? ⟨w.heap.size, 0, none⟩ = some (.bool sec) ∧ (((((w3.setCell ⟨w.heap.size + 1, 0, none⟩ (.bool sec)).setCell ⟨w.heap.size + 1, 1, none⟩ (.string host)).setCell ⟨w.heap.size + 1, 2, none⟩ (.int .i64 port)).setCell ⟨w.heap.size + 1, 3, none⟩ (.string pa)).setCell ⟨w.heap.size + 1, 4, none⟩ (.string qu)).cell? ⟨w.heap.size, 1, none⟩ = some (.string host) ∧ (((((w3.setCell ⟨w.heap.size + 1, 0, none⟩ (.bool sec)).setCell ⟨w.heap.size + 1, 1, none⟩ (.string host)).setCell ⟨w.heap.size + 1, 2, none⟩ (.int .i64 port)).setCell ⟨w.heap.size + 1, 3, none⟩ (.string pa)).setCell ⟨w.heap.size + 1, 4, none⟩ (.string qu)).cell? ⟨w.heap.size, 2, none⟩ = some (.int .i64 port) ∧ (((((w3.setCell ⟨w.heap.size + 1, 0, none⟩ (.bool sec)).setCell ⟨w.heap.size + 1, 1, none⟩ (.string host)).setCell ⟨w.heap.size + 1, 2, none⟩ (.int .i64 port)).setCell ⟨w.heap.size + 1, 3, none⟩ (.string pa)).setCell ⟨w.heap.size + 1, 4, none⟩ (.string qu)).cell? ⟨w.heap.size, 3, none⟩ = some (.string pa) ∧ (((((w3.setCell ⟨w.heap.size + 1, 0, none⟩ (.bool sec)).setCell ⟨w.heap.size + 1, 1, none⟩ (.string host)).setCell ⟨w.heap.size + 1, 2, none⟩ (.int .i64 port)).setCell ⟨w.heap.size + 1, 3, none⟩ (.string pa)).setCell ⟨w.heap.size + 1, 4, none⟩ (.string qu)).cell? ⟨w.heap.size, 4, none⟩ = some (.string qu) ∧ Hid (BoxG w #[.bool sec, .string host, .int .i64 port, .string pa, .string qu] 5 33 (((((w3.setCell ⟨w.heap.size + 1, 0, none⟩ (.bool sec)).setCell ⟨w.heap.size + 1, 1, none⟩ (.string host)).setCell ⟨w.heap.size + 1, 2, none⟩ (.int .i64 port)).setCell ⟨w.heap.size + 1, 3, none⟩ (.string pa)).setCell ⟨w.heap.size + 1, 4, none⟩ (.string qu))) := ⟨H4.1.at 0 rfl, H4.1.at 1 rfl, H4.1.at 2 rfl, H4.1.at 3 rfl, H4.1.at 4 rfl, H4.1⟩; clear H4; clear H3 hb3)
    | (go_at_call 39; refine (cloneS_any pa h2 _).mono ?_; rintro e w2 ⟨rfl, hb2⟩; have H2 := (show BoxG _ _ _ _ _ from hQ1.2.2.2.2.2.out).below hb2; have hQ2 : w2.cell? ⟨w.heap.size, 0, none⟩ = some (.bool sec) ∧ w2.cell? ⟨w.heap.size, 1, none⟩ = some (.string host) ∧ w2.cell? ⟨w.heap.size, 2, none⟩ = some (.int .i64 port) ∧ w2.cell? ⟨w.heap.size, 3, none⟩ = some (.string pa) ∧ w2.cell? ⟨w.heap.size, 4, none⟩ = some (.string qu) ∧ Hid (BoxG w #[.bool sec, .string host, .int .i64 port, .string pa, .string qu] 5 33 w2) := ⟨H2.at 0 rfl, H2.at 1 rfl, H2.at 2 rfl, H2.at 3 rfl, H2.at 4 rfl, H2⟩; clear H2 hb2)
    | (go_at_call 46; refine (fresh9_any sec host port h1 _).mono ?_; rintro e w1 ⟨rfl, hb1⟩; have H1 := (show BoxG _ _ _ _ _ from hQ.2.2.2.2.2.out).below hb1; have hQ1 : w1.cell? ⟨w.heap.size, 0, none⟩ = some (.bool sec) ∧ w1.cell? ⟨w.heap.size, 1, none⟩ = some (.string host) ∧ w1.cell? ⟨w.heap.size, 2, none⟩ = some (.int .i64 port) ∧ w1.cell? ⟨w.heap.size, 3, none⟩ = some (.string pa) ∧ w1.cell? ⟨w.heap.size, 4, none⟩ = some (.string qu) ∧ Hid (BoxG w #[.bool sec, .string host, .int .i64 port, .string pa, .string qu] 5 33 w1) := ⟨H1.at 0 rfl, H1.at 1 rfl, H1.at 2 rfl, H1.at 3 rfl, H1.at 4 rfl, H1⟩; clear H1 hb1))
  go_wp2_with fail
  exact bodyPost_ret (v := .agg #[.bool sec, .string host, .int .i64 port, .string pa, .string qu]) (res_cell rfl rfl Tryd.isAgg33 Tryd.sizeOf33 rfl HZ.out) rfl ⟨rfl, (show BoxG _ _ _ _ _ from hQ4.2.2.2.2.2.out).bel⟩
end Go.Proofs.YtihhabidfcgogaaDoor

/- A region driven by hand: an operation taken first. -/
namespace Go.Proofs.YtihhabidfcgogaaDoor
open Go.RowKit

section
variable {P : Program} {ops : Array Oper} {Q : Exit → Act → World → Prop} {md : Region.Mode} {S : World → Prop}
theorem takeH {i : Nat} {oi : Oper} {d : Option Tmp} {v : Value} {fuel : Nat} {listed : Array Bool} {a : Act} {w : World} (hi : ops[i]? = some oi) (hd : oi.dst = d)
    (hs : Region.noSelect ops = true) (hf : Region.free md ops listed i = true) (hr : (Region.ready md ops listed).contains i = true)
    (hQ : ∀ c a w, Q (.panic c) (a.put oi.dst v) w → Q (.panic c) a w) (hw : Region.wanted oi (yielded ops a.tmps) = true) (hy : ∀ w, S w → (execOp a.eval oi).run P w = .ok (.value v) w) (hS : S w)
    (h : wpAnyH P md ops Q S fuel (listed.setIfInBounds i true) (a.put d v) w) : wpAnyH P md ops Q S (fuel + 1) listed a w := by
  subst hd
  exact wpAnyH_take hi hs hf hr hQ (Or.inl ⟨hw, hy⟩) hS h
theorem skipH {i : Nat} {oi : Oper} {d : Option Tmp} {fuel : Nat} {listed : Array Bool} {a : Act} {w : World} (hi : ops[i]? = some oi) (hd : oi.dst = d)
    (hs : Region.noSelect ops = true) (hf : Region.free md ops listed i = true) (hr : (Region.ready md ops listed).contains i = true)
    (hQ : ∀ c a w, Q (.panic c) (a.put oi.dst undef) w → Q (.panic c) a w) (hw : Region.wanted oi (yielded ops a.tmps) = false) (hS : S w)
    (h : wpAnyH P md ops Q S fuel (listed.setIfInBounds i true) (a.put d undef) w) : wpAnyH P md ops Q S (fuel + 1) listed a w := by
  subst hd
  exact wpAnyH_take hi hs hf hr hQ (Or.inr ⟨hw, rfl⟩) hS h
end
end Go.Proofs.YtihhabidfcgogaaDoor

/- A pass that shares nothing with another one, by the program. -/
namespace Go.Proofs.YtihhabidfcgogaaDoor
open Go.RowKit
set_option linter.unusedVariables false

/-- The texts of a pass are no longer than any machine's. -/
structure Wee (p : PsV) : Prop where
  h1 : p.fh.size ≤ 140737488355328
  h2 : p.uh.size ≤ 140737488355328
  h3 : p.pa.size ≤ 140737488355328
  h4 : p.qu.size ≤ 140737488355328
  h5 : p.me.size ≤ 140737488355328
  h6 : p.he.size ≤ 140737488355328
theorem BoxG.free0 {w w1 : World} {x : Array Value} {n : Nat} {t : TypeId} (h : BoxG w x n t w1) (i : Nat) : w1.frozen? ⟨w.heap.size, i, none⟩ = false := free_of h.box i
set_option maxRecDepth 100000 in
set_option maxHeartbeats 8000000 in
theorem freshP_any (p : PsV) (hp : Wee p) (w : World) :
    Calls Tryd.prog 28 #[.agg #[.bool p.fs, .string p.fh, .int .i64 p.fp, .bool p.us, .string p.uh, .int .i64 p.up, .string p.pa, .string p.qu, .bool p.wi, .string p.me, .string p.he, .int .i64 p.un]] w fun e w' => e = .returned (.agg #[.bool p.fs, .string p.fh, .int .i64 p.fp, .bool p.us, .string p.uh, .int .i64 p.up, .string p.pa, .string p.qu, .bool p.wi, .string p.me, .string p.he, .int .i64 p.un]) ∧ Below w.heap.size w w' := by
  obtain ⟨X0, hX0⟩ : ∃ X0 : Array Value, X0 = #[.bool p.fs, .string p.fh, .int .i64 p.fp, .bool p.us, .string p.uh, .int .i64 p.up, .string p.pa, .string p.qu, .bool p.wi, .string p.me, .string p.he, .int .i64 p.un] := ⟨_, rfl⟩
  have hP : BoxG w X0 12 35 ((w.alloc (.cells #[.bool p.fs, .string p.fh, .int .i64 p.fp, .bool p.us, .string p.uh, .int .i64 p.up, .string p.pa, .string p.qu, .bool p.wi, .string p.me, .string p.he, .int .i64 p.un] 35)).alloc (.cells #[.bool false, .string ⟨#[]⟩, .int .i64 0, .bool false, .string ⟨#[]⟩, .int .i64 0, .string ⟨#[]⟩, .string ⟨#[]⟩, .bool false, .string ⟨#[]⟩, .string ⟨#[]⟩, .int .i64 0] 35)) := by rw [hX0]; exact BoxG.of (boxF_start w _ #[.bool false, .string ⟨#[]⟩, .int .i64 0, .bool false, .string ⟨#[]⟩, .int .i64 0, .string ⟨#[]⟩, .string ⟨#[]⟩, .bool false, .string ⟨#[]⟩, .string ⟨#[]⟩, .int .i64 0] 35)
  have hC : ∀ W, BoxG w X0 12 35 W → W.cell? ⟨w.heap.size, 0, none⟩ = some (.bool p.fs) ∧ W.cell? ⟨w.heap.size, 1, none⟩ = some (.string p.fh) ∧ W.cell? ⟨w.heap.size, 2, none⟩ = some (.int .i64 p.fp) ∧ W.cell? ⟨w.heap.size, 3, none⟩ = some (.bool p.us) ∧ W.cell? ⟨w.heap.size, 4, none⟩ = some (.string p.uh) ∧ W.cell? ⟨w.heap.size, 5, none⟩ = some (.int .i64 p.up) ∧ W.cell? ⟨w.heap.size, 6, none⟩ = some (.string p.pa) ∧ W.cell? ⟨w.heap.size, 7, none⟩ = some (.string p.qu) ∧ W.cell? ⟨w.heap.size, 8, none⟩ = some (.bool p.wi) ∧ W.cell? ⟨w.heap.size, 9, none⟩ = some (.string p.me) ∧ W.cell? ⟨w.heap.size, 10, none⟩ = some (.string p.he) ∧ W.cell? ⟨w.heap.size, 11, none⟩ = some (.int .i64 p.un) := fun W h => by subst hX0; exact ⟨h.at 0 rfl, h.at 1 rfl, h.at 2 rfl, h.at 3 rfl, h.at 4 rfl, h.at 5 rfl, h.at 6 rfl, h.at 7 rfl, h.at 8 rfl, h.at 9 rfl, h.at 10 rfl, h.at 11 rfl⟩
  have hF : ∀ W, BoxG w X0 12 35 W → W.frozen? ⟨w.heap.size, 0, none⟩ = false ∧ W.frozen? ⟨w.heap.size, 1, none⟩ = false ∧ W.frozen? ⟨w.heap.size, 2, none⟩ = false ∧ W.frozen? ⟨w.heap.size, 3, none⟩ = false ∧ W.frozen? ⟨w.heap.size, 4, none⟩ = false ∧ W.frozen? ⟨w.heap.size, 5, none⟩ = false ∧ W.frozen? ⟨w.heap.size, 6, none⟩ = false ∧ W.frozen? ⟨w.heap.size, 7, none⟩ = false ∧ W.frozen? ⟨w.heap.size, 8, none⟩ = false ∧ W.frozen? ⟨w.heap.size, 9, none⟩ = false ∧ W.frozen? ⟨w.heap.size, 10, none⟩ = false ∧ W.frozen? ⟨w.heap.size, 11, none⟩ = false := fun W h => ⟨h.free0 0, h.free0 1, h.free0 2, h.free0 3, h.free0 4, h.free0 5, h.free0 6, h.free0 7, h.free0 8, h.free0 9, h.free0 10, h.free0 11⟩
  have hS : ∀ W, BoxG w X0 12 35 W → W.setCell ⟨w.heap.size, 0, none⟩ (.bool p.fs) = W ∧ W.setCell ⟨w.heap.size, 1, none⟩ (.string p.fh) = W ∧ W.setCell ⟨w.heap.size, 2, none⟩ (.int .i64 p.fp) = W ∧ W.setCell ⟨w.heap.size, 3, none⟩ (.bool p.us) = W ∧ W.setCell ⟨w.heap.size, 4, none⟩ (.string p.uh) = W ∧ W.setCell ⟨w.heap.size, 5, none⟩ (.int .i64 p.up) = W ∧ W.setCell ⟨w.heap.size, 6, none⟩ (.string p.pa) = W ∧ W.setCell ⟨w.heap.size, 7, none⟩ (.string p.qu) = W ∧ W.setCell ⟨w.heap.size, 8, none⟩ (.bool p.wi) = W ∧ W.setCell ⟨w.heap.size, 9, none⟩ (.string p.me) = W ∧ W.setCell ⟨w.heap.size, 10, none⟩ (.string p.he) = W ∧ W.setCell ⟨w.heap.size, 11, none⟩ (.int .i64 p.un) = W := fun W h => by subst hX0; exact ⟨setCell_same h.box rfl, setCell_same h.box rfl, setCell_same h.box rfl, setCell_same h.box rfl, setCell_same h.box rfl, setCell_same h.box rfl, setCell_same h.box rfl, setCell_same h.box rfl, setCell_same h.box rfl, setCell_same h.box rfl, setCell_same h.box rfl, setCell_same h.box rfl⟩
  have HXO : Hid (X0 = #[.bool p.fs, .string p.fh, .int .i64 p.fp, .bool p.us, .string p.uh, .int .i64 p.up, .string p.pa, .string p.qu, .bool p.wi, .string p.me, .string p.he, .int .i64 p.un]) := hX0
  clear hX0
  have hb1 : ∀ W, BoxG w X0 12 35 W → (W.cell? ⟨w.heap.size, 0, none⟩ = some (.bool p.fs) ∧ W.cell? ⟨w.heap.size, 1, none⟩ = some (.string p.fh) ∧ W.cell? ⟨w.heap.size, 2, none⟩ = some (.int .i64 p.fp) ∧ W.cell? ⟨w.heap.size, 3, none⟩ = some (.bool p.us) ∧ W.cell? ⟨w.heap.size, 4, none⟩ = some (.string p.uh) ∧ W.cell? ⟨w.heap.size, 5, none⟩ = some (.int .i64 p.up) ∧ W.cell? ⟨w.heap.size, 6, none⟩ = some (.string p.pa) ∧ W.cell? ⟨w.heap.size, 7, none⟩ = some (.string p.qu) ∧ Hid (BoxG w X0 12 35 W)) := fun W h => ⟨(hC W h).1, (hC W h).2.1, (hC W h).2.2.1, (hC W h).2.2.2.1, (hC W h).2.2.2.2.1, (hC W h).2.2.2.2.2.1, (hC W h).2.2.2.2.2.2.1, (hC W h).2.2.2.2.2.2.2.1, h⟩
  have hb2 : ∀ W, BoxG w X0 12 35 W → (W.cell? ⟨w.heap.size, 9, none⟩ = some (.string p.me) ∧ W.cell? ⟨w.heap.size, 10, none⟩ = some (.string p.he) ∧ Hid (BoxG w X0 12 35 W)) := fun W h => ⟨(hC W h).2.2.2.2.2.2.2.2.2.1, (hC W h).2.2.2.2.2.2.2.2.2.2.1, h⟩
  go_enter Tryd.func28, Tryd.ntmps28
  go_upto_region 1 with fail
  generalize hW0 : ((w.alloc (.cells #[.bool p.fs, .string p.fh, .int .i64 p.fp, .bool p.us, .string p.uh, .int .i64 p.up, .string p.pa, .string p.qu, .bool p.wi, .string p.me, .string p.he, .int .i64 p.un] 35)).alloc (.cells #[.bool false, .string ⟨#[]⟩, .int .i64 0, .bool false, .string ⟨#[]⟩, .int .i64 0, .string ⟨#[]⟩, .string ⟨#[]⟩, .bool false, .string ⟨#[]⟩, .string ⟨#[]⟩, .int .i64 0] 35)) = W0 at hP ⊢
  clear hW0
  have P0 : Hid (BoxG w X0 12 35 W0.drew) := BoxG.below hP (Below.refl _ _).drew
  clear hP
  refine wp_region_held_drew (S := fun W => W.cell? ⟨w.heap.size, 0, none⟩ = some (.bool p.fs) ∧ W.cell? ⟨w.heap.size, 1, none⟩ = some (.string p.fh) ∧ W.cell? ⟨w.heap.size, 2, none⟩ = some (.int .i64 p.fp) ∧ W.cell? ⟨w.heap.size, 3, none⟩ = some (.bool p.us) ∧ W.cell? ⟨w.heap.size, 4, none⟩ = some (.string p.uh) ∧ W.cell? ⟨w.heap.size, 5, none⟩ = some (.int .i64 p.up) ∧ W.cell? ⟨w.heap.size, 6, none⟩ = some (.string p.pa) ∧ W.cell? ⟨w.heap.size, 7, none⟩ = some (.string p.qu) ∧ Hid (BoxG w X0 12 35 W)) (by kernel_rfl) (hb1 _ (show BoxG w X0 12 35 _ from P0.out)) (fun hHeld => ?_)
  refine takeH (i := 0) (d := some 3) (v := ?_) rfl rfl (by kernel_rfl) (by kernel_rfl) (by kernel_rfl) (fun _ _ _ h => h) (by rfl) ?_ (by assumption) ?_
  rotate_left
  · intro w hSw; (try dsimp only at hSw); obtain ⟨q0, q1, q2, q3, q4, q5, q6, q7, _⟩ := hSw; go_simp; with_reducible rfl
  try simp only [Act.put, List.setIfInBounds_toArray, List.set_cons_zero, List.set_cons_succ]
  refine takeH (i := 3) (d := some 6) (v := ?_) rfl rfl (by kernel_rfl) (by kernel_rfl) (by kernel_rfl) (fun _ _ _ h => h) (by rfl) ?_ (by assumption) ?_
  rotate_left
  · intro w hSw; (try dsimp only at hSw); obtain ⟨q0, q1, q2, q3, q4, q5, q6, q7, _⟩ := hSw; go_simp; with_reducible rfl
  try simp only [Act.put, List.setIfInBounds_toArray, List.set_cons_zero, List.set_cons_succ]
  refine takeH (i := 1) (d := some 4) (v := ?_) rfl rfl (by kernel_rfl) (by kernel_rfl) (by kernel_rfl) (fun _ _ _ h => h) (by rfl) ?_ (by assumption) ?_
  rotate_left
  · intro w hSw; (try dsimp only at hSw); obtain ⟨q0, q1, q2, q3, q4, q5, q6, q7, _⟩ := hSw; go_simp; with_reducible rfl
  try simp only [Act.put, List.setIfInBounds_toArray, List.set_cons_zero, List.set_cons_succ]
  refine takeH (i := 4) (d := some 7) (v := ?_) rfl rfl (by kernel_rfl) (by kernel_rfl) (by kernel_rfl) (fun _ _ _ h => h) (by rfl) ?_ (by assumption) ?_
  rotate_left
  · intro w hSw; (try dsimp only at hSw); obtain ⟨q0, q1, q2, q3, q4, q5, q6, q7, _⟩ := hSw; go_simp; with_reducible rfl
  try simp only [Act.put, List.setIfInBounds_toArray, List.set_cons_zero, List.set_cons_succ]
  refine wpAnyH_ready (rs := [2]) (by kernel_rfl) (by simp) ?_
  refine AllReadyH.cons (by rfl) (fun K hKK => ?_) AllReadyH.nil
  go_simp
  refine (fresh9_any p.fs p.fh p.fp hp.h1 _).mono ?_
  rintro e w1 ⟨rfl, hbw⟩
  have P1 : Hid (BoxG w X0 12 35 w1) := BoxG.below (show BoxG w X0 12 35 _ from P0.out) hbw
  clear hbw
  go_wp2_with fail
  refine hKK.out _ _ (hb1 _ (show BoxG _ _ _ _ _ from P1.out)) (fun hHeld => ?_)
  clear hKK K
  try simp only [Act.put, List.setIfInBounds_toArray, List.set_cons_zero, List.set_cons_succ]
  refine takeH (i := 6) (d := some 9) (v := ?_) rfl rfl (by kernel_rfl) (by kernel_rfl) (by kernel_rfl) (fun _ _ _ h => h) (by rfl) ?_ (by assumption) ?_
  rotate_left
  · intro w hSw; (try dsimp only at hSw); obtain ⟨q0, q1, q2, q3, q4, q5, q6, q7, _⟩ := hSw; go_simp; with_reducible rfl
  try simp only [Act.put, List.setIfInBounds_toArray, List.set_cons_zero, List.set_cons_succ]
  refine wpAnyH_ready (rs := [5]) (by kernel_rfl) (by simp) ?_
  refine AllReadyH.cons (by rfl) (fun K hKK => ?_) AllReadyH.nil
  go_simp
  refine (freshU9_any p.us p.uh p.up p.pa p.qu hp.h2 hp.h3 hp.h4 _).mono ?_
  rintro e w2 ⟨rfl, hbw⟩
  have P2 : Hid (BoxG w X0 12 35 w2) := BoxG.below (show BoxG w X0 12 35 _ from P1.out) hbw
  clear hbw
  go_wp2_with fail
  refine hKK.out _ _ (hb1 _ (show BoxG _ _ _ _ _ from P2.out)) (fun hHeld => ?_)
  clear hKK K
  try simp only [Act.put, List.setIfInBounds_toArray, List.set_cons_zero, List.set_cons_succ]
  obtain ⟨d0, d1, d2, d3, d4, d5, d6, d7, d8, d9, d10, d11⟩ := hC _ (show BoxG w X0 12 35 _ from P2.out)
  obtain ⟨f0, f1, f2, f3, f4, f5, f6, f7, f8, f9, f10, f11⟩ := hF _ (show BoxG w X0 12 35 _ from P2.out)
  obtain ⟨s0, s1, s2, s3, s4, s5, s6, s7, s8, s9, s10, s11⟩ := hS _ (show BoxG w X0 12 35 _ from P2.out)
  refine wpAnyH_ready (rs := [7]) (by kernel_rfl) (by simp) ?_
  refine AllReadyH.cons (by rfl) (fun K hKK => ?_) AllReadyH.nil
  go_simp
  refine hKK.out _ _ (hb1 _ (show BoxG _ _ _ _ _ from P2.out)) (fun hHeld => ?_)
  clear hKK K
  try simp only [Act.put, List.setIfInBounds_toArray, List.set_cons_zero, List.set_cons_succ]
  refine takeH (i := 8) (d := some 10) (v := ?_) rfl rfl (by kernel_rfl) (by kernel_rfl) (by kernel_rfl) (fun _ _ _ h => h) (by rfl) ?_ (by assumption) ?_
  rotate_left
  · intro w hSw; (try dsimp only at hSw); obtain ⟨q0, q1, q2, q3, q4, q5, q6, q7, _⟩ := hSw; go_simp; with_reducible rfl
  try simp only [Act.put, List.setIfInBounds_toArray, List.set_cons_zero, List.set_cons_succ]
  refine wpAnyH_ready (rs := [9]) (by kernel_rfl) (by simp) ?_
  refine AllReadyH.cons (by rfl) (fun K hKK => ?_) AllReadyH.nil
  go_simp
  refine hKK.out _ _ (hb1 _ (show BoxG _ _ _ _ _ from P2.out)) (fun hHeld => ?_)
  clear hKK K
  try simp only [Act.put, List.setIfInBounds_toArray, List.set_cons_zero, List.set_cons_succ]
  clear d0 d1 d2 d3 d4 d5 d6 d7 d8 d9 d10 d11 f0 f1 f2 f3 f4 f5 f6 f7 f8 f9 f10 f11 s0 s1 s2 s3 s4 s5 s6 s7 s8 s9 s10 s11
  refine wpAnyH_done (by kernel_rfl) ?_ _
  clear hb1
  go_upto_region 2 with fail
  have P2d : Hid (BoxG w X0 12 35 _) := BoxG.below (show BoxG w X0 12 35 _ from P2.out) (Below.refl _ _).drew
  refine wp_region_held_drew (S := fun W => W.cell? ⟨w.heap.size, 9, none⟩ = some (.string p.me) ∧ W.cell? ⟨w.heap.size, 10, none⟩ = some (.string p.he) ∧ Hid (BoxG w X0 12 35 W)) (by kernel_rfl) (hb2 _ (show BoxG w X0 12 35 _ from P2d.out)) (fun hHeld => ?_)
  refine takeH (i := 0) (d := some 11) (v := ?_) rfl rfl (by kernel_rfl) (by kernel_rfl) (by kernel_rfl) (fun _ _ _ h => h) (by rfl) ?_ (by assumption) ?_
  rotate_left
  · intro w hSw; (try dsimp only at hSw); obtain ⟨q9, q10, _⟩ := hSw; go_simp; with_reducible rfl
  try simp only [Act.put, List.setIfInBounds_toArray, List.set_cons_zero, List.set_cons_succ]
  refine takeH (i := 3) (d := some 14) (v := ?_) rfl rfl (by kernel_rfl) (by kernel_rfl) (by kernel_rfl) (fun _ _ _ h => h) (by rfl) ?_ (by assumption) ?_
  rotate_left
  · intro w hSw; (try dsimp only at hSw); obtain ⟨q9, q10, _⟩ := hSw; go_simp; with_reducible rfl
  try simp only [Act.put, List.setIfInBounds_toArray, List.set_cons_zero, List.set_cons_succ]
  refine takeH (i := 1) (d := some 12) (v := ?_) rfl rfl (by kernel_rfl) (by kernel_rfl) (by kernel_rfl) (fun _ _ _ h => h) (by rfl) ?_ (by assumption) ?_
  rotate_left
  · intro w hSw; (try dsimp only at hSw); obtain ⟨q9, q10, _⟩ := hSw; go_simp; with_reducible rfl
  try simp only [Act.put, List.setIfInBounds_toArray, List.set_cons_zero, List.set_cons_succ]
  refine takeH (i := 4) (d := some 15) (v := ?_) rfl rfl (by kernel_rfl) (by kernel_rfl) (by kernel_rfl) (fun _ _ _ h => h) (by rfl) ?_ (by assumption) ?_
  rotate_left
  · intro w hSw; (try dsimp only at hSw); obtain ⟨q9, q10, _⟩ := hSw; go_simp; with_reducible rfl
  try simp only [Act.put, List.setIfInBounds_toArray, List.set_cons_zero, List.set_cons_succ]
  refine wpAnyH_ready (rs := [2]) (by kernel_rfl) (by simp) ?_
  refine AllReadyH.cons (by rfl) (fun K hKK => ?_) AllReadyH.nil
  go_simp
  refine (cloneS_any p.me hp.h5 _).mono ?_
  rintro e w3 ⟨rfl, hbw⟩
  have P3 : Hid (BoxG w X0 12 35 w3) := BoxG.below (show BoxG w X0 12 35 _ from P2d.out) hbw
  clear hbw
  go_wp2_with fail
  refine hKK.out _ _ (hb2 _ (show BoxG _ _ _ _ _ from P3.out)) (fun hHeld => ?_)
  clear hKK K
  try simp only [Act.put, List.setIfInBounds_toArray, List.set_cons_zero, List.set_cons_succ]
  refine takeH (i := 6) (d := some 17) (v := ?_) rfl rfl (by kernel_rfl) (by kernel_rfl) (by kernel_rfl) (fun _ _ _ h => h) (by rfl) ?_ (by assumption) ?_
  rotate_left
  · intro w hSw; (try dsimp only at hSw); obtain ⟨q9, q10, _⟩ := hSw; go_simp; with_reducible rfl
  try simp only [Act.put, List.setIfInBounds_toArray, List.set_cons_zero, List.set_cons_succ]
  refine wpAnyH_ready (rs := [5]) (by kernel_rfl) (by simp) ?_
  refine AllReadyH.cons (by rfl) (fun K hKK => ?_) AllReadyH.nil
  go_simp
  refine (cloneS_any p.he hp.h6 _).mono ?_
  rintro e w4 ⟨rfl, hbw⟩
  have P4 : Hid (BoxG w X0 12 35 w4) := BoxG.below (show BoxG w X0 12 35 _ from P3.out) hbw
  clear hbw
  go_wp2_with fail
  refine hKK.out _ _ (hb2 _ (show BoxG _ _ _ _ _ from P4.out)) (fun hHeld => ?_)
  clear hKK K
  try simp only [Act.put, List.setIfInBounds_toArray, List.set_cons_zero, List.set_cons_succ]
  obtain ⟨d0, d1, d2, d3, d4, d5, d6, d7, d8, d9, d10, d11⟩ := hC _ (show BoxG w X0 12 35 _ from P4.out)
  obtain ⟨f0, f1, f2, f3, f4, f5, f6, f7, f8, f9, f10, f11⟩ := hF _ (show BoxG w X0 12 35 _ from P4.out)
  obtain ⟨s0, s1, s2, s3, s4, s5, s6, s7, s8, s9, s10, s11⟩ := hS _ (show BoxG w X0 12 35 _ from P4.out)
  refine wpAnyH_ready (rs := [7]) (by kernel_rfl) (by simp) ?_
  refine AllReadyH.cons (by rfl) (fun K hKK => ?_) AllReadyH.nil
  go_simp
  refine hKK.out _ _ (hb2 _ (show BoxG _ _ _ _ _ from P4.out)) (fun hHeld => ?_)
  clear hKK K
  try simp only [Act.put, List.setIfInBounds_toArray, List.set_cons_zero, List.set_cons_succ]
  refine takeH (i := 8) (d := some 18) (v := ?_) rfl rfl (by kernel_rfl) (by kernel_rfl) (by kernel_rfl) (fun _ _ _ h => h) (by rfl) ?_ (by assumption) ?_
  rotate_left
  · intro w hSw; (try dsimp only at hSw); obtain ⟨q9, q10, _⟩ := hSw; go_simp; with_reducible rfl
  try simp only [Act.put, List.setIfInBounds_toArray, List.set_cons_zero, List.set_cons_succ]
  refine wpAnyH_ready (rs := [9]) (by kernel_rfl) (by simp) ?_
  refine AllReadyH.cons (by rfl) (fun K hKK => ?_) AllReadyH.nil
  go_simp
  refine hKK.out _ _ (hb2 _ (show BoxG _ _ _ _ _ from P4.out)) (fun hHeld => ?_)
  clear hKK K
  try simp only [Act.put, List.setIfInBounds_toArray, List.set_cons_zero, List.set_cons_succ]
  clear d0 d1 d2 d3 d4 d5 d6 d7 d8 d9 d10 d11 f0 f1 f2 f3 f4 f5 f6 f7 f8 f9 f10 f11 s0 s1 s2 s3 s4 s5 s6 s7 s8 s9 s10 s11
  refine wpAnyH_done (by kernel_rfl) ?_ _
  obtain ⟨d0, d1, d2, d3, d4, d5, d6, d7, d8, d9, d10, d11⟩ := hC _ (show BoxG w X0 12 35 _ from P4.out)
  obtain ⟨y, hy, hr⟩ := (show BoxG w X0 12 35 _ from P4.out).res
  obtain ⟨y0, y1, y2, y3, y4, y5, y6, y7, y8, y9, y10, y11, rfl⟩ : ∃ y0 y1 y2 y3 y4 y5 y6 y7 y8 y9 y10 y11, y = #[y0, y1, y2, y3, y4, y5, y6, y7, y8, y9, y10, y11] := by
    obtain ⟨l⟩ := y
    match l, hy with
    | [a0, a1, a2, a3, a4, a5, a6, a7, a8, a9, a10, a11], _ => exact ⟨a0, a1, a2, a3, a4, a5, a6, a7, a8, a9, a10, a11, rfl⟩
  have g0 := cell_of (i := 0) hr
  have g1 := cell_of (i := 1) hr
  have g2 := cell_of (i := 2) hr
  have g3 := cell_of (i := 3) hr
  have g4 := cell_of (i := 4) hr
  have g5 := cell_of (i := 5) hr
  have g6 := cell_of (i := 6) hr
  have g7 := cell_of (i := 7) hr
  have g8 := cell_of (i := 8) hr
  have g9 := cell_of (i := 9) hr
  have g10 := cell_of (i := 10) hr
  have g11 := cell_of (i := 11) hr
  have ff := fun i => free_of hr i
  simp only [List.getElem?_toArray, List.getElem?_cons_zero, List.getElem?_cons_succ] at g0 g1 g2 g3 g4 g5 g6 g7 g8 g9 g10 g11
  have f0 := ff 0
  have f1 := ff 1
  have f2 := ff 2
  have f3 := ff 3
  have f4 := ff 4
  have f5 := ff 5
  have f6 := ff 6
  have f7 := ff 7
  have f8 := ff 8
  have f9 := ff 9
  have f10 := ff 10
  have f11 := ff 11
  obtain ⟨HZ1, HZ2⟩ := (show BoxG w X0 12 35 _ from P4.out).store [.bool p.fs, .string p.fh, .int .i64 p.fp, .bool p.us, .string p.uh, .int .i64 p.up, .string p.pa, .string p.qu, .bool p.wi, .string p.me, .string p.he, .int .i64 p.un] rfl
  simp only [World.setCells, Nat.reduceAdd, Nat.zero_add] at HZ1 HZ2
  have HE1 := (show Hid _ from HZ1)
  have HE2 := (show Hid _ from HZ2)
  clear HZ1 HZ2 hy hr ff hC hF hS hb2
  go_wp2
  exact bodyPost_ret (v := .agg #[.bool p.fs, .string p.fh, .int .i64 p.fp, .bool p.us, .string p.uh, .int .i64 p.up, .string p.pa, .string p.qu, .bool p.wi, .string p.me, .string p.he, .int .i64 p.un]) (res_cell rfl rfl Tryd.isAgg35 Tryd.sizeOf35 rfl HE2.out) rfl ⟨rfl, (show BoxG w X0 12 35 _ from HE1.out).bel⟩
end Go.Proofs.YtihhabidfcgogaaDoor

/- What a pass is in memory. -/
namespace Go.Proofs.YtihhabidfcgogaaDoor
open Go.RowKit

theorem infoX : (Tryd.prog.info? 35).map (fun i => (i.zero, i.size, i.bytes)) = some (some (.agg #[.bool false, .string ⟨#[]⟩, .int .i64 0, .bool false, .string ⟨#[]⟩, .int .i64 0, .string ⟨#[]⟩, .string ⟨#[]⟩, .bool false, .string ⟨#[]⟩, .string ⟨#[]⟩, .int .i64 0]), 12, 144) := by kernel_rfl
theorem vals_len (v : PsV) : v.vals.length = 12 := rfl
theorem vals_one (v : PsV) : ∀ u ∈ v.vals, u.oneCell' = true := by
  intro u hu
  simp only [PsV.vals, List.mem_cons, List.not_mem_nil, or_false] at hu
  rcases hu with h | h | h | h | h | h | h | h | h | h | h | h <;> subst h <;> rfl
end Go.Proofs.YtihhabidfcgogaaDoor

/- Two rows of passes behind each other, by the library's own functions. -/
namespace Go.Proofs.YtihhabidfcgogaaDoor
open Go.RowKit Go.Shelf

def growQ_ren : Go.Shelf.Ren := ⟨fun | 4 => 45 | n => n, fun | 22 => 22 | 25 => 35 | 20 => 20 | n => n, fun | n => n⟩
theorem growQL : Go.Proofs.Lays8.n4 Tryd.prog growQ_ren := {
  mixed := by kernel_rfl
  f4 := ⟨"slices.Grow[[]gatepost/api.Pass,gatepost/api.Pass]", by kernel_rfl, Tryd.func45.trans (congrArg some (by kernel_rfl))⟩
  t0 := Tryd.underlying0
  a0 := Tryd.isAgg0
  z0 := Tryd.sizeOf0
  v0 := Tryd.zeroValue0
  t3 := Tryd.underlying3
  a3 := Tryd.isAgg3
  z3 := Tryd.sizeOf3
  v3 := Tryd.zeroValue3
  t4 := Tryd.underlying4
  a4 := Tryd.isAgg4
  z4 := Tryd.sizeOf4
  v4 := Tryd.zeroValue4
  t9 := Tryd.underlying9
  a9 := Tryd.isAgg9
  z9 := Tryd.sizeOf9
  v9 := Tryd.zeroValue9
  t20 := Tryd.underlying20
  a20 := Tryd.isAgg20
  z20 := Tryd.sizeOf20
  v20 := Tryd.zeroValue20
  t22 := Tryd.underlying22
  a22 := Tryd.isAgg22
  z22 := Tryd.sizeOf22
  v22 := Tryd.zeroValue22 }
/-- A value of type []api.Pass that owns these passes. -/
def OwnQ (w : World) (B : Nat) (v : Value) (ps : List PsV) : Prop := OwnK 12 35 w B v (ps.map PsV.vals)
theorem valsq_len (ps : List PsV) : ∀ x ∈ ps.map PsV.vals, x.length = 12 := fun x hx => by
  obtain ⟨p, _, rfl⟩ := List.mem_map.1 hx
  rfl
theorem valsq_one (ps : List PsV) : ∀ x ∈ ps.map PsV.vals, ∀ u ∈ x, u.oneCell' = true := fun x hx => by
  obtain ⟨p, _, rfl⟩ := List.mem_map.1 hx
  exact vals_one p
theorem ownQ_nil (w : World) (B : Nat) : OwnQ w B (.slice none 0 0) [] := ownK_nil 12 _ w B
theorem OwnQ.pss {w : World} {B : Nat} {v : Value} {ps : List PsV} (h : OwnQ w B v ps) : ∃ (a : Option Addr) (cap g : Nat), v = .slice a ps.length cap ∧ Pss w a ps.length g 0 ps := by
  have hl : (ps.map PsV.vals).length = ps.length := by simp
  rcases OwnK.forms h with ⟨rfl, he⟩ | ⟨g, cap, rfl, hB, hg, hc, _⟩
  · have h0 : ps = [] := by simpa using he
    subst h0
    exact ⟨none, 0, 0, rfl, pss_nil w⟩
  · refine ⟨_, cap, g, by rw [hl], rfl, fun _ => ⟨rfl, hg⟩, fun j v hj i u hi => ?_⟩
    have hj' : (ps.map PsV.vals)[j]? = some v.vals := by rw [List.getElem?_map, hj]; rfl
    rw [Nat.zero_add]
    exact OwnK.cell (show OwnK 12 35 w B (.slice (some ⟨g, 0, none⟩) (ps.map PsV.vals).length cap) (ps.map PsV.vals) from h) hj' hi
theorem flatq_len (ps : List PsV) : (ps.map PsV.vals).flatten.length = ps.length * 12 := by
  rw [flat_len (valsq_len ps), List.length_map]
theorem flatq_cell {w : World} {a : Option Addr} {m b off : Nat} {ys : List PsV} (hy : Pss w a m b off ys) {j : Nat} {u : Value} (hu : (ys.map PsV.vals).flatten[j]? = some u) : w.cell? ⟨b, off + j, none⟩ = some u := by
  have hj : j < (ys.map PsV.vals).flatten.length := (List.getElem?_eq_some_iff.1 hu).1
  rw [flatq_len] at hj
  have h1 : j / 12 < ys.length := by omega
  have hp : ys[j / 12]? = some (ys[j / 12]'h1) := List.getElem?_eq_getElem h1
  have hv : (ys.map PsV.vals)[j / 12]? = some (ys[j / 12]'h1).vals := by rw [List.getElem?_map, hp]; rfl
  have hi : j % 12 < (ys[j / 12]'h1).vals.length := by show j % 12 < 12; omega
  have hq := flat_at (valsq_len ys) hv (List.getElem?_eq_getElem hi)
  rw [show j / 12 * 12 + j % 12 = j by omega, hu] at hq
  have := hy.cells (j / 12) _ hp (j % 12) u (by rw [List.getElem?_eq_getElem hi]; exact hq.symm)
  rwa [show off + j / 12 * 12 + j % 12 = off + j by omega] at this
theorem appendQ_none (W : World) (ty : TypeId) (base a : Option Addr) (sl sc c : Nat) (hle : sl ≤ sc) : (Builtin.append_ #[22, 22] ty #[.slice base sl sc, .slice a 0 c]).run Tryd.prog W = .ok (.slice base sl sc) W := by
  obtain ⟨i0, hi0, hz0, hz1, hz2⟩ := info_parts infoX
  refine run_append_nothing W 22 22 ty 35 i0 Tryd.underlying22 hi0 base sl sc hle _ ?_
  cases a with
  | none => exact Src.ofNil _ Tryd.underlying22 c
  | some a => exact Src.ofSlice _ Tryd.underlying22 a 0 c [] (by simp) (fun j u h => by simp at h) (fun u h => absurd h (by simp))
/-- A row of texts behind a row that is owned. -/
theorem wp_apprq {ops : Array Oper} {rest : List Oper} {o : Oper} {a : Act} {Q : Exit → Act → World → Prop} (hgd : o.guard = none) (s x : Operand)
    (ho : o.op = .call { callee := .builtin .append, args := #[s, x], argTypes := #[22, 22] })
    (B : Nat) (wr : World) (v : Value) (xs : List PsV) (hs : a.eval s = v) (hown : OwnQ wr B v xs) (hl : xs.length ≤ 1000) (hB : B ≤ wr.heap.size)
    (a2 : Option Addr) (m c b off : Nat) (ys : List PsV) (hx : a.eval x = .slice a2 m c) (hy : Pss wr a2 m b off ys) (hm : m ≤ 1000)
    (h : ∀ v' w', OwnQ w' B v' (xs ++ ys) → wr.grownBy w' v.ownBlock → wpList Tryd.prog ops Q rest (a.put o.dst v') w') :
    wpList Tryd.prog ops Q (o :: rest) a wr := by
  obtain ⟨i0, hi0, hz0, hz1, hz2⟩ := info_parts infoX
  have hym := hy.len_eq
  by_cases h0 : m = 0
  · subst h0
    have e : ys = [] := List.eq_nil_of_length_eq_zero hym
    subst e
    rcases hown.row.2 with ⟨rfl, hz⟩ | ⟨g, cap, cur, rfl, _, _, hle, _⟩
    · refine Lib.wpList_append_run _ hgd s x _ _ ho _ _ hs hx _ _ (appendQ_none wr _ none a2 0 0 c (Nat.le_refl _)) (h _ _ ?_ (World.grownBy.refl _ _))
      rw [List.append_nil]
      exact hown
    · refine Lib.wpList_append_run _ hgd s x _ _ ho _ _ hs hx _ _ (appendQ_none wr _ _ a2 _ _ c hle) (h _ _ ?_ (World.grownBy.refl _ _))
      rw [List.append_nil]
      exact hown
  · obtain ⟨rfl, _⟩ := hy.lies (by omega)
    have hxl : (xs.map PsV.vals).length ≤ 1000 := by rw [List.length_map]; exact hl
    refine wpList_append_lies _ hgd s x 22 ho B 35 i0 (.agg #[.bool false, .string ⟨#[]⟩, .int .i64 0, .bool false, .string ⟨#[]⟩, .int .i64 0, .string ⟨#[]⟩, .string ⟨#[]⟩, .bool false, .string ⟨#[]⟩, .string ⟨#[]⟩, .int .i64 0]) 12 144 Tryd.underlying22 hi0 hz0 hz1 hz2 rfl (by omega) v (xs.map PsV.vals).length _ hs hown.row ⟨b, off, none⟩ m c (ys.map PsV.vals).flatten hx (by rw [flatq_len, hym])
      (fun j u hu => ?_) (fun u hu => ?_) (by omega) (by unfold maxLen; omega) (by omega) hB _ rfl ?_
    · rw [WideShapes.add_plain]
      exact flatq_cell hy hu
    · obtain ⟨x, hx1, hx2⟩ := List.mem_flatten.1 hu
      exact valsq_one ys x hx1 u hx2
    · intro g cap w' hown1 hgrow _ hlt
      refine h _ w' ⟨?_, valsq_len _, valsq_one _⟩ hgrow
      rw [List.map_append, List.length_append, List.flatten_append, List.length_map, List.length_map, hym]
      rw [List.length_map] at hown1
      exact hown1
theorem growQ_nil (n : Nat) (hn : n ≤ 1000) (w : World) :
    Calls Tryd.prog 45 #[.slice none 0 0, .int .i64 (n : Int)] w fun e w' => ∃ v, e = .returned v ∧ OwnQ w' w.heap.size v [] ∧ Below w.heap.size w w' := by
  obtain ⟨i0, hi0, hz0, hz1, hz2⟩ := info_parts infoX
  by_cases h0 : n = 0
  · subst h0
    refine (Any8.slices_Grow_room growQL none 0 0 0 w (Nat.le_refl _) (by omega) (by omega) (by omega)).mono ?_
    rintro e w' ⟨rfl, rfl⟩
    exact ⟨_, rfl, ownQ_nil _ _, Below.refl _ _⟩
  · refine (Any8.slices_Grow_grow growQL i0 (.agg #[.bool false, .string ⟨#[]⟩, .int .i64 0, .bool false, .string ⟨#[]⟩, .int .i64 0, .string ⟨#[]⟩, .string ⟨#[]⟩, .bool false, .string ⟨#[]⟩, .string ⟨#[]⟩, .int .i64 0]) hi0 hz0 (by omega) none 0 0 n [] w (Nat.le_refl _) (by omega) (by rw [hz2]; omega) (by omega) (by simp) (fun _ => rfl) (fun a ha => by cases ha)).mono ?_
    rintro e w' ⟨rfl, rfl⟩
    have hge : 0 + n ≤ grownCap w (0 + n) 0 (growQ_ren.t 25) := grownCap_ge w _ _ _
    have hle : grownCap w (0 + n) 0 (growQ_ren.t 25) ≤ maxLen := grownCap_le_maxLen w (0 + n) 0 _ (by unfold maxLen; omega)
    refine ⟨_, rfl, ?_, ((Below.refl _ _).drew).alloc (Nat.le_refl _) _⟩
    generalize grownCap w (0 + n) 0 (growQ_ren.t 25) = G at hge hle
    refine ⟨⟨rfl, .inr ⟨_, _, _, rfl, Nat.le_refl _, heap_alloc_new w.drew _, Nat.zero_le _, hle, ?_, ?_⟩⟩, (fun x hx => by cases hx), (fun x hx => by cases hx)⟩
    · simp [Builtin.zeroCells, Value.cells]
      omega
    · simp
set_option maxRecDepth 100000 in
set_option maxHeartbeats 2000000 in
theorem concatQ_two (g : Nat) (a1 a2 : Option Addr) (n1 c1 b1 o1 n2 c2 b2 o2 : Nat) (xs ys : List PsV) (w : World) (hg : g < w.heap.size) (h1 : w.cell? ⟨g, 0, none⟩ = some (.slice a1 n1 c1)) (h2 : w.cell? ⟨g, 0 + 1, none⟩ = some (.slice a2 n2 c2))
    (hx : Pss w a1 n1 b1 o1 xs) (hy : Pss w a2 n2 b2 o2 ys) (hn1 : n1 ≤ 100) (hn2 : n2 ≤ 100) :
    Calls Tryd.prog 26 #[.slice (some ⟨g, 0, none⟩) 2 2] w fun e w' => ∃ v, e = .returned v ∧ OwnQ w' w.heap.size v (xs ++ ys) ∧ Below w.heap.size w w' := by
  have HX : Hid (Pss w a1 n1 b1 o1 xs) := hx
  have HY : Hid (Pss w a2 n2 b2 o2 ys) := hy
  clear hx hy
  go_enter Tryd.func26, Tryd.ntmps26
  have s1 : IntKind.i64.wrap (0 + (n1 : Int)) = (n1 : Int) := by unfold IntKind.wrap; simp [IntKind.bits, IntKind.signed]; omega
  have hgr : ∀ w, Calls Tryd.prog 45 #[.slice none 0 0, .int .i64 ((n1 : Int) + (n2 : Int))] w fun e w' => ∃ v, e = .returned v ∧ OwnQ w' w.heap.size v [] ∧ Below w.heap.size w w' := fun w => by
    have := growQ_nil (n1 + n2) (by omega) w
    push_cast at this
    exact this
  have hl1 := HX.out.len_eq
  have hl2 := HY.out.len_eq
  go_wp2
  refine wp_loop_rounds 3 ?_
  rw [rounds_succ]
  go_wp2
  rw [rounds_succ]
  go_wp2
  rw [rounds_succ]
  go_wp2_with fail
  refine (hgr _).mono ?_
  rintro e w3 ⟨v3, rfl, hown3, hb3⟩
  have HO3 : Hid (OwnQ w3 w.heap.size v3 []) := hown3
  have f1 : w3.cell? ⟨g, 0, none⟩ = some (.slice a1 n1 c1) := (hb3.cell (p := ⟨g, 0, none⟩) hg).trans h1
  have z3 := hb3.size
  have HX3 : Hid (Pss w3 a1 n1 b1 o1 xs) := HX.out.below hb3
  have HF2 : Hid (w3.cell? ⟨g, 0 + 1, none⟩ = some (.slice a2 n2 c2)) := (hb3.cell (p := ⟨g, 0 + 1, none⟩) hg).trans h2
  clear hown3
  go_wp2
  refine wp_loop_rounds 3 ?_
  rw [rounds_succ]
  go_wp2_with (at_builtin; refine wp_apprq rfl _ _ rfl w.heap.size w3 v3 [] rfl HO3.out (by simp) z3 a1 n1 c1 b1 o1 xs rfl HX3.out (by omega) ?_; intro v4 w4 hown4 hg4; have HO4 : Hid (OwnQ w4 w.heap.size v4 xs) := hown4; clear hown4)
  have hb4 : Below w.heap.size w w4 := hb3.grown hg4 z3 (fun i hi => (HO3.out.lt i hi).1)
  have z4 := hb4.size
  have f2 : w4.cell? ⟨g, 1, none⟩ = some (.slice a2 n2 c2) := (hb4.cell (p := ⟨g, 1, none⟩) hg).trans h2
  have HY4 : Hid (Pss w4 a2 n2 b2 o2 ys) := HY.out.below hb4
  clear hg4 HF2 f1
  rw [rounds_succ]
  go_wp2_with (at_builtin; refine wp_apprq rfl _ _ rfl w.heap.size w4 v4 xs rfl HO4.out (by omega) z4 a2 n2 c2 b2 o2 ys rfl HY4.out (by omega) ?_; intro v5 w5 hown5 hg5; have HO5 : Hid (OwnQ w5 w.heap.size v5 (xs ++ ys)) := hown5; clear hown5)
  have hb5 : Below w.heap.size w w5 := hb4.grown hg5 z4 (fun i hi => (HO4.out.lt i hi).1)
  clear hg5
  rw [rounds_succ]
  go_wp2
  go_ret
  exact ⟨v5, rfl, HO5, hb5⟩
end Go.Proofs.YtihhabidfcgogaaDoor

/- Rows of structs: the first element of a kind, by the library's own function; whatever the program. -/
namespace Go.Proofs.YtihhabidfcgogaaDoor
open Go.RowKit
set_option linter.unusedVariables false

/-- A predicate, and what it leaves, in whatever world that holds what lay there but for a row. -/
def PredK (P : Program) (fn : Nat) (lb : Array Value) (p : List Value → Bool) (xs : List (List Value)) (w : World) (row : Option Nat) : Prop :=
  ∀ W x, x ∈ xs → w.grownBy W row → Calls P fn (#[.agg x.toArray] ++ lb) W fun e w' => e = .returned (.bool (p x)) ∧ Below W.heap.size W w'
theorem below_grown {w w' : World} (hb : Below w.heap.size w w') (row : Option Nat) : w.grownBy w' row := ⟨hb.os, hb.tape, hb.output, hb.size, fun i hi _ => hb.block i hi⟩
def fidx (p : List Value → Bool) (xs : List (List Value)) : Int := match xs.findIdx? p with
  | none => -1
  | some i => (i : Int)
theorem fidx_hit {p : List Value → Bool} {xs : List (List Value)} {k : Nat} {x : List Value} (h : (xs.take k).all (fun y => !p y) = true) (hk : xs[k]? = some x) (hx : p x = true) : fidx p xs = k := by
  have e : xs.findIdx? p = some k := by
    obtain ⟨hk1, e⟩ := List.getElem?_eq_some_iff.1 hk
    rw [List.findIdx?_eq_some_iff_getElem]
    refine ⟨hk1, by rw [e]; exact hx, fun j hj => ?_⟩
    have := List.all_eq_true.1 h xs[j] (by
      rw [List.mem_take_iff_getElem]
      exact ⟨j, by omega, rfl⟩)
    simpa using this
  unfold fidx
  rw [e]
theorem fidx_miss {p : List Value → Bool} {xs : List (List Value)} (h : xs.all (fun y => !p y) = true) : fidx p xs = -1 := by
  have e : xs.findIdx? p = none := by
    rw [List.findIdx?_eq_none_iff]
    intro x hx
    have := List.all_eq_true.1 h x hx
    simpa using this
  unfold fidx
  rw [e]
theorem miss_step {p : List Value → Bool} {xs : List (List Value)} {k : Nat} {x : List Value} (h : (xs.take k).all (fun y => !p y) = true) (hk : xs[k]? = some x) (hx : p x = false) : (xs.take (k + 1)).all (fun y => !p y) = true := by
  obtain ⟨hk1, e⟩ := List.getElem?_eq_some_iff.1 hk
  rw [List.take_succ_eq_append_getElem hk1, List.all_append, h, e]
  simp [hx]
set_option maxRecDepth 100000 in
set_option maxHeartbeats 2000000 in
theorem idxP_of (P : Program) (hf : P.funcs[37]? = some Tryd.f37) (mixed : P.follows .mixedOrders = true)
    (tS : P.underlying 22 = some (TypeDesc.slice 35)) (aS : ∀ w, (isAgg 22).run P w = .ok false w) (zS : ∀ w, (Go.sizeOf 22).run P w = .ok 1 w)
    (t3 : P.underlying 3 = some (TypeDesc.int IntKind.i64)) (a3 : ∀ w, (isAgg 3).run P w = .ok false w) (z3 : ∀ w, (Go.sizeOf 3).run P w = .ok 1 w) (v3 : ∀ w, (zeroValue 3).run P w = .ok (Value.int IntKind.i64 0) w)
    (t4 : P.underlying 4 = some TypeDesc.bool) (a4 : ∀ w, (isAgg 4).run P w = .ok false w) (z4 : ∀ w, (Go.sizeOf 4).run P w = .ok 1 w)
    (k : Nat) (aE : ∀ w, (isAgg 35).run P w = .ok true w) (zE : ∀ w, (Go.sizeOf 35).run P w = .ok k w)
    (g n cap B : Nat) (xs : List (List Value)) (hn : xs.length = n) (hbig : n ≤ 9223372036854775807) (w : World) (hown : OwnK k 35 w B (.slice (some ⟨g, 0, none⟩) n cap) xs)
    (p : List Value → Bool) (fn : Nat) (lb : Array Value) (eg : ∀ args w, (callFunc fn args).run P w = .ok (.enter fn args) w) (hp : PredK P fn lb p xs w (some g)) :
    Calls P 37 #[.slice (some ⟨g, 0, none⟩) n cap, .func (.func fn) #[] lb] w fun e w' => e = .returned (.int .i64 (fidx p xs)) ∧ Below w.heap.size w w' := by
  have HO : Hid (OwnK k 35 w B (.slice (some ⟨g, 0, none⟩) n cap) xs) := hown
  have HN : Hid (xs.length = n) := hn
  have HP : Hid (PredK P fn lb p xs w (some g)) := hp
  clear hown hn hp
  go_enter hf, Tryd.ntmps37
  go_wp2
  go_loopg [5, 8] n (fun gg _ s8 wr => ∃ kk : Nat, kk ≤ n ∧ n - kk ≤ gg ∧ s8 = .int .i64 kk ∧ Hid (Below w.heap.size w wr) ∧ Hid ((xs.take kk).all (fun y => !p y) = true))
  case atStart => exact ⟨0, Nat.zero_le _, by omega, rfl, Below.refl _ w, rfl⟩
  case round =>
    obtain ⟨kk, hkk, hg, rfl, BW, A⟩ := hrel
    by_cases hlt : kk < n
    · have hltz : (kk : Int) < (n : Int) := by omega
      obtain ⟨x, hx⟩ : ∃ x, xs[kk]? = some x := ⟨xs[kk]'(by have := HN.out; omega), List.getElem?_eq_getElem _⟩
      have HX : Hid (xs[kk]? = some x) := hx
      have l2 := (HO.out.below BW.out).load P hx
      have hcall := HP.out wr x (List.mem_of_getElem? hx) (below_grown BW.out _)
      clear hx
      cases hq : p x with
      | true =>
        rw [hq] at hcall
        have HQ : Hid (p x = true) := hq
        clear hq
        go_wp2_with (go_at_fn fn; refine hcall.mono ?_; rintro e w' ⟨rfl, hb'⟩)
        go_ret
        refine ⟨?_, BW.out.trans (hb'.mono BW.out.size)⟩
        rw [fidx_hit A.out HX.out HQ.out]
        rfl
      | false =>
        rw [hq] at hcall
        have HQ : Hid (p x = false) := hq
        clear hq
        go_wp2_with (go_at_fn fn; refine hcall.mono ?_; rintro e w' ⟨rfl, hb'⟩)
        go_roundg (n - (kk + 1))
        case measure => omega
        case rel => exact ⟨kk + 1, by omega, by omega, by go_num, BW.out.trans (hb'.mono BW.out.size), miss_step A.out HX.out HQ.out⟩
    · have hltz : ¬ (kk : Int) < (n : Int) := by omega
      have : kk = n := by omega
      subst this
      go_wp2
      go_ret
      refine ⟨?_, BW.out⟩
      rw [fidx_miss (by have := A.out; rw [List.take_of_length_le (by rw [HN.out]; exact Nat.le_refl _)] at this; exact this)]
      rfl
set_option maxHeartbeats 2000000 in
theorem idxP_any (g n cap B : Nat) (xs : List (List Value)) (hn : xs.length = n) (hbig : n ≤ 9223372036854775807) (w : World) (hown : OwnK 12 35 w B (.slice (some ⟨g, 0, none⟩) n cap) xs)
    (p : List Value → Bool) (fn : Nat) (lb : Array Value) (eg : ∀ args w, (callFunc fn args).run Tryd.prog w = .ok (.enter fn args) w) (hp : PredK Tryd.prog fn lb p xs w (some g)) :
    Calls Tryd.prog 37 #[.slice (some ⟨g, 0, none⟩) n cap, .func (.func fn) #[] lb] w fun e w' => e = .returned (.int .i64 (fidx p xs)) ∧ Below w.heap.size w w' :=
  idxP_of Tryd.prog Tryd.func37 (by kernel_rfl) Tryd.underlying22 Tryd.isAgg22 Tryd.sizeOf22 Tryd.underlying3 Tryd.isAgg3 Tryd.sizeOf3 Tryd.zeroValue3 Tryd.underlying4 Tryd.isAgg4 Tryd.sizeOf4 12 Tryd.isAgg35 Tryd.sizeOf35 g n cap B xs hn hbig w hown p fn lb eg hp
set_option maxHeartbeats 1000000 in
theorem idxP_none (w : World) (F : Value) : Calls Tryd.prog 37 #[.slice none 0 0, F] w fun e w' => e = .returned (.int .i64 (-1)) ∧ w' = w := by
  go_enter Tryd.func37, Tryd.ntmps37
  go_wp2
  refine wp_loop_rounds 1 ?_
  rw [rounds_succ]
  go_wp2
  go_ret
  exact ⟨rfl, rfl⟩
end Go.Proofs.YtihhabidfcgogaaDoor

/- Rows of structs: without those of a kind, by the library's own function; whatever the program. -/
namespace Go.Proofs.YtihhabidfcgogaaDoor
open Go.RowKit
set_option linter.unusedVariables false

/-- What stands ahead of place i is what is kept of the first j; what stands from j on is as it was. -/
structure DlfI (p : List Value → Bool) (xs L : List (List Value)) (i j : Nat) : Prop where
  len : L.length = xs.length
  done : L.take i = (xs.take j).filter (fun y => !p y)
  rest : L.drop j = xs.drop j
  lt : i < j
  le : j ≤ xs.length
theorem DlfI.start {p : List Value → Bool} {xs : List (List Value)} {k : Nat} {x : List Value} (h : (xs.take k).all (fun y => !p y) = true) (hk : xs[k]? = some x) (hx : p x = true) : DlfI p xs xs k (k + 1) := by
  obtain ⟨hk1, e⟩ := List.getElem?_eq_some_iff.1 hk
  refine ⟨rfl, ?_, rfl, by omega, by omega⟩
  rw [List.take_succ_eq_append_getElem hk1, List.filter_append, e, List.filter_eq_self.2 (List.all_eq_true.1 h)]
  simp [hx]
theorem DlfI.skip {p : List Value → Bool} {xs L : List (List Value)} {i j : Nat} {x : List Value} (h : DlfI p xs L i j) (hj : xs[j]? = some x) (hx : p x = true) : DlfI p xs L i (j + 1) := by
  obtain ⟨hk1, e⟩ := List.getElem?_eq_some_iff.1 hj
  refine ⟨h.len, ?_, ?_, by have := h.lt; omega, by omega⟩
  · rw [h.done, List.take_succ_eq_append_getElem hk1, List.filter_append, e]
    simp [hx]
  · rw [← List.drop_drop, h.rest, List.drop_drop]
theorem DlfI.keep {p : List Value → Bool} {xs L : List (List Value)} {i j : Nat} {x : List Value} (h : DlfI p xs L i j) (hj : xs[j]? = some x) (hx : p x = false) : DlfI p xs (L.set i x) (i + 1) (j + 1) := by
  obtain ⟨hk1, e⟩ := List.getElem?_eq_some_iff.1 hj
  have hi := h.lt
  have hl := h.len
  refine ⟨by rw [List.length_set, hl], ?_, ?_, by omega, by omega⟩
  · rw [List.take_succ_eq_append_getElem hk1, List.filter_append, e, ← h.done, List.take_succ_eq_append_getElem (by rw [List.length_set]; omega), List.getElem_set_self, List.take_set_of_le (Nat.le_refl _)]
    simp [hx]
  · rw [List.drop_set_of_lt (by omega), ← List.drop_drop, h.rest, List.drop_drop]
theorem DlfI.read {p : List Value → Bool} {xs L : List (List Value)} {i j : Nat} {x : List Value} (h : DlfI p xs L i j) (hj : xs[j]? = some x) : L[j]? = some x := by
  have e := congrArg (fun l => l[0]?) h.rest
  simpa [hj] using e
theorem boxed (w : World) (zc : Array Value) (t : TypeId) (x : List Value) (hz : zc.size = x.length) : (w.alloc (.cells zc t)).setCells w.heap.size 0 x = w.alloc (.cells x.toArray t) := by
  have H : ∀ (r pre : List Value) (c : Array Value), c.toList = pre ++ (c.toList.drop pre.length) → c.size = pre.length + r.length → (w.alloc (.cells c t)).setCells w.heap.size pre.length r = w.alloc (.cells (pre ++ r).toArray t) := by
    intro r
    induction r with
    | nil =>
      intro pre c h1 h2
      have : c.toList.drop pre.length = [] := List.drop_of_length_le (by rw [List.length_nil, Nat.add_zero] at h2; rw [Array.length_toList, h2]; exact Nat.le_refl _)
      rw [this, List.append_nil] at h1
      show w.alloc (.cells c t) = _
      congr 1
      rw [List.append_nil, ← h1]
    | cons v r ih =>
      intro pre c h1 h2
      simp only [List.length_cons] at h2
      have hs : (w.alloc (.cells c t)).setCell ⟨w.heap.size, pre.length, none⟩ v = w.alloc (.cells (c.setIfInBounds pre.length v) t) := by
        simp only [World.setCell, World.alloc]
        congr 1
        apply Array.ext_getElem?
        intro i
        rw [Array.getElem?_modify, Array.getElem?_push, Array.getElem?_push]
        by_cases e : i = w.heap.size
        · subst e
          simp
        · rw [if_neg (fun h => e h.symm), if_neg e, if_neg e]
      have := ih (pre ++ [v]) (c.setIfInBounds pre.length v) (by
        rw [Array.toList_setIfInBounds, List.length_append, List.length_singleton, List.drop_set_of_lt (by omega)]
        conv => lhs; rw [h1]
        rw [List.set_append_right _ _ (Nat.le_refl _), Nat.sub_self, List.append_assoc]
        congr 1
        have e0 : c.toList.length = c.size := Array.length_toList
        have hd : pre.length < c.toList.length := by omega
        rw [List.drop_eq_getElem_cons hd]
        rfl) (by simp; omega)
      rw [List.length_append, List.length_singleton] at this
      show ((w.alloc (.cells c t)).setCell ⟨w.heap.size, pre.length, none⟩ v).setCells w.heap.size (pre.length + 1) r = _
      rw [hs, this]
      simp
  have := H x [] zc (by simp) (by simpa using hz)
  simpa using this
theorem run_boxed (P : Program) (w : World) (zc : Array Value) (t : TypeId) (x : List Value) (hz : zc.size = x.length) (h1 : ∀ u ∈ x, u.oneCell' = true) :
    Sem.run P (storeCells ⟨w.heap.size, 0, none⟩ x 0) (w.alloc (.cells zc t)) = .ok () (w.alloc (.cells x.toArray t)) := by
  have hh := heap_alloc_new w (.cells zc t)
  have := run_storeCells_cells (P := P) w.heap.size 0 x 0 (w.alloc (.cells zc t)) (fun j hj => by
    rw [Nat.add_zero, Nat.zero_add, World.cell?_alloc_mark, Array.getElem?_eq_getElem (by omega)]
    rfl) (fun j _ => frozen_of_row _ w.heap.size _ zc t hh) h1
  rw [this, Nat.add_zero, boxed w zc t x hz]
theorem run_unboxed (P : Program) {w w' : World} {b : Nat} {t : TypeId} {x : List Value} {k : Nat} (hk : x.length = k) (h : w.heap[b]? = some (.cells x.toArray t (0, 0))) (hb : Below w.heap.size w w') : Sem.run P (loadCellsFrom ⟨b, 0, none⟩ 0 k #[]) w' = .ok x.toArray w' :=
  run_loadCellsFrom_list P w' _ x k hk (fun i u hi => by
    rw [Addr.add_lit, Nat.zero_add, hb.cell (p := ⟨b, i, none⟩) (Array.getElem?_eq_some_iff.1 h).1, cell_of_row w b i x.toArray t (0, 0) h]
    simpa using hi)
theorem run_clear_K (P : Program) (w : World) (t e ty : TypeId) (z : Value) (k : Nat) (ht : P.underlying t = some (.slice e)) (hv : ∀ w, (zeroValue e).run P w = .ok z w) (hz : z.cells.size = k) (h1 : ∀ u ∈ z.cells, u.oneCell' = true) (b o n c : Nat) (hn : 0 < n)
    (hc : ∀ j, j < n * k → (w.cell? ⟨b, o + j, none⟩).isSome = true) (hf : ∀ j, j < n * k → w.frozen? ⟨b, o + j, none⟩ = false) :
    (Builtin.clear_ #[t] ty #[.slice (some ⟨b, o, none⟩) n c]).run P w = .ok (.tuple #[]) (w.setCells b o (Builtin.zeroCells z.cells n).toList) := by
  have hl : (Builtin.zeroCells z.cells n).toList.length = n * k := by simp [Builtin.zeroCells, hz]
  have h1' : ∀ u ∈ (Builtin.zeroCells z.cells n).toList, u.oneCell' = true := by
    intro u hu
    rcases Nat.eq_zero_or_pos k with h0 | h0
    · rw [List.eq_nil_of_length_eq_zero (l := (Builtin.zeroCells z.cells n).toList) (by rw [hl, h0]; rfl)] at hu
      cases hu
    · simp only [Builtin.zeroCells, Array.toList_map, List.mem_map] at hu
      obtain ⟨i, _, rfl⟩ := hu
      have hm : i % z.cells.size < z.cells.size := Nat.mod_lt _ (by omega)
      rw [getElem!_pos z.cells _ hm]
      exact h1 _ (Array.getElem_mem hm)
  have hst := run_storeCells_cells (P := P) b o (Builtin.zeroCells z.cells n).toList 0 w (by rw [hl]; simpa using hc) (by rw [hl]; simpa using hf) h1'
  simp only [Nat.add_zero] at hst
  obtain ⟨m, rfl⟩ : ∃ m, n = m + 1 := ⟨n - 1, by omega⟩
  simp [Builtin.clear_, run_underlying ht, hv, hst]
set_option maxRecDepth 100000 in
set_option maxHeartbeats 4000000 in
theorem dlfP_of (P : Program) (hf : P.funcs[33]? = some Tryd.f33) (hfi : P.funcs[37]? = some Tryd.f37)
    (e6 : ∀ args w, (callFunc 37 args).run P w = .ok (.enter 37 args) w) (mixed : P.follows .mixedOrders = true)
    (tS : P.underlying 22 = some (TypeDesc.slice 35)) (aS : ∀ w, (isAgg 22).run P w = .ok false w) (zS : ∀ w, (Go.sizeOf 22).run P w = .ok 1 w)
    (t3 : P.underlying 3 = some (TypeDesc.int IntKind.i64)) (a3 : ∀ w, (isAgg 3).run P w = .ok false w) (z3 : ∀ w, (Go.sizeOf 3).run P w = .ok 1 w) (v3 : ∀ w, (zeroValue 3).run P w = .ok (Value.int IntKind.i64 0) w)
    (t4 : P.underlying 4 = some TypeDesc.bool) (a4 : ∀ w, (isAgg 4).run P w = .ok false w) (z4 : ∀ w, (Go.sizeOf 4).run P w = .ok 1 w)
    (k : Nat) (hk0 : 0 < k) (aE : ∀ w, (isAgg 35).run P w = .ok true w) (zE : ∀ w, (Go.sizeOf 35).run P w = .ok k w) (zc : Array Value) (vE : ∀ w, (zeroValue 35).run P w = .ok (.agg zc) w) (hzc : zc.size = k) (hz1 : ∀ u ∈ zc, u.oneCell' = true)
    (g n cap B : Nat) (xs : List (List Value)) (hn : xs.length = n) (hbig : n ≤ 9223372036854775807) (w : World) (hown : OwnK k 35 w B (.slice (some ⟨g, 0, none⟩) n cap) xs)
    (p : List Value → Bool) (fn : Nat) (lb : Array Value) (eg : ∀ args w, (callFunc fn args).run P w = .ok (.enter fn args) w) (hp : PredK P fn lb p xs w (some g)) :
    Calls P 33 #[.slice (some ⟨g, 0, none⟩) n cap, .func (.func fn) #[] lb] w fun e w' => ∃ m, e = .returned (.slice (some ⟨g, 0, none⟩) m cap) ∧ Hid (OwnK k 35 w' B (.slice (some ⟨g, 0, none⟩) m cap) (xs.filter (fun y => !p y)) ∧ (xs.filter (fun y => !p y)).length = m ∧ w.grownBy w' (some g)) := by
  have hIF := idxP_of P hfi mixed tS aS zS t3 a3 z3 v3 t4 a4 z4 k aE zE g n cap B xs hn hbig w hown p fn lb eg hp
  have HO : Hid (OwnK k 35 w B (.slice (some ⟨g, 0, none⟩) n cap) xs) := hown
  have HN : Hid (xs.length = n) := hn
  have HP : Hid (PredK P fn lb p xs w (some g)) := hp
  have HZ : Hid (zc.size = k) := hzc
  have hncap : n ≤ cap := by
    rcases hown.forms with ⟨e, _⟩ | ⟨g', cap', e, _, _, h1, _⟩
    · cases e
    · injection e with _ _ e3
      rw [e3, ← hn]; exact h1
  have HZ1 : Hid (∀ u ∈ zc, u.oneCell' = true) := hz1
  clear hown hn hp hzc hz1
  by_cases hall : xs.all (fun y => !p y) = true
  · rw [fidx_miss hall] at hIF
    have HA : Hid (xs.all (fun y => !p y) = true) := hall
    clear hall
    go_enter hf, Tryd.ntmps33
    go_wp2_with (go_at_fn 37; refine hIF.mono ?_; rintro e w' ⟨rfl, hb⟩)
    go_ret
    have e : xs.filter (fun y => !p y) = xs := List.filter_eq_self.2 (List.all_eq_true.1 HA.out)
    exact ⟨n, rfl, by rw [e]; exact HO.out.below hb, by rw [e]; exact HN.out, below_grown hb _⟩
  obtain ⟨k0, x0, hx0, hpx0, hmiss⟩ : ∃ k0 x0, xs[k0]? = some x0 ∧ p x0 = true ∧ (xs.take k0).all (fun y => !p y) = true := by
    cases hfi : xs.findIdx? p with
    | none =>
      exfalso
      apply hall
      rw [List.findIdx?_eq_none_iff] at hfi
      exact List.all_eq_true.2 fun x hx => by simp [hfi x hx]
    | some i =>
      obtain ⟨h1, h2, h3⟩ := List.findIdx?_eq_some_iff_getElem.1 hfi
      refine ⟨i, xs[i], List.getElem?_eq_getElem h1, h2, List.all_eq_true.2 fun x hx => ?_⟩
      obtain ⟨j, hj, rfl⟩ := List.mem_take_iff_getElem.1 hx
      have := h3 j (by omega)
      simpa using this
  rw [fidx_hit hmiss hx0 hpx0] at hIF
  have hk0n : k0 < n := by have := (List.getElem?_eq_some_iff.1 hx0).1; have := HN.out; omega
  have HST : Hid (DlfI p xs xs k0 (k0 + 1)) := DlfI.start hmiss hx0 hpx0
  have hne1 : ((k0 : Int) == -1) = false := beq_eq_false_iff_ne.2 (by omega)
  clear hall hx0 hpx0 hmiss
  go_enter hf, Tryd.ntmps33
  go_wp2_with (go_at_fn 37; refine hIF.mono ?_; rintro e w' ⟨rfl, hb⟩)
  have HB0 : Hid (Below w.heap.size w w') := hb
  clear hb
  go_loopg [5, 6, 7] n (fun gg s5 s6 _ wr => ∃ (i j : Nat) (L : List (List Value)), s5 = .int .i64 i ∧ s6 = .int .i64 j ∧ i < j ∧ j ≤ n ∧ n - j ≤ gg ∧ Hid (DlfI p xs L i j ∧ OwnK k 35 wr B (.slice (some ⟨g, 0, none⟩) n cap) L ∧ w.grownBy wr (some g)))
  case atStart => exact ⟨k0, k0 + 1, xs, rfl, by go_num, by omega, by omega, by omega, ⟨HST.out, HO.out.below HB0.out, below_grown HB0.out _⟩⟩
  case round =>
    obtain ⟨i, j, L, rfl, rfl, hij, hjn, hgg, HI⟩ := hrel
    by_cases hlt : j < n
    · have hltz : (j : Int) < (n : Int) := by omega
      obtain ⟨x, hx⟩ : ∃ x, xs[j]? = some x := ⟨xs[j]'(by have := HN.out; omega), List.getElem?_eq_getElem _⟩
      have HX : Hid (xs[j]? = some x) := hx
      have hLj := HI.out.1.read hx
      have hxm : x ∈ L := List.mem_of_getElem? hLj
      have hxl : x.length = k := HI.out.2.1.len x hxm
      have hx1 : ∀ u ∈ x, u.oneCell' = true := HI.out.2.1.one x hxm
      have l1 := HI.out.2.1.load P hLj
      have hb1 : Below wr.heap.size wr (wr.alloc (.cells x.toArray 35)) := (Below.refl _ _).alloc (Nat.le_refl _) _
      have s1 := run_boxed P wr zc 35 x (by rw [HZ.out, hxl]) hx1
      have l2 := run_unboxed P (w := wr.alloc (.cells x.toArray 35)) (w' := wr.alloc (.cells x.toArray 35)) (b := wr.heap.size) hxl (heap_alloc_new wr _) (Below.refl _ _)
      have L2 : Hid (∀ w', Below (wr.alloc (.cells x.toArray 35)).heap.size (wr.alloc (.cells x.toArray 35)) w' → Sem.run P (loadCellsFrom ⟨wr.heap.size, 0, none⟩ 0 k #[]) w' = .ok x.toArray w') := fun w' hb => run_unboxed P (w := wr.alloc (.cells x.toArray 35)) (b := wr.heap.size) hxl (heap_alloc_new wr _) hb
      have HGB : Hid (w.grownBy (wr.alloc (.cells x.toArray 35)) (some g) ∧ OwnK k 35 (wr.alloc (.cells x.toArray 35)) B (.slice (some ⟨g, 0, none⟩) n cap) L) := ⟨gtrans HI.out.2.2 (World.grownBy_alloc wr _ _), HI.out.2.1.below hb1⟩
      have hcall := HP.out _ x (List.mem_of_getElem? hx) HGB.out.1
      have HXL : Hid (x.length = k ∧ ∀ u ∈ x, u.oneCell' = true) := ⟨hxl, hx1⟩
      have hxa : x.toArray.size = k := by simp [hxl]
      clear hx hLj hxm hb1 hx1
      generalize hWX : wr.alloc (.cells x.toArray 35) = WX at s1 l2 L2 HGB hcall
      cases hq : p x with
      | true =>
        rw [hq] at hcall
        have HQ : Hid (p x = true) := hq
        clear hq
        go_wp2_with (go_at_fn fn; refine hcall.mono ?_; rintro e w' ⟨rfl, hb'⟩)
        go_roundg (n - (j + 1))
        case measure => omega
        case rel => exact ⟨i, j + 1, L, rfl, by go_num, by omega, by omega, Nat.le_refl _, ⟨HI.out.1.skip HX.out HQ.out, HGB.out.2.below hb', gtrans HGB.out.1 (below_grown hb' _)⟩⟩
      | false =>
        rw [hq] at hcall
        have HQ : Hid (p x = false) := hq
        clear hq
        have hik : i * k + k ≤ cap * k := by
          rw [← Nat.succ_mul]
          exact Nat.mul_le_mul_right _ (by omega)
        have HIK : Hid (i * k + k ≤ cap * k) := hik
        clear hik
        have HS2 : Hid (∀ w', Below WX.heap.size WX w' → Sem.run P (storeCells ⟨g, i * k, none⟩ x 0) w' = .ok () (w'.setCells g (i * k) x)) := by
          intro w' hb'
          have ho := HGB.out.2.below hb'
          have h := run_storeCells_cells (P := P) g (i * k) x 0 w' (fun j hj => ho.there _ (by have := HXL.out.1; have := HIK.out; omega)) (fun j hj => ho.frozen _) HXL.out.2
          rwa [Nat.add_zero] at h
        go_wp2_with (go_at_fn fn; refine hcall.mono ?_; rintro e w' ⟨rfl, hb'⟩; have l3 := L2.out w' hb'; have s2 := HS2.out w' hb')
        go_roundg (n - (j + 1))
        case measure => omega
        case rel => exact ⟨i + 1, j + 1, L.set i x, by go_num, by go_num, by omega, by omega, Nat.le_refl _, ⟨HI.out.1.keep HX.out HQ.out, (HGB.out.2.below hb').set i x HXL.out.1 HXL.out.2 (by have := HI.out.1.len; have := HN.out; omega), gtrans (gtrans HGB.out.1 (below_grown hb' _)) (grown_setCells _ _ _ _)⟩⟩
    · have hltz : ¬ (j : Int) < (n : Int) := by omega
      have hin : i < n := by omega
      have hLn : L.length = n := by rw [HI.out.1.len]; exact HN.out
      have hb : i * k + (n - i) * k ≤ cap * k := by
        rw [← Nat.add_mul]
        exact Nat.mul_le_mul_right _ (by omega)
      have hzl : (Builtin.zeroCells zc (n - i)).toList.length = (n - i) * k := by simp [Builtin.zeroCells, HZ.out]
      have hcl : ∀ ty, (Builtin.clear_ #[22] ty #[.slice (some ⟨g, i * k, none⟩) (n - i) (cap - i)]).run P wr = .ok (.tuple #[]) (wr.setCells g (i * k) (Builtin.zeroCells zc (n - i)).toList) :=
        fun ty => run_clear_K P wr _ _ ty (.agg zc) k tS vE HZ.out HZ1.out g (i * k) (n - i) _ (by omega) (fun t ht => HI.out.2.1.there _ (by omega)) (fun t ht => HI.out.2.1.frozen _)
      have HE : Hid (OwnK k 35 (wr.setCells g (i * k) (Builtin.zeroCells zc (n - i)).toList) B (.slice (some ⟨g, 0, none⟩) i cap) (xs.filter (fun y => !p y)) ∧ (xs.filter (fun y => !p y)).length = i ∧ w.grownBy (wr.setCells g (i * k) (Builtin.zeroCells zc (n - i)).toList) (some g)) := by
        have e : xs.filter (fun y => !p y) = L.take i := by
          rw [HI.out.1.done, List.take_of_length_le (by rw [HN.out]; omega)]
        rw [e]
        exact ⟨HI.out.2.1.wipe i (by omega) _ (by rw [hzl]; exact hb), by rw [List.length_take]; omega, gtrans HI.out.2.2 (grown_setCells _ _ _ _)⟩
      generalize (Builtin.zeroCells zc (n - i)).toList = zs at hcl HE
      clear hb hzl hLn
      go_wp2
      go_ret
      exact ⟨i, rfl, HE⟩
set_option maxHeartbeats 2000000 in
theorem dlfP_any (g n cap B : Nat) (xs : List (List Value)) (hn : xs.length = n) (hbig : n ≤ 9223372036854775807) (w : World) (hown : OwnK 12 35 w B (.slice (some ⟨g, 0, none⟩) n cap) xs)
    (p : List Value → Bool) (fn : Nat) (lb : Array Value) (eg : ∀ args w, (callFunc fn args).run Tryd.prog w = .ok (.enter fn args) w) (hp : PredK Tryd.prog fn lb p xs w (some g)) :
    Calls Tryd.prog 33 #[.slice (some ⟨g, 0, none⟩) n cap, .func (.func fn) #[] lb] w fun e w' => ∃ m, e = .returned (.slice (some ⟨g, 0, none⟩) m cap) ∧ Hid (OwnK 12 35 w' B (.slice (some ⟨g, 0, none⟩) m cap) (xs.filter (fun y => !p y)) ∧ (xs.filter (fun y => !p y)).length = m ∧ w.grownBy w' (some g)) :=
  dlfP_of Tryd.prog Tryd.func33 Tryd.func37 (enters_at Tryd.func37 (by kernel_rfl) rfl) (by kernel_rfl) Tryd.underlying22 Tryd.isAgg22 Tryd.sizeOf22 Tryd.underlying3 Tryd.isAgg3 Tryd.sizeOf3 Tryd.zeroValue3 Tryd.underlying4 Tryd.isAgg4 Tryd.sizeOf4 12 (by omega) Tryd.isAgg35 Tryd.sizeOf35 _ Tryd.zeroValue35 rfl (by decide) g n cap B xs hn hbig w hown p fn lb eg hp
set_option maxHeartbeats 1000000 in
theorem dlfP_none (w : World) (F : Value) : Calls Tryd.prog 33 #[.slice none 0 0, F] w fun e w' => e = .returned (.slice none 0 0) ∧ w' = w := by
  go_enter Tryd.func33, Tryd.ntmps33
  go_wp2_with fail
  refine (idxP_none _ _).mono ?_
  rintro e w1 ⟨rfl, hw⟩
  obtain rfl := hw.symm
  go_wp2
  go_ret
  exact ⟨rfl, rfl⟩
end Go.Proofs.YtihhabidfcgogaaDoor

/- A row of structs, each made anew by a function; whatever the program. -/
namespace Go.Proofs.YtihhabidfcgogaaDoor
open Go.RowKit
set_option linter.unusedVariables false

/-- What stays where blocks are laid, and where a row of structs of this type is written into. -/
def Stays {α : Type} (t : TypeId) (Q : World → α → Prop) : Prop := ∀ (W W' : World) (row : Option Nat) (u : α), W.grownBy W' row → (∀ b, row = some b → ∃ cs, W.heap[b]? = some (.cells cs t (0, 0))) → Q W u → Q W' u
theorem Stays.below {α : Type} {t : TypeId} {Q : World → α → Prop} (h : Stays t Q) {W W' : World} {u : α} (hb : Below W.heap.size W W') (hq : Q W u) : Q W' u := h W W' none u (below_grown hb none) (fun b e => by cases e) hq
theorem ownK_typed {k B : Nat} {t : TypeId} {w : World} {v : Value} {xs : List (List Value)} (h : OwnK k t w B v xs) : ∀ b, v.ownBlock = some b → ∃ cs, w.heap[b]? = some (.cells cs t (0, 0)) := by
  intro b hb
  rcases h.row.2 with ⟨e, _⟩ | ⟨g', cap', cur, e, _, hh, _⟩
  · subst e
    cases hb
  · subst e
    have : g' = b := by simpa [Value.ownBlock] using hb
    subst this
    exact ⟨cur, hh⟩
theorem fold_at : ∀ (l pre : List Value) (c : Array Value), c.size = pre.length + l.length → c.toList.take pre.length = pre → ((l.zipIdx pre.length).foldl (fun cs x => cs.setIfInBounds x.2 x.1) c).toList = pre ++ l
  | [], pre, c, h1, h2 => by
    have e0 : c.toList.length = c.size := Array.length_toList
    rw [List.length_nil, Nat.add_zero] at h1
    rw [List.take_of_length_le (by omega)] at h2
    simpa using h2
  | v :: r, pre, c, h1, h2 => by
    have e0 : c.toList.length = c.size := Array.length_toList
    rw [List.length_cons] at h1
    have ih := fold_at r (pre ++ [v]) (c.setIfInBounds pre.length v) (by rw [Array.size_setIfInBounds, List.length_append, List.length_singleton]; omega) (by
      rw [Array.toList_setIfInBounds, List.length_append, List.length_singleton, List.take_succ_eq_append_getElem (by rw [List.length_set]; omega), List.getElem_set_self, List.take_set_of_le (Nat.le_refl _), h2])
    rw [List.length_append, List.length_singleton] at ih
    rw [List.zipIdx_cons, List.foldl_cons, ih]
    simp
theorem run_bs1 (P : Program) (w : World) (t e : TypeId) (k : Nat) (hk0 : 0 < k) (hk1 : k ≤ 1000) (zc : Array Value) (ht : P.underlying t = some (.slice e)) (hs : ∀ w, (Go.sizeOf e).run P w = .ok k w) (hv : ∀ w, (zeroValue e).run P w = .ok (.agg zc) w) (hz : zc.size = k) (cs : List Value) (hc : cs.length = k) :
    (Instr.buildSlice t 1 #[(0, .agg cs.toArray)]).run P w = .ok (.slice (some ⟨w.heap.size, 0, none⟩) 1 1) (w.alloc (.cells cs.toArray e)) := by
  have hfill : Instr.fill (fun i => some (i * k, k)) ((Array.range (1 * k)).map ((Value.agg zc).cells[· % (Value.agg zc).cells.size]!)) [(0, .agg cs.toArray)] = some cs.toArray := by
    have hsz : ((Array.range (1 * k)).map ((Value.agg zc).cells[· % (Value.agg zc).cells.size]!)).size = k := by simp
    generalize ((Array.range (1 * k)).map ((Value.agg zc).cells[· % (Value.agg zc).cells.size]!)) = Z at hsz
    have h0 : (Value.agg cs.toArray).cells = cs.toArray := rfl
    simp only [Instr.fill, h0]
    have hn : ¬ (cs.toArray.size ≠ k || decide (0 * k + cs.toArray.size > Z.size)) = true := by simp [hc, hsz]
    rw [if_neg (by simpa using hn)]
    congr 1
    apply Array.toList_inj.1
    have := fold_at cs [] Z (by simp; omega) (by simp)
    simp only [List.length_nil, List.nil_append] at this
    simp only [Nat.zero_mul, Nat.zero_add]
    rw [← Array.foldl_toList, Array.toList_zipIdx]
    exact this
  have e1 : ¬ (1 * k > 2 ^ 24) := by omega
  have e2 : ¬ (1 * k = 0) := by omega
  unfold Instr.buildSlice
  simp only [Sem.run_bind, run_underlying ht, Result.andThen_ok, hs, if_neg e1, if_neg e2, hv, Sem.run_pure]
  have hfill' : Instr.fill (fun i => some (i * k, k)) ((Array.range (1 * k)).map (fun x => (Value.agg zc).cells[x % (Value.agg zc).cells.size]!)) [(0, .agg cs.toArray)] = some cs.toArray := hfill
  rw [hfill']
  simp [newRow, go_sem]
theorem wpList_bs1 {P : Program} {ops : Array Oper} {rest : List Oper} {o : Oper} {a : Act} {w : World} {Q : Exit → Act → World → Prop} (hgd : o.guard = none) (t : TypeId) (x : Operand) (ho : o.op = .buildSlice t 1 #[(0, x)]) (e : TypeId) (k : Nat) (hk0 : 0 < k) (hk1 : k ≤ 1000) (zc : Array Value) (ht : P.underlying t = some (.slice e)) (hs : ∀ w, (Go.sizeOf e).run P w = .ok k w) (hv : ∀ w, (zeroValue e).run P w = .ok (.agg zc) w) (hz : zc.size = k) (cs : List Value) (hx : a.eval x = .agg cs.toArray) (hc : cs.length = k)
    (h : wpList P ops Q rest (a.put o.dst (.slice (some ⟨w.heap.size, 0, none⟩) 1 1)) (w.alloc (.cells cs.toArray e))) : wpList P ops Q (o :: rest) a w := by
  have hr := run_bs1 P w t e k hk0 hk1 zc ht hs hv hz cs hc
  refine wpList_plain hgd fun _ hK => ?_
  unfold Oper.wp execOp
  simp only [ho, List.map_toArray, List.map_cons, List.map_nil, hx, Sem.run_bind, hr, Result.andThen_ok, Sem.run_pure]
  exact hK _ _ h
theorem OwnK.appended {k n B : Nat} {t : TypeId} {w w' : World} {v u : Value} {xs : List (List Value)} {y : List Value} (h : OwnK k t w B v xs) (hn : xs.length = n) (hy : y.length = k) (hy1 : ∀ u ∈ y, u.oneCell' = true) (hr : w'.ownsRow B t k u (n + 1) (xs.flatten ++ y)) : OwnK k t w' B u (xs ++ [y]) := by
  refine ⟨?_, fun x hx => ?_, fun x hx => ?_⟩
  · rw [List.length_append, List.length_singleton, hn, List.flatten_append]
    simpa using hr
  · rcases List.mem_append.1 hx with hx | hx
    · exact h.len x hx
    · rw [List.mem_singleton.1 hx]; exact hy
  · rcases List.mem_append.1 hx with hx | hx
    · exact h.one x hx
    · rw [List.mem_singleton.1 hx]; exact hy1
theorem wpList_appK {P : Program} {ops : Array Oper} {rest : List Oper} {o : Oper} {a : Act} {Q : Exit → Act → World → Prop} (hgd : o.guard = none) (s x : Operand) (t : TypeId)
    (ho : o.op = .call { callee := .builtin .append, args := #[s, x], argTypes := #[t, t] }) (e : TypeId) (k : Nat) (hk0 : 0 < k) (zc : Array Value) (ht : P.underlying t = some (.slice e)) (hzc : zc.size = k)
    (i0 : TypeInfo) (hi0 : P.info? e = some i0) (hi1 : i0.size = k) (hi2 : i0.zero = some (.agg zc)) (hi4 : i0.bytes ≤ 1000)
    (B : Nat) (wr : World) (v : Value) (xs : List (List Value)) (n : Nat) (hs : a.eval s = v) (hown : OwnK k e wr B v xs) (hn : xs.length = n) (hl : n ≤ 100000) (hB : B ≤ wr.heap.size) (y : List Value) (hy : y.length = k) (hy1 : ∀ u ∈ y, u.oneCell' = true)
    (hx : a.eval x = .slice (some ⟨wr.heap.size, 0, none⟩) 1 1)
    (h : ∀ g cap w', OwnK k e w' B (.slice (some ⟨g, 0, none⟩) (n + 1) cap) (xs ++ [y]) → (wr.alloc (.cells y.toArray e)).grownBy w' v.ownBlock → g < w'.heap.size → wpList P ops Q rest (a.put o.dst (.slice (some ⟨g, 0, none⟩) (n + 1) cap)) w') :
    wpList P ops Q (o :: rest) a (wr.alloc (.cells y.toArray e)) := by
  have hrow := hown.row
  rw [hn] at hrow
  refine wpList_append_lies _ hgd s x t ho B e i0 (.agg zc) k i0.bytes ht hi0 hi2 hi1 rfl hzc hk0 v n _ hs (World.ownsRow.alloc hrow _) ⟨wr.heap.size, 0, none⟩ 1 1 y hx (by rw [hy, Nat.one_mul])
    (World.news_of_block (cs := y.toArray) (t := e) (fr := (0, 0)) (heap_alloc_new wr _)) hy1 (by omega) (by unfold maxLen; omega) (by have := Nat.mul_le_mul (show n + 1 ≤ 100001 by omega) hi4; omega) (by simp; omega) _ rfl ?_
  intro g cap w' hown1 hgrow _ hlt
  exact h g cap w' (hown.appended hn hy hy1 hown1) hgrow hlt
theorem Below.grownK {w0 w w' : World} {k B : Nat} {t : TypeId} {v : Value} {xs : List (List Value)} (h : Below w0.heap.size w0 w) (hown : OwnK k t w w0.heap.size v xs) (hg : w.grownBy w' v.ownBlock) : Below w0.heap.size w0 w' :=
  h.grown hg h.size (fun i hi => (hown.lt i hi).1)
theorem ech_step {α β : Type} {cl : α → List Value} {f : α → β} {Q : World → α → Prop} {t : TypeId} {k kk cap2 cap4 g4 : Nat} {a : Option Addr} {w w2 w4 : World} {us vs : List α} {u v : α} {cs : Array Value} (hb2 : Below w.heap.size w w2) (h2 : OwnK k t w2 w.heap.size (.slice a kk cap2) (us.map cl))
    (hown4 : OwnK k t w4 w.heap.size (.slice (some ⟨g4, 0, none⟩) (kk + 1) cap4) (us.map cl ++ [cl u])) (hg4 : (w2.alloc (.cells cs t)).grownBy w4 (Value.slice a kk cap2).ownBlock) (hl : us.length = kk) (hf : us.map f = (vs.take kk).map f) (hv : vs[kk]? = some v) (hfu : f u = f v) (hqu : Q w2 u) (hqs : ∀ u ∈ us, Q w2 u) (hQ : Stays t Q) :
    Below w.heap.size w w4 ∧ ∃ us : List α, us.length = kk + 1 ∧ OwnK k t w4 w.heap.size (.slice (some ⟨g4, 0, none⟩) (kk + 1) cap4) (us.map cl) ∧ us.map f = (vs.take (kk + 1)).map f ∧ ∀ u ∈ us, Q w4 u := by
  have hb3 : Below w2.heap.size w2 (w2.alloc (.cells cs t)) := (Below.refl _ _).alloc (Nat.le_refl _) _
  have h3 := h2.below hb3
  have hty := ownK_typed h3
  have keep : ∀ u, Q w2 u → Q w4 u := fun u hu => hQ _ _ _ u hg4 hty (hQ.below hb3 hu)
  obtain ⟨hk1, e⟩ := List.getElem?_eq_some_iff.1 hv
  refine ⟨(hb2.trans (hb3.mono hb2.size)).grown hg4 (Nat.le_trans hb2.size (by simp)) (fun i hi => (h3.lt i hi).1), us ++ [u], by simp [hl], by rw [List.map_append]; exact hown4, ?_, fun x hx => ?_⟩
  · rw [List.take_succ_eq_append_getElem hk1, List.map_append, List.map_append, hf, e]
    simp [hfu]
  · rcases List.mem_append.1 hx with hx | hx
    · exact keep x (hqs x hx)
    · rw [List.mem_singleton.1 hx]; exact keep u hqu
set_option maxRecDepth 100000 in
set_option maxHeartbeats 4000000 in
theorem echP_of (P : Program) (hf : P.funcs[30]? = some Tryd.f30) (mixed : P.follows .mixedOrders = true)
    (tS : P.underlying 22 = some (TypeDesc.slice 35)) (aS : ∀ w, (isAgg 22).run P w = .ok false w) (zS : ∀ w, (Go.sizeOf 22).run P w = .ok 1 w)
    (t3 : P.underlying 3 = some (TypeDesc.int IntKind.i64)) (a3 : ∀ w, (isAgg 3).run P w = .ok false w) (z3 : ∀ w, (Go.sizeOf 3).run P w = .ok 1 w) (v3 : ∀ w, (zeroValue 3).run P w = .ok (Value.int IntKind.i64 0) w)
    (t4 : P.underlying 4 = some TypeDesc.bool) (a4 : ∀ w, (isAgg 4).run P w = .ok false w) (z4 : ∀ w, (Go.sizeOf 4).run P w = .ok 1 w)
    (k : Nat) (hk0 : 0 < k) (hk1 : k ≤ 1000) (aE : ∀ w, (isAgg 35).run P w = .ok true w) (zE : ∀ w, (Go.sizeOf 35).run P w = .ok k w) (zc : Array Value) (vE : ∀ w, (zeroValue 35).run P w = .ok (.agg zc) w) (hzc : zc.size = k) (hz1 : ∀ u ∈ zc, u.oneCell' = true)
    (i0 : TypeInfo) (hi0 : P.info? 35 = some i0) (hi1 : i0.size = k) (hi2 : i0.zero = some (.agg zc)) (by0 : Nat) (hi3 : i0.bytes = by0) (hi4 : by0 ≤ 1000)
    {α β : Type} (cl : α → List Value) (f : α → β) (hcl : ∀ v, (cl v).length = k) (Q : World → α → Prop) (hQ : Stays 35 Q) (hQ1 : ∀ W u, Q W u → ∀ x ∈ cl u, x.oneCell' = true)
    (g n cap B : Nat) (vs : List α) (hn : vs.length = n) (hbig : n ≤ 1000) (w : World) (hown : OwnK k 35 w B (.slice (some ⟨g, 0, none⟩) n cap) (vs.map cl))
    (fn : Nat) (eg : ∀ args w, (callFunc fn args).run P w = .ok (.enter fn args) w)
    (hm : ∀ W v, v ∈ vs → Below w.heap.size w W → Calls P fn #[.agg (cl v).toArray] W fun e w' => (∃ u, e = .returned (.agg (cl u).toArray) ∧ f u = f v ∧ Q w' u) ∧ Below W.heap.size W w') :
    Calls P 30 #[.slice (some ⟨g, 0, none⟩) n cap, .func (.func fn) #[] #[]] w fun e w' => (∃ (val : Value) (us : List α), e = .returned val ∧ OwnK k 35 w' w.heap.size val (us.map cl) ∧ us.map f = vs.map f ∧ ∀ u ∈ us, Q w' u) ∧ Below w.heap.size w w' := by
  have HO : Hid (OwnK k 35 w B (.slice (some ⟨g, 0, none⟩) n cap) (vs.map cl)) := hown
  have HN : Hid (vs.length = n) := hn
  have HM : Hid (∀ W v, v ∈ vs → Below w.heap.size w W → Calls P fn #[.agg (cl v).toArray] W fun e w' => (∃ u, e = .returned (.agg (cl u).toArray) ∧ f u = f v ∧ Q w' u) ∧ Below W.heap.size W w') := hm
  have HZ : Hid (zc.size = k ∧ (∀ u ∈ zc, u.oneCell' = true) ∧ i0.size = k ∧ i0.zero = some (.agg zc) ∧ i0.bytes = by0) := ⟨hzc, hz1, hi1, hi2, hi3⟩
  have HC : Hid ((∀ v, (cl v).length = k) ∧ Stays 35 Q ∧ (∀ W u, Q W u → ∀ x ∈ cl u, x.oneCell' = true)) := ⟨hcl, hQ, hQ1⟩
  clear hown hn hm hzc hz1 hi1 hi2 hi3 hcl hQ hQ1
  go_enter hf, Tryd.ntmps30
  go_wp2
  go_loopw [5, 10] (fun o i wr => ∃ (kk cap2 : Nat) (a : Option Addr), kk ≤ n ∧ i = .int .i64 kk ∧ o = .slice a kk cap2 ∧ Hid (Below w.heap.size w wr ∧ ∃ us : List α, us.length = kk ∧ OwnK k 35 wr w.heap.size (.slice a kk cap2) (us.map cl) ∧ us.map f = (vs.take kk).map f ∧ ∀ u ∈ us, Q wr u)) (fun _ i _ => n - (intOf i).toNat)
  case atStart => exact ⟨0, 0, none, Nat.zero_le _, rfl, rfl, ⟨Below.refl _ _, [], rfl, ownK_nil _ _ _ _, by simp, fun u hu => by cases hu⟩⟩
  case round =>
    obtain ⟨kk, cap2, a, hkk, rfl, rfl, HI⟩ := hrel
    by_cases hlt : kk < n
    · have hltz : (kk : Int) < (n : Int) := by omega
      obtain ⟨v, hv⟩ : ∃ v, vs[kk]? = some v := ⟨vs[kk]'(by have := HN.out; omega), List.getElem?_eq_getElem _⟩
      have HV : Hid (vs[kk]? = some v) := hv
      have hvm : (vs.map cl)[kk]? = some (cl v) := by rw [List.getElem?_map, hv]; rfl
      obtain ⟨x, hx⟩ : ∃ x, cl v = x := ⟨_, rfl⟩
      have HXV : Hid (cl v = x) := hx
      rw [hx] at hvm
      have hxm : x ∈ vs.map cl := List.mem_of_getElem? hvm
      have hxl : x.length = k := HO.out.len x hxm
      have hx1 : ∀ u ∈ x, u.oneCell' = true := HO.out.one x hxm
      have l1 := (HO.out.below HI.out.1).load P hvm
      have hb1 : Below wr.heap.size wr (wr.alloc (.cells x.toArray 35)) := (Below.refl _ _).alloc (Nat.le_refl _) _
      have s1 := run_boxed P wr zc 35 x (by rw [HZ.out.1, hxl]) hx1
      have l2 := run_unboxed P (w := wr.alloc (.cells x.toArray 35)) (w' := wr.alloc (.cells x.toArray 35)) (b := wr.heap.size) hxl (heap_alloc_new wr _) (Below.refl _ _)
      have HB1 : Hid (Below w.heap.size w (wr.alloc (.cells x.toArray 35)) ∧ Below wr.heap.size wr (wr.alloc (.cells x.toArray 35))) := ⟨HI.out.1.trans (hb1.mono HI.out.1.size), hb1⟩
      have hcall := HM.out _ v (List.mem_of_getElem? hv) HB1.out.1
      rw [hx] at hcall
      have hxa : x.toArray.size = k := by simp [hxl]
      clear hv hvm hxm hx hb1 hx1
      generalize hWX : wr.alloc (.cells x.toArray 35) = WX at s1 l2 HB1 hcall
      obtain ⟨hi1, hi2, hi3⟩ := HZ.out.2.2
      obtain ⟨us, hul, huo, huf, huq⟩ := HI.out.2
      have HU : Hid (us.length = kk ∧ OwnK k 35 wr w.heap.size (.slice a kk cap2) (us.map cl) ∧ us.map f = (vs.take kk).map f ∧ ∀ u ∈ us, Q wr u) := ⟨hul, huo, huf, huq⟩
      clear hul huo huf huq
      have HH : Hid (i0.size = k ∧ i0.zero = some (.agg zc) ∧ i0.bytes ≤ 1000) := ⟨hi1, hi2, by omega⟩
      clear hi1 hi2 hi3
      go_wp2_with (first
        | (go_at_fn fn; refine hcall.mono ?_; rintro e w2 ⟨⟨u, rfl, hfu, hqu⟩, hb2⟩; have HB2 : Hid (Below w.heap.size w w2 ∧ OwnK k 35 w2 w.heap.size (.slice a kk cap2) (us.map cl) ∧ f u = f v ∧ Q w2 u ∧ ∀ u ∈ us, Q w2 u) := ⟨HB1.out.1.trans (hb2.mono HB1.out.1.size), (HU.out.2.1.below HB1.out.2).below hb2, hfu, hqu, fun u hu => HC.out.2.1.below hb2 (HC.out.2.1.below HB1.out.2 (HU.out.2.2.2 u hu))⟩; clear hb2 hfu hqu)
        | (at_builtin; refine wpList_appK rfl _ _ 22 rfl 35 k hk0 zc tS HZ.out.1 i0 hi0 HH.out.1 HH.out.2.1 HH.out.2.2 w.heap.size w2 (.slice a kk cap2) (us.map cl) kk rfl HB2.out.2.1 (by rw [List.length_map]; exact HU.out.1) (by omega) HB2.out.1.size (cl u) (HC.out.1 u) (HC.out.2.2 w2 u HB2.out.2.2.2.1) rfl ?_; intro g4 cap4 w4 hown4 hg4 hlt4; have HF : Hid (Below w.heap.size w w4 ∧ ∃ us : List α, us.length = kk + 1 ∧ OwnK k 35 w4 w.heap.size (.slice (some ⟨g4, 0, none⟩) (kk + 1) cap4) (us.map cl) ∧ us.map f = (vs.take (kk + 1)).map f ∧ ∀ u ∈ us, Q w4 u) := ech_step HB2.out.1 HB2.out.2.1 hown4 hg4 HU.out.1 HU.out.2.2.1 HV.out HB2.out.2.2.1 HB2.out.2.2.2.1 HB2.out.2.2.2.2 HC.out.2.1; clear hown4 hg4 hlt4)
        | (refine wpList_bs1 rfl 22 _ rfl 35 k hk0 hk1 zc tS zE vE HZ.out.1 (cl u) rfl (HC.out.1 u) ?_))
      go_roundw
      case rel => exact ⟨kk + 1, _, _, by omega, by go_num, rfl, HF⟩
      case measure => simp [intOf]; omega
    · have hltz : ¬ (kk : Int) < (n : Int) := by omega
      go_wp2
      go_ret
      obtain ⟨us, hul, huo, huf, huq⟩ := HI.out.2
      exact ⟨⟨_, rfl, us, huo, by rw [huf, List.take_of_length_le (by rw [HN.out]; omega)], huq⟩, HI.out.1⟩
end Go.Proofs.YtihhabidfcgogaaDoor

/- A book: where it lies, and what it has. -/
namespace Go.Proofs.YtihhabidfcgogaaDoor
open Go.RowKit
set_option linter.unusedVariables false

/-- A pass as any call may hand it in. -/
def GoodP (p : PsV) : Prop := KeyOk p ∧ Wee p
/-- A book lies in block bk; its row v holds these. -/
structure BookW (w : World) (B bk : Nat) (v : Value) (xs : List PsV) : Prop where
  blk : w.heap[bk]? = some (.cells #[v] 27 (0, 0))
  low : B ≤ bk
  row : OwnQ w B v xs
  good : ∀ p ∈ xs, GoodP p
  few : xs.length ≤ 32
theorem BookW.below {w w' : World} {B bk : Nat} {v : Value} {xs : List PsV} (h : BookW w B bk v xs) (hb : Below w.heap.size w w') : BookW w' B bk v xs :=
  ⟨(hb.block bk (Array.getElem?_eq_some_iff.1 h.blk).1).trans h.blk, h.low, OwnK.below h.row hb, h.good, h.few⟩
theorem BookW.lt {w : World} {B bk : Nat} {v : Value} {xs : List PsV} (h : BookW w B bk v xs) : bk < w.heap.size := (Array.getElem?_eq_some_iff.1 h.blk).1
/-- What an operation of a book may turn: its block, and its row's; what that is then is new, or was its. -/
structure BookStep (bk : Nat) (v : Value) (w w' : World) (v' : Value) : Prop where
  os : w'.os = w.os
  tape : w'.tape = w.tape
  output : w'.output = w.output
  size : w.heap.size ≤ w'.heap.size
  keep : ∀ x, x < w.heap.size → x ≠ bk → v.ownBlock ≠ some x → w'.heap[x]? = w.heap[x]? ∧ v'.ownBlock ≠ some x
theorem BookStep.of_below {bk : Nat} {v : Value} {w w' : World} (hb : Below w.heap.size w w') : BookStep bk v w w' v :=
  ⟨hb.os, hb.tape, hb.output, hb.size, fun x hx _ h2 => ⟨hb.block x hx, h2⟩⟩
theorem BookStep.trans {bk : Nat} {v v' v2 : Value} {w w' w2 : World} (h : BookStep bk v w w' v') (k : BookStep bk v' w' w2 v2) : BookStep bk v w w2 v2 :=
  ⟨k.os.trans h.os, k.tape.trans h.tape, k.output.trans h.output, Nat.le_trans h.size k.size, fun x hx h1 h2 => by
    obtain ⟨e1, e2⟩ := h.keep x hx h1 h2
    obtain ⟨f1, f2⟩ := k.keep x (Nat.lt_of_lt_of_le hx h.size) h1 e2
    exact ⟨f1.trans e1, f2⟩⟩
/-- Of what lay below the book nothing turns. -/
theorem BookStep.below {bk B : Nat} {v v' : Value} {w w' : World} (h : BookStep bk v w w' v') (hb : B ≤ bk) (hv : ∀ x, v.ownBlock = some x → B ≤ x) (hB : B ≤ w.heap.size) : Below B w w' :=
  ⟨h.os, h.tape, h.output, h.size, fun x hx => (h.keep x (by omega) (by omega) (fun e => by have := hv x e; omega)).1⟩
theorem BookW.step {w w' : World} {B B2 bk b2 : Nat} {v v' v2 : Value} {xs ys : List PsV} (h : BookW w B bk v xs) (h2 : BookW w B2 b2 v2 ys) (hs : BookStep bk v w w' v') (hne : b2 ≠ bk) (ho : ∀ x, v2.ownBlock = some x → v.ownBlock ≠ some x) : BookW w' B2 b2 v2 ys := by
  have hq : ∀ x, v2.ownBlock = some x → x ≠ bk := fun x hx e => by
    subst e
    obtain ⟨c2, e2⟩ := ownK_typed h2.row x hx
    rw [h.blk] at e2
    injection e2 with e2
    injection e2 with _ e3
    revert e3
    decide
  have hq2 : v.ownBlock ≠ some b2 := fun hx => by
    obtain ⟨c2, e2⟩ := ownK_typed h.row b2 hx
    rw [h2.blk] at e2
    injection e2 with e2
    injection e2 with _ e3
    revert e3
    decide
  refine ⟨((hs.keep b2 h2.lt hne hq2).1).trans h2.blk, h2.low, ?_, h2.good, h2.few⟩
  cases hv : v2.ownBlock with
  | none =>
    obtain ⟨h1, h3, h4⟩ := h2.row
    refine ⟨?_, h3, h4⟩
    obtain ⟨h5, h6⟩ := h1
    refine ⟨h5, ?_⟩
    rcases h6 with h6 | ⟨g', cap', cur, e, _⟩
    · exact .inl h6
    · rw [e] at hv
      simp [Value.ownBlock] at hv
  | some x =>
    have hk := (hs.keep x (by obtain ⟨_, e⟩ := ownK_typed h2.row x hv; exact (Array.getElem?_eq_some_iff.1 e).1) (hq x hv) (ho x hv)).1
    obtain ⟨⟨h5, h6⟩, h3, h4⟩ := h2.row
    refine ⟨⟨h5, ?_⟩, h3, h4⟩
    rcases h6 with ⟨e, h6⟩ | ⟨g', cap', cur, e, hB, hh, hr⟩
    · exact .inl ⟨e, h6⟩
    · refine .inr ⟨g', cap', cur, e, hB, ?_, hr⟩
      have : g' = x := by rw [e] at hv; simpa [Value.ownBlock] using hv
      subst this
      exact hk.trans hh
set_option maxHeartbeats 2000000 in
theorem echP_none (w : World) (F : Value) : Calls Tryd.prog 30 #[.slice none 0 0, F] w fun e w' => e = .returned (.slice none 0 0) ∧ w' = w := by
  go_enter Tryd.func30, Tryd.ntmps30
  go_wp2
  refine wp_loop_rounds 1 ?_
  rw [rounds_succ]
  go_wp2
  go_ret
  exact ⟨rfl, rfl⟩
theorem eachP_any (v : Value) (B : Nat) (xs : List PsV) (hl : xs.length ≤ 1000) (hg : ∀ p ∈ xs, Wee p) (w : World) (hown : OwnQ w B v xs) :
    Calls Tryd.prog 30 #[v, .func (.func 28) #[] #[]] w fun e w' => (∃ u, e = .returned u ∧ OwnQ w' w.heap.size u xs) ∧ Below w.heap.size w w' := by
  rcases OwnK.forms hown with ⟨rfl, e2⟩ | ⟨g, cap, rfl, _, _, _, _⟩
  · obtain rfl : xs = [] := List.map_eq_nil_iff.1 e2
    refine (echP_none w _).mono ?_
    rintro e w' ⟨rfl, rfl⟩
    exact ⟨⟨_, rfl, ownQ_nil _ _⟩, Below.refl _ _⟩
  · unfold OwnQ at hown
    rw [List.length_map] at hown ⊢
    obtain ⟨i0, hi0, hz0, hz1, hz2⟩ := info_parts infoX
    refine (echP_of Tryd.prog Tryd.func30 (by kernel_rfl) Tryd.underlying22 Tryd.isAgg22 Tryd.sizeOf22 Tryd.underlying3 Tryd.isAgg3 Tryd.sizeOf3 Tryd.zeroValue3 Tryd.underlying4 Tryd.isAgg4 Tryd.sizeOf4 12 (by omega) (by omega) Tryd.isAgg35 Tryd.sizeOf35 _ Tryd.zeroValue35 rfl (by decide) i0 hi0 hz1 hz0 144 hz2 (by omega) PsV.vals (fun v : PsV => v) (fun v => rfl) (fun _ _ => True) (fun _ _ _ _ _ _ _ => trivial) (fun _ u _ => vals_one u) g _ cap B xs rfl hl w hown 28 (enters_at Tryd.func28 (by kernel_rfl) rfl) (fun W p hp hb => ?_)).mono ?_
    · refine (freshP_any p (hg p hp) W).mono ?_
      rintro e w' ⟨rfl, hb2⟩
      exact ⟨⟨p, rfl, rfl, trivial⟩, hb2⟩
    · rintro e w' ⟨⟨val, us, rfl, h1, h2, _⟩, hb⟩
      simp only [List.map_id'] at h2
      subst h2
      exact ⟨⟨val, rfl, h1⟩, hb⟩
set_option maxHeartbeats 2000000 in
theorem list_any {B bk : Nat} {v : Value} {xs : List PsV} (w : World) (h : BookW w B bk v xs) :
    Calls Tryd.prog 9 #[.pointer (some ⟨bk, 0, none⟩)] w fun e w' => (∃ u, e = .returned u ∧ OwnQ w' w.heap.size u xs) ∧ Below w.heap.size w w' := by
  have hc := cell_of (i := 0) h.blk
  simp only [List.getElem?_toArray, List.getElem?_cons_zero] at hc
  have he := eachP_any v B xs (by have := h.few; omega) (fun p hp => (h.good p hp).2) w h.row
  clear h
  go_enter Tryd.func9, Tryd.ntmps9
  go_wp2_with fail
  refine he.mono ?_
  rintro e w1 ⟨⟨u, rfl, h1⟩, hb⟩
  go_wp2
  go_ret
  exact ⟨⟨u, rfl, h1⟩, hb⟩
end Go.Proofs.YtihhabidfcgogaaDoor
