/- Rows of elements of some cells each that a call owns, and how they are written into. -/
import Derived.Test.YtoblpjknnchlmabGreatDoorBas
import Derived.Laws.OwnMore
import Derived.Laws.IdiomCopy
import Derived.Deep.Upon
import Derived.Deep.Onto
import Derived.Below
import Derived.Shelf.SlicesQ.Load
namespace Go.Proofs.YtoblpjknnchlmabGreatDoor
open Go.RowKit

theorem heap_setCells (g : Nat) (t : TypeId) : ∀ (vs : List Value) (o : Nat) (w : World) (cur : Array Value), w.heap[g]? = some (.cells cur t (0, 0)) →
    ∃ cur', (w.setCells g o vs).heap[g]? = some (.cells cur' t (0, 0)) ∧ cur'.size = cur.size ∧ (o + vs.length ≤ cur.size → cur'.toList = cur.toList.take o ++ vs ++ cur.toList.drop (o + vs.length))
  | [], o, w, cur, h => ⟨cur, h, rfl, fun _ => by simp⟩
  | v :: r, o, w, cur, h => by
    obtain ⟨cur', h1, h2, h3⟩ := heap_setCells g t r (o + 1) (w.setCell ⟨g, o, none⟩ v) (cur.setIfInBounds o v) (heap_setCell_same w g o cur t v h)
    refine ⟨cur', h1, by rw [h2]; simp, fun hl => ?_⟩
    simp only [List.length_cons] at hl
    rw [h3 (by simp; omega), Array.toList_setIfInBounds]
    have ho : o < cur.toList.length := by rw [Array.length_toList]; omega
    have e1 : (cur.toList.set o v).take (o + 1) = cur.toList.take o ++ [v] := by
      apply List.ext_getElem?
      intro i
      simp only [List.getElem?_take, List.getElem?_set, List.getElem?_append, List.length_take]
      by_cases h1 : i < o
      · rw [if_pos (by omega), if_neg (by omega), if_pos (by omega), if_pos h1]
      · by_cases h2 : i = o
        · subst h2
          rw [if_pos (by omega), if_pos rfl, if_pos ho, if_neg (by omega)]
          rw [show i - min i cur.toList.length = 0 by omega]
          rfl
        · rw [if_neg (by omega), if_neg (by omega)]
          symm
          rw [List.getElem?_eq_none]
          simp
          omega
    have e2 : (cur.toList.set o v).drop (o + 1 + r.length) = cur.toList.drop (o + (v :: r).length) := by
      rw [List.drop_set_of_lt (by omega)]
      congr 1
      simp
      omega
    rw [e1, e2]
    simp
theorem grown_setCells (w : World) (g o : Nat) (vs : List Value) : w.grownBy (w.setCells g o vs) (some g) :=
  ⟨World.os_setCells w g o vs, by
    induction vs generalizing o w with
    | nil => rfl
    | cons v r ih => exact (ih (w.setCell ⟨g, o, none⟩ v) (o + 1)).trans rfl, World.output_setCells w g o vs, by
    induction vs generalizing o w with
    | nil => exact Nat.le_refl _
    | cons v r ih => exact Nat.le_trans (by simp [World.setCell]) (ih (w.setCell ⟨g, o, none⟩ v) (o + 1)), fun k hk hne => World.heap_setCells_other w g o vs hk (fun e => hne (by rw [e]))⟩

theorem gtrans {a b c : World} {row : Option Nat} (h : a.grownBy b row) (k : b.grownBy c row) : a.grownBy c row :=
  ⟨k.os.trans h.os, k.tape.trans h.tape, k.output.trans h.output, Nat.le_trans h.size k.size, fun i hi hne => (k.block i (Nat.lt_of_lt_of_le hi h.size) hne).trans (h.block i hi hne)⟩
theorem flat_len {k : Nat} : ∀ {xs : List (List Value)}, (∀ x ∈ xs, x.length = k) → xs.flatten.length = xs.length * k
  | [], _ => by simp
  | x :: r, h => by
    rw [List.flatten_cons, List.length_append, h x (by simp), flat_len (fun y hy => h y (by simp [hy])), List.length_cons, Nat.succ_mul, Nat.add_comm]
theorem flat_take {k : Nat} : ∀ {xs : List (List Value)} (_ : ∀ x ∈ xs, x.length = k) (i : Nat), xs.flatten.take (i * k) = (xs.take i).flatten
  | [], _, i => by simp
  | x :: r, h, 0 => by simp
  | x :: r, h, i + 1 => by
    have hx := h x (by simp)
    rw [List.flatten_cons, List.take_succ_cons, List.flatten_cons, ← flat_take (fun y hy => h y (by simp [hy])) i, Nat.succ_mul, Nat.add_comm, List.take_append]
    rw [hx, Nat.add_sub_cancel_left, List.take_of_length_le (by omega)]
theorem flat_drop {k : Nat} : ∀ {xs : List (List Value)} (_ : ∀ x ∈ xs, x.length = k) (i : Nat), xs.flatten.drop (i * k) = (xs.drop i).flatten
  | [], _, i => by simp
  | x :: r, h, 0 => by simp
  | x :: r, h, i + 1 => by
    have hx := h x (by simp)
    rw [List.flatten_cons, List.drop_succ_cons, ← flat_drop (fun y hy => h y (by simp [hy])) i, Nat.succ_mul, Nat.add_comm, List.drop_append]
    rw [hx, Nat.add_sub_cancel_left, List.drop_of_length_le (by omega), List.nil_append]
theorem flat_at {k : Nat} {xs : List (List Value)} (h : ∀ x ∈ xs, x.length = k) {j i : Nat} {x : List Value} {u : Value} (hj : xs[j]? = some x) (hi : x[i]? = some u) : xs.flatten[j * k + i]? = some u := by
  have e := flat_drop h j
  obtain ⟨hjl, hx⟩ := List.getElem?_eq_some_iff.1 hj
  rw [List.drop_eq_getElem_cons hjl, hx, List.flatten_cons] at e
  have e2 : (xs.flatten.drop (j * k))[i]? = some u := by
    rw [e, List.getElem?_append_left (List.getElem?_eq_some_iff.1 hi).1]
    exact hi
  rwa [List.getElem?_drop] at e2

/-- A value of slice type that owns these elements, of k cells each, among the blocks from B on. -/
structure OwnK (k : Nat) (t : TypeId) (w : World) (B : Nat) (v : Value) (xs : List (List Value)) : Prop where
  row : w.ownsRow B t k v xs.length xs.flatten
  len : ∀ x ∈ xs, x.length = k
  one : ∀ x ∈ xs, ∀ u ∈ x, u.oneCell' = true
theorem ownK_nil (k : Nat) (t : TypeId) (w : World) (B : Nat) : OwnK k t w B (.slice none 0 0) [] := ⟨⟨by simp, .inl ⟨rfl, rfl⟩⟩, fun x hx => (by cases hx), fun x hx => (by cases hx)⟩
section
variable {k n cap g B : Nat} {t : TypeId} {w : World} {v : Value} {xs : List (List Value)}
theorem OwnK.lt (h : OwnK k t w B v xs) : ∀ b, v.ownBlock = some b → B ≤ b ∧ b < w.heap.size := World.ownsRow.lt h.row
theorem OwnK.mono {B' : Nat} (h : OwnK k t w B v xs) (hb : B' ≤ B) : OwnK k t w B' v xs := ⟨World.ownsRow.mono h.row hb, h.len, h.one⟩
theorem OwnK.kept {w' : World} {row : Option Nat} (h : OwnK k t w B v xs) (hg : w.grownBy w' row) (hne : v.ownBlock = none ∨ v.ownBlock ≠ row) : OwnK k t w' B v xs := ⟨World.ownsRow.kept h.row hg hne, h.len, h.one⟩
theorem OwnK.below {w' : World} (h : OwnK k t w B v xs) (hb : Below w.heap.size w w') : OwnK k t w' B v xs := by
  refine h.kept (row := none) ⟨hb.os, hb.tape, hb.output, hb.size, fun i hi _ => hb.block i hi⟩ ?_
  rcases v.ownBlock with _ | k
  · exact .inl rfl
  · exact .inr (by simp)
theorem OwnK.drewN (h : OwnK k t w B v xs) (q : Nat) : OwnK k t (w.drewN q) B v xs := ⟨h.row, h.len, h.one⟩
/-- What it looks like. -/
theorem OwnK.forms (h : OwnK k t w B v xs) : (v = .slice none 0 0 ∧ xs = []) ∨ ∃ g cap, v = .slice (some ⟨g, 0, none⟩) xs.length cap ∧ B ≤ g ∧ g < w.heap.size ∧ xs.length ≤ cap ∧ cap ≤ maxLen := by
  rcases h.row.2 with ⟨e, h0⟩ | ⟨g, cap, cur, e, hB, hh, h1, h2, _⟩
  · exact .inl ⟨e, List.eq_nil_of_length_eq_zero h0⟩
  · exact .inr ⟨g, cap, e, hB, (Array.getElem?_eq_some_iff.1 hh).1, h1, h2⟩
theorem OwnK.cell (h : OwnK k t w B (.slice (some ⟨g, 0, none⟩) n cap) xs) {j i : Nat} {x : List Value} {u : Value} (hj : xs[j]? = some x) (hi : x[i]? = some u) : w.cell? ⟨g, j * k + i, none⟩ = some u := by
  have hc := World.ownsRow.cells h.row (g := g) rfl (j * k + i) u (flat_at h.len hj hi)
  rw [Addr.add_lit, Nat.zero_add] at hc
  exact hc
theorem OwnK.load (P : Program) (h : OwnK k t w B (.slice (some ⟨g, 0, none⟩) n cap) xs) {j : Nat} {x : List Value} (hj : xs[j]? = some x) : Sem.run P (loadCellsFrom ⟨g, j * k, none⟩ 0 k #[]) w = .ok x.toArray w :=
  run_loadCellsFrom_list P w _ x k (h.len x (List.mem_of_getElem? hj)) (fun i u hi => by rw [Addr.add_lit]; exact h.cell hj hi)
theorem OwnK.frozen (h : OwnK k t w B (.slice (some ⟨g, 0, none⟩) n cap) xs) (j : Nat) : w.frozen? ⟨g, j, none⟩ = false := by
  rcases h.row.2 with ⟨e, _⟩ | ⟨g', cap', cur, e, _, hh, _⟩
  · cases e
  · injection e with e1 _ _
    injection e1 with e1
    injection e1 with e1
    subst e1
    simp [World.frozen?, hh]
theorem OwnK.there (h : OwnK k t w B (.slice (some ⟨g, 0, none⟩) n cap) xs) (j : Nat) (hj : j < cap * k) : (w.cell? ⟨g, j, none⟩).isSome = true := by
  rcases h.row.2 with ⟨e, _⟩ | ⟨g', cap', cur, e, _, hh, _, _, hs, _⟩
  · cases e
  · injection e with e1 e2 e3
    injection e1 with e1
    injection e1 with e1
    subst e1 e3
    rw [cell_of_row w g j cur t (0, 0) hh, Array.getElem?_eq_getElem (by omega)]
    rfl
/-- Elements are written at a place. -/
theorem OwnK.put (h : OwnK k t w B (.slice (some ⟨g, 0, none⟩) n cap) xs) (i : Nat) (ys : List (List Value)) (hy : ∀ y ∈ ys, y.length = k) (hy1 : ∀ y ∈ ys, ∀ u ∈ y, u.oneCell' = true) (hi : i ≤ xs.length) (hc : i + ys.length ≤ cap) :
    OwnK k t (w.setCells g (i * k) ys.flatten) B (.slice (some ⟨g, 0, none⟩) (xs.take i ++ ys ++ xs.drop (i + ys.length)).length cap) (xs.take i ++ ys ++ xs.drop (i + ys.length)) := by
  have hall : ∀ x ∈ xs.take i ++ ys ++ xs.drop (i + ys.length), x ∈ xs ∨ x ∈ ys := fun x hx => by
    rcases List.mem_append.1 hx with hx | hx
    · rcases List.mem_append.1 hx with hx | hx
      · exact .inl (List.mem_of_mem_take hx)
      · exact .inr hx
    · exact .inl (List.mem_of_mem_drop hx)
  have hlen : ∀ x ∈ xs.take i ++ ys ++ xs.drop (i + ys.length), x.length = k := fun x hx => (hall x hx).elim (h.len x) (hy x)
  refine ⟨⟨flat_len hlen, ?_⟩, hlen, fun x hx => (hall x hx).elim (h.one x) (hy1 x)⟩
  rcases h.row.2 with ⟨e, _⟩ | ⟨g', cap', cur, e, hB, hh, hn, hm, hs, ht⟩
  · cases e
  · injection e with e1 e2 e3
    injection e1 with e1
    injection e1 with e1
    subst e1 e3
    obtain ⟨cur', h1, h2, h3⟩ := heap_setCells g t ys.flatten (i * k) w cur hh
    have hyl := flat_len hy
    have hck : i * k + ys.flatten.length ≤ cur.size := by
      rw [hyl, hs, ← Nat.add_mul]
      exact Nat.mul_le_mul_right _ hc
    have h3 := h3 hck
    have hLl : (xs.take i ++ ys ++ xs.drop (i + ys.length)).length ≤ cap := by simp; omega
    refine .inr ⟨g, cap, cur', rfl, hB, h1, hLl, hm, by rw [h2, hs], ?_⟩
    rw [h3]
    have hd : (xs.drop (i + ys.length)).flatten = (cur.toList.drop (i * k + ys.flatten.length)).take ((xs.length - (i + ys.length)) * k) := by
      rw [← flat_drop h.len, ← ht, hyl, ← Nat.add_mul, List.drop_take, Nat.sub_mul]
    have htk : (xs.take i).flatten = cur.toList.take (i * k) := by
      rw [← flat_take h.len, ← ht, List.take_take, Nat.min_eq_left (Nat.mul_le_mul_right _ hi)]
    have hl1 : (cur.toList.take (i * k)).length = i * k := by rw [List.length_take, Array.length_toList]; omega
    rw [List.flatten_append, List.flatten_append, hd, htk]
    have hT : (xs.take i ++ ys ++ xs.drop (i + ys.length)).length = i + ys.length + (xs.length - (i + ys.length)) := by simp; omega
    rw [hT, Nat.add_mul, Nat.add_mul, ← hyl, List.take_append, List.length_append, hl1]
    rw [List.take_of_length_le (by rw [List.length_append, hl1]; omega)]
    congr 2
    omega
theorem OwnK.set (h : OwnK k t w B (.slice (some ⟨g, 0, none⟩) n cap) xs) (i : Nat) (x : List Value) (hx : x.length = k) (hx1 : ∀ u ∈ x, u.oneCell' = true) (hi : i < xs.length) :
    OwnK k t (w.setCells g (i * k) x) B (.slice (some ⟨g, 0, none⟩) n cap) (xs.set i x) := by
  have hn : n = xs.length ∧ xs.length ≤ cap := by
    rcases h.forms with ⟨e, _⟩ | ⟨g', cap', e, _, _, h1, _⟩
    · cases e
    · injection e with e1 e2 e3
      subst e2 e3
      exact ⟨rfl, h1⟩
  have h2 := h.put i [x] (fun y hy => by rw [List.mem_singleton.1 hy]; exact hx) (fun y hy => by rw [List.mem_singleton.1 hy]; exact hx1) (by omega) (by simp; omega)
  have e1 : xs.take i ++ [x] ++ xs.drop (i + [x].length) = xs.set i x := by rw [List.set_eq_take_append_cons_drop, if_pos hi]; simp
  have e2 : [x].flatten = x := by simp
  rw [e1, e2, List.length_set, ← hn.1] at h2
  exact h2
theorem OwnK.cut (h : OwnK k t w B (.slice (some ⟨g, 0, none⟩) n cap) xs) (i : Nat) (hi : i ≤ xs.length) : OwnK k t w B (.slice (some ⟨g, 0, none⟩) i cap) (xs.take i) := by
  have hlen : ∀ x ∈ xs.take i, x.length = k := fun x hx => h.len x (List.mem_of_mem_take hx)
  have hl : (xs.take i).length = i := by rw [List.length_take]; omega
  refine ⟨⟨flat_len hlen, ?_⟩, hlen, fun x hx => h.one x (List.mem_of_mem_take hx)⟩
  rcases h.row.2 with ⟨e, _⟩ | ⟨g', cap', cur, e, hB, hh, hn, hm, hs, ht⟩
  · cases e
  · injection e with e1 e2 e3
    injection e1 with e1
    injection e1 with e1
    subst e1 e3
    refine .inr ⟨g, cap, cur, by rw [hl], hB, hh, by omega, hm, hs, ?_⟩
    rw [← flat_take h.len, ← ht, List.take_take, hl, Nat.min_eq_left (Nat.mul_le_mul_right _ hi)]
/-- What stands behind a place is written over, and cut off. -/
theorem OwnK.wipe (h : OwnK k t w B (.slice (some ⟨g, 0, none⟩) n cap) xs) (i : Nat) (hi : i ≤ xs.length) (vs : List Value) (hv : i * k + vs.length ≤ cap * k) : OwnK k t (w.setCells g (i * k) vs) B (.slice (some ⟨g, 0, none⟩) i cap) (xs.take i) := by
  have hc := h.cut i hi
  refine ⟨⟨hc.row.1, ?_⟩, hc.len, hc.one⟩
  rcases hc.row.2 with ⟨e, _⟩ | ⟨g', cap', cur, e, hB, hh, hn, hm, hs, ht⟩
  · cases e
  · injection e with e1 e2 e3
    injection e1 with e1
    injection e1 with e1
    subst e1 e3
    obtain ⟨cur', h1, h2, h3⟩ := heap_setCells g t vs (i * k) w cur hh
    have hl : (xs.take i).length = i := by rw [List.length_take]; omega
    refine .inr ⟨g, cap, cur', by rw [hl], hB, h1, hn, hm, by rw [h2, hs], ?_⟩
    rw [h3 (by rw [hs]; exact hv), ← ht, hl, List.take_append, List.take_append, List.take_take]
    rw [List.length_take, Array.length_toList]
    have hik : i * k ≤ cur.size := by omega
    rw [show i * k - min (i * k) cur.size = 0 by omega, Nat.min_self, List.length_append, List.length_take, Array.length_toList]
    rw [show i * k - (min (i * k) cur.size + vs.length) = 0 by omega]
    simp
end
end Go.Proofs.YtoblpjknnchlmabGreatDoor
