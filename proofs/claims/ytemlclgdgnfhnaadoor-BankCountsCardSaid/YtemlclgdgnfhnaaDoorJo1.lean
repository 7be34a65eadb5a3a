/- Texts of one claim, joined: each begins with what it proves. -/
import Derived.Test.YtemlclgdgnfhnaaDoorRows
import Derived.WalkKit
import Derived.WalkSpells
import Derived.ProofKit
import Derived.Lib.SlBytesRow
import Derived.Laws.IdiomStrings
import Derived.Deep.RegionHeld3
import Derived.Deep.AppendLies
import Derived.OwnWalk
import Derived.Laws.OwnMore
import Derived.Laws.IdiomCopy
import Derived.Deep.Upon
import Derived.Deep.Onto
import Derived.Below
import Derived.Shelf.SlicesQ.Load
import Derived.Deep.Draws
import Derived.Deep.LoopGhost
import Derived.Shelf.RegionOpenPlain
import Derived.Shelf.LaysM
import Derived.Shelf.Strconv.Clone
import Derived.Deep.QuietTactic
import Derived.BigQuiet
/- What every walk needs: texts as lists of bytes. -/
namespace Go.Proofs.YtemlclgdgnfhnaaDoor
open Go.RowKit

def bs (l : List UInt8) : ByteArray := ⟨l.toArray⟩
theorem bs_append (a b : List UInt8) : bs (a ++ b) = bs a ++ bs b := by
  apply ByteArray.ext
  simp [bs]
theorem bs_size (l : List UInt8) : (bs l).size = l.length := by simp [bs, ByteArray.size]
theorem bs_data (l : List UInt8) : (bs l).data.toList = l := by simp [bs]
theorem bs_self (s : ByteArray) : bs s.data.toList = s := by
  apply ByteArray.ext
  simp [bs]
theorem bs_inj {a b : List UInt8} (h : bs a = bs b) : a = b := by rw [← bs_data a, ← bs_data b, h]
theorem ret_str {a b : ByteArray} (h : a = b) : Ending.returned (.string a) = .returned (.string b) := by rw [h]
theorem str_eq {a b : ByteArray} (h : b = a) : Value.string a = .string b := by rw [h]
theorem take_snoc (s : ByteArray) (k : Nat) (h : k < s.size) : s.data.toList.take (k + 1) = s.data.toList.take k ++ [s[k]] := by
  rw [List.take_succ_eq_append_getElem (by simpa using h)]; rfl
theorem ofNat_back (n : Int) (h0 : 0 ≤ n) (h1 : n < 256) : ((UInt8.ofNat n.toNat).toNat : Int) = n := by
  simp only [UInt8.toNat_ofNat']
  omega

theorem own : ownKnob Tryd.prog.godebug = none := by kernel_rfl
end Go.Proofs.YtemlclgdgnfhnaaDoor

/- Rows of elements of some cells each that a call owns, and how they are written into. -/
namespace Go.Proofs.YtemlclgdgnfhnaaDoor
open Go.RowKit

theorem heap_setCells (g : Nat) (t : TypeId) : ∀ (vs : List Value) (o : Nat) (w : World) (cur : Array Value), w.heap[g]? = some (.cells cur t (0, 0)) →
    ∃ cur', (w.setCells g o vs).heap[g]? = some (.cells cur' t (0, 0)) ∧ cur'.size = cur.size ∧ (o + vs.length ≤ cur.size → cur'.toList = cur.toList.take o ++ vs ++ cur.toList.drop (o + vs.length))
  | [], o, w, cur, h => ⟨cur, h, rfl, fun _ => by simp⟩
  | v :: r, o, w, cur, h => by
    obtain ⟨cur', h1, h2, h3⟩ := heap_setCells g t r (o + 1) (w.setCell ⟨g, o, none⟩ v) (cur.setIfInBounds o v) (heap_setCell_same w g o cur t v h)
    refine ⟨cur', h1, by rw [h2]; simp, fun hl => ?_⟩
    simp only [List.length_cons] at hl
    rw [h3 (by simp; omega), Array.toList_setIfInBounds]
    have ho : o < cur.toList.length := by rw [Array.length_toList]; omega
    have e1 : (cur.toList.set o v).take (o + 1) = cur.toList.take o ++ [v] := by
      apply List.ext_getElem?
      intro i
      simp only [List.getElem?_take, List.getElem?_set, List.getElem?_append, List.length_take]
      by_cases h1 : i < o
      · rw [if_pos (by omega), if_neg (by omega), if_pos (by omega), if_pos h1]
      · by_cases h2 : i = o
        · subst h2
          rw [if_pos (by omega), if_pos rfl, if_pos ho, if_neg (by omega)]
          rw [show i - min i cur.toList.length = 0 by omega]
          rfl
        · rw [if_neg (by omega), if_neg (by omega)]
          symm
          rw [List.getElem?_eq_none]
          simp
          omega
    have e2 : (cur.toList.set o v).drop (o + 1 + r.length) = cur.toList.drop (o + (v :: r).length) := by
      rw [List.drop_set_of_lt (by omega)]
      congr 1
      simp
      omega
    rw [e1, e2]
    simp
theorem grown_setCells (w : World) (g o : Nat) (vs : List Value) : w.grownBy (w.setCells g o vs) (some g) :=
  ⟨World.os_setCells w g o vs, by
    induction vs generalizing o w with
    | nil => rfl
    | cons v r ih => exact (ih (w.setCell ⟨g, o, none⟩ v) (o + 1)).trans rfl, World.output_setCells w g o vs, by
    induction vs generalizing o w with
    | nil => exact Nat.le_refl _
    | cons v r ih => exact Nat.le_trans (by simp [World.setCell]) (ih (w.setCell ⟨g, o, none⟩ v) (o + 1)), fun k hk hne => World.heap_setCells_other w g o vs hk (fun e => hne (by rw [e]))⟩

theorem gtrans {a b c : World} {row : Option Nat} (h : a.grownBy b row) (k : b.grownBy c row) : a.grownBy c row :=
  ⟨k.os.trans h.os, k.tape.trans h.tape, k.output.trans h.output, Nat.le_trans h.size k.size, fun i hi hne => (k.block i (Nat.lt_of_lt_of_le hi h.size) hne).trans (h.block i hi hne)⟩
theorem flat_len {k : Nat} : ∀ {xs : List (List Value)}, (∀ x ∈ xs, x.length = k) → xs.flatten.length = xs.length * k
  | [], _ => by simp
  | x :: r, h => by
    rw [List.flatten_cons, List.length_append, h x (by simp), flat_len (fun y hy => h y (by simp [hy])), List.length_cons, Nat.succ_mul, Nat.add_comm]
theorem flat_take {k : Nat} : ∀ {xs : List (List Value)} (_ : ∀ x ∈ xs, x.length = k) (i : Nat), xs.flatten.take (i * k) = (xs.take i).flatten
  | [], _, i => by simp
  | x :: r, h, 0 => by simp
  | x :: r, h, i + 1 => by
    have hx := h x (by simp)
    rw [List.flatten_cons, List.take_succ_cons, List.flatten_cons, ← flat_take (fun y hy => h y (by simp [hy])) i, Nat.succ_mul, Nat.add_comm, List.take_append]
    rw [hx, Nat.add_sub_cancel_left, List.take_of_length_le (by omega)]
theorem flat_drop {k : Nat} : ∀ {xs : List (List Value)} (_ : ∀ x ∈ xs, x.length = k) (i : Nat), xs.flatten.drop (i * k) = (xs.drop i).flatten
  | [], _, i => by simp
  | x :: r, h, 0 => by simp
  | x :: r, h, i + 1 => by
    have hx := h x (by simp)
    rw [List.flatten_cons, List.drop_succ_cons, ← flat_drop (fun y hy => h y (by simp [hy])) i, Nat.succ_mul, Nat.add_comm, List.drop_append]
    rw [hx, Nat.add_sub_cancel_left, List.drop_of_length_le (by omega), List.nil_append]
theorem flat_at {k : Nat} {xs : List (List Value)} (h : ∀ x ∈ xs, x.length = k) {j i : Nat} {x : List Value} {u : Value} (hj : xs[j]? = some x) (hi : x[i]? = some u) : xs.flatten[j * k + i]? = some u := by
  have e := flat_drop h j
  obtain ⟨hjl, hx⟩ := List.getElem?_eq_some_iff.1 hj
  rw [List.drop_eq_getElem_cons hjl, hx, List.flatten_cons] at e
  have e2 : (xs.flatten.drop (j * k))[i]? = some u := by
    rw [e, List.getElem?_append_left (List.getElem?_eq_some_iff.1 hi).1]
    exact hi
  rwa [List.getElem?_drop] at e2

/-- A value of slice type that owns these elements, of k cells each, among the blocks from B on. -/
structure OwnK (k : Nat) (t : TypeId) (w : World) (B : Nat) (v : Value) (xs : List (List Value)) : Prop where
  row : w.ownsRow B t k v xs.length xs.flatten
  len : ∀ x ∈ xs, x.length = k
  one : ∀ x ∈ xs, ∀ u ∈ x, u.oneCell' = true
theorem ownK_nil (k : Nat) (t : TypeId) (w : World) (B : Nat) : OwnK k t w B (.slice none 0 0) [] := ⟨⟨by simp, .inl ⟨rfl, rfl⟩⟩, fun x hx => (by cases hx), fun x hx => (by cases hx)⟩
section
variable {k n cap g B : Nat} {t : TypeId} {w : World} {v : Value} {xs : List (List Value)}
theorem OwnK.lt (h : OwnK k t w B v xs) : ∀ b, v.ownBlock = some b → B ≤ b ∧ b < w.heap.size := World.ownsRow.lt h.row
theorem OwnK.mono {B' : Nat} (h : OwnK k t w B v xs) (hb : B' ≤ B) : OwnK k t w B' v xs := ⟨World.ownsRow.mono h.row hb, h.len, h.one⟩
theorem OwnK.kept {w' : World} {row : Option Nat} (h : OwnK k t w B v xs) (hg : w.grownBy w' row) (hne : v.ownBlock = none ∨ v.ownBlock ≠ row) : OwnK k t w' B v xs := ⟨World.ownsRow.kept h.row hg hne, h.len, h.one⟩
theorem OwnK.below {w' : World} (h : OwnK k t w B v xs) (hb : Below w.heap.size w w') : OwnK k t w' B v xs := by
  refine h.kept (row := none) ⟨hb.os, hb.tape, hb.output, hb.size, fun i hi _ => hb.block i hi⟩ ?_
  rcases v.ownBlock with _ | k
  · exact .inl rfl
  · exact .inr (by simp)
theorem OwnK.drewN (h : OwnK k t w B v xs) (q : Nat) : OwnK k t (w.drewN q) B v xs := ⟨h.row, h.len, h.one⟩
/-- What it looks like. -/
theorem OwnK.forms (h : OwnK k t w B v xs) : (v = .slice none 0 0 ∧ xs = []) ∨ ∃ g cap, v = .slice (some ⟨g, 0, none⟩) xs.length cap ∧ B ≤ g ∧ g < w.heap.size ∧ xs.length ≤ cap ∧ cap ≤ maxLen := by
  rcases h.row.2 with ⟨e, h0⟩ | ⟨g, cap, cur, e, hB, hh, h1, h2, _⟩
  · exact .inl ⟨e, List.eq_nil_of_length_eq_zero h0⟩
  · exact .inr ⟨g, cap, e, hB, (Array.getElem?_eq_some_iff.1 hh).1, h1, h2⟩
theorem OwnK.cell (h : OwnK k t w B (.slice (some ⟨g, 0, none⟩) n cap) xs) {j i : Nat} {x : List Value} {u : Value} (hj : xs[j]? = some x) (hi : x[i]? = some u) : w.cell? ⟨g, j * k + i, none⟩ = some u := by
  have hc := World.ownsRow.cells h.row (g := g) rfl (j * k + i) u (flat_at h.len hj hi)
  rw [Addr.add_lit, Nat.zero_add] at hc
  exact hc
theorem OwnK.load (P : Program) (h : OwnK k t w B (.slice (some ⟨g, 0, none⟩) n cap) xs) {j : Nat} {x : List Value} (hj : xs[j]? = some x) : Sem.run P (loadCellsFrom ⟨g, j * k, none⟩ 0 k #[]) w = .ok x.toArray w :=
  run_loadCellsFrom_list P w _ x k (h.len x (List.mem_of_getElem? hj)) (fun i u hi => by rw [Addr.add_lit]; exact h.cell hj hi)
theorem OwnK.frozen (h : OwnK k t w B (.slice (some ⟨g, 0, none⟩) n cap) xs) (j : Nat) : w.frozen? ⟨g, j, none⟩ = false := by
  rcases h.row.2 with ⟨e, _⟩ | ⟨g', cap', cur, e, _, hh, _⟩
  · cases e
  · injection e with e1 _ _
    injection e1 with e1
    injection e1 with e1
    subst e1
    simp [World.frozen?, hh]
theorem OwnK.there (h : OwnK k t w B (.slice (some ⟨g, 0, none⟩) n cap) xs) (j : Nat) (hj : j < cap * k) : (w.cell? ⟨g, j, none⟩).isSome = true := by
  rcases h.row.2 with ⟨e, _⟩ | ⟨g', cap', cur, e, _, hh, _, _, hs, _⟩
  · cases e
  · injection e with e1 e2 e3
    injection e1 with e1
    injection e1 with e1
    subst e1 e3
    rw [cell_of_row w g j cur t (0, 0) hh, Array.getElem?_eq_getElem (by omega)]
    rfl
/-- Elements are written at a place. -/
theorem OwnK.put (h : OwnK k t w B (.slice (some ⟨g, 0, none⟩) n cap) xs) (i : Nat) (ys : List (List Value)) (hy : ∀ y ∈ ys, y.length = k) (hy1 : ∀ y ∈ ys, ∀ u ∈ y, u.oneCell' = true) (hi : i ≤ xs.length) (hc : i + ys.length ≤ cap) :
    OwnK k t (w.setCells g (i * k) ys.flatten) B (.slice (some ⟨g, 0, none⟩) (xs.take i ++ ys ++ xs.drop (i + ys.length)).length cap) (xs.take i ++ ys ++ xs.drop (i + ys.length)) := by
  have hall : ∀ x ∈ xs.take i ++ ys ++ xs.drop (i + ys.length), x ∈ xs ∨ x ∈ ys := fun x hx => by
    rcases List.mem_append.1 hx with hx | hx
    · rcases List.mem_append.1 hx with hx | hx
      · exact .inl (List.mem_of_mem_take hx)
      · exact .inr hx
    · exact .inl (List.mem_of_mem_drop hx)
  have hlen : ∀ x ∈ xs.take i ++ ys ++ xs.drop (i + ys.length), x.length = k := fun x hx => (hall x hx).elim (h.len x) (hy x)
  refine ⟨⟨flat_len hlen, ?_⟩, hlen, fun x hx => (hall x hx).elim (h.one x) (hy1 x)⟩
  rcases h.row.2 with ⟨e, _⟩ | ⟨g', cap', cur, e, hB, hh, hn, hm, hs, ht⟩
  · cases e
  · injection e with e1 e2 e3
    injection e1 with e1
    injection e1 with e1
    subst e1 e3
    obtain ⟨cur', h1, h2, h3⟩ := heap_setCells g t ys.flatten (i * k) w cur hh
    have hyl := flat_len hy
    have hck : i * k + ys.flatten.length ≤ cur.size := by
      rw [hyl, hs, ← Nat.add_mul]
      exact Nat.mul_le_mul_right _ hc
    have h3 := h3 hck
    have hLl : (xs.take i ++ ys ++ xs.drop (i + ys.length)).length ≤ cap := by simp; omega
    refine .inr ⟨g, cap, cur', rfl, hB, h1, hLl, hm, by rw [h2, hs], ?_⟩
    rw [h3]
    have hd : (xs.drop (i + ys.length)).flatten = (cur.toList.drop (i * k + ys.flatten.length)).take ((xs.length - (i + ys.length)) * k) := by
      rw [← flat_drop h.len, ← ht, hyl, ← Nat.add_mul, List.drop_take, Nat.sub_mul]
    have htk : (xs.take i).flatten = cur.toList.take (i * k) := by
      rw [← flat_take h.len, ← ht, List.take_take, Nat.min_eq_left (Nat.mul_le_mul_right _ hi)]
    have hl1 : (cur.toList.take (i * k)).length = i * k := by rw [List.length_take, Array.length_toList]; omega
    rw [List.flatten_append, List.flatten_append, hd, htk]
    have hT : (xs.take i ++ ys ++ xs.drop (i + ys.length)).length = i + ys.length + (xs.length - (i + ys.length)) := by simp; omega
    rw [hT, Nat.add_mul, Nat.add_mul, ← hyl, List.take_append, List.length_append, hl1]
    rw [List.take_of_length_le (by rw [List.length_append, hl1]; omega)]
    congr 2
    omega
theorem OwnK.set (h : OwnK k t w B (.slice (some ⟨g, 0, none⟩) n cap) xs) (i : Nat) (x : List Value) (hx : x.length = k) (hx1 : ∀ u ∈ x, u.oneCell' = true) (hi : i < xs.length) :
    OwnK k t (w.setCells g (i * k) x) B (.slice (some ⟨g, 0, none⟩) n cap) (xs.set i x) := by
  have hn : n = xs.length ∧ xs.length ≤ cap := by
    rcases h.forms with ⟨e, _⟩ | ⟨g', cap', e, _, _, h1, _⟩
    · cases e
    · injection e with e1 e2 e3
      subst e2 e3
      exact ⟨rfl, h1⟩
  have h2 := h.put i [x] (fun y hy => by rw [List.mem_singleton.1 hy]; exact hx) (fun y hy => by rw [List.mem_singleton.1 hy]; exact hx1) (by omega) (by simp; omega)
  have e1 : xs.take i ++ [x] ++ xs.drop (i + [x].length) = xs.set i x := by rw [List.set_eq_take_append_cons_drop, if_pos hi]; simp
  have e2 : [x].flatten = x := by simp
  rw [e1, e2, List.length_set, ← hn.1] at h2
  exact h2
theorem OwnK.cut (h : OwnK k t w B (.slice (some ⟨g, 0, none⟩) n cap) xs) (i : Nat) (hi : i ≤ xs.length) : OwnK k t w B (.slice (some ⟨g, 0, none⟩) i cap) (xs.take i) := by
  have hlen : ∀ x ∈ xs.take i, x.length = k := fun x hx => h.len x (List.mem_of_mem_take hx)
  have hl : (xs.take i).length = i := by rw [List.length_take]; omega
  refine ⟨⟨flat_len hlen, ?_⟩, hlen, fun x hx => h.one x (List.mem_of_mem_take hx)⟩
  rcases h.row.2 with ⟨e, _⟩ | ⟨g', cap', cur, e, hB, hh, hn, hm, hs, ht⟩
  · cases e
  · injection e with e1 e2 e3
    injection e1 with e1
    injection e1 with e1
    subst e1 e3
    refine .inr ⟨g, cap, cur, by rw [hl], hB, hh, by omega, hm, hs, ?_⟩
    rw [← flat_take h.len, ← ht, List.take_take, hl, Nat.min_eq_left (Nat.mul_le_mul_right _ hi)]
/-- What stands behind a place is written over, and cut off. -/
theorem OwnK.wipe (h : OwnK k t w B (.slice (some ⟨g, 0, none⟩) n cap) xs) (i : Nat) (hi : i ≤ xs.length) (vs : List Value) (hv : i * k + vs.length ≤ cap * k) : OwnK k t (w.setCells g (i * k) vs) B (.slice (some ⟨g, 0, none⟩) i cap) (xs.take i) := by
  have hc := h.cut i hi
  refine ⟨⟨hc.row.1, ?_⟩, hc.len, hc.one⟩
  rcases hc.row.2 with ⟨e, _⟩ | ⟨g', cap', cur, e, hB, hh, hn, hm, hs, ht⟩
  · cases e
  · injection e with e1 e2 e3
    injection e1 with e1
    injection e1 with e1
    subst e1 e3
    obtain ⟨cur', h1, h2, h3⟩ := heap_setCells g t vs (i * k) w cur hh
    have hl : (xs.take i).length = i := by rw [List.length_take]; omega
    refine .inr ⟨g, cap, cur', by rw [hl], hB, h1, hn, hm, by rw [h2, hs], ?_⟩
    rw [h3 (by rw [hs]; exact hv), ← ht, hl, List.take_append, List.take_append, List.take_take]
    rw [List.length_take, Array.length_toList]
    have hik : i * k ≤ cur.size := by omega
    rw [show i * k - min (i * k) cur.size = 0 by omega, Nat.min_self, List.length_append, List.length_take, Array.length_toList]
    rw [show i * k - (min (i * k) cur.size + vs.length) = 0 by omega]
    simp
end
end Go.Proofs.YtemlclgdgnfhnaaDoor

/- One text more at a row of texts that a call owns. -/
namespace Go.Proofs.YtemlclgdgnfhnaaDoor
open Go.RowKit

theorem info9 : (Tryd.prog.info? 9).map (fun i => (i.zero, i.size, i.bytes)) = some (some (.string ⟨#[]⟩), 1, 16) := by kernel_rfl
/-- A value of type []string that owns these texts, among the blocks from B on. -/
def OwnS (w : World) (B : Nat) (v : Value) (xs : List ByteArray) : Prop := w.ownsRow B 9 1 v xs.length (xs.map Value.string)
theorem OwnS.lt {w : World} {B : Nat} {v : Value} {xs : List ByteArray} (h : OwnS w B v xs) : ∀ k, v.ownBlock = some k → B ≤ k ∧ k < w.heap.size := World.ownsRow.lt h
theorem OwnS.grown {w w' : World} {B b : Nat} {v : Value} {xs : List ByteArray} (h : OwnS w B v xs) (hg : w.grownBy w' (some b)) (hb : b < B) : OwnS w' B v xs := by
  refine World.ownsRow.kept h hg (.inr ?_)
  intro e
  have := (h.lt b e).1
  omega
theorem OwnS.below {w w' : World} {B : Nat} {v : Value} {xs : List ByteArray} (h : OwnS w B v xs) (hb : Below w.heap.size w w') : OwnS w' B v xs := by
  refine World.ownsRow.kept (row := none) h ⟨hb.os, hb.tape, hb.output, hb.size, fun i hi _ => hb.block i hi⟩ ?_
  rcases v.ownBlock with _ | k
  · exact .inl rfl
  · exact .inr (by simp)
theorem ownS_nil (w : World) (B : Nat) : OwnS w B (.slice none 0 0) [] := ⟨rfl, .inl ⟨rfl, rfl⟩⟩
theorem wp_apps {ops : Array Oper} {rest : List Oper} {o : Oper} {a : Act} {Q : Exit → Act → World → Prop} (hgd : o.guard = none) (s x : Operand)
    (ho : o.op = .call { callee := .builtin .append, args := #[s, x], argTypes := #[30, 30] })
    (B : Nat) (wr : World) (v : Value) (xs : List ByteArray) (n : Nat) (hs : a.eval s = v) (hown : OwnS wr B v xs) (hn : xs.length = n) (hl : n ≤ 100000) (hB : B ≤ wr.heap.size)
    (t : ByteArray) (hx : a.eval x = .slice (some ⟨wr.heap.size, 0, none⟩) 1 1)
    (h : ∀ g cap w', OwnS w' B (.slice (some ⟨g, 0, none⟩) (n + 1) cap) (xs ++ [t]) → (wr.alloc (.cells #[.string t] 9)).grownBy w' v.ownBlock → g < w'.heap.size → wpList Tryd.prog ops Q rest (a.put o.dst (.slice (some ⟨g, 0, none⟩) (n + 1) cap)) w') :
    wpList Tryd.prog ops Q (o :: rest) a (wr.alloc (.cells #[.string t] 9)) := by
  subst hn
  obtain ⟨i0, hi0, hz0, hz1, hz2⟩ := info_parts info9
  refine wpList_append_lies _ hgd s x 30 ho B 9 i0 (.string ⟨#[]⟩) 1 16 Tryd.underlying30 hi0 hz0 hz1 hz2 rfl (by omega) v xs.length _ hs (World.ownsRow.alloc hown _) ⟨wr.heap.size, 0, none⟩ 1 1 [.string t] hx rfl
    (World.news_of_block (cs := #[.string t]) (t := 9) (fr := (0, 0)) (heap_alloc_new wr _)) (by simp [Value.oneCell']) (by omega) (by unfold maxLen; omega) (by omega) (by simp; omega) _ rfl ?_
  intro g cap w' hown1 hgrow _ hlt
  refine h g cap w' ?_ hgrow hlt
  unfold OwnS
  rw [List.length_append, List.map_append]
  exact hown1
end Go.Proofs.YtemlclgdgnfhnaaDoor

/- What a grant is, and what was asked for, and where their lists lie. -/
namespace Go.Proofs.YtemlclgdgnfhnaaDoor
open Go.RowKit
set_option linter.unusedVariables false

/-- An origin. -/
structure OrgV where
  sec : Bool
  host : ByteArray
  port : Int
/-- What is asked for. -/
structure AskP where
  sch : Int
  realm : ByteArray
  nonce : ByteArray
  opq : ByteArray
  sess : Bool
  qop : ByteArray
  stale : Bool
  dom : List ByteArray
structure GrP where
  org : OrgV
  proxy : Bool
  user : ByteArray
  pass : ByteArray
  ask : AskP
  count : Int
  paths : List ByteArray
structure WtP where
  org : OrgV
  proxy : Bool
  path : ByteArray
  ask : AskP
def orgCells (o : OrgV) : List Value := [.bool o.sec, .string o.host, .int .i64 o.port]
def askCells (a : AskP) (dv : Value) : List Value := [.int .i64 a.sch, .string a.realm, .string a.nonce, .string a.opq, .bool a.sess, .string a.qop, .bool a.stale, dv]
/-- A grant, and the values of its two lists. -/
structure GrV where
  g : GrP
  dv : Value
  pv : Value
structure WtV where
  g : WtP
  dv : Value
def grCells (v : GrV) : List Value := [.bool v.g.org.sec, .string v.g.org.host, .int .i64 v.g.org.port, .bool v.g.proxy, .string v.g.user, .string v.g.pass, .int .i64 v.g.ask.sch, .string v.g.ask.realm, .string v.g.ask.nonce, .string v.g.ask.opq, .bool v.g.ask.sess, .string v.g.ask.qop, .bool v.g.ask.stale, v.dv, .int .i64 v.g.count, v.pv]
def wtCells (v : WtV) : List Value := [.bool v.g.org.sec, .string v.g.org.host, .int .i64 v.g.org.port, .bool v.g.proxy, .string v.g.path, .int .i64 v.g.ask.sch, .string v.g.ask.realm, .string v.g.ask.nonce, .string v.g.ask.opq, .bool v.g.ask.sess, .string v.g.ask.qop, .bool v.g.ask.stale, v.dv]
theorem grCells_len (v : GrV) : (grCells v).length = 16 := rfl
theorem wtCells_len (v : WtV) : (wtCells v).length = 13 := rfl
/-- Its lists are a call's own, among the blocks from B on. -/
structure GrOwn (w : World) (B : Nat) (v : GrV) : Prop where
  dom : OwnS w B v.dv v.g.ask.dom
  paths : OwnS w B v.pv v.g.paths
def WtOwn (w : World) (B : Nat) (v : WtV) : Prop := OwnS w B v.dv v.g.ask.dom
theorem ownS_mono {w : World} {B B' : Nat} {v : Value} {xs : List ByteArray} (h : OwnS w B v xs) (hb : B' ≤ B) : OwnS w B' v xs := World.ownsRow.mono h hb
theorem ownS_one {w : World} {B : Nat} {v : Value} {xs : List ByteArray} (h : OwnS w B v xs) : v.oneCell' = true := by
  rcases h.2 with ⟨rfl, _⟩ | ⟨g, cap, cur, rfl, _⟩ <;> rfl
theorem GrOwn.one {w : World} {B : Nat} {v : GrV} (h : GrOwn w B v) : ∀ u ∈ grCells v, u.oneCell' = true := by
  have h1 := ownS_one h.dom
  have h2 := ownS_one h.paths
  intro u hu
  simp only [grCells, List.mem_cons, List.not_mem_nil, or_false] at hu
  rcases hu with rfl | rfl | rfl | rfl | rfl | rfl | rfl | rfl | rfl | rfl | rfl | rfl | rfl | rfl | rfl | rfl <;> first | rfl | assumption
theorem wtOwn_one {w : World} {B : Nat} {v : WtV} (h : WtOwn w B v) : ∀ u ∈ wtCells v, u.oneCell' = true := by
  have h1 := ownS_one h
  intro u hu
  simp only [wtCells, List.mem_cons, List.not_mem_nil, or_false] at hu
  rcases hu with rfl | rfl | rfl | rfl | rfl | rfl | rfl | rfl | rfl | rfl | rfl | rfl | rfl <;> first | rfl | assumption
theorem GrOwn.below {w w' : World} {B : Nat} {v : GrV} (h : GrOwn w B v) (hb : Below w.heap.size w w') : GrOwn w' B v := ⟨h.dom.below hb, h.paths.below hb⟩
theorem GrOwn.mono {w : World} {B B' : Nat} {v : GrV} (h : GrOwn w B v) (hb : B' ≤ B) : GrOwn w B' v := ⟨ownS_mono h.dom hb, ownS_mono h.paths hb⟩
/-- A block of cells of another type than texts is none of a list's own. -/
theorem ownS_apart {w : World} {B b : Nat} {v : Value} {xs : List ByteArray} {cs : Array Value} {t : TypeId} (h : OwnS w B v xs) (hb : w.heap[b]? = some (.cells cs t (0, 0))) (ht : t ≠ 9) : v.ownBlock = none ∨ v.ownBlock ≠ some b := by
  rcases h.2 with ⟨rfl, _⟩ | ⟨g, cap, cur, rfl, _, hh, _⟩
  · exact .inl rfl
  · refine .inr fun e => ?_
    have e2 : g = b := by simpa [Value.ownBlock] using e
    subst e2
    rw [hh] at hb
    injection hb with hb
    injection hb with _ h3
    exact ht h3.symm
theorem ownS_grownB {w w' : World} {B b : Nat} {v : Value} {xs : List ByteArray} {cs : Array Value} {t : TypeId} (h : OwnS w B v xs) (hb : w.heap[b]? = some (.cells cs t (0, 0))) (ht : t ≠ 9) (hg : w.grownBy w' (some b)) : OwnS w' B v xs :=
  World.ownsRow.kept h hg (ownS_apart h hb ht)
theorem GrOwn.grownB {w w' : World} {B b : Nat} {v : GrV} {cs : Array Value} {t : TypeId} (h : GrOwn w B v) (hb : w.heap[b]? = some (.cells cs t (0, 0))) (ht : t ≠ 9) (hg : w.grownBy w' (some b)) : GrOwn w' B v :=
  ⟨ownS_grownB h.dom hb ht hg, ownS_grownB h.paths hb ht hg⟩
/-- What a row that is owned lies in. -/
theorem OwnK.block {k n cap g B : Nat} {t : TypeId} {w : World} {xs : List (List Value)} (h : OwnK k t w B (.slice (some ⟨g, 0, none⟩) n cap) xs) : ∃ cs, w.heap[g]? = some (.cells cs t (0, 0)) := by
  rcases h.row.2 with ⟨e, _⟩ | ⟨g', cap', cur, e, _, hh, _⟩
  · cases e
  · injection e with e1 _ _
    injection e1 with e1
    injection e1 with e1
    subst e1
    exact ⟨cur, hh⟩
end Go.Proofs.YtemlclgdgnfhnaaDoor

/- What is answered, and a function value that is called. -/
namespace Go.Proofs.YtemlclgdgnfhnaaDoor
open Go.RowKit

theorem ret_bool {a b : Bool} (h : a = b) : Ending.returned (.bool a) = .returned (.bool b) := by rw [h]
theorem ret_i64 {a b : Int} (h : a = b) : Ending.returned (.int .i64 a) = .returned (.int .i64 b) := by rw [h]
theorem enters_at {K : Nat} {fn : Func} {c : Code} (hf : Tryd.prog.funcs[K]? = some fn) (hname : (fn.name == "runtime.NumGoroutine") = false) (hb : fn.body = some c) (args : Array Value) (w : World) :
    (callFunc K args).run Tryd.prog w = .ok (.enter K args) w := by
  have h1 : fn.name ≠ "runtime.NumGoroutine" := by simpa using hname
  simp [callFunc, hf, h1, hb]
end Go.Proofs.YtemlclgdgnfhnaaDoor

/- Rows of structs: the first element of a kind, by the library's own function; whatever the program. -/
namespace Go.Proofs.YtemlclgdgnfhnaaDoor
open Go.RowKit
set_option linter.unusedVariables false

/-- A predicate, and what it leaves, in whatever world that holds what lay there but for a row. -/
def PredK (P : Program) (fn : Nat) (lb : Array Value) (p : List Value → Bool) (xs : List (List Value)) (w : World) (row : Option Nat) : Prop :=
  ∀ W x, x ∈ xs → w.grownBy W row → Calls P fn (#[.agg x.toArray] ++ lb) W fun e w' => e = .returned (.bool (p x)) ∧ Below W.heap.size W w'
theorem below_grown {w w' : World} (hb : Below w.heap.size w w') (row : Option Nat) : w.grownBy w' row := ⟨hb.os, hb.tape, hb.output, hb.size, fun i hi _ => hb.block i hi⟩
def fidx (p : List Value → Bool) (xs : List (List Value)) : Int := match xs.findIdx? p with
  | none => -1
  | some i => (i : Int)
theorem fidx_hit {p : List Value → Bool} {xs : List (List Value)} {k : Nat} {x : List Value} (h : (xs.take k).all (fun y => !p y) = true) (hk : xs[k]? = some x) (hx : p x = true) : fidx p xs = k := by
  have e : xs.findIdx? p = some k := by
    obtain ⟨hk1, e⟩ := List.getElem?_eq_some_iff.1 hk
    rw [List.findIdx?_eq_some_iff_getElem]
    refine ⟨hk1, by rw [e]; exact hx, fun j hj => ?_⟩
    have := List.all_eq_true.1 h xs[j] (by
      rw [List.mem_take_iff_getElem]
      exact ⟨j, by omega, rfl⟩)
    simpa using this
  unfold fidx
  rw [e]
theorem fidx_miss {p : List Value → Bool} {xs : List (List Value)} (h : xs.all (fun y => !p y) = true) : fidx p xs = -1 := by
  have e : xs.findIdx? p = none := by
    rw [List.findIdx?_eq_none_iff]
    intro x hx
    have := List.all_eq_true.1 h x hx
    simpa using this
  unfold fidx
  rw [e]
theorem miss_step {p : List Value → Bool} {xs : List (List Value)} {k : Nat} {x : List Value} (h : (xs.take k).all (fun y => !p y) = true) (hk : xs[k]? = some x) (hx : p x = false) : (xs.take (k + 1)).all (fun y => !p y) = true := by
  obtain ⟨hk1, e⟩ := List.getElem?_eq_some_iff.1 hk
  rw [List.take_succ_eq_append_getElem hk1, List.all_append, h, e]
  simp [hx]
set_option maxRecDepth 100000 in
set_option maxHeartbeats 2000000 in
theorem idxG_of (P : Program) (hf : P.funcs[24]? = some Tryd.f24) (mixed : P.follows .mixedOrders = true)
    (tS : P.underlying 22 = some (TypeDesc.slice 34)) (aS : ∀ w, (isAgg 22).run P w = .ok false w) (zS : ∀ w, (Go.sizeOf 22).run P w = .ok 1 w)
    (t3 : P.underlying 3 = some (TypeDesc.int IntKind.i64)) (a3 : ∀ w, (isAgg 3).run P w = .ok false w) (z3 : ∀ w, (Go.sizeOf 3).run P w = .ok 1 w) (v3 : ∀ w, (zeroValue 3).run P w = .ok (Value.int IntKind.i64 0) w)
    (t4 : P.underlying 4 = some TypeDesc.bool) (a4 : ∀ w, (isAgg 4).run P w = .ok false w) (z4 : ∀ w, (Go.sizeOf 4).run P w = .ok 1 w)
    (k : Nat) (aE : ∀ w, (isAgg 34).run P w = .ok true w) (zE : ∀ w, (Go.sizeOf 34).run P w = .ok k w)
    (g n cap B : Nat) (xs : List (List Value)) (hn : xs.length = n) (hbig : n ≤ 9223372036854775807) (w : World) (hown : OwnK k 34 w B (.slice (some ⟨g, 0, none⟩) n cap) xs)
    (p : List Value → Bool) (fn : Nat) (lb : Array Value) (eg : ∀ args w, (callFunc fn args).run P w = .ok (.enter fn args) w) (hp : PredK P fn lb p xs w (some g)) :
    Calls P 24 #[.slice (some ⟨g, 0, none⟩) n cap, .func (.func fn) #[] lb] w fun e w' => e = .returned (.int .i64 (fidx p xs)) ∧ Below w.heap.size w w' := by
  have HO : Hid (OwnK k 34 w B (.slice (some ⟨g, 0, none⟩) n cap) xs) := hown
  have HN : Hid (xs.length = n) := hn
  have HP : Hid (PredK P fn lb p xs w (some g)) := hp
  clear hown hn hp
  go_enter hf, Tryd.ntmps24
  go_wp2
  go_loopg [5, 8] n (fun gg _ s8 wr => ∃ kk : Nat, kk ≤ n ∧ n - kk ≤ gg ∧ s8 = .int .i64 kk ∧ Hid (Below w.heap.size w wr) ∧ Hid ((xs.take kk).all (fun y => !p y) = true))
  case atStart => exact ⟨0, Nat.zero_le _, by omega, rfl, Below.refl _ w, rfl⟩
  case round =>
    obtain ⟨kk, hkk, hg, rfl, BW, A⟩ := hrel
    by_cases hlt : kk < n
    · have hltz : (kk : Int) < (n : Int) := by omega
      obtain ⟨x, hx⟩ : ∃ x, xs[kk]? = some x := ⟨xs[kk]'(by have := HN.out; omega), List.getElem?_eq_getElem _⟩
      have HX : Hid (xs[kk]? = some x) := hx
      have l2 := (HO.out.below BW.out).load P hx
      have hcall := HP.out wr x (List.mem_of_getElem? hx) (below_grown BW.out _)
      clear hx
      cases hq : p x with
      | true =>
        rw [hq] at hcall
        have HQ : Hid (p x = true) := hq
        clear hq
        go_wp2_with (go_at_fn fn; refine hcall.mono ?_; rintro e w' ⟨rfl, hb'⟩)
        go_ret
        refine ⟨?_, BW.out.trans (hb'.mono BW.out.size)⟩
        rw [fidx_hit A.out HX.out HQ.out]
        rfl
      | false =>
        rw [hq] at hcall
        have HQ : Hid (p x = false) := hq
        clear hq
        go_wp2_with (go_at_fn fn; refine hcall.mono ?_; rintro e w' ⟨rfl, hb'⟩)
        go_roundg (n - (kk + 1))
        case measure => omega
        case rel => exact ⟨kk + 1, by omega, by omega, by go_num, BW.out.trans (hb'.mono BW.out.size), miss_step A.out HX.out HQ.out⟩
    · have hltz : ¬ (kk : Int) < (n : Int) := by omega
      have : kk = n := by omega
      subst this
      go_wp2
      go_ret
      refine ⟨?_, BW.out⟩
      rw [fidx_miss (by have := A.out; rw [List.take_of_length_le (by rw [HN.out]; exact Nat.le_refl _)] at this; exact this)]
      rfl
set_option maxHeartbeats 2000000 in
theorem idxG_any (g n cap B : Nat) (xs : List (List Value)) (hn : xs.length = n) (hbig : n ≤ 9223372036854775807) (w : World) (hown : OwnK 16 34 w B (.slice (some ⟨g, 0, none⟩) n cap) xs)
    (p : List Value → Bool) (fn : Nat) (lb : Array Value) (eg : ∀ args w, (callFunc fn args).run Tryd.prog w = .ok (.enter fn args) w) (hp : PredK Tryd.prog fn lb p xs w (some g)) :
    Calls Tryd.prog 24 #[.slice (some ⟨g, 0, none⟩) n cap, .func (.func fn) #[] lb] w fun e w' => e = .returned (.int .i64 (fidx p xs)) ∧ Below w.heap.size w w' :=
  idxG_of Tryd.prog Tryd.func24 (by kernel_rfl) Tryd.underlying22 Tryd.isAgg22 Tryd.sizeOf22 Tryd.underlying3 Tryd.isAgg3 Tryd.sizeOf3 Tryd.zeroValue3 Tryd.underlying4 Tryd.isAgg4 Tryd.sizeOf4 16 Tryd.isAgg34 Tryd.sizeOf34 g n cap B xs hn hbig w hown p fn lb eg hp
set_option maxHeartbeats 1000000 in
theorem idxG_none (w : World) (F : Value) : Calls Tryd.prog 24 #[.slice none 0 0, F] w fun e w' => e = .returned (.int .i64 (-1)) ∧ w' = w := by
  go_enter Tryd.func24, Tryd.ntmps24
  go_wp2
  refine wp_loop_rounds 1 ?_
  rw [rounds_succ]
  go_wp2
  go_ret
  exact ⟨rfl, rfl⟩
end Go.Proofs.YtemlclgdgnfhnaaDoor

/- Rows of structs: without those of a kind, by the library's own function; whatever the program. -/
namespace Go.Proofs.YtemlclgdgnfhnaaDoor
open Go.RowKit
set_option linter.unusedVariables false

/-- What stands ahead of place i is what is kept of the first j; what stands from j on is as it was. -/
structure DlfI (p : List Value → Bool) (xs L : List (List Value)) (i j : Nat) : Prop where
  len : L.length = xs.length
  done : L.take i = (xs.take j).filter (fun y => !p y)
  rest : L.drop j = xs.drop j
  lt : i < j
  le : j ≤ xs.length
theorem DlfI.start {p : List Value → Bool} {xs : List (List Value)} {k : Nat} {x : List Value} (h : (xs.take k).all (fun y => !p y) = true) (hk : xs[k]? = some x) (hx : p x = true) : DlfI p xs xs k (k + 1) := by
  obtain ⟨hk1, e⟩ := List.getElem?_eq_some_iff.1 hk
  refine ⟨rfl, ?_, rfl, by omega, by omega⟩
  rw [List.take_succ_eq_append_getElem hk1, List.filter_append, e, List.filter_eq_self.2 (List.all_eq_true.1 h)]
  simp [hx]
theorem DlfI.skip {p : List Value → Bool} {xs L : List (List Value)} {i j : Nat} {x : List Value} (h : DlfI p xs L i j) (hj : xs[j]? = some x) (hx : p x = true) : DlfI p xs L i (j + 1) := by
  obtain ⟨hk1, e⟩ := List.getElem?_eq_some_iff.1 hj
  refine ⟨h.len, ?_, ?_, by have := h.lt; omega, by omega⟩
  · rw [h.done, List.take_succ_eq_append_getElem hk1, List.filter_append, e]
    simp [hx]
  · rw [← List.drop_drop, h.rest, List.drop_drop]
theorem DlfI.keep {p : List Value → Bool} {xs L : List (List Value)} {i j : Nat} {x : List Value} (h : DlfI p xs L i j) (hj : xs[j]? = some x) (hx : p x = false) : DlfI p xs (L.set i x) (i + 1) (j + 1) := by
  obtain ⟨hk1, e⟩ := List.getElem?_eq_some_iff.1 hj
  have hi := h.lt
  have hl := h.len
  refine ⟨by rw [List.length_set, hl], ?_, ?_, by omega, by omega⟩
  · rw [List.take_succ_eq_append_getElem hk1, List.filter_append, e, ← h.done, List.take_succ_eq_append_getElem (by rw [List.length_set]; omega), List.getElem_set_self, List.take_set_of_le (Nat.le_refl _)]
    simp [hx]
  · rw [List.drop_set_of_lt (by omega), ← List.drop_drop, h.rest, List.drop_drop]
theorem DlfI.read {p : List Value → Bool} {xs L : List (List Value)} {i j : Nat} {x : List Value} (h : DlfI p xs L i j) (hj : xs[j]? = some x) : L[j]? = some x := by
  have e := congrArg (fun l => l[0]?) h.rest
  simpa [hj] using e
theorem boxed (w : World) (zc : Array Value) (t : TypeId) (x : List Value) (hz : zc.size = x.length) : (w.alloc (.cells zc t)).setCells w.heap.size 0 x = w.alloc (.cells x.toArray t) := by
  have H : ∀ (r pre : List Value) (c : Array Value), c.toList = pre ++ (c.toList.drop pre.length) → c.size = pre.length + r.length → (w.alloc (.cells c t)).setCells w.heap.size pre.length r = w.alloc (.cells (pre ++ r).toArray t) := by
    intro r
    induction r with
    | nil =>
      intro pre c h1 h2
      have : c.toList.drop pre.length = [] := List.drop_of_length_le (by rw [List.length_nil, Nat.add_zero] at h2; rw [Array.length_toList, h2]; exact Nat.le_refl _)
      rw [this, List.append_nil] at h1
      show w.alloc (.cells c t) = _
      congr 1
      rw [List.append_nil, ← h1]
    | cons v r ih =>
      intro pre c h1 h2
      simp only [List.length_cons] at h2
      have hs : (w.alloc (.cells c t)).setCell ⟨w.heap.size, pre.length, none⟩ v = w.alloc (.cells (c.setIfInBounds pre.length v) t) := by
        simp only [World.setCell, World.alloc]
        congr 1
        apply Array.ext_getElem?
        intro i
        rw [Array.getElem?_modify, Array.getElem?_push, Array.getElem?_push]
        by_cases e : i = w.heap.size
        · subst e
          simp
        · rw [if_neg (fun h => e h.symm), if_neg e, if_neg e]
      have := ih (pre ++ [v]) (c.setIfInBounds pre.length v) (by
        rw [Array.toList_setIfInBounds, List.length_append, List.length_singleton, List.drop_set_of_lt (by omega)]
        conv => lhs; rw [h1]
        rw [List.set_append_right _ _ (Nat.le_refl _), Nat.sub_self, List.append_assoc]
        congr 1
        have e0 : c.toList.length = c.size := Array.length_toList
        have hd : pre.length < c.toList.length := by omega
        rw [List.drop_eq_getElem_cons hd]
        rfl) (by simp; omega)
      rw [List.length_append, List.length_singleton] at this
      show ((w.alloc (.cells c t)).setCell ⟨w.heap.size, pre.length, none⟩ v).setCells w.heap.size (pre.length + 1) r = _
      rw [hs, this]
      simp
  have := H x [] zc (by simp) (by simpa using hz)
  simpa using this
theorem run_boxed (P : Program) (w : World) (zc : Array Value) (t : TypeId) (x : List Value) (hz : zc.size = x.length) (h1 : ∀ u ∈ x, u.oneCell' = true) :
    Sem.run P (storeCells ⟨w.heap.size, 0, none⟩ x 0) (w.alloc (.cells zc t)) = .ok () (w.alloc (.cells x.toArray t)) := by
  have hh := heap_alloc_new w (.cells zc t)
  have := run_storeCells_cells (P := P) w.heap.size 0 x 0 (w.alloc (.cells zc t)) (fun j hj => by
    rw [Nat.add_zero, Nat.zero_add, World.cell?_alloc_mark, Array.getElem?_eq_getElem (by omega)]
    rfl) (fun j _ => frozen_of_row _ w.heap.size _ zc t hh) h1
  rw [this, Nat.add_zero, boxed w zc t x hz]
theorem run_unboxed (P : Program) {w w' : World} {b : Nat} {t : TypeId} {x : List Value} {k : Nat} (hk : x.length = k) (h : w.heap[b]? = some (.cells x.toArray t (0, 0))) (hb : Below w.heap.size w w') : Sem.run P (loadCellsFrom ⟨b, 0, none⟩ 0 k #[]) w' = .ok x.toArray w' :=
  run_loadCellsFrom_list P w' _ x k hk (fun i u hi => by
    rw [Addr.add_lit, Nat.zero_add, hb.cell (p := ⟨b, i, none⟩) (Array.getElem?_eq_some_iff.1 h).1, cell_of_row w b i x.toArray t (0, 0) h]
    simpa using hi)
theorem run_clear_K (P : Program) (w : World) (t e ty : TypeId) (z : Value) (k : Nat) (ht : P.underlying t = some (.slice e)) (hv : ∀ w, (zeroValue e).run P w = .ok z w) (hz : z.cells.size = k) (h1 : ∀ u ∈ z.cells, u.oneCell' = true) (b o n c : Nat) (hn : 0 < n)
    (hc : ∀ j, j < n * k → (w.cell? ⟨b, o + j, none⟩).isSome = true) (hf : ∀ j, j < n * k → w.frozen? ⟨b, o + j, none⟩ = false) :
    (Builtin.clear_ #[t] ty #[.slice (some ⟨b, o, none⟩) n c]).run P w = .ok (.tuple #[]) (w.setCells b o (Builtin.zeroCells z.cells n).toList) := by
  have hl : (Builtin.zeroCells z.cells n).toList.length = n * k := by simp [Builtin.zeroCells, hz]
  have h1' : ∀ u ∈ (Builtin.zeroCells z.cells n).toList, u.oneCell' = true := by
    intro u hu
    rcases Nat.eq_zero_or_pos k with h0 | h0
    · rw [List.eq_nil_of_length_eq_zero (l := (Builtin.zeroCells z.cells n).toList) (by rw [hl, h0]; rfl)] at hu
      cases hu
    · simp only [Builtin.zeroCells, Array.toList_map, List.mem_map] at hu
      obtain ⟨i, _, rfl⟩ := hu
      have hm : i % z.cells.size < z.cells.size := Nat.mod_lt _ (by omega)
      rw [getElem!_pos z.cells _ hm]
      exact h1 _ (Array.getElem_mem hm)
  have hst := run_storeCells_cells (P := P) b o (Builtin.zeroCells z.cells n).toList 0 w (by rw [hl]; simpa using hc) (by rw [hl]; simpa using hf) h1'
  simp only [Nat.add_zero] at hst
  obtain ⟨m, rfl⟩ : ∃ m, n = m + 1 := ⟨n - 1, by omega⟩
  simp [Builtin.clear_, run_underlying ht, hv, hst]
set_option maxRecDepth 100000 in
set_option maxHeartbeats 4000000 in
theorem dlfG_of (P : Program) (hf : P.funcs[16]? = some Tryd.f16) (hfi : P.funcs[24]? = some Tryd.f24)
    (e6 : ∀ args w, (callFunc 24 args).run P w = .ok (.enter 24 args) w) (mixed : P.follows .mixedOrders = true)
    (tS : P.underlying 22 = some (TypeDesc.slice 34)) (aS : ∀ w, (isAgg 22).run P w = .ok false w) (zS : ∀ w, (Go.sizeOf 22).run P w = .ok 1 w)
    (t3 : P.underlying 3 = some (TypeDesc.int IntKind.i64)) (a3 : ∀ w, (isAgg 3).run P w = .ok false w) (z3 : ∀ w, (Go.sizeOf 3).run P w = .ok 1 w) (v3 : ∀ w, (zeroValue 3).run P w = .ok (Value.int IntKind.i64 0) w)
    (t4 : P.underlying 4 = some TypeDesc.bool) (a4 : ∀ w, (isAgg 4).run P w = .ok false w) (z4 : ∀ w, (Go.sizeOf 4).run P w = .ok 1 w)
    (k : Nat) (hk0 : 0 < k) (aE : ∀ w, (isAgg 34).run P w = .ok true w) (zE : ∀ w, (Go.sizeOf 34).run P w = .ok k w) (zc : Array Value) (vE : ∀ w, (zeroValue 34).run P w = .ok (.agg zc) w) (hzc : zc.size = k) (hz1 : ∀ u ∈ zc, u.oneCell' = true)
    (g n cap B : Nat) (xs : List (List Value)) (hn : xs.length = n) (hbig : n ≤ 9223372036854775807) (w : World) (hown : OwnK k 34 w B (.slice (some ⟨g, 0, none⟩) n cap) xs)
    (p : List Value → Bool) (fn : Nat) (lb : Array Value) (eg : ∀ args w, (callFunc fn args).run P w = .ok (.enter fn args) w) (hp : PredK P fn lb p xs w (some g)) :
    Calls P 16 #[.slice (some ⟨g, 0, none⟩) n cap, .func (.func fn) #[] lb] w fun e w' => ∃ m, e = .returned (.slice (some ⟨g, 0, none⟩) m cap) ∧ Hid (OwnK k 34 w' B (.slice (some ⟨g, 0, none⟩) m cap) (xs.filter (fun y => !p y)) ∧ (xs.filter (fun y => !p y)).length = m ∧ w.grownBy w' (some g)) := by
  have hIF := idxG_of P hfi mixed tS aS zS t3 a3 z3 v3 t4 a4 z4 k aE zE g n cap B xs hn hbig w hown p fn lb eg hp
  have HO : Hid (OwnK k 34 w B (.slice (some ⟨g, 0, none⟩) n cap) xs) := hown
  have HN : Hid (xs.length = n) := hn
  have HP : Hid (PredK P fn lb p xs w (some g)) := hp
  have HZ : Hid (zc.size = k) := hzc
  have hncap : n ≤ cap := by
    rcases hown.forms with ⟨e, _⟩ | ⟨g', cap', e, _, _, h1, _⟩
    · cases e
    · injection e with _ _ e3
      rw [e3, ← hn]; exact h1
  have HZ1 : Hid (∀ u ∈ zc, u.oneCell' = true) := hz1
  clear hown hn hp hzc hz1
  by_cases hall : xs.all (fun y => !p y) = true
  · rw [fidx_miss hall] at hIF
    have HA : Hid (xs.all (fun y => !p y) = true) := hall
    clear hall
    go_enter hf, Tryd.ntmps16
    go_wp2_with (go_at_fn 24; refine hIF.mono ?_; rintro e w' ⟨rfl, hb⟩)
    go_ret
    have e : xs.filter (fun y => !p y) = xs := List.filter_eq_self.2 (List.all_eq_true.1 HA.out)
    exact ⟨n, rfl, by rw [e]; exact HO.out.below hb, by rw [e]; exact HN.out, below_grown hb _⟩
  obtain ⟨k0, x0, hx0, hpx0, hmiss⟩ : ∃ k0 x0, xs[k0]? = some x0 ∧ p x0 = true ∧ (xs.take k0).all (fun y => !p y) = true := by
    cases hfi : xs.findIdx? p with
    | none =>
      exfalso
      apply hall
      rw [List.findIdx?_eq_none_iff] at hfi
      exact List.all_eq_true.2 fun x hx => by simp [hfi x hx]
    | some i =>
      obtain ⟨h1, h2, h3⟩ := List.findIdx?_eq_some_iff_getElem.1 hfi
      refine ⟨i, xs[i], List.getElem?_eq_getElem h1, h2, List.all_eq_true.2 fun x hx => ?_⟩
      obtain ⟨j, hj, rfl⟩ := List.mem_take_iff_getElem.1 hx
      have := h3 j (by omega)
      simpa using this
  rw [fidx_hit hmiss hx0 hpx0] at hIF
  have hk0n : k0 < n := by have := (List.getElem?_eq_some_iff.1 hx0).1; have := HN.out; omega
  have HST : Hid (DlfI p xs xs k0 (k0 + 1)) := DlfI.start hmiss hx0 hpx0
  have hne1 : ((k0 : Int) == -1) = false := beq_eq_false_iff_ne.2 (by omega)
  clear hall hx0 hpx0 hmiss
  go_enter hf, Tryd.ntmps16
  go_wp2_with (go_at_fn 24; refine hIF.mono ?_; rintro e w' ⟨rfl, hb⟩)
  have HB0 : Hid (Below w.heap.size w w') := hb
  clear hb
  go_loopg [5, 6, 7] n (fun gg s5 s6 _ wr => ∃ (i j : Nat) (L : List (List Value)), s5 = .int .i64 i ∧ s6 = .int .i64 j ∧ i < j ∧ j ≤ n ∧ n - j ≤ gg ∧ Hid (DlfI p xs L i j ∧ OwnK k 34 wr B (.slice (some ⟨g, 0, none⟩) n cap) L ∧ w.grownBy wr (some g)))
  case atStart => exact ⟨k0, k0 + 1, xs, rfl, by go_num, by omega, by omega, by omega, ⟨HST.out, HO.out.below HB0.out, below_grown HB0.out _⟩⟩
  case round =>
    obtain ⟨i, j, L, rfl, rfl, hij, hjn, hgg, HI⟩ := hrel
    by_cases hlt : j < n
    · have hltz : (j : Int) < (n : Int) := by omega
      obtain ⟨x, hx⟩ : ∃ x, xs[j]? = some x := ⟨xs[j]'(by have := HN.out; omega), List.getElem?_eq_getElem _⟩
      have HX : Hid (xs[j]? = some x) := hx
      have hLj := HI.out.1.read hx
      have hxm : x ∈ L := List.mem_of_getElem? hLj
      have hxl : x.length = k := HI.out.2.1.len x hxm
      have hx1 : ∀ u ∈ x, u.oneCell' = true := HI.out.2.1.one x hxm
      have l1 := HI.out.2.1.load P hLj
      have hb1 : Below wr.heap.size wr (wr.alloc (.cells x.toArray 34)) := (Below.refl _ _).alloc (Nat.le_refl _) _
      have s1 := run_boxed P wr zc 34 x (by rw [HZ.out, hxl]) hx1
      have l2 := run_unboxed P (w := wr.alloc (.cells x.toArray 34)) (w' := wr.alloc (.cells x.toArray 34)) (b := wr.heap.size) hxl (heap_alloc_new wr _) (Below.refl _ _)
      have L2 : Hid (∀ w', Below (wr.alloc (.cells x.toArray 34)).heap.size (wr.alloc (.cells x.toArray 34)) w' → Sem.run P (loadCellsFrom ⟨wr.heap.size, 0, none⟩ 0 k #[]) w' = .ok x.toArray w') := fun w' hb => run_unboxed P (w := wr.alloc (.cells x.toArray 34)) (b := wr.heap.size) hxl (heap_alloc_new wr _) hb
      have HGB : Hid (w.grownBy (wr.alloc (.cells x.toArray 34)) (some g) ∧ OwnK k 34 (wr.alloc (.cells x.toArray 34)) B (.slice (some ⟨g, 0, none⟩) n cap) L) := ⟨gtrans HI.out.2.2 (World.grownBy_alloc wr _ _), HI.out.2.1.below hb1⟩
      have hcall := HP.out _ x (List.mem_of_getElem? hx) HGB.out.1
      have HXL : Hid (x.length = k ∧ ∀ u ∈ x, u.oneCell' = true) := ⟨hxl, hx1⟩
      have hxa : x.toArray.size = k := by simp [hxl]
      clear hx hLj hxm hb1 hx1
      generalize hWX : wr.alloc (.cells x.toArray 34) = WX at s1 l2 L2 HGB hcall
      cases hq : p x with
      | true =>
        rw [hq] at hcall
        have HQ : Hid (p x = true) := hq
        clear hq
        go_wp2_with (go_at_fn fn; refine hcall.mono ?_; rintro e w' ⟨rfl, hb'⟩)
        go_roundg (n - (j + 1))
        case measure => omega
        case rel => exact ⟨i, j + 1, L, rfl, by go_num, by omega, by omega, Nat.le_refl _, ⟨HI.out.1.skip HX.out HQ.out, HGB.out.2.below hb', gtrans HGB.out.1 (below_grown hb' _)⟩⟩
      | false =>
        rw [hq] at hcall
        have HQ : Hid (p x = false) := hq
        clear hq
        have hik : i * k + k ≤ cap * k := by
          rw [← Nat.succ_mul]
          exact Nat.mul_le_mul_right _ (by omega)
        have HIK : Hid (i * k + k ≤ cap * k) := hik
        clear hik
        have HS2 : Hid (∀ w', Below WX.heap.size WX w' → Sem.run P (storeCells ⟨g, i * k, none⟩ x 0) w' = .ok () (w'.setCells g (i * k) x)) := by
          intro w' hb'
          have ho := HGB.out.2.below hb'
          have h := run_storeCells_cells (P := P) g (i * k) x 0 w' (fun j hj => ho.there _ (by have := HXL.out.1; have := HIK.out; omega)) (fun j hj => ho.frozen _) HXL.out.2
          rwa [Nat.add_zero] at h
        go_wp2_with (go_at_fn fn; refine hcall.mono ?_; rintro e w' ⟨rfl, hb'⟩; have l3 := L2.out w' hb'; have s2 := HS2.out w' hb')
        go_roundg (n - (j + 1))
        case measure => omega
        case rel => exact ⟨i + 1, j + 1, L.set i x, by go_num, by go_num, by omega, by omega, Nat.le_refl _, ⟨HI.out.1.keep HX.out HQ.out, (HGB.out.2.below hb').set i x HXL.out.1 HXL.out.2 (by have := HI.out.1.len; have := HN.out; omega), gtrans (gtrans HGB.out.1 (below_grown hb' _)) (grown_setCells _ _ _ _)⟩⟩
    · have hltz : ¬ (j : Int) < (n : Int) := by omega
      have hin : i < n := by omega
      have hLn : L.length = n := by rw [HI.out.1.len]; exact HN.out
      have hb : i * k + (n - i) * k ≤ cap * k := by
        rw [← Nat.add_mul]
        exact Nat.mul_le_mul_right _ (by omega)
      have hzl : (Builtin.zeroCells zc (n - i)).toList.length = (n - i) * k := by simp [Builtin.zeroCells, HZ.out]
      have hcl : ∀ ty, (Builtin.clear_ #[22] ty #[.slice (some ⟨g, i * k, none⟩) (n - i) (cap - i)]).run P wr = .ok (.tuple #[]) (wr.setCells g (i * k) (Builtin.zeroCells zc (n - i)).toList) :=
        fun ty => run_clear_K P wr _ _ ty (.agg zc) k tS vE HZ.out HZ1.out g (i * k) (n - i) _ (by omega) (fun t ht => HI.out.2.1.there _ (by omega)) (fun t ht => HI.out.2.1.frozen _)
      have HE : Hid (OwnK k 34 (wr.setCells g (i * k) (Builtin.zeroCells zc (n - i)).toList) B (.slice (some ⟨g, 0, none⟩) i cap) (xs.filter (fun y => !p y)) ∧ (xs.filter (fun y => !p y)).length = i ∧ w.grownBy (wr.setCells g (i * k) (Builtin.zeroCells zc (n - i)).toList) (some g)) := by
        have e : xs.filter (fun y => !p y) = L.take i := by
          rw [HI.out.1.done, List.take_of_length_le (by rw [HN.out]; omega)]
        rw [e]
        exact ⟨HI.out.2.1.wipe i (by omega) _ (by rw [hzl]; exact hb), by rw [List.length_take]; omega, gtrans HI.out.2.2 (grown_setCells _ _ _ _)⟩
      generalize (Builtin.zeroCells zc (n - i)).toList = zs at hcl HE
      clear hb hzl hLn
      go_wp2
      go_ret
      exact ⟨i, rfl, HE⟩
set_option maxHeartbeats 2000000 in
theorem dlfG_any (g n cap B : Nat) (xs : List (List Value)) (hn : xs.length = n) (hbig : n ≤ 9223372036854775807) (w : World) (hown : OwnK 16 34 w B (.slice (some ⟨g, 0, none⟩) n cap) xs)
    (p : List Value → Bool) (fn : Nat) (lb : Array Value) (eg : ∀ args w, (callFunc fn args).run Tryd.prog w = .ok (.enter fn args) w) (hp : PredK Tryd.prog fn lb p xs w (some g)) :
    Calls Tryd.prog 16 #[.slice (some ⟨g, 0, none⟩) n cap, .func (.func fn) #[] lb] w fun e w' => ∃ m, e = .returned (.slice (some ⟨g, 0, none⟩) m cap) ∧ Hid (OwnK 16 34 w' B (.slice (some ⟨g, 0, none⟩) m cap) (xs.filter (fun y => !p y)) ∧ (xs.filter (fun y => !p y)).length = m ∧ w.grownBy w' (some g)) :=
  dlfG_of Tryd.prog Tryd.func16 Tryd.func24 (enters_at Tryd.func24 (by kernel_rfl) rfl) (by kernel_rfl) Tryd.underlying22 Tryd.isAgg22 Tryd.sizeOf22 Tryd.underlying3 Tryd.isAgg3 Tryd.sizeOf3 Tryd.zeroValue3 Tryd.underlying4 Tryd.isAgg4 Tryd.sizeOf4 16 (by omega) Tryd.isAgg34 Tryd.sizeOf34 _ Tryd.zeroValue34 rfl (by decide) g n cap B xs hn hbig w hown p fn lb eg hp
set_option maxHeartbeats 1000000 in
theorem dlfG_none (w : World) (F : Value) : Calls Tryd.prog 16 #[.slice none 0 0, F] w fun e w' => e = .returned (.slice none 0 0) ∧ w' = w := by
  go_enter Tryd.func16, Tryd.ntmps16
  go_wp2_with fail
  refine (idxG_none _ _).mono ?_
  rintro e w1 ⟨rfl, hw⟩
  obtain rfl := hw.symm
  go_wp2
  go_ret
  exact ⟨rfl, rfl⟩
end Go.Proofs.YtemlclgdgnfhnaaDoor

/- What every walk over the coding package needs: rows of bytes that a call owns, and the two conversions between texts and rows. -/
namespace Go.Proofs.YtemlclgdgnfhnaaDoor
open Go.RowKit

/-- The cells of a row of bytes: what they hold, and that they may be written. -/
def Row (w : World) (B : Nat) (L : List UInt8) : Prop := ∀ j (h : j < L.length), w.cell? ⟨B, j, none⟩ = some (.int .u8 (L[j].toNat : Int)) ∧ w.frozen? ⟨B, j, none⟩ = false

theorem conv_bytes (s : ByteArray) (w : World) : ∃ (cap : Nat) (W1 : World), (convert 9 107 (.string s)).run Tryd.prog w = .ok (.slice (some ⟨w.heap.size, 0, none⟩) s.size cap) W1 ∧ Row W1 w.heap.size s.data.toList ∧ Below w.heap.size w W1 ∧ W1.heap.size = w.heap.size + 1 := by
  refine ⟨_, _, run_bytes_of_string (P := Tryd.prog) w 9 107 5 s Tryd.underlying9 Tryd.underlying107 Tryd.underlying5, ?_, ?_, ?_⟩
  · intro j hj
    have hj' : j < s.size := by simpa using hj
    refine ⟨?_, ?_⟩
    · have h1 : (w.drew.alloc (.cells (bytesRow s (grownCap w s.size 0 5)) 5 ((bytesRow s (grownCap w s.size 0 5)).size, (bytesRow s (grownCap w s.size 0 5)).size + 1))).cell? ⟨w.drew.heap.size, j, none⟩ = (bytesRow s (grownCap w s.size 0 5))[j]? := World.cell?_alloc_mark _ _ _ _ _
      rw [bytesRow_at s _ j hj'] at h1
      exact h1
    · have h2 : (w.drew.alloc (.cells (bytesRow s (grownCap w s.size 0 5)) 5 ((bytesRow s (grownCap w s.size 0 5)).size, (bytesRow s (grownCap w s.size 0 5)).size + 1))).frozen? ⟨w.drew.heap.size, j, none⟩ = _ := World.frozen?_alloc_mark _ _ _ _ _ _
      have h3 : j < (bytesRow s (grownCap w s.size 0 5)).size := by simp [bytesRow]; omega
      rw [decide_eq_false (by omega), Bool.false_and] at h2
      exact h2
  · exact ((Below.refl _ _).drew).alloc (Nat.le_refl _) _
  · simp

theorem conv_back {w : World} {B : Nat} {L : List UInt8} (h : Row w B L) (n cap : Nat) (hn : L.length = n) : (convert 107 9 (.slice (some ⟨B, 0, none⟩) n cap)).run Tryd.prog w = .ok (.string (bs L)) w := by
  subst hn
  refine run_convert_bytes_back (P := Tryd.prog) w 107 9 5 ⟨B, 0, none⟩ cap L Tryd.underlying107 Tryd.underlying5 Tryd.underlying9 (fun j hj => ?_)
  have := (h j hj).1
  rw [WideShapes.add_plain, Nat.zero_add]
  exact this

theorem Row.set {w : World} {B : Nat} {L : List UInt8} (h : Row w B L) (k : Nat) (c : UInt8) (n : Int) (hn : n = c.toNat) : Row (w.setCell ⟨B, k, none⟩ (.int .u8 n)) B (L.set k c) := by
  subst hn
  intro j hj
  have hj' : j < L.length := by simpa using hj
  refine ⟨?_, ?_⟩
  · by_cases e : j = k
    · subst e
      rw [World.cell?_setCell_same _ _ _ (h j hj').1]
      simp
    · have hne : (⟨B, k, none⟩ : Addr) ≠ ⟨B, j, none⟩ := by intro hh; injection hh with _ h2; omega
      rw [World.cell?_setCell_other _ _ _ _ hne, (h j hj').1]
      simp [Ne.symm e]
  · have := (h j hj').2
    simpa using this

/-- A value of type []byte that owns the bytes l, among the blocks from B on. -/
def Own (w : World) (B : Nat) (v : Value) (l : List UInt8) : Prop := w.ownsRow B 5 1 v l.length (l.map fun c => Value.int .u8 (c.toNat : Int))

theorem Own.back {w : World} {B g n cap : Nat} {l : List UInt8} (h : Own w B (.slice (some ⟨g, 0, none⟩) n cap) l) (hn : l.length = n) : (convert 107 9 (.slice (some ⟨g, 0, none⟩) n cap)).run Tryd.prog w = .ok (.string (bs l)) w := by
  subst hn
  refine run_convert_bytes_back (P := Tryd.prog) w 107 9 5 ⟨g, 0, none⟩ cap l Tryd.underlying107 Tryd.underlying5 Tryd.underlying9 (fun j hj => ?_)
  have := World.ownsRow.cells h (g := g) rfl j (.int .u8 (l[j].toNat : Int)) (by simp [hj])
  exact this

theorem Own.rows {w : World} {B n : Nat} {v : Value} {l : List UInt8} (h : Own w B v l) (hn : l.length = n) : w.ownsRow B 5 1 v n (l.map fun c => Value.int .u8 (c.toNat : Int)) := by
  subst hn
  exact h
theorem Own.more {w : World} {B n m : Nat} {v : Value} {l ds : List UInt8} (h : w.ownsRow B 5 1 v (n + m) ((l.map fun c => Value.int .u8 (c.toNat : Int)) ++ (ds.map fun c => Value.int .u8 (c.toNat : Int)))) (hn : l.length = n) (hm : ds.length = m) : Own w B v (l ++ ds) := by
  subst hn hm
  unfold Own
  rw [List.length_append, List.map_append]
  exact h
theorem Own.ge {w : World} {B g n cap : Nat} {l : List UInt8} (h : Own w B (.slice (some ⟨g, 0, none⟩) n cap) l) : B ≤ g := by
  rcases h.2 with h | ⟨g', _, _, h, hg, _⟩
  · cases h.1
  · injection h with h _ _; injection h with h; injection h with h; omega
theorem Own.below {w wr w1 : World} {B g n cap : Nat} {l : List UInt8} {o : Obj} (h : Own wr B (.slice (some ⟨g, 0, none⟩) n cap) l) (hb : Below B w wr) (hB : B ≤ wr.heap.size)
    (hg : (wr.alloc o).grownBy w1 (Value.slice (some ⟨g, 0, none⟩) n cap).ownBlock) : Below B w w1 := by
  refine (hb.alloc hB _).grown hg (by simp; omega) (fun x hx => ?_)
  simp only [Value.ownBlock, Option.some.injEq] at hx
  have := h.ge
  omega

theorem info5 : (Tryd.prog.info? 5).map (fun i => (i.zero, i.size, i.bytes)) = some (some (.int .u8 0), 1, 1) := by kernel_rfl
end Go.Proofs.YtemlclgdgnfhnaaDoor

/- The library's contracts that are leant on, laid at this program's numbers. -/
namespace Go.Proofs.YtemlclgdgnfhnaaDoor
open Go.Shelf Go.RowKit
def laysM316_ren : Go.Shelf.Ren := ⟨fun | 316 => 49 | n => n, fun | 9 => 9 | 3 => 3 | 4 => 4 | 37 => 107 | 0 => 0 | 127 => 108 | 5 => 5 | n => n, fun | n => n⟩
theorem laysM316 : Go.Proofs.LaysM.n316 Tryd.prog laysM316_ren := {
  mixed := by kernel_rfl
  f316 := Tryd.func49.trans (congrArg some (by kernel_rfl))
  t0 := Tryd.underlying0
  a0 := Tryd.isAgg0
  z0 := Tryd.sizeOf0
  v0 := Tryd.zeroValue0
  t3 := Tryd.underlying3
  a3 := Tryd.isAgg3
  z3 := Tryd.sizeOf3
  v3 := Tryd.zeroValue3
  t4 := Tryd.underlying4
  a4 := Tryd.isAgg4
  z4 := Tryd.sizeOf4
  v4 := Tryd.zeroValue4
  t9 := Tryd.underlying9
  a9 := Tryd.isAgg9
  z9 := Tryd.sizeOf9
  v9 := Tryd.zeroValue9
  t37 := Tryd.underlying107
  a37 := Tryd.isAgg107
  z37 := Tryd.sizeOf107
  v37 := Tryd.zeroValue107
  t127 := Tryd.underlying108
  a127 := Tryd.isAgg108
  z127 := Tryd.sizeOf108
  v127 := Tryd.zeroValue108
  t5 := Tryd.underlying5
  a5 := Tryd.isAgg5
  z5 := Tryd.sizeOf5
  v5 := Tryd.zeroValue5
  i0 := by kernel_rfl
  i3 := by kernel_rfl
  i4 := by kernel_rfl
  i5 := by kernel_rfl
  i9 := by kernel_rfl
  i37 := by kernel_rfl
  i127 := by kernel_rfl }
end Go.Proofs.YtemlclgdgnfhnaaDoor

/- Cells that are set, one by one. -/
namespace Go.Proofs.YtemlclgdgnfhnaaDoor
open Go.RowKit Go.Shelf

/-- A cell is told again what it holds: the world is as it was. -/
theorem setCell_same {w : World} {g i : Nat} {cs : Array Value} {t : TypeId} (h : w.heap[g]? = some (.cells cs t (0, 0))) {v : Value} (hv : cs[i]? = some v) : w.setCell ⟨g, i, none⟩ v = w := by
  have e : (w.setCell ⟨g, i, none⟩ v).heap = w.heap := by
    apply Array.ext_getElem?
    intro j
    by_cases hj : j = g
    · subst hj
      rw [heap_setCell_same w j i cs t v h, h]
      congr 2
      apply Array.ext_getElem?
      intro m
      rw [Array.getElem?_setIfInBounds]
      by_cases hm : i = m
      · subst hm
        rw [if_pos rfl, hv, if_pos (Array.getElem?_eq_some_iff.1 hv).1]
      · rw [if_neg hm]
    · exact Below.heap_setCell w ⟨g, i, none⟩ v j hj
  show { w with heap := _ } = w
  have : (w.setCell ⟨g, i, none⟩ v).heap = w.heap := e
  cases w
  simp only [World.setCell] at this ⊢
  congr
/-- All cells of a block anew. -/
theorem heap_setAll (g : Nat) (t : TypeId) (vs : List Value) (w : World) (cur : Array Value) (h : w.heap[g]? = some (.cells cur t (0, 0))) (hs : cur.size = vs.length) : (w.setCells g 0 vs).heap[g]? = some (.cells vs.toArray t (0, 0)) := by
  obtain ⟨cur', h1, h2, h3⟩ := heap_setCells g t vs 0 w cur h
  have e := h3 (by omega)
  rw [List.take_zero, List.nil_append, Nat.zero_add, List.drop_of_length_le (by rw [Array.length_toList]; omega), List.append_nil] at e
  have : cur' = vs.toArray := by rw [← e]
  rw [h1, this]
theorem cell_of {w : World} {g i : Nat} {cs : Array Value} {t : TypeId} (h : w.heap[g]? = some (.cells cs t (0, 0))) : w.cell? ⟨g, i, none⟩ = cs[i]? := cell_of_row w g i cs t (0, 0) h
theorem free_of {w : World} {g : Nat} {cs : Array Value} {t : TypeId} (h : w.heap[g]? = some (.cells cs t (0, 0))) (i : Nat) : w.frozen? ⟨g, i, none⟩ = false := frozen_of_row w g i cs t h
end Go.Proofs.YtemlclgdgnfhnaaDoor

/- A text cloned, however long; what a world is where a cell is told again what it holds. -/
namespace Go.Proofs.YtemlclgdgnfhnaaDoor
open Go.RowKit Go.Shelf

theorem cloneS_any (s : ByteArray) (hs : s.size ≤ 140737488355328) (w : World) :
    Calls Tryd.prog 40 #[.string s] w fun e w' => e = .returned (.string s) ∧ Below w.heap.size w w' := by
  have hc : ∀ w, Calls Tryd.prog 49 #[.string s] w fun e w' => e = .returned (.string s) ∧ Below w.heap.size w w' := fun w => Any.stringslite_Clone laysM316 s w (by omega)
  go_enter Tryd.func40, Tryd.ntmps40
  go_wp2_with (go_at_call 49; refine (hc _).mono ?_; rintro e w' ⟨rfl, hb⟩)
  go_ret
  exact ⟨rfl, hb⟩
end Go.Proofs.YtemlclgdgnfhnaaDoor

/- The bank's closures that find grants. -/
namespace Go.Proofs.YtemlclgdgnfhnaaDoor
open Go.RowKit
set_option linter.unusedVariables false

def orgB (a b : OrgV) : Bool := a.sec == b.sec && (a.host.toList == b.host.toList && a.port == b.port)
theorem eqOrg (a b : OrgV) (E : Bool) (hE : orgB a b = E) (w : World) :
    (Op.equalIn 10000 24 (.agg #[.bool a.sec, .string a.host, .int .i64 a.port]) (.agg #[.bool b.sec, .string b.host, .int .i64 b.port])).run Tryd.prog w = .ok E w := by
  have u3 := Tryd.underlying3
  have u4 := Tryd.underlying4
  have u9 := Tryd.underlying9
  have a3 := Tryd.isAgg3
  have z3 := Tryd.sizeOf3
  have hS : Tryd.prog.underlying 24 = some (.struct (Tryd.prog.fieldsOf 24)) := by kernel_rfl
  have hp : Tryd.prog.stoodInHeld 24 = false := by kernel_rfl
  rw [show (10000 : Nat) = 9999 + 1 from rfl, run_equalIn_agg w 9999 24 _ _ hS hp, ← hE]
  unfold orgB
  simp only [Program.fieldsOf, Tryd.underlying24]
  go_simp
  by_cases h1 : a.sec = b.sec <;> by_cases h2 : a.host.toList = b.host.toList <;> by_cases h3 : a.port = b.port <;> simp [h1, h2, h3]
/-- Whether a grant is an origin's, of a proxy or not, and of a realm. -/
def realmB (o : OrgV) (p : Bool) (r : ByteArray) (g : GrP) : Bool := orgB g.org o && (g.proxy == p && g.ask.realm.toList == r.toList)
/-- What a function of origin, proxy and realm says of a grant's cells. -/
def onG (q : OrgV → Bool → ByteArray → Bool) : List Value → Bool
  | .bool s :: .string h :: .int _ n :: .bool p :: _ :: _ :: _ :: .string r :: _ => q ⟨s, h, n⟩ p r
  | _ => false
theorem onG_at (q : OrgV → Bool → ByteArray → Bool) (v : GrV) : onG q (grCells v) = q v.g.org v.g.proxy v.g.ask.realm := rfl
/-- Three boxes of an origin, a proxy, and a text. -/
structure Box3 (w : World) (a b c : Nat) (o : OrgV) (p : Bool) (r : ByteArray) : Prop where
  org : w.heap[a]? = some (.cells #[.bool o.sec, .string o.host, .int .i64 o.port] 24 (0, 0))
  prx : w.heap[b]? = some (.cells #[.bool p] 4 (0, 0))
  txt : w.heap[c]? = some (.cells #[.string r] 9 (0, 0))
theorem Box3.below {w w' : World} {a b c : Nat} {o : OrgV} {p : Bool} {r : ByteArray} (h : Box3 w a b c o p r) (hb : Below w.heap.size w w') : Box3 w' a b c o p r :=
  ⟨(hb.block _ (Array.getElem?_eq_some_iff.1 h.org).1).trans h.org, (hb.block _ (Array.getElem?_eq_some_iff.1 h.prx).1).trans h.prx, (hb.block _ (Array.getElem?_eq_some_iff.1 h.txt).1).trans h.txt⟩
theorem Box3.grown {w w' : World} {a b c g : Nat} {o : OrgV} {p : Bool} {r : ByteArray} {cs : Array Value} (h : Box3 w a b c o p r) (hg : w.grownBy w' (some g)) (hh : w.heap[g]? = some (.cells cs 34 (0, 0))) : Box3 w' a b c o p r := by
  have ne : ∀ {x : Nat} {cur : Array Value} {t : TypeId}, w.heap[x]? = some (.cells cur t (0, 0)) → t ≠ 34 → some x ≠ some g := fun hx ht e => by
    injection e with e
    subst e
    rw [hx] at hh
    injection hh with hh
    injection hh with _ h3
    exact ht h3
  exact ⟨(hg.block _ (Array.getElem?_eq_some_iff.1 h.org).1 (ne h.org (by decide))).trans h.org, (hg.block _ (Array.getElem?_eq_some_iff.1 h.prx).1 (ne h.prx (by decide))).trans h.prx, (hg.block _ (Array.getElem?_eq_some_iff.1 h.txt).1 (ne h.txt (by decide))).trans h.txt⟩
set_option maxRecDepth 100000 in
set_option maxHeartbeats 4000000 in
theorem grantIs_any (v : GrV) (hone : ∀ u ∈ grCells v, u.oneCell' = true) (o : OrgV) (p : Bool) (r : ByteArray) (a b c : Nat) (w : World) (hb : Box3 w a b c o p r) :
    Calls Tryd.prog 47 #[.agg (grCells v).toArray, .pointer (some ⟨a, 0, none⟩), .pointer (some ⟨b, 0, none⟩), .pointer (some ⟨c, 0, none⟩)] w fun e w' => e = .returned (.bool (realmB o p r v.g)) ∧ Below w.heap.size w w' := by
  have hbb : Below w.heap.size w (w.alloc (.cells (grCells v).toArray 34)) := (Below.refl _ _).alloc (Nat.le_refl _) _
  have hb2 := hb.below hbb
  have hn := heap_alloc_new w (.cells (grCells v).toArray 34)
  unfold grCells at hbb hb2 hn ⊢
  have HB : Hid (Below w.heap.size w (w.alloc (.cells [Value.bool v.g.org.sec, .string v.g.org.host, .int .i64 v.g.org.port, .bool v.g.proxy, .string v.g.user, .string v.g.pass, .int .i64 v.g.ask.sch, .string v.g.ask.realm, .string v.g.ask.nonce, .string v.g.ask.opq, .bool v.g.ask.sess, .string v.g.ask.qop, .bool v.g.ask.stale, v.dv, .int .i64 v.g.count, v.pv].toArray 34))) := hbb
  have c0 := (cell_of (i := 0) hb2.org)
  have c1 := (cell_of (i := 1) hb2.org)
  have c2 := (cell_of (i := 2) hb2.org)
  have c3 := (cell_of (i := 0) hb2.prx)
  have c4 := (cell_of (i := 0) hb2.txt)
  have n0 := cell_of (i := 0) hn
  have n1 := cell_of (i := 1) hn
  have n2 := cell_of (i := 2) hn
  have n3 := cell_of (i := 3) hn
  have n7 := cell_of (i := 7) hn
  simp only [List.getElem?_toArray, List.getElem?_cons_zero, List.getElem?_cons_succ] at c0 c1 c2 c3 c4 n0 n1 n2 n3 n7
  have e1 := eqOrg v.g.org o (orgB v.g.org o) rfl
  clear hb hb2 hn hbb hone
  go_enter Tryd.func47, Tryd.ntmps47
  obtain ⟨E1, h1⟩ : ∃ E, orgB v.g.org o = E := ⟨_, rfl⟩
  obtain ⟨E2, h2⟩ : ∃ E, (v.g.proxy == p) = E := ⟨_, rfl⟩
  obtain ⟨E3, h3⟩ : ∃ E, (v.g.ask.realm.toList == r.toList) = E := ⟨_, rfl⟩
  have HE : Hid (realmB o p r v.g = (E1 && (E2 && E3))) := by show _ = _; unfold realmB; rw [h1, h2, h3]
  rw [h1] at e1
  clear h1
  rw [HE.out]
  cases E1
  · go_wp2
    go_ret
    exact ⟨rfl, HB.out⟩
  · cases E2
    · go_wp2
      go_ret
      exact ⟨rfl, HB.out⟩
    · cases E3
      · go_wp2
        go_ret
        exact ⟨rfl, HB.out⟩
      · go_wp2
        go_ret
        exact ⟨rfl, HB.out⟩
set_option maxRecDepth 100000 in
set_option maxHeartbeats 2000000 in
theorem grantOf_any (o : OrgV) (p : Bool) (r : ByteArray) (w : World) :
    Calls Tryd.prog 35 #[.agg #[.bool o.sec, .string o.host, .int .i64 o.port], .bool p, .string r] w fun e w' => (∃ a b c, e = .returned (.func (.func 47) #[] #[.pointer (some ⟨a, 0, none⟩), .pointer (some ⟨b, 0, none⟩), .pointer (some ⟨c, 0, none⟩)]) ∧ Hid (Box3 w' a b c o p r)) ∧ Below w.heap.size w w' := by
  have hb1 : Below w.heap.size w (((w.alloc (.cells #[.bool o.sec, .string o.host, .int .i64 o.port] 24)).alloc (.cells #[.bool p] 4)).alloc (.cells #[.string r] 9)) := (((Below.refl _ _).alloc (Nat.le_refl _) _).alloc (by simp) _).alloc (by simp; omega) _
  have h1 : Hid (Box3 (((w.alloc (.cells #[.bool o.sec, .string o.host, .int .i64 o.port] 24)).alloc (.cells #[.bool p] 4)).alloc (.cells #[.string r] 9)) w.heap.size (w.heap.size + 1) (w.heap.size + 2) o p r) := by
    have e1 := heap_alloc_new w (.cells #[.bool o.sec, .string o.host, .int .i64 o.port] 24)
    have e2 := heap_alloc_new (w.alloc (.cells #[.bool o.sec, .string o.host, .int .i64 o.port] 24)) (.cells #[.bool p] 4)
    have e3 := heap_alloc_new ((w.alloc (.cells #[.bool o.sec, .string o.host, .int .i64 o.port] 24)).alloc (.cells #[.bool p] 4)) (.cells #[.string r] 9)
    simp only [World.size_alloc] at e2 e3
    refine ⟨?_, ?_, e3⟩
    · rw [heap_alloc_old _ _ (by simp; omega), heap_alloc_old _ _ (by simp)]
      exact e1
    · rw [heap_alloc_old _ _ (by simp)]
      exact e2
  go_enter Tryd.func35, Tryd.ntmps35
  go_wp2
  go_ret
  exact ⟨⟨_, _, _, rfl, h1⟩, hb1⟩
end Go.Proofs.YtemlclgdgnfhnaaDoor

/- Rows of texts that lie somewhere. -/
namespace Go.Proofs.YtemlclgdgnfhnaaDoor
open Go.RowKit

/-- A row of texts that lies somewhere. -/
structure Strs (w : World) (a0 : Option Addr) (len b off : Nat) (xs : List ByteArray) : Prop where
  len_eq : xs.length = len
  lies : 0 < len → a0 = some ⟨b, off, none⟩ ∧ b < w.heap.size
  cells : ∀ (j : Nat) (x : ByteArray), xs[j]? = some x → w.cell? ⟨b, off + j, none⟩ = some (.string x)
theorem Strs.below {w w' : World} {a0 : Option Addr} {len b off : Nat} {xs : List ByteArray} (h : Strs w a0 len b off xs) (hb : Below w.heap.size w w') : Strs w' a0 len b off xs := by
  refine ⟨h.len_eq, fun h0 => ⟨(h.lies h0).1, Nat.lt_of_lt_of_le (h.lies h0).2 hb.size⟩, fun j x hx => ?_⟩
  have hj := (List.getElem?_eq_some_iff.1 hx).1
  have hl := h.len_eq
  rw [hb.cell (p := ⟨b, off + j, none⟩) (h.lies (by omega)).2]
  exact h.cells j x hx
theorem OwnS.strs {w : World} {B : Nat} {v : Value} {xs : List ByteArray} (h : OwnS w B v xs) : ∃ (a : Option Addr) (cap g : Nat), v = .slice a xs.length cap ∧ Strs w a xs.length g 0 xs := by
  rcases h.2 with ⟨rfl, h0⟩ | ⟨g, cap, cur, rfl, _, hh, _, _, _, ht⟩
  · refine ⟨none, 0, 0, by rw [h0], rfl, fun h1 => absurd h0 (by omega), fun j x hx => ?_⟩
    have := (List.getElem?_eq_some_iff.1 hx).1
    omega
  · refine ⟨_, cap, g, rfl, rfl, fun _ => ⟨rfl, ?_⟩, fun j x hx => ?_⟩
    · rcases Nat.lt_or_ge g w.heap.size with h1 | h1
      · exact h1
      · simp [Array.getElem?_eq_none h1] at hh
    · have hj := World.ownsRow.cells h (g := g) rfl j (.string x) (by rw [List.getElem?_map, hx]; rfl)
      rw [WideShapes.add_plain] at hj
      exact hj
theorem Strs.drewN {w : World} {a0 : Option Addr} {len b off : Nat} {xs : List ByteArray} (h : Strs w a0 len b off xs) (n : Nat) : Strs (w.drewN n) a0 len b off xs := ⟨h.len_eq, h.lies, h.cells⟩
end Go.Proofs.YtemlclgdgnfhnaaDoor

/- A row of texts, each cloned. -/
namespace Go.Proofs.YtemlclgdgnfhnaaDoor
open Go.RowKit
set_option linter.unusedVariables false

theorem clones_enter : ∀ (args : Array Value) (w : World), (callFunc 40 args).run Tryd.prog w = .ok (.enter 40 args) w := enters_at Tryd.func40 (by kernel_rfl) rfl
set_option maxRecDepth 100000 in
set_option maxHeartbeats 2000000 in
theorem eachS_any (xs : List ByteArray) (hxs : ∀ x ∈ xs, x.size ≤ 140737488355328) (a0 : Option Addr) (len cap b off : Nat) (hlen : len ≤ 1000) (w : World) (hx : Strs w a0 len b off xs) :
    Calls Tryd.prog 42 #[.slice a0 len cap, .func (.func 40) #[] #[]] w fun e w' => (∃ v, e = .returned v ∧ OwnS w' w.heap.size v xs) ∧ Below w.heap.size w w' := by
  have HX : Hid (Strs w a0 len b off xs) := hx
  have HS : Hid (∀ x ∈ xs, x.size ≤ 140737488355328) := hxs
  have HL : Hid (xs.length = len) := hx.len_eq
  have hce := clones_enter
  clear hx hxs
  go_enter Tryd.func42, Tryd.ntmps42
  go_wp2
  go_loopw [5, 10] (fun o i wr => ∃ (k cap : Nat) (a : Option Addr), k ≤ len ∧ i = .int .i64 k ∧ o = .slice a k cap ∧ Hid (OwnS wr w.heap.size (.slice a k cap) (xs.take k) ∧ Below w.heap.size w wr)) (fun _ i _ => len - (intOf i).toNat)
  case atStart => exact ⟨0, 0, none, Nat.zero_le _, rfl, rfl, ⟨ownS_nil _ _, Below.refl _ _⟩⟩
  case round =>
    obtain ⟨k, cap2, a, hk, rfl, rfl, HK⟩ := hrel
    by_cases hlt : k < len
    · obtain ⟨x, hxk⟩ : ∃ x, xs[k]? = some x := ⟨xs[k]'(by have := HL.out; omega), List.getElem?_eq_getElem _⟩
      have HXK : Hid (xs[k]? = some x) := hxk
      have hX := HX.out.below HK.out.2
      obtain ⟨ha0, hbl⟩ := hX.lies (by omega)
      have hc1 := hX.cells k x hxk
      have hxs := HS.out x (List.mem_of_getElem? hxk)
      have HN : Hid ((xs.take k).length = k) := by show _ = _; rw [List.length_take]; have := HL.out; omega
      have hkL : (k : Int) < (len : Int) := by omega
      subst ha0
      clear hxk hX
      go_wp2_with (first | (go_at_call 40; refine (cloneS_any x hxs _).mono ?_; rintro e w2 ⟨rfl, hb2⟩; have HO2 : Hid (OwnS w2 w.heap.size (.slice a k cap2) (xs.take k) ∧ Below w.heap.size w w2) := ⟨HK.out.1.below hb2, HK.out.2.trans (hb2.mono HK.out.2.size)⟩; clear hb2) | (at_builtin; refine wp_apps rfl _ _ rfl w.heap.size w2 (.slice a k cap2) (xs.take k) k rfl HO2.out.1 HN.out (by omega) HO2.out.2.size x rfl ?_; intro g4 cap4 w4 hown4 hg4 hlt4; have HO4 : Hid (OwnS w4 w.heap.size (.slice (some ⟨g4, 0, none⟩) (k + 1) cap4) (xs.take (k + 1)) ∧ Below w.heap.size w w4) := ⟨(by obtain ⟨hk1, e⟩ := List.getElem?_eq_some_iff.1 HXK.out; rw [List.take_succ_eq_append_getElem hk1, e]; exact hown4), (HO2.out.2.alloc HO2.out.2.size _).grown hg4 (by have := HO2.out.2.size; simp; omega) (fun i hi => (HO2.out.1.lt _ hi).1)⟩; clear hown4 hg4 hlt4))
      go_roundw
      case rel => exact ⟨k + 1, _, _, by omega, by go_num, rfl, HO4⟩
      case measure => simp [intOf]; omega
    · have hkL : ¬ (k : Int) < (len : Int) := by omega
      have HE : Hid (OwnS wr w.heap.size (.slice a k cap2) xs ∧ Below w.heap.size w wr) := by
        have := HK.out
        rw [List.take_of_length_le (by have := HL.out; omega)] at this
        exact this
      go_wp2
      go_ret
      exact ⟨⟨_, rfl, HE.out.1⟩, HE.out.2⟩
/-- The same of a row that a call owns. -/
theorem eachS_own (xs : List ByteArray) (hxs : ∀ x ∈ xs, x.size ≤ 140737488355328) (hlen : xs.length ≤ 1000) (B : Nat) (v : Value) (w : World) (hv : OwnS w B v xs) :
    Calls Tryd.prog 42 #[v, .func (.func 40) #[] #[]] w fun e w' => (∃ v, e = .returned v ∧ OwnS w' w.heap.size v xs) ∧ Below w.heap.size w w' := by
  obtain ⟨a, cap, g, rfl, hs⟩ := hv.strs
  exact eachS_any xs hxs a _ cap g 0 hlen w hs
end Go.Proofs.YtemlclgdgnfhnaaDoor
