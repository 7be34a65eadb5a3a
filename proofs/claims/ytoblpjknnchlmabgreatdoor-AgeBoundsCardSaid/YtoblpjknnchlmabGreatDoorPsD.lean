/- Passes, and rows of them. -/
import Derived.Test.YtoblpjknnchlmabGreatDoorAkD
import Derived.Test.YtoblpjknnchlmabGreatDoorEnt
namespace Go.Proofs.YtoblpjknnchlmabGreatDoor
open Go.RowKit

structure PsV where
  fs : Bool
  fh : ByteArray
  fp : Int
  us : Bool
  uh : ByteArray
  up : Int
  pa : ByteArray
  qu : ByteArray
  wi : Bool
  me : ByteArray
  he : ByteArray
  un : Int
def PsV.vals (v : PsV) : List Value := [.bool v.fs, .string v.fh, .int .i64 v.fp, .bool v.us, .string v.uh, .int .i64 v.up, .string v.pa, .string v.qu, .bool v.wi, .string v.me, .string v.he, .int .i64 v.un]
/-- A row of passes that lies somewhere. -/
structure Pss (w : World) (a0 : Option Addr) (len b off : Nat) (ps : List PsV) : Prop where
  len_eq : ps.length = len
  lies : 0 < len → a0 = some ⟨b, off, none⟩ ∧ b < w.heap.size
  cells : ∀ (j : Nat) (v : PsV), ps[j]? = some v → ∀ (i : Nat) (u : Value), v.vals[i]? = some u → w.cell? ⟨b, off + j * 12 + i, none⟩ = some u
theorem Pss.below {w w' : World} {a0 : Option Addr} {len b off : Nat} {ps : List PsV} (h : Pss w a0 len b off ps) (hb : Below w.heap.size w w') : Pss w' a0 len b off ps := by
  refine ⟨h.len_eq, fun h0 => ⟨(h.lies h0).1, Nat.lt_of_lt_of_le (h.lies h0).2 hb.size⟩, fun j v hj i u hi => ?_⟩
  have := (List.getElem?_eq_some_iff.1 hj).1
  have hl := h.len_eq
  rw [hb.cell (p := ⟨b, off + j * 12 + i, none⟩) (h.lies (by omega)).2]
  exact h.cells j v hj i u hi
theorem Pss.all {w : World} {a0 : Option Addr} {len b off : Nat} {ps : List PsV} (h : Pss w a0 len b off ps) {j : Nat} {v : PsV} (hj : ps[j]? = some v) :
    w.cell? ⟨b, off + j * 12, none⟩ = some (.bool v.fs) ∧ w.cell? ⟨b, off + j * 12 + 1, none⟩ = some (.string v.fh) ∧ w.cell? ⟨b, off + j * 12 + 2, none⟩ = some (.int .i64 v.fp) ∧ w.cell? ⟨b, off + j * 12 + 3, none⟩ = some (.bool v.us) ∧ w.cell? ⟨b, off + j * 12 + 4, none⟩ = some (.string v.uh) ∧ w.cell? ⟨b, off + j * 12 + 5, none⟩ = some (.int .i64 v.up) ∧ w.cell? ⟨b, off + j * 12 + 6, none⟩ = some (.string v.pa) ∧ w.cell? ⟨b, off + j * 12 + 7, none⟩ = some (.string v.qu) ∧ w.cell? ⟨b, off + j * 12 + 8, none⟩ = some (.bool v.wi) ∧ w.cell? ⟨b, off + j * 12 + 9, none⟩ = some (.string v.me) ∧ w.cell? ⟨b, off + j * 12 + 10, none⟩ = some (.string v.he) ∧ w.cell? ⟨b, off + j * 12 + 11, none⟩ = some (.int .i64 v.un) :=
  ⟨h.cells j v hj 0 _ rfl, h.cells j v hj 1 _ rfl, h.cells j v hj 2 _ rfl, h.cells j v hj 3 _ rfl, h.cells j v hj 4 _ rfl, h.cells j v hj 5 _ rfl, h.cells j v hj 6 _ rfl, h.cells j v hj 7 _ rfl, h.cells j v hj 8 _ rfl, h.cells j v hj 9 _ rfl, h.cells j v hj 10 _ rfl, h.cells j v hj 11 _ rfl⟩
theorem pss_nil (w : World) : Pss w none 0 0 0 [] := ⟨rfl, fun h => absurd h (by omega), fun j v hj => by simp at hj⟩
theorem take_any {α : Type} {f : α → Bool} {l : List α} {k : Nat} {x : α} (h : (l.take k).any f = false) (hk : l[k]? = some x) (hx : f x = false) : (l.take (k + 1)).any f = false := by
  obtain ⟨hk1, e⟩ := List.getElem?_eq_some_iff.1 hk
  rw [List.take_succ_eq_append_getElem hk1, List.any_append, h, e]
  simp [hx]
theorem take_all {α : Type} {f : α → Bool} {l : List α} {k : Nat} {x : α} (h : (l.take k).all f = true) (hk : l[k]? = some x) (hx : f x = true) : (l.take (k + 1)).all f = true := by
  obtain ⟨hk1, e⟩ := List.getElem?_eq_some_iff.1 hk
  rw [List.take_succ_eq_append_getElem hk1, List.all_append, h, e]
  simp [hx]
theorem not_all {α : Type} {f : α → Bool} {l : List α} {k : Nat} {x : α} (hk : l[k]? = some x) (hx : f x = false) : l.all f = false :=
  List.all_eq_false.2 ⟨x, List.mem_of_getElem? hk, by rw [hx]; simp⟩
end Go.Proofs.YtoblpjknnchlmabGreatDoor
