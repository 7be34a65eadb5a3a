/- strings.Builder: texts that are written leave all else as it lay. -/
import Derived.Test.YtoblpjknnchlmabGreatDoorShBld
import Derived.Shelf.Strings.BuilderK
import Derived.Lib.BufferKept
namespace Go.Proofs.YtoblpjknnchlmabGreatDoor
open Go.Shelf Go.RowKit
/-- A builder at block b, its bytes, all among the blocks from B on. -/
def Built (w : World) (B b : Nat) (l : List UInt8) : Prop := Lib.IsBuilderF 72 5 B b (Lib.byteCells l) w
theorem builtAt_below {T e : TypeId} {B b : Nat} {p : Value} {l : List Value} {w w' : World} (h : Lib.BuilderAtF T e B b p l w) (hb : Below w.heap.size w w') : Lib.BuilderAtF T e B b p l w' := by
  have old : ∀ (k : Nat) (o : Obj), w.heap[k]? = some o → w'.heap[k]? = some o := fun k o hk => by
    rw [hb.block k (Array.getElem?_eq_some_iff.1 hk).1]
    exact hk
  obtain ⟨hB, v, hv, ⟨h1, h2⟩, hne⟩ := h
  refine ⟨hB, v, old _ _ hv, ⟨h1, ?_⟩, hne⟩
  rcases h2 with h2 | ⟨g, cap, cur, fz, e1, e2, e3, e4⟩
  · exact .inl h2
  · exact .inr ⟨g, cap, cur, fz, e1, e2, old _ _ e3, e4⟩
theorem Built.below {w w' : World} {B b : Nat} {l : List UInt8} (h : Built w B b l) (hb : Below w.heap.size w w') : Built w' B b l :=
  h.elim (fun x => .inl (builtAt_below x hb)) (fun x => .inr (builtAt_below x hb))
theorem Built.lt {w : World} {B b : Nat} {l : List UInt8} (h : Built w B b l) : B ≤ b ∧ b < w.heap.size := h.elim (fun x => ⟨x.1, x.lt⟩) (fun x => ⟨x.1, x.lt⟩)
/-- More bytes into a builder. -/
theorem bdk_write (B b : Nat) (l : List UInt8) (s : ByteArray) (w : World) (h : Built w B b l) (hl : l.length + s.size ≤ 10000000) (hB : B ≤ w.heap.size) :
    Calls Tryz.prog 35 #[.pointer (some ⟨b, 0, none⟩), .string s] w fun e w' => e = .returned (.tuple #[.int .i64 s.size, .nilIface]) ∧ Built w' B b (l ++ s.data.toList) ∧ Below B w w' ∧ Lib.OthersKept 5 (some b) w w' := by
  refine (Any.Builder_WriteString_k bld166 bldX B b _ s w h (by simp [Lib.byteCells]; omega) hB).mono ?_
  rintro e w' ⟨rfl, h2, hb, ho⟩
  refine ⟨rfl, .inr ?_, hb, ho⟩
  rw [← bytes_cells]
  exact h2
/-- What a builder holds, as a text. -/
theorem bdk_string (B b : Nat) (l : List UInt8) (w : World) (h : Built w B b l) (hB : B ≤ w.heap.size) :
    Calls Tryz.prog 36 #[.pointer (some ⟨b, 0, none⟩)] w fun e w' => e = .returned (.string (bs l)) ∧ Below B w w' := by
  refine (Any.Builder_String_any_k bld169 bldX B b l w h hB).mono ?_
  rintro e w' ⟨rfl, _, hb, _⟩
  exact ⟨rfl, hb⟩
/-- A block that is neither the builder's nor a row of bytes. -/
theorem kept_cells {w w' : World} {b k : Nat} {cs : Array Value} {T : TypeId} {fz : Nat × Nat} (h : Lib.OthersKept 5 (some b) w w') (hk : w.heap[k]? = some (.cells cs T fz)) (hT : T ≠ 5) (hb : k ≠ b) : w'.heap[k]? = some (.cells cs T fz) :=
  h k _ hk (by simpa using hb) (fun c f e => hT (by injection e))
theorem cells_of {w : World} {k : Nat} {cs : Array Value} {T : TypeId} {fz : Nat × Nat} (hk : w.heap[k]? = some (.cells cs T fz)) (j : Nat) (v : Value) (hj : cs[j]? = some v) : w.cell? ⟨k, j, none⟩ = some v := by
  simp [World.cell?, hk, hj]
theorem below_block {w w' : World} {k : Nat} {o : Obj} (hb : Below w.heap.size w w') (hk : w.heap[k]? = some o) : w'.heap[k]? = some o := by
  rw [hb.block k (Array.getElem?_eq_some_iff.1 hk).1]
  exact hk
end Go.Proofs.YtoblpjknnchlmabGreatDoor
