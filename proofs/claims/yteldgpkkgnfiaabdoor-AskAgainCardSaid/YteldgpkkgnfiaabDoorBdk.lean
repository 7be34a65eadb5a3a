/- strings.Builder: what is written leaves all else as it lay. -/
import Derived.Test.YteldgpkkgnfiaabDoorShBld
import Derived.Shelf.Strings.BuilderK
import Derived.Lib.BufferKept
namespace Go.Proofs.YteldgpkkgnfiaabDoor
open Go.Shelf Go.RowKit
def bldk_ren : Go.Shelf.Ren := ⟨fun | 167 => 40 | 166 => 19 | 169 => 21 | 240 => 38 | 276 => 63 | n => n, fun | 9 => 9 | 3 => 3 | 4 => 4 | 0 => 0 | 20 => 20 | 72 => 55 | 76 => 56 | 70 => 52 | 37 => 53 | 75 => 25 | 127 => 82 | 164 => 102 | 5 => 5 | 80 => 62 | n => n, fun | n => n⟩
theorem bld167 : Go.Proofs.Lays.n167 Tryd.prog bldk_ren := {
  mixed := by kernel_rfl
  f167 := Tryd.func40.trans (congrArg some (by kernel_rfl))
  f240 := Tryd.func38.trans (congrArg some (by kernel_rfl))
  f276 := Tryd.func63.trans (congrArg some (by kernel_rfl))
  t0 := Tryd.underlying0
  a0 := Tryd.isAgg0
  z0 := Tryd.sizeOf0
  v0 := Tryd.zeroValue0
  t4 := Tryd.underlying4
  a4 := Tryd.isAgg4
  z4 := Tryd.sizeOf4
  v4 := Tryd.zeroValue4
  t5 := Tryd.underlying5
  a5 := Tryd.isAgg5
  z5 := Tryd.sizeOf5
  v5 := Tryd.zeroValue5
  t9 := Tryd.underlying9
  a9 := Tryd.isAgg9
  z9 := Tryd.sizeOf9
  v9 := Tryd.zeroValue9
  t20 := Tryd.underlying20
  a20 := Tryd.isAgg20
  z20 := Tryd.sizeOf20
  v20 := Tryd.zeroValue20
  t37 := Tryd.underlying53
  a37 := Tryd.isAgg53
  z37 := Tryd.sizeOf53
  v37 := Tryd.zeroValue53
  t70 := Tryd.underlying52
  a70 := Tryd.isAgg52
  z70 := Tryd.sizeOf52
  v70 := Tryd.zeroValue52
  t72 := Tryd.underlying55
  a72 := Tryd.isAgg55
  z72 := Tryd.sizeOf55
  v72 := Tryd.zeroValue55
  t75 := Tryd.underlying25
  a75 := Tryd.isAgg25
  z75 := Tryd.sizeOf25
  v75 := Tryd.zeroValue25
  t164 := Tryd.underlying102
  a164 := Tryd.isAgg102
  z164 := Tryd.sizeOf102
  v164 := Tryd.zeroValue102 }

/-- A builder at block b, its bytes, all among the blocks from B on. -/
def Built (w : World) (B b : Nat) (l : List UInt8) : Prop := Lib.IsBuilderF 55 5 B b (Lib.byteCells l) w
theorem builtAt_below {T e : TypeId} {B b : Nat} {p : Value} {l : List Value} {w w' : World} (h : Lib.BuilderAtF T e B b p l w) (hb : Below w.heap.size w w') : Lib.BuilderAtF T e B b p l w' := by
  have old : ∀ (k : Nat) (o : Obj), w.heap[k]? = some o → w'.heap[k]? = some o := fun k o hk => by
    rw [hb.block k (Array.getElem?_eq_some_iff.1 hk).1]
    exact hk
  obtain ⟨hB, v, hv, ⟨h1, h2⟩, hne⟩ := h
  refine ⟨hB, v, old _ _ hv, ⟨h1, ?_⟩, hne⟩
  rcases h2 with h2 | ⟨g, cap, cur, fz, e1, e2, e3, e4⟩
  · exact .inl h2
  · exact .inr ⟨g, cap, cur, fz, e1, e2, old _ _ e3, e4⟩
theorem Built.below {w w' : World} {B b : Nat} {l : List UInt8} (h : Built w B b l) (hb : Below w.heap.size w w') : Built w' B b l :=
  h.elim (fun x => .inl (builtAt_below x hb)) (fun x => .inr (builtAt_below x hb))
theorem Built.lt {w : World} {B b : Nat} {l : List UInt8} (h : Built w B b l) : B ≤ b ∧ b < w.heap.size := h.elim (fun x => ⟨x.1, x.lt⟩) (fun x => ⟨x.1, x.lt⟩)
/-- More bytes into a builder. -/
theorem bdk_write (B b : Nat) (l : List UInt8) (s : ByteArray) (w : World) (h : Built w B b l) (hl : l.length + s.size ≤ 10000000) (hB : B ≤ w.heap.size) :
    Calls Tryd.prog 19 #[.pointer (some ⟨b, 0, none⟩), .string s] w fun e w' => e = .returned (.tuple #[.int .i64 s.size, .nilIface]) ∧ Built w' B b (l ++ s.data.toList) ∧ Below B w w' ∧ Lib.OthersKept 5 (some b) w w' := by
  refine (Any.Builder_WriteString_k bld166 bldX B b _ s w h (by simp [Lib.byteCells]; omega) hB).mono ?_
  rintro e w' ⟨rfl, h2, hb, ho⟩
  refine ⟨rfl, .inr ?_, hb, ho⟩
  rw [← bytes_cells]
  exact h2
theorem bldkX : Builder.Extra Tryd.prog bldk_ren := {
  sizeBuilder := by kernel_rfl
  liesBuilder := by kernel_rfl
  t5 := Tryd.underlying5
  a5 := Tryd.isAgg5
  z5 := Tryd.sizeOf5
  v5 := Tryd.zeroValue5
  infoByte := by kernel_rfl
  cellsByte := by kernel_rfl
  sizeByte := by kernel_rfl
  neB5 := by decide }
theorem bdk_byte (B b : Nat) (l : List UInt8) (c : UInt8) (w : World) (h : Built w B b l) (hl : l.length + 1 ≤ 10000000) (hB : B ≤ w.heap.size) :
    Calls Tryd.prog 40 #[.pointer (some ⟨b, 0, none⟩), .int .u8 (c.toNat : Int)] w fun e w' => e = .returned .nilIface ∧ Built w' B b (l ++ [c]) ∧ Below B w w' ∧ Lib.OthersKept 5 (some b) w w' := by
  refine (Any.Builder_WriteByte_k bld167 bldkX B b _ (c.toNat : Int) w h (by simp [Lib.byteCells]; omega) hB).mono ?_
  rintro e w' ⟨rfl, h2, hb, ho⟩
  refine ⟨rfl, .inr ?_, hb, ho⟩
  have e2 : Lib.byteCells (l ++ [c]) = Lib.byteCells l ++ [.int .u8 (c.toNat : Int)] := by simp [Lib.byteCells]
  rw [e2]
  exact h2
/-- What a builder holds, as a text. -/
theorem bdk_string (B b : Nat) (l : List UInt8) (w : World) (h : Built w B b l) (hB : B ≤ w.heap.size) :
    Calls Tryd.prog 21 #[.pointer (some ⟨b, 0, none⟩)] w fun e w' => e = .returned (.string (bs l)) ∧ Below B w w' := by
  refine (Any.Builder_String_any_k bld169 bldX B b l w h hB).mono ?_
  rintro e w' ⟨rfl, _, hb, _⟩
  exact ⟨rfl, hb⟩
/-- A block that is neither the builder's nor a row of bytes. -/
theorem kept_cells {w w' : World} {b k : Nat} {cs : Array Value} {T : TypeId} {fz : Nat × Nat} (h : Lib.OthersKept 5 (some b) w w') (hk : w.heap[k]? = some (.cells cs T fz)) (hT : T ≠ 5) (hb : k ≠ b) : w'.heap[k]? = some (.cells cs T fz) :=
  h k _ hk (by simpa using hb) (fun c f e => hT (by injection e))
theorem cells_of {w : World} {k : Nat} {cs : Array Value} {T : TypeId} {fz : Nat × Nat} (hk : w.heap[k]? = some (.cells cs T fz)) (j : Nat) (v : Value) (hj : cs[j]? = some v) : w.cell? ⟨k, j, none⟩ = some v := by
  simp [World.cell?, hk, hj]
theorem below_block {w w' : World} {k : Nat} {o : Obj} (hb : Below w.heap.size w w') (hk : w.heap[k]? = some o) : w'.heap[k]? = some o := by
  rw [hb.block k (Array.getElem?_eq_some_iff.1 hk).1]
  exact hk
end Go.Proofs.YteldgpkkgnfiaabDoor
