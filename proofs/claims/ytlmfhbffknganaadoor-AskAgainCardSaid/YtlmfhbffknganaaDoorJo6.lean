/- Texts of one claim, joined: each begins with what it proves. -/
import Derived.Test.YtlmfhbffknganaaDoorJo5
import Derived.Test.YtlmfhbffknganaaDoorJo1
import Derived.Test.YtlmfhbffknganaaDoorJo2
import Derived.Test.YtlmfhbffknganaaDoorJo3
import Derived.Test.YtlmfhbffknganaaDoorJo4
import Derived.Shelf.Strings.Builder1
import Derived.Shelf.Strings.BuilderK
import Derived.Lib.BufferKept
import Derived.Deep.Cut
import Derived.Deep.DeepCutAuto
/- Challenges written, as the document says, over lists of bytes. -/
namespace Go.Proofs.YtlmfhbffknganaaDoor

/-- A parameter, a blank ahead. -/
def parT (p : Par) : Option (List UInt8) := (valueO p.2.data.toList).map fun v => 32 :: (p.1.data.toList ++ 61 :: v)
def sepP (first : Bool) : List UInt8 := if first then [] else [44]
def parsT : Bool → List Par → Option (List UInt8)
  | _, [] => some []
  | first, p :: r => match parT p with
    | none => none
    | some a => (parsT false r).map fun b => sepP first ++ a ++ b
def tokT (t : ByteArray) : List UInt8 := if t.size = 0 then [] else 32 :: t.data.toList
def chalT (x : Chal) : Option (List UInt8) := (parsT true x.params).map fun a => x.scheme.data.toList ++ tokT x.token ++ a
def sepC (i : Nat) : List UInt8 := if i = 0 then [] else [44, 32]
/-- Challenges as a header, or the number of the first one that can't be told. -/
def printL : Nat → List Chal → Except Nat (List UInt8)
  | _, [] => .ok []
  | i, x :: r => match chalT x with
    | none => .error i
    | some a => (printL (i + 1) r).map fun b => sepC i ++ a ++ b
theorem valueO_len (v t : List UInt8) (h : valueO v = some t) : t.length ≤ 2 * v.length + 2 := by
  unfold valueO at h
  split at h
  · cases h; omega
  · unfold quoteO at h
    split at h
    · cases h
      unfold quoteL
      have := escL_length v
      simp
      omega
    · cases h
theorem parT_len (p : Par) (a : List UInt8) (h : parT p = some a) : a.length ≤ 2 * (p.1.size + p.2.size) + 4 := by
  unfold parT at h
  obtain ⟨v, hv, rfl⟩ := Option.map_eq_some_iff.1 h
  have := valueO_len _ _ hv
  have e1 : p.1.data.toList.length = p.1.size := Array.length_toList
  have e2 : p.2.data.toList.length = p.2.size := Array.length_toList
  simp
  omega
theorem parsT_len : ∀ (ps : List Par) (f : Bool) (a : List UInt8), parsT f ps = some a → a.length ≤ 2 * parW ps + 5 * ps.length
  | [], f, a, h => by cases h; simp
  | p :: r, f, a, h => by
    unfold parsT at h
    rcases hp : parT p with _ | q
    · rw [hp] at h; cases h
    · rw [hp] at h
      obtain ⟨b, hb, rfl⟩ := Option.map_eq_some_iff.1 h
      have h1 := parsT_len r false b hb
      have h2 := parT_len p q hp
      have h3 : (sepP f).length ≤ 1 := by cases f <;> simp [sepP]
      rw [parW, List.length_append, List.length_append, List.length_cons]
      omega
theorem chalT_len (x : Chal) (a : List UInt8) (h : chalT x = some a) : a.length ≤ 2 * chW x + 5 * x.params.length + 1 := by
  unfold chalT at h
  obtain ⟨b, hb, rfl⟩ := Option.map_eq_some_iff.1 h
  have h1 := parsT_len _ _ _ hb
  have e1 : x.scheme.data.toList.length = x.scheme.size := Array.length_toList
  have e2 : x.token.data.toList.length = x.token.size := Array.length_toList
  have h2 : (tokT x.token).length ≤ x.token.size + 1 := by unfold tokT; split <;> simp
  unfold chW
  rw [List.length_append, List.length_append]
  omega
/-- What is known of the parameters behind the first k. -/
def ParsAt (ps : List Par) (o : List UInt8) (k : Nat) : Prop := parsT true ps = (parsT (k == 0) (ps.drop k)).map (o ++ ·)
theorem parsAt_start (ps : List Par) : ParsAt ps [] 0 := by
  unfold ParsAt
  rw [List.drop_zero]
  show parsT true ps = (parsT true ps).map _
  generalize parsT true ps = o
  cases o <;> simp
theorem parsAt_end {ps : List Par} {o : List UInt8} {k : Nat} (h : ParsAt ps o k) (hk : ps.length ≤ k) : parsT true ps = some o := by
  unfold ParsAt at h
  rw [h, List.drop_of_length_le hk]
  simp [parsT]
theorem parsAt_bad {ps : List Par} {o : List UInt8} {k : Nat} {p : Par} (h : ParsAt ps o k) (hk : ps[k]? = some p) (hp : parT p = none) : parsT true ps = none := by
  unfold ParsAt at h
  obtain ⟨hk1, e⟩ := List.getElem?_eq_some_iff.1 hk
  rw [h, List.drop_eq_getElem_cons hk1, e, parsT, hp]
  rfl
theorem parsAt_next {ps : List Par} {o a : List UInt8} {k : Nat} {p : Par} (h : ParsAt ps o k) (hk : ps[k]? = some p) (hp : parT p = some a) : ParsAt ps (o ++ (sepP (k == 0) ++ a)) (k + 1) := by
  unfold ParsAt at h ⊢
  obtain ⟨hk1, e⟩ := List.getElem?_eq_some_iff.1 hk
  rw [h, List.drop_eq_getElem_cons hk1, e, parsT, hp]
  simp only [Option.map_map]
  congr 1
  funext b
  simp
/-- What is known of the challenges behind the first k. -/
def PrintAt (xs : List Chal) (o : List UInt8) (k : Nat) : Prop := printL 0 xs = (printL k (xs.drop k)).map (o ++ ·)
theorem printAt_start (xs : List Chal) : PrintAt xs [] 0 := by
  unfold PrintAt
  rw [List.drop_zero]
  cases printL 0 xs <;> simp [Except.map]
theorem printAt_end {xs : List Chal} {o : List UInt8} {k : Nat} (h : PrintAt xs o k) (hk : xs.length ≤ k) : printL 0 xs = .ok o := by
  unfold PrintAt at h
  rw [h, List.drop_of_length_le hk]
  simp [printL, Except.map]
theorem printAt_bad {xs : List Chal} {o : List UInt8} {k : Nat} {x : Chal} (h : PrintAt xs o k) (hk : xs[k]? = some x) (hp : chalT x = none) : printL 0 xs = .error k := by
  unfold PrintAt at h
  obtain ⟨hk1, e⟩ := List.getElem?_eq_some_iff.1 hk
  rw [h, List.drop_eq_getElem_cons hk1, e, printL, hp]
  rfl
theorem printAt_next {xs : List Chal} {o a : List UInt8} {k : Nat} {x : Chal} (h : PrintAt xs o k) (hk : xs[k]? = some x) (hp : chalT x = some a) : PrintAt xs (o ++ (sepC k ++ a)) (k + 1) := by
  unfold PrintAt at h ⊢
  obtain ⟨hk1, e⟩ := List.getElem?_eq_some_iff.1 hk
  rw [h, List.drop_eq_getElem_cons hk1, e, printL, hp]
  cases printL (k + 1) (xs.drop (k + 1)) <;> simp [Except.map]
end Go.Proofs.YtlmfhbffknganaaDoor

/- Cells of a block. -/
namespace Go.Proofs.YtlmfhbffknganaaDoor
open Go.RowKit

theorem cells_of {w : World} {k : Nat} {cs : Array Value} {T : TypeId} {fz : Nat × Nat} (hk : w.heap[k]? = some (.cells cs T fz)) (j : Nat) (v : Value) (hj : cs[j]? = some v) : w.cell? ⟨k, j, none⟩ = some v := by
  simp [World.cell?, hk, hj]
theorem below_block {w w' : World} {k : Nat} {o : Obj} (hb : Below w.heap.size w w') (hk : w.heap[k]? = some o) : w'.heap[k]? = some o := by
  rw [hb.block k (Array.getElem?_eq_some_iff.1 hk).1]
  exact hk
end Go.Proofs.YtlmfhbffknganaaDoor

/- strings.Builder: WriteString and String, laid at this program's numbers. -/
namespace Go.Proofs.YtlmfhbffknganaaDoor
open Go.Shelf Go.RowKit
def bld_ren : Go.Shelf.Ren := ⟨fun | 166 => 28 | 169 => 30 | 240 => 57 | 276 => 90 | n => n, fun | 9 => 9 | 3 => 3 | 4 => 4 | 0 => 0 | 20 => 20 | 72 => 63 | 76 => 64 | 70 => 60 | 37 => 61 | 75 => 25 | 127 => 90 | 164 => 116 | 5 => 5 | 80 => 70 | n => n, fun | n => n⟩
theorem bld166 : Go.Proofs.Lays.n166 Tryd.prog bld_ren := {
  mixed := by kernel_rfl
  f166 := Tryd.func28.trans (congrArg some (by kernel_rfl))
  f240 := Tryd.func57.trans (congrArg some (by kernel_rfl))
  f276 := Tryd.func90.trans (congrArg some (by kernel_rfl))
  t0 := Tryd.underlying0
  a0 := Tryd.isAgg0
  z0 := Tryd.sizeOf0
  v0 := Tryd.zeroValue0
  t3 := Tryd.underlying3
  a3 := Tryd.isAgg3
  z3 := Tryd.sizeOf3
  v3 := Tryd.zeroValue3
  t4 := Tryd.underlying4
  a4 := Tryd.isAgg4
  z4 := Tryd.sizeOf4
  v4 := Tryd.zeroValue4
  t9 := Tryd.underlying9
  a9 := Tryd.isAgg9
  z9 := Tryd.sizeOf9
  v9 := Tryd.zeroValue9
  t20 := Tryd.underlying20
  a20 := Tryd.isAgg20
  z20 := Tryd.sizeOf20
  v20 := Tryd.zeroValue20
  t37 := Tryd.underlying61
  a37 := Tryd.isAgg61
  z37 := Tryd.sizeOf61
  v37 := Tryd.zeroValue61
  t70 := Tryd.underlying60
  a70 := Tryd.isAgg60
  z70 := Tryd.sizeOf60
  v70 := Tryd.zeroValue60
  t72 := Tryd.underlying63
  a72 := Tryd.isAgg63
  z72 := Tryd.sizeOf63
  v72 := Tryd.zeroValue63
  t75 := Tryd.underlying25
  a75 := Tryd.isAgg25
  z75 := Tryd.sizeOf25
  v75 := Tryd.zeroValue25
  t164 := Tryd.underlying116
  a164 := Tryd.isAgg116
  z164 := Tryd.sizeOf116
  v164 := Tryd.zeroValue116 }
theorem bld169 : Go.Proofs.Lays.n169 Tryd.prog bld_ren := {
  mixed := by kernel_rfl
  f169 := Tryd.func30.trans (congrArg some (by kernel_rfl))
  t0 := Tryd.underlying0
  a0 := Tryd.isAgg0
  z0 := Tryd.sizeOf0
  v0 := Tryd.zeroValue0
  t3 := Tryd.underlying3
  a3 := Tryd.isAgg3
  z3 := Tryd.sizeOf3
  v3 := Tryd.zeroValue3
  t9 := Tryd.underlying9
  a9 := Tryd.isAgg9
  z9 := Tryd.sizeOf9
  v9 := Tryd.zeroValue9
  t37 := Tryd.underlying61
  a37 := Tryd.isAgg61
  z37 := Tryd.sizeOf61
  v37 := Tryd.zeroValue61
  t70 := Tryd.underlying60
  a70 := Tryd.isAgg60
  z70 := Tryd.sizeOf60
  v70 := Tryd.zeroValue60
  t72 := Tryd.underlying63
  a72 := Tryd.isAgg63
  z72 := Tryd.sizeOf63
  v72 := Tryd.zeroValue63
  t127 := Tryd.underlying90
  a127 := Tryd.isAgg90
  z127 := Tryd.sizeOf90
  v127 := Tryd.zeroValue90 }
theorem bldX : Builder.Extra Tryd.prog bld_ren := {
  sizeBuilder := by kernel_rfl
  liesBuilder := by kernel_rfl
  t5 := Tryd.underlying5
  a5 := Tryd.isAgg5
  z5 := Tryd.sizeOf5
  v5 := Tryd.zeroValue5
  infoByte := by kernel_rfl
  cellsByte := by kernel_rfl
  sizeByte := by kernel_rfl
  neB5 := by decide }
theorem bytes_cells (l : List UInt8) (s : ByteArray) : Lib.byteCells l ++ Lib.strCells s = Lib.byteCells (l ++ s.data.toList) := by
  simp [Lib.byteCells, Lib.strCells]
/-- More bytes into a builder. -/
theorem bld_write (B b : Nat) (l : List UInt8) (s : ByteArray) (w : World) (h : Lib.IsBuilder 63 5 B b (Lib.byteCells l) w) (hl : l.length + s.size ≤ 100000) (hB : B ≤ w.heap.size) :
    Calls Tryd.prog 28 #[.pointer (some ⟨b, 0, none⟩), .string s] w fun e w' => e = .returned (.tuple #[.int .i64 s.size, .nilIface]) ∧ Lib.IsBuilder 63 5 B b (Lib.byteCells (l ++ s.data.toList)) w' ∧ Below B w w' := by
  refine (Any.Builder_WriteString bld166 bldX B b _ s w h (by simp [Lib.byteCells]; omega) hB).mono ?_
  rintro e w' ⟨rfl, h2, hb⟩
  refine ⟨rfl, .inr ?_, hb⟩
  rw [← bytes_cells]
  exact h2
/-- What a builder holds, as a text. -/
theorem bld_string (B b : Nat) (l : List UInt8) (w : World) (h : Lib.IsBuilder 63 5 B b (Lib.byteCells l) w) (hB : B ≤ w.heap.size) :
    Calls Tryd.prog 30 #[.pointer (some ⟨b, 0, none⟩)] w fun e w' => e = .returned (.string (bs l)) ∧ Below B w w' := Any.Builder_String_any bld169 bldX B b l w h hB
end Go.Proofs.YtlmfhbffknganaaDoor

/- strings.Builder: texts that are written leave all else as it lay. -/
namespace Go.Proofs.YtlmfhbffknganaaDoor
open Go.Shelf Go.RowKit
/-- A builder at block b, its bytes, all among the blocks from B on. -/
def Built (w : World) (B b : Nat) (l : List UInt8) : Prop := Lib.IsBuilderF 63 5 B b (Lib.byteCells l) w
theorem builtAt_below {T e : TypeId} {B b : Nat} {p : Value} {l : List Value} {w w' : World} (h : Lib.BuilderAtF T e B b p l w) (hb : Below w.heap.size w w') : Lib.BuilderAtF T e B b p l w' := by
  have old : ∀ (k : Nat) (o : Obj), w.heap[k]? = some o → w'.heap[k]? = some o := fun k o hk => by
    rw [hb.block k (Array.getElem?_eq_some_iff.1 hk).1]
    exact hk
  obtain ⟨hB, v, hv, ⟨h1, h2⟩, hne⟩ := h
  refine ⟨hB, v, old _ _ hv, ⟨h1, ?_⟩, hne⟩
  rcases h2 with h2 | ⟨g, cap, cur, fz, e1, e2, e3, e4⟩
  · exact .inl h2
  · exact .inr ⟨g, cap, cur, fz, e1, e2, old _ _ e3, e4⟩
theorem Built.below {w w' : World} {B b : Nat} {l : List UInt8} (h : Built w B b l) (hb : Below w.heap.size w w') : Built w' B b l :=
  h.elim (fun x => .inl (builtAt_below x hb)) (fun x => .inr (builtAt_below x hb))
theorem Built.lt {w : World} {B b : Nat} {l : List UInt8} (h : Built w B b l) : B ≤ b ∧ b < w.heap.size := h.elim (fun x => ⟨x.1, x.lt⟩) (fun x => ⟨x.1, x.lt⟩)
/-- More bytes into a builder. -/
theorem bdk_write (B b : Nat) (l : List UInt8) (s : ByteArray) (w : World) (h : Built w B b l) (hl : l.length + s.size ≤ 10000000) (hB : B ≤ w.heap.size) :
    Calls Tryd.prog 28 #[.pointer (some ⟨b, 0, none⟩), .string s] w fun e w' => e = .returned (.tuple #[.int .i64 s.size, .nilIface]) ∧ Built w' B b (l ++ s.data.toList) ∧ Below B w w' ∧ Lib.OthersKept 5 (some b) w w' := by
  refine (Any.Builder_WriteString_k bld166 bldX B b _ s w h (by simp [Lib.byteCells]; omega) hB).mono ?_
  rintro e w' ⟨rfl, h2, hb, ho⟩
  refine ⟨rfl, .inr ?_, hb, ho⟩
  rw [← bytes_cells]
  exact h2
/-- What a builder holds, as a text. -/
theorem bdk_string (B b : Nat) (l : List UInt8) (w : World) (h : Built w B b l) (hB : B ≤ w.heap.size) :
    Calls Tryd.prog 30 #[.pointer (some ⟨b, 0, none⟩)] w fun e w' => e = .returned (.string (bs l)) ∧ Below B w w' := by
  refine (Any.Builder_String_any_k bld169 bldX B b l w h hB).mono ?_
  rintro e w' ⟨rfl, _, hb, _⟩
  exact ⟨rfl, hb⟩
/-- A block that is neither the builder's nor a row of bytes. -/
theorem kept_cells {w w' : World} {b k : Nat} {cs : Array Value} {T : TypeId} {fz : Nat × Nat} (h : Lib.OthersKept 5 (some b) w w') (hk : w.heap[k]? = some (.cells cs T fz)) (hT : T ≠ 5) (hb : k ≠ b) : w'.heap[k]? = some (.cells cs T fz) :=
  h k _ hk (by simpa using hb) (fun c f e => hT (by injection e))
end Go.Proofs.YtlmfhbffknganaaDoor

/- strings.Builder: a byte that is written leaves all else as it lay. -/
namespace Go.Proofs.YtlmfhbffknganaaDoor
open Go.Shelf Go.RowKit
def bldk_ren : Go.Shelf.Ren := ⟨fun | 167 => 59 | 166 => 28 | 169 => 30 | 240 => 57 | 276 => 90 | n => n, fun | 9 => 9 | 3 => 3 | 4 => 4 | 0 => 0 | 20 => 20 | 72 => 63 | 76 => 64 | 70 => 60 | 37 => 61 | 75 => 25 | 127 => 90 | 164 => 116 | 5 => 5 | 80 => 70 | n => n, fun | n => n⟩
theorem bld167 : Go.Proofs.Lays.n167 Tryd.prog bldk_ren := {
  mixed := by kernel_rfl
  f167 := Tryd.func59.trans (congrArg some (by kernel_rfl))
  f240 := Tryd.func57.trans (congrArg some (by kernel_rfl))
  f276 := Tryd.func90.trans (congrArg some (by kernel_rfl))
  t0 := Tryd.underlying0
  a0 := Tryd.isAgg0
  z0 := Tryd.sizeOf0
  v0 := Tryd.zeroValue0
  t4 := Tryd.underlying4
  a4 := Tryd.isAgg4
  z4 := Tryd.sizeOf4
  v4 := Tryd.zeroValue4
  t5 := Tryd.underlying5
  a5 := Tryd.isAgg5
  z5 := Tryd.sizeOf5
  v5 := Tryd.zeroValue5
  t9 := Tryd.underlying9
  a9 := Tryd.isAgg9
  z9 := Tryd.sizeOf9
  v9 := Tryd.zeroValue9
  t20 := Tryd.underlying20
  a20 := Tryd.isAgg20
  z20 := Tryd.sizeOf20
  v20 := Tryd.zeroValue20
  t37 := Tryd.underlying61
  a37 := Tryd.isAgg61
  z37 := Tryd.sizeOf61
  v37 := Tryd.zeroValue61
  t70 := Tryd.underlying60
  a70 := Tryd.isAgg60
  z70 := Tryd.sizeOf60
  v70 := Tryd.zeroValue60
  t72 := Tryd.underlying63
  a72 := Tryd.isAgg63
  z72 := Tryd.sizeOf63
  v72 := Tryd.zeroValue63
  t75 := Tryd.underlying25
  a75 := Tryd.isAgg25
  z75 := Tryd.sizeOf25
  v75 := Tryd.zeroValue25
  t164 := Tryd.underlying116
  a164 := Tryd.isAgg116
  z164 := Tryd.sizeOf116
  v164 := Tryd.zeroValue116 }

theorem bldkX : Builder.Extra Tryd.prog bldk_ren := {
  sizeBuilder := by kernel_rfl
  liesBuilder := by kernel_rfl
  t5 := Tryd.underlying5
  a5 := Tryd.isAgg5
  z5 := Tryd.sizeOf5
  v5 := Tryd.zeroValue5
  infoByte := by kernel_rfl
  cellsByte := by kernel_rfl
  sizeByte := by kernel_rfl
  neB5 := by decide }
theorem bdk_byte (B b : Nat) (l : List UInt8) (c : UInt8) (w : World) (h : Built w B b l) (hl : l.length + 1 ≤ 10000000) (hB : B ≤ w.heap.size) :
    Calls Tryd.prog 59 #[.pointer (some ⟨b, 0, none⟩), .int .u8 (c.toNat : Int)] w fun e w' => e = .returned .nilIface ∧ Built w' B b (l ++ [c]) ∧ Below B w w' ∧ Lib.OthersKept 5 (some b) w w' := by
  refine (Any.Builder_WriteByte_k bld167 bldkX B b _ (c.toNat : Int) w h (by simp [Lib.byteCells]; omega) hB).mono ?_
  rintro e w' ⟨rfl, h2, hb, ho⟩
  refine ⟨rfl, .inr ?_, hb, ho⟩
  have e2 : Lib.byteCells (l ++ [c]) = Lib.byteCells l ++ [.int .u8 (c.toNat : Int)] := by simp [Lib.byteCells]
  rw [e2]
  exact h2
end Go.Proofs.YtlmfhbffknganaaDoor

/- Whether a text is a word, by the program. -/
namespace Go.Proofs.YtlmfhbffknganaaDoor
open Go.RowKit

set_option maxHeartbeats 1000000 in
theorem is_any (s : ByteArray) (hs : s.size ≤ 5000) (w : World) :
    Calls Tryd.prog 32 #[.string s] w fun e w' => e = .returned (.bool (isL s.data.toList)) ∧ w' = w := by
  by_cases h0 : s.size = 0
  · have HI : Hid (isL s.data.toList = false) := isL_empty s h0
    obtain rfl : s = ⟨#[]⟩ := by
      apply ByteArray.ext
      exact Array.eq_empty_of_size_eq_zero h0
    go_enter Tryd.func32, Tryd.ntmps32
    go_wp2
    go_ret
    exact ⟨ret_bool HI.out.symm, rfl⟩
  · have HI : Hid (isL s.data.toList = decide ((runL tokB s.data.toList : Int) = (s.size : Int))) := isL_run s (by omega)
    have hne : (s.toList == ([] : List UInt8)) = false := by
      rw [beq_eq_false_iff_ne]
      intro e
      have h5 : s.data.toList = [] := by
        rw [← ByteArray.toList_eq]
        exact e
      have h6 : s.data.toList.length = s.size := Array.length_toList
      rw [h5] at h6
      exact h0 h6.symm
    obtain ⟨n, HN⟩ : ∃ n : Int, Hid ((runL tokB s.data.toList : Int) = n) := ⟨_, rfl⟩
    go_enter Tryd.func32, Tryd.ntmps32
    go_wp2_with (go_at_call 60; refine (run_any _ _ kind_byte s (by omega) _).mono ?_; rintro e w' ⟨rfl, rfl⟩; rw [HN.out])
    go_ret
    exact ⟨ret_bool (by rw [HI.out, HN.out]; rfl), rfl⟩
end Go.Proofs.YtlmfhbffknganaaDoor

/- A text between marks, by the program. -/
namespace Go.Proofs.YtlmfhbffknganaaDoor
open Go.RowKit Go.Shelf

/-- What a text between marks is, by the program: nothing, and ErrForm, where a byte may not stand there. -/
theorem quoteO_no (s : ByteArray) (h : runL textB s.data.toList < s.size) : quoteO s.data.toList = none := by
  unfold quoteO
  have h2 := runL_all textB s.data.toList
  have h3 : s.data.toList.length = s.size := Array.length_toList
  rw [if_neg]
  intro h4
  have := h2.2 h4
  omega
theorem quoteO_yes (s : ByteArray) (h : ¬ runL textB s.data.toList < s.size) : quoteO s.data.toList = some (quoteL s.data.toList) := by
  unfold quoteO
  have h2 := runL_all textB s.data.toList
  have h3 : s.data.toList.length = s.size := Array.length_toList
  have h4 := runL_le textB s.data.toList
  rw [if_pos]
  exact h2.1 (by omega)
theorem quote_no (s : ByteArray) (hs : s.size ≤ 3000) (h : quoteO s.data.toList = none) (w : World) :
    Calls Tryd.prog 91 #[.string s] w fun e w' => e = .returned (.tuple #[.string ⟨#[]⟩, .iface 53 (.int .i64 3)]) ∧ w' = w := by
  have hlt : runL textB s.data.toList < s.size := by
    rcases Nat.lt_or_ge (runL textB s.data.toList) s.size with h1 | h1
    · exact h1
    · rw [quoteO_yes s (by omega)] at h
      cases h
  clear h
  obtain ⟨n, HN, hn⟩ : ∃ n : Nat, Hid (runL textB s.data.toList = n) ∧ n < s.size := ⟨_, rfl, hlt⟩
  clear hlt
  go_enter Tryd.func91, Tryd.ntmps91
  go_wp2_with (go_at_call 60; refine (run_any _ _ kind_text s (by omega) _).mono ?_; rintro e w' ⟨rfl, rfl⟩; rw [HN.out])
  go_ret2
  exact ⟨rfl, rfl⟩
theorem escL_two (l : List UInt8) (c : UInt8) (h : c = 34 ∨ c = 92) : escL (l ++ [c]) = escL l ++ [92] ++ [c] := by
  rw [escL_append, escL, if_pos h, escL, List.append_assoc]
  rfl
theorem escL_one (l : List UInt8) (c : UInt8) (h : ¬ (c = 34 ∨ c = 92)) : escL (l ++ [c]) = escL l ++ [c] := by
  rw [escL_append, escL, if_neg h, escL]
set_option maxRecDepth 100000 in
set_option maxHeartbeats 2000000 in
theorem quote_yes (s : ByteArray) (hs : s.size ≤ 3000) (h : quoteO s.data.toList = some (quoteL s.data.toList)) (w : World) :
    Calls Tryd.prog 91 #[.string s] w fun e w' => e = .returned (.tuple #[.string (bs (quoteL s.data.toList)), .nilIface]) ∧ Below w.heap.size w w' := by
  obtain ⟨i0, hi0, hz0, hz1, hz2⟩ := info_parts info5
  have hlt : runL textB s.data.toList = s.size := by
    have h2 := runL_le textB s.data.toList
    have h3 : s.data.toList.length = s.size := Array.length_toList
    rcases Nat.lt_or_ge (runL textB s.data.toList) s.size with h1 | h1
    · rw [quoteO_no s h1] at h
      cases h
    · omega
  clear h
  have HN : Hid (runL textB s.data.toList = s.size) := hlt
  clear hlt
  go_enter Tryd.func91, Tryd.ntmps91
  go_wp2_with (first | (go_at_call 60; refine (run_any _ _ kind_text s (by omega) _).mono ?_; rintro e w' ⟨rfl, hw⟩; obtain rfl := hw.symm; rw [HN.out]) | (at_make; refine wpList_make_own _ rfl _ _ 61 rfl w.heap.size 5 i0 (.int .u8 0) 1 Tryd.underlying61 hi0 hz0 hz1 .i64 .i64 _ (s.size + 2) rfl rfl (by omega) (by rw [hz2]; omega) (by unfold maxLen; omega) (Nat.le_refl _) ?_; intro w1 hown1 hgrow1; have hb1 : Below w.heap.size w w1 := (Below.refl _ _).grown hgrow1 (Nat.le_refl _) (by simp); have HO1 : Hid (Own w1 w.heap.size (.slice (some ⟨w.heap.size, 0, none⟩) 0 (s.size + 2)) []) := hown1; clear hown1 hgrow1) | (at_builtin; refine wp_app1 rfl _ _ rfl w.heap.size w w1 (.slice (some ⟨w.heap.size, 0, none⟩) 0 (s.size + 2)) [] 0 rfl HO1.out rfl (by omega) hb1 hb1.size 34 34 rfl rfl ?_; intro g0 cap0 w2 hown2 hb2 _ _; have HO2 : Hid (Own w2 w.heap.size (.slice (some ⟨g0, 0, none⟩) (0 + 1) cap0) ([] ++ [34])) := hown2; clear hown2))
  go_loopw [4, 21] (fun v i wr => ∃ (k g cap n : Nat), k ≤ s.size ∧ n ≤ 2 * k + 1 ∧ i = .int .i64 k ∧ v = .slice (some ⟨g, 0, none⟩) n cap ∧ Hid (Own wr w.heap.size v (34 :: escL (s.data.toList.take k)) ∧ (34 :: escL (s.data.toList.take k)).length = n) ∧ Below w.heap.size w wr) (fun _ i _ => s.size - (intOf i).toNat)
  case atStart => exact ⟨0, _, _, 1, Nat.zero_le _, by omega, rfl, rfl, ⟨HO2, rfl⟩, hb2⟩
  case round =>
    obtain ⟨k, g, cap, n, hk, hn, rfl, rfl, HO, hb⟩ := hrel
    clear HO1 HO2 hb1 hb2
    have hwz : w.heap.size ≤ wr.heap.size := hb.size
    by_cases hlt : k < s.size
    · obtain ⟨c, hcd⟩ : ∃ c : UInt8, s[k] = c := ⟨_, rfl⟩
      have hcl : (c.toNat : Int) < 256 := by have := c.toNat_lt; omega
      have HS : Hid (s.data.toList.take (k + 1) = s.data.toList.take k ++ [c]) := by rw [← hcd]; exact take_snoc s k hlt
      by_cases hq : c = 34 ∨ c = 92
      · have HE : Hid (34 :: escL (s.data.toList.take (k + 1)) = (34 :: escL (s.data.toList.take k)) ++ [92] ++ [c]) := by show _ = _; rw [HS.out, escL_two _ _ hq]; simp
        have hqi : (c.toNat : Int) = 34 ∨ (c.toNat : Int) = 92 := by
          rcases hq with rfl | rfl
          · exact .inl rfl
          · exact .inr rfl
        clear hq
        rcases hqi with hqi | hqi
        all_goals
          go_wp2_with (first | (at_builtin; refine wp_app1 rfl _ _ rfl w.heap.size w wr (.slice (some ⟨g, 0, none⟩) n cap) (34 :: escL (s.data.toList.take k)) n rfl HO.out.1 HO.out.2 (by omega) hb hwz 92 92 rfl rfl ?_; intro g3 cap3 w3 hown3 hb3 _ _; have HO3 : Hid (Own w3 w.heap.size (.slice (some ⟨g3, 0, none⟩) (n + 1) cap3) ((34 :: escL (s.data.toList.take k)) ++ [92])) := hown3; clear hown3) | (at_builtin; refine wp_app1 rfl _ _ rfl w.heap.size w w3 (.slice (some ⟨g3, 0, none⟩) (n + 1) cap3) ((34 :: escL (s.data.toList.take k)) ++ [92]) (n + 1) rfl HO3.out (by rw [List.length_append, HO.out.2]; rfl) (by omega) hb3 hb3.size c _ (by first | rfl | exact hqi.symm) rfl ?_; intro g4 cap4 w4 hown4 hb4 _ _; have HO4 : Hid (Own w4 w.heap.size (.slice (some ⟨g4, 0, none⟩) ((n + 1) + 1) cap4) (((34 :: escL (s.data.toList.take k)) ++ [92]) ++ [c])) := hown4; clear hown4))
          go_roundw
          case rel => exact ⟨k + 1, g4, cap4, n + 1 + 1, by omega, by omega, by go_num, rfl, ⟨by rw [HE.out]; exact HO4.out, by rw [HE.out, List.length_append, List.length_append, HO.out.2]; rfl⟩, hb4⟩
          case measure => simp [intOf]; omega
      · have HE : Hid (34 :: escL (s.data.toList.take (k + 1)) = (34 :: escL (s.data.toList.take k)) ++ [c]) := by show _ = _; rw [HS.out, escL_one _ _ hq]; simp
        have h34 : ((c.toNat : Int) == 34) = false := beq_eq_false_iff_ne.2 fun h => hq (.inl ((u8_is (n := 34) (by omega)).1 h))
        have h92 : ((c.toNat : Int) == 92) = false := beq_eq_false_iff_ne.2 fun h => hq (.inr ((u8_is (n := 92) (by omega)).1 h))
        clear hq
        go_wp2_with (at_builtin; refine wp_app1 rfl _ _ rfl w.heap.size w wr (.slice (some ⟨g, 0, none⟩) n cap) (34 :: escL (s.data.toList.take k)) n rfl HO.out.1 HO.out.2 (by omega) hb hwz c _ (by rfl) rfl ?_; intro g4 cap4 w4 hown4 hb4 _ _; have HO4 : Hid (Own w4 w.heap.size (.slice (some ⟨g4, 0, none⟩) (n + 1) cap4) ((34 :: escL (s.data.toList.take k)) ++ [c])) := hown4; clear hown4)
        go_roundw
        case rel => exact ⟨k + 1, g4, cap4, n + 1, by omega, by omega, by go_num, rfl, ⟨by rw [HE.out]; exact HO4.out, by rw [HE.out, List.length_append, HO.out.2]; rfl⟩, hb4⟩
        case measure => simp [intOf]; omega
    · have HE : Hid (quoteL s.data.toList = (34 :: escL (s.data.toList.take k)) ++ [34]) := by
        show _ = _
        rw [List.take_of_length_le (by simp; omega)]
        rfl
      go_wp2_with (at_builtin; refine wp_app1 rfl _ _ rfl w.heap.size w wr (.slice (some ⟨g, 0, none⟩) n cap) (34 :: escL (s.data.toList.take k)) n rfl HO.out.1 HO.out.2 (by omega) hb hwz 34 34 rfl rfl ?_; intro g4 cap4 w4 hown4 hb4 _ _; have HO4 : Hid (Own w4 w.heap.size (.slice (some ⟨g4, 0, none⟩) (n + 1) cap4) ((34 :: escL (s.data.toList.take k)) ++ [34])) := hown4; have hback := hown4.back (by rw [List.length_append, HO.out.2]; rfl); rw [← HE.out] at hback; clear hown4)
      go_ret2
      exact ⟨rfl, hb4⟩
theorem quoteO_cases (s : ByteArray) : quoteO s.data.toList = none ∨ quoteO s.data.toList = some (quoteL s.data.toList) := by
  unfold quoteO
  split
  · exact .inr rfl
  · exact .inl rfl
end Go.Proofs.YtlmfhbffknganaaDoor

/- A value, by the program. -/
namespace Go.Proofs.YtlmfhbffknganaaDoor
open Go.RowKit

theorem valueO_yes (s : ByteArray) (h : isL s.data.toList = true) : valueO s.data.toList = some s.data.toList := by
  unfold valueO
  rw [if_pos h]
theorem valueO_no (s : ByteArray) (h : isL s.data.toList = false) : valueO s.data.toList = quoteO s.data.toList := by
  unfold valueO
  rw [if_neg (by rw [h]; simp)]
/-- What a value is, by the program. -/
theorem value_word_any (s : ByteArray) (hs : s.size ≤ 3000) (h : isL s.data.toList = true) (w : World) :
    Calls Tryd.prog 58 #[.string s] w fun e w' => e = .returned (.tuple #[.string s, .nilIface]) ∧ Below w.heap.size w w' := by
  go_enter Tryd.func58, Tryd.ntmps58
  go_wp2_with (first | (go_at_call 32; refine (is_any s (by omega) _).mono ?_; rintro e w' ⟨rfl, hw⟩; obtain rfl := hw.symm; rw [h]) | (go_at_call 71; refine (clone_any s (by omega) _).mono ?_; rintro e w' ⟨rfl, hb⟩))
  go_ret2
  exact ⟨rfl, hb⟩
theorem value_no (s : ByteArray) (hs : s.size ≤ 3000) (h : isL s.data.toList = false) (hq : quoteO s.data.toList = none) (w : World) :
    Calls Tryd.prog 58 #[.string s] w fun e w' => e = .returned (.tuple #[.string ⟨#[]⟩, .iface 53 (.int .i64 3)]) ∧ w' = w := by
  go_enter Tryd.func58, Tryd.ntmps58
  go_wp2_with (first | (go_at_call 32; refine (is_any s (by omega) _).mono ?_; rintro e w' ⟨rfl, hw⟩; obtain rfl := hw.symm; rw [h]) | (go_at_call 91; refine (quote_no s hs hq _).mono ?_; rintro e w' ⟨rfl, hw⟩; obtain rfl := hw.symm))
  go_ret2
  exact ⟨rfl, rfl⟩
theorem value_yes (s : ByteArray) (hs : s.size ≤ 3000) (h : isL s.data.toList = false) (hq : quoteO s.data.toList = some (quoteL s.data.toList)) (w : World) :
    Calls Tryd.prog 58 #[.string s] w fun e w' => e = .returned (.tuple #[.string (bs (quoteL s.data.toList)), .nilIface]) ∧ Below w.heap.size w w' := by
  have HQ : Hid (quoteO s.data.toList = some (quoteL s.data.toList)) := hq
  clear hq
  go_enter Tryd.func58, Tryd.ntmps58
  go_wp2_with (first | (go_at_call 32; refine (is_any s (by omega) _).mono ?_; rintro e w' ⟨rfl, hw⟩; obtain rfl := hw.symm; rw [h]) | (go_at_call 91; refine (quote_yes s hs HQ.out _).mono ?_; rintro e w' ⟨rfl, hb⟩))
  go_ret2
  exact ⟨rfl, hb⟩
end Go.Proofs.YtlmfhbffknganaaDoor

/- A value, by the program: told at once. -/
namespace Go.Proofs.YtlmfhbffknganaaDoor
open Go.RowKit

theorem value_some (s : ByteArray) (hs : s.size ≤ 3000) (t : List UInt8) (h : valueO s.data.toList = some t) (w : World) :
    Calls Tryd.prog 58 #[.string s] w fun e w' => e = .returned (.tuple #[.string (bs t), .nilIface]) ∧ Below w.heap.size w w' := by
  cases hi : isL s.data.toList
  · rw [valueO_no s hi] at h
    have hq : quoteO s.data.toList = some (quoteL s.data.toList) := by
      unfold quoteO at h ⊢
      split at h
      · rename_i h1; rw [if_pos h1]
      · cases h
    rw [hq] at h
    cases h
    exact value_yes s hs hi hq w
  · rw [valueO_yes s hi] at h
    cases h
    rw [bs_self]
    exact value_word_any s hs hi w
theorem value_none (s : ByteArray) (hs : s.size ≤ 3000) (h : valueO s.data.toList = none) (w : World) :
    Calls Tryd.prog 58 #[.string s] w fun e w' => e = .returned (.tuple #[.string ⟨#[]⟩, .iface 53 (.int .i64 3)]) ∧ w' = w := by
  cases hi : isL s.data.toList
  · rw [valueO_no s hi] at h
    exact value_no s hs hi h w
  · rw [valueO_yes s hi] at h
    cases h
end Go.Proofs.YtlmfhbffknganaaDoor

/- A challenge written, by the program. -/
namespace Go.Proofs.YtlmfhbffknganaaDoor
open Go.RowKit

def WrtAns (c : ChV) (B b : Nat) (l : List UInt8) (e : Ending) (w' : World) : Prop :=
  (∃ t, chalT c.x = some t ∧ e = .returned (.bool true) ∧ Built w' B b (l ++ t)) ∨ (chalT c.x = none ∧ e = .returned (.bool false))
theorem parT_none {p : Par} (h : valueO p.2.data.toList = none) : parT p = none := by unfold parT; rw [h]; rfl
theorem parT_some {p : Par} {v : List UInt8} (h : valueO p.2.data.toList = some v) : parT p = some (32 :: (p.1.data.toList ++ 61 :: v)) := by unfold parT; rw [h]; rfl
theorem chalT_none {x : Chal} (h : parsT true x.params = none) : chalT x = none := by unfold chalT; rw [h]; rfl
theorem chalT_some {x : Chal} {a : List UInt8} (h : parsT true x.params = some a) : chalT x = some (x.scheme.data.toList ++ tokT x.token ++ a) := by unfold chalT; rw [h]; rfl
theorem drewN_belowB {B : Nat} {a w : World} (h : Below B a w) (n : Nat) : Below B a (w.drewN n) := h.trans ⟨rfl, rfl, rfl, Nat.le_refl _, fun _ _ => rfl⟩
theorem empty_yes {s : ByteArray} (h : s.size = 0) : s.toList.isEmpty = true := by
  rw [ByteArray.toList_eq]
  have : s.data.toList.length = 0 := by rw [Array.length_toList]; exact h
  rw [List.eq_nil_of_length_eq_zero this]
  rfl
theorem empty_no {s : ByteArray} (h : s.size ≠ 0) : s.toList.isEmpty = false := by
  rw [ByteArray.toList_eq]
  cases e : s.data.toList with
  | nil =>
    have : s.data.toList.length = s.size := Array.length_toList
    rw [e] at this
    exact absurd this.symm h
  | cons x r => rfl
theorem parW_take (ps : List Par) (k : Nat) : parW (ps.take k) ≤ parW ps := by
  conv => rhs; rw [← List.take_append_drop k ps, parW_app]
  omega
set_option maxRecDepth 100000 in
set_option maxHeartbeats 4000000 in
theorem write_any (c : ChV) (hf : c.x.params.length ≤ 1000 ∧ ∀ p ∈ c.x.params, p.1.size ≤ 3000 ∧ p.2.size ≤ 3000) (hst : c.x.scheme.size ≤ 3000 ∧ c.x.token.size ≤ 3000) (B b : Nat) (l : List UInt8) (hl : l.length + (2 * chW c.x + 5 * c.x.params.length + 1) ≤ 9000000)
    (w : World) (hw : Built w B b l) (hB : B ≤ w.heap.size) (hx : ChOk w c) (hxB : 0 < c.len → c.b < B) :
    Calls Tryd.prog 29 #[.pointer (some ⟨b, 0, none⟩), .agg #[.string c.x.scheme, .string c.x.token, .slice c.a c.len c.cap]] w fun e w' => WrtAns c B b l e w' ∧ Below B w w' := by
  obtain ⟨hBb, hbw⟩ := hw.lt
  have HF : Hid (∀ p ∈ c.x.params, p.1.size ≤ 3000 ∧ p.2.size ≤ 3000) := hf.2
  have hcl : c.len ≤ 1000 := hf.1
  have HL : Hid (l.length + (2 * chW c.x + 5 * c.x.params.length + 1) ≤ 9000000) := hl
  have HXB : Hid (0 < c.len → c.b < B) := hxB
  have hb1 : Below w.heap.size w (w.alloc (.cells #[.string c.x.scheme, .string c.x.token, .slice c.a c.len c.cap] 33)) := (Below.refl _ _).alloc (Nat.le_refl _) _
  have HX1 : Hid (ChOk (w.alloc (.cells #[.string c.x.scheme, .string c.x.token, .slice c.a c.len c.cap] 33)) c) := hx.below hb1
  have HW1 : Hid (Built (w.alloc (.cells #[.string c.x.scheme, .string c.x.token, .slice c.a c.len c.cap] 33)) B b l) := hw.below hb1
  have hbox1 : (w.alloc (.cells #[.string c.x.scheme, .string c.x.token, .slice c.a c.len c.cap] 33)).heap[w.heap.size]? = some (.cells #[.string c.x.scheme, .string c.x.token, .slice c.a c.len c.cap] 33 (0, 0)) := heap_alloc_new w _
  have HB1 : Hid (Below B w (w.alloc (.cells #[.string c.x.scheme, .string c.x.token, .slice c.a c.len c.cap] 33))) := hb1.mono hB
  have HBOX1 : Hid ((w.alloc (.cells #[.string c.x.scheme, .string c.x.token, .slice c.a c.len c.cap] 33)).heap[w.heap.size]? = some (.cells #[.string c.x.scheme, .string c.x.token, .slice c.a c.len c.cap] 33 (0, 0))) := hbox1
  have hne : w.heap.size ≠ b := by omega
  obtain ⟨hs1, hs2⟩ := hst
  have hes : c.x.scheme.data.toList.length = c.x.scheme.size := Array.length_toList
  have HES : Hid (c.x.scheme.data.toList.length = c.x.scheme.size) := hes
  have HET : Hid (c.x.token.data.toList.length = c.x.token.size) := Array.length_toList
  clear hf hl hx hw hxB hb1 hes hbox1
  go_enter Tryd.func29, Tryd.ntmps29
  go_wp2_with fail
  refine (bdk_write B b l _ _ HW1.out (by have := HL.out; unfold chW at this; omega) (by simp; omega)).mono ?_
  rintro e w2 ⟨rfl, hw2, hb2, ho2⟩
  have hbox2 := kept_cells ho2 HBOX1.out (by decide) hne
  have HX2 : Hid (ChOk w2 c) := HX1.out.belowB hb2 HXB.out
  have HW2 : Hid (Built w2 B b (l ++ c.x.scheme.data.toList)) := hw2
  have HB2 : Hid (Below B w w2) := HB1.out.trans hb2
  have hz2 : B ≤ w2.heap.size := Nat.le_trans hB (Nat.le_trans HB1.out.size hb2.size)
  have HBOX2 : Hid (w2.heap[w.heap.size]? = some (.cells #[.string c.x.scheme, .string c.x.token, .slice c.a c.len c.cap] 33 (0, 0))) := hbox2
  have hc1 := cells_of hbox2 1 _ rfl
  clear hw2 ho2 HW1 HX1 HBOX1 HB1 hbox2
  go_upto_if 15 with fail
  go_cut [] (fun wc => Hid (Built wc B b (l ++ c.x.scheme.data.toList ++ tokT c.x.token) ∧ ChOk wc c ∧ Below B w wc ∧ wc.heap[w.heap.size]? = some (.cells #[.string c.x.scheme, .string c.x.token, .slice c.a c.len c.cap] 33 (0, 0))) ∧ B ≤ wc.heap.size)
  case first =>
    by_cases ht : c.x.token.size = 0
    · have HT : Hid (tokT c.x.token = []) := by show _ = _; unfold tokT; rw [if_pos ht]
      have he : (!c.x.token.toList.isEmpty) = false := by rw [empty_yes ht]; rfl
      rw [he]
      go_wp2
      go_meet
      exact ⟨⟨by rw [HT.out, List.append_nil]; exact HW2.out, HX2.out, HB2.out, HBOX2.out⟩, hz2⟩
    · have HT : Hid (tokT c.x.token = (⟨#[32]⟩ ++ c.x.token : ByteArray).data.toList) := by show _ = _; unfold tokT; rw [if_neg ht]; simp
      have he : (!c.x.token.toList.isEmpty) = true := by rw [empty_no ht]; rfl
      rw [he]
      have hzt : (⟨#[32]⟩ ++ c.x.token : ByteArray).size = 1 + c.x.token.size := by rw [ByteArray.size_append]; rfl
      have HZT : Hid ((⟨#[32]⟩ ++ c.x.token : ByteArray).size = 1 + c.x.token.size) := hzt
      clear hzt
      go_wp2_with fail
      refine (bdk_write B b _ _ _ HW2.out (by rw [HZT.out, List.length_append, HES.out]; have := HL.out; unfold chW at this; omega) hz2).mono ?_
      rintro e w3 ⟨rfl, hw3, hb3, ho3⟩
      have HC3 : Hid (Built w3 B b (l ++ c.x.scheme.data.toList ++ tokT c.x.token) ∧ ChOk w3 c ∧ Below B w w3 ∧ w3.heap[w.heap.size]? = some (.cells #[.string c.x.scheme, .string c.x.token, .slice c.a c.len c.cap] 33 (0, 0))) :=
        ⟨by rw [HT.out]; exact hw3, HX2.out.belowB hb3 HXB.out, HB2.out.trans hb3, kept_cells ho3 HBOX2.out (by decide) hne⟩
      have hz3 : B ≤ w3.heap.size := Nat.le_trans hz2 hb3.size
      clear hw3 hb3 ho3
      go_wp2
      go_meet
      exact ⟨HC3, hz3⟩
  case rest =>
    obtain ⟨HC, hz3⟩ := hcut
    have hc2 := cells_of HC.out.2.2.2 2 _ rfl
    have HLT : Hid ((l ++ c.x.scheme.data.toList ++ tokT c.x.token).length + (2 * parW c.x.params + 5 * c.x.params.length) ≤ 9000000) := by
      show _ ≤ _
      have h1 := HL.out
      have h2 : (tokT c.x.token).length ≤ c.x.token.size + 1 := by unfold tokT; split <;> simp
      have := HES.out
      unfold chW at h1
      rw [List.length_append, List.length_append]
      omega
    clear HW2 HX2 HB2 HBOX2 HL
    obtain ⟨m, HM⟩ : ∃ m, Hid (l ++ c.x.scheme.data.toList ++ tokT c.x.token = m) := ⟨_, rfl⟩
    rw [HM.out] at HC HLT
    obtain ⟨a, hA⟩ : ∃ a, c.a = a := ⟨_, rfl⟩
    rw [hA] at hc2 ⊢
    have HA' : Hid (c.a = a) := hA
    clear hA
    go_wp2
    go_loopw [24] (fun i wr => ∃ (k : Nat) (o : List UInt8), k ≤ c.len ∧ i = .int .i64 k ∧ Hid (ParsAt c.x.params o k ∧ o.length ≤ 2 * parW (c.x.params.take k) + 5 * k ∧ Built wr B b (m ++ o) ∧ ChOk wr c ∧ Below B w wr) ∧ B ≤ wr.heap.size) (fun i _ => c.len - (intOf i).toNat)
    case atStart => exact ⟨0, [], Nat.zero_le _, rfl, ⟨parsAt_start _, by simp, by rw [List.append_nil]; exact HC.out.1, HC.out.2.1, HC.out.2.2.1⟩, hz3⟩
    case round =>
      obtain ⟨k, o, hk, rfl, HI, hzr⟩ := hrel
      by_cases hlt : k < c.len
      · obtain ⟨p, hpk⟩ : ∃ p, c.x.params[k]? = some p := ⟨c.x.params[k]'hlt, List.getElem?_eq_getElem hlt⟩
        have HP : Hid (c.x.params[k]? = some p) := hpk
        obtain ⟨hz4, hz5⟩ := HF.out p (List.mem_of_getElem? hpk)
        obtain ⟨ha, hbl⟩ := HI.out.2.2.2.1.lies (by omega)
        have hp1 := HI.out.2.2.2.1.one k p hpk
        have hp2 := HI.out.2.2.2.1.two k p hpk
        obtain rfl : a = some ⟨c.b, c.off, none⟩ := HA'.out.symm.trans ha
        clear hpk ha
        rcases hv : valueO p.2.data.toList with _ | v
        · have HA : Hid (chalT c.x = none) := chalT_none (parsAt_bad HI.out.1 HP.out (parT_none hv))
          go_wp2_with fail
          refine (value_none p.2 hz5 hv _).mono ?_
          rintro e w4 ⟨rfl, hw4⟩
          obtain rfl := hw4.symm
          go_wp2
          go_ret
          exact ⟨.inr ⟨HA, rfl⟩, HI.out.2.2.2.2.alloc hzr _⟩
        · have HV : Hid (parT p = some (32 :: (p.1.data.toList ++ 61 :: v))) := parT_some hv
          have HN : Hid (ParsAt c.x.params (o ++ (sepP (k == 0) ++ 32 :: (p.1.data.toList ++ 61 :: v))) (k + 1)) := parsAt_next HI.out.1 HP.out HV.out
          have HNL : Hid ((o ++ (sepP (k == 0) ++ 32 :: (p.1.data.toList ++ 61 :: v))).length ≤ 2 * parW (c.x.params.take (k + 1)) + 5 * (k + 1) ∧ (m ++ (o ++ (sepP (k == 0) ++ 32 :: (p.1.data.toList ++ 61 :: v)))).length ≤ 9000000) := by
            have h1 := HI.out.2.1
            have h2 := parW_snoc _ _ _ HP.out
            have h3 := parT_len _ _ HV.out
            have h4 : (sepP (k == 0)).length ≤ 1 := by cases (k == 0) <;> simp [sepP]
            have h5 := HLT.out
            have h6 := parW_take c.x.params (k + 1)
            have h7 : c.len = c.x.params.length := rfl
            have h8 : (o ++ (sepP (k == 0) ++ 32 :: (p.1.data.toList ++ 61 :: v))).length ≤ 2 * parW (c.x.params.take (k + 1)) + 5 * (k + 1) := by
              rw [List.length_append, List.length_append]
              omega
            refine ⟨h8, ?_⟩
            rw [List.length_append]
            omega
          obtain ⟨tv, HTV⟩ : ∃ tv, Hid (bs v = tv) := ⟨_, rfl⟩
          have hval : ∀ w, Calls Tryd.prog 58 #[.string p.2] w fun e w' => e = .returned (.tuple #[.string tv, .nilIface]) ∧ Below w.heap.size w w' := fun w => by rw [← HTV.out]; exact value_some p.2 hz5 v hv w
          have htz : tv.size ≤ 9000000 := by
            have h1 := HNL.out.2
            have h2 : tv.size = v.length := by rw [← HTV.out, bs_size]
            simp only [List.length_append, List.length_cons] at h1
            omega
          have HTX : Hid ((⟨#[32]⟩ ++ p.1 ++ ⟨#[61]⟩ ++ tv : ByteArray).data.toList = 32 :: (p.1.data.toList ++ 61 :: v)) := by
            show _ = _
            rw [← HTV.out]
            simp [bs]
          clear hv
          have hb4 : Below wr.heap.size wr (wr.alloc (.cells #[.string p.1, .string p.2] 49)) := (Below.refl _ _).alloc (Nat.le_refl _) _
          have hx4 : (wr.alloc (.cells #[.string p.1, .string p.2] 49)).heap[wr.heap.size]? = some (.cells #[.string p.1, .string p.2] 49 (0, 0)) := heap_alloc_new wr _
          have hbr : b ≠ wr.heap.size := by have := HI.out.2.2.1.lt.2; omega
          go_wp2_with fail
          refine (hval _).mono ?_
          rintro e w5 ⟨rfl, hb5⟩
          have HX5 : Hid (w5.heap[wr.heap.size]? = some (.cells #[.string p.1, .string p.2] 49 (0, 0))) := below_block hb5 hx4
          have HI5 : Hid (Built w5 B b (m ++ o) ∧ ChOk w5 c ∧ Below B w w5) := ⟨(HI.out.2.2.1.below hb4).below hb5, (HI.out.2.2.2.1.below hb4).below hb5, (HI.out.2.2.2.2.alloc hzr _).trans (hb5.mono (by simp; omega))⟩
          have hz6 : B ≤ w5.heap.size := Nat.le_trans hzr (Nat.le_trans hb4.size hb5.size)
          clear hb4 hx4 hb5
          by_cases h0 : k = 0
          · have HSP : Hid (sepP (k == 0) = []) := by show _ = _; rw [h0]; rfl
            have hk0 : ¬ (0 : Int) < (k : Int) := by omega
            have hcn := cells_of HX5.out 0 _ rfl
            rw [HSP.out, List.nil_append] at HN HNL
            clear h0
            go_wp2_with fail
            refine (bdk_write B b _ _ _ HI5.out.1 (by
              have h1 := HNL.out.2
              have h2 := congrArg List.length HTX.out
              rw [Array.length_toList] at h2
              have h3 : (⟨#[32]⟩ ++ p.1 ++ ⟨#[61]⟩ ++ tv : ByteArray).data.size = (⟨#[32]⟩ ++ p.1 ++ ⟨#[61]⟩ ++ tv : ByteArray).size := rfl
              rw [List.length_append, List.length_append] at h1
              rw [List.length_append]
              omega) hz6).mono ?_
            rintro e w7 ⟨rfl, hw7, hb7, ho7⟩
            have HI7 : Hid (Built w7 B b (m ++ (o ++ 32 :: (p.1.data.toList ++ 61 :: v))) ∧ ChOk w7 c ∧ Below B w w7) := ⟨by rw [← List.append_assoc, ← HTX.out]; exact hw7, HI5.out.2.1.belowB hb7 HXB.out, HI5.out.2.2.trans hb7⟩
            have hz7 : B ≤ w7.heap.size := Nat.le_trans hz6 hb7.size
            clear hw7 hb7 ho7
            go_wp2
            go_roundw
            case rel => exact ⟨k + 1, _, by omega, by go_num, ⟨HN.out, HNL.out.1, HI7.out.1, HI7.out.2.1, HI7.out.2.2⟩, hz7⟩
            case measure => simp [intOf]; omega
          · have HSP : Hid (sepP (k == 0) = [44]) := by show _ = _; rw [beq_eq_false_iff_ne.2 h0]; rfl
            have hk0 : (0 : Int) < (k : Int) := by omega
            rw [HSP.out] at HN HNL
            go_wp2_with fail
            refine (bdk_byte B b _ 44 _ HI5.out.1 (by
              have h1 := HNL.out.2
              simp only [List.length_append, List.length_cons] at h1
              rw [List.length_append]
              omega) hz6).mono ?_
            rintro e w6 ⟨rfl, hw6, hb6, ho6⟩
            have HX6 : Hid (w6.heap[wr.heap.size]? = some (.cells #[.string p.1, .string p.2] 49 (0, 0))) := kept_cells ho6 HX5.out (by decide) hbr.symm
            have HI6 : Hid (Built w6 B b (m ++ o ++ [44]) ∧ ChOk w6 c ∧ Below B w w6) := ⟨hw6, HI5.out.2.1.belowB hb6 HXB.out, HI5.out.2.2.trans hb6⟩
            have hz66 : B ≤ w6.heap.size := Nat.le_trans hz6 hb6.size
            clear hw6 hb6 ho6
            have hcn := cells_of HX6.out 0 _ rfl
            go_wp2_with fail
            refine (bdk_write B b _ _ _ HI6.out.1 (by
              have h1 := HNL.out.2
              have h2 := congrArg List.length HTX.out
              rw [Array.length_toList] at h2
              have h3 : (⟨#[32]⟩ ++ p.1 ++ ⟨#[61]⟩ ++ tv : ByteArray).data.size = (⟨#[32]⟩ ++ p.1 ++ ⟨#[61]⟩ ++ tv : ByteArray).size := rfl
              rw [List.length_append, List.length_append, List.length_append] at h1
              rw [List.length_append, List.length_append]
              omega) hz66).mono ?_
            rintro e w7 ⟨rfl, hw7, hb7, ho7⟩
            have HI7 : Hid (Built w7 B b (m ++ (o ++ ([44] ++ 32 :: (p.1.data.toList ++ 61 :: v)))) ∧ ChOk w7 c ∧ Below B w w7) := ⟨by rw [← List.append_assoc, ← List.append_assoc, ← HTX.out]; exact hw7, HI6.out.2.1.belowB hb7 HXB.out, HI6.out.2.2.trans hb7⟩
            have hz7 : B ≤ w7.heap.size := Nat.le_trans hz66 hb7.size
            clear hw7 hb7 ho7
            go_wp2
            go_roundw
            case rel => exact ⟨k + 1, _, by omega, by go_num, ⟨HN.out, HNL.out.1, HI7.out.1, HI7.out.2.1, HI7.out.2.2⟩, hz7⟩
            case measure => simp [intOf]; omega
      · have HA : Hid (chalT c.x = some (c.x.scheme.data.toList ++ tokT c.x.token ++ o)) := chalT_some (parsAt_end HI.out.1 (by unfold ChV.len at hlt; omega))
        go_wp2
        go_ret
        exact ⟨.inl ⟨_, HA, rfl, by rw [← List.append_assoc, ← List.append_assoc, HM.out]; exact HI.out.2.2.1⟩, HI.out.2.2.2.2⟩
end Go.Proofs.YtlmfhbffknganaaDoor

/- Challenges as a header, by the program. -/
namespace Go.Proofs.YtlmfhbffknganaaDoor
open Go.RowKit

/-- A bound on how much is written. -/
def prtW : List Chal → Nat
  | [] => 0
  | x :: r => 2 * chW x + 5 * x.params.length + 3 + prtW r
theorem prtW_app (a b : List Chal) : prtW (a ++ b) = prtW a + prtW b := by
  induction a with
  | nil => simp [prtW]
  | cons p r ih => rw [List.cons_append, prtW, prtW, ih]; omega
theorem prtW_snoc (xs : List Chal) (k : Nat) (x : Chal) (h : xs[k]? = some x) : prtW (xs.take (k + 1)) = prtW (xs.take k) + (2 * chW x + 5 * x.params.length + 3) := by
  obtain ⟨hk, e⟩ := List.getElem?_eq_some_iff.1 h
  rw [List.take_succ_eq_append_getElem hk, prtW_app, e]
  simp [prtW]
theorem prtW_take (xs : List Chal) (k : Nat) : prtW (xs.take k) ≤ prtW xs := by
  conv => rhs; rw [← List.take_append_drop k xs, prtW_app]
  omega
/-- Challenges that are not too long. -/
def Slim (cs : List ChV) : Prop := cs.length ≤ 1000 ∧ (∀ c ∈ cs, (c.x.params.length ≤ 1000 ∧ ∀ p ∈ c.x.params, p.1.size ≤ 3000 ∧ p.2.size ≤ 3000) ∧ c.x.scheme.size ≤ 3000 ∧ c.x.token.size ≤ 3000) ∧ prtW (xsOf cs) ≤ 8000000
/-- What Print answers. -/
def PrtAns (xs : List Chal) (B : Nat) (e : Ending) (w' : World) : Prop :=
  (∃ t, printL 0 xs = .ok t ∧ t.length ≤ prtW xs ∧ e = .returned (.tuple #[.string (bs t), .nilIface])) ∨
  (∃ k g : Nat, printL 0 xs = .error k ∧ e = .returned (.tuple #[.string ⟨#[]⟩, .iface 67 (.pointer (some ⟨g, 0, none⟩))]) ∧ w'.cell? ⟨g, 0, none⟩ = some (.int .i64 3) ∧ w'.cell? ⟨g, 1, none⟩ = some (.int .i64 (k : Int)) ∧ B ≤ g ∧ g < w'.heap.size)
theorem Chals.belowB {w w' : World} {a0 : Option Addr} {len b off B : Nat} {cs : List ChV} (h : Chals w a0 len b off cs) (hB : w.heap.size ≤ B) {w1 : World} (h1 : Below w.heap.size w w1) (hb : Below B w1 w') : Chals w' a0 len b off cs :=
  h.below (h1.trans (hb.mono hB))
set_option maxRecDepth 100000 in
set_option maxHeartbeats 4000000 in
theorem print_any (cs : List ChV) (hs : Slim cs) (a0 : Option Addr) (len cap b off : Nat) (w : World) (hx : Chals w a0 len b off cs) :
    Calls Tryd.prog 8 #[.slice a0 len cap] w fun e w' => PrtAns (xsOf cs) w.heap.size e w' ∧ Below w.heap.size w w' := by
  have HX : Hid (Chals w a0 len b off cs) := hx
  have HS : Hid (Slim cs) := hs
  have hl := hx.len_eq
  have hlen : len ≤ 1000 := by have := hs.1; omega
  have hB0 : Below w.heap.size w (w.alloc (.cells #[.pointer none, .slice none 0 0] 63)) := (Below.refl _ _).alloc (Nat.le_refl _) _
  have HB0 : Hid (Built (w.alloc (.cells #[.pointer none, .slice none 0 0] 63)) w.heap.size w.heap.size [] ∧ Below w.heap.size w (w.alloc (.cells #[.pointer none, .slice none 0 0] 63))) := ⟨Lib.IsBuilderF.of (Lib.fresh_isBuilder _ _ _), hB0⟩
  clear hx hs hB0
  go_enter Tryd.func8, Tryd.ntmps8
  go_wp2
  go_loopw [9] (fun i wr => ∃ (k : Nat) (o : List UInt8), k ≤ len ∧ i = .int .i64 k ∧ Hid (PrintAt (xsOf cs) o k ∧ o.length ≤ prtW ((xsOf cs).take k) ∧ Built wr w.heap.size w.heap.size o ∧ Below w.heap.size w wr)) (fun i _ => len - (intOf i).toNat)
  case atStart => exact ⟨0, [], Nat.zero_le _, rfl, ⟨printAt_start _, by simp, HB0.out.1, HB0.out.2⟩⟩
  case round =>
    obtain ⟨k, o, hk, rfl, HI⟩ := hrel
    have hwz : w.heap.size < wr.heap.size := HI.out.2.2.1.lt.2
    by_cases hlt : k < len
    · obtain ⟨c, hck⟩ : ∃ c, cs[k]? = some c := ⟨cs[k]'(by omega), List.getElem?_eq_getElem (by omega)⟩
      have HC : Hid (cs[k]? = some c) := hck
      have hX := HX.out.below HI.out.2.2.2
      obtain ⟨ha0, hbl⟩ := hX.lies (by omega)
      have hc1 := hX.one k c hck
      have hc2 := hX.two k c hck
      have hc3 := hX.three k c hck
      obtain ⟨hcs1, hcs2⟩ := HS.out.2.1 c (List.mem_of_getElem? hck)
      have HSC : Hid ((c.x.params.length ≤ 1000 ∧ ∀ p ∈ c.x.params, p.1.size ≤ 3000 ∧ p.2.size ≤ 3000) ∧ c.x.scheme.size ≤ 3000 ∧ c.x.token.size ≤ 3000) := ⟨hcs1, hcs2⟩
      have HXC : Hid (ChOk w c ∧ (0 < c.len → c.b < w.heap.size)) := ⟨HX.out.pars c (List.mem_of_getElem? hck), fun h => ((HX.out.pars c (List.mem_of_getElem? hck)).lies h).2⟩
      have HW : Hid (o.length + (2 * chW c.x + 5 * c.x.params.length + 3) ≤ 8000000) := by
        have h1 := HI.out.2.1
        have h2 := prtW_snoc _ _ _ (xsOf_at hck)
        have h3 := prtW_take (xsOf cs) (k + 1)
        have h4 := HS.out.2.2
        show _ ≤ _
        omega
      subst ha0
      clear hck hX hcs1 hcs2
      have hb1 : Below wr.heap.size wr (wr.alloc (.cells #[.string c.x.scheme, .string c.x.token, .slice c.a c.len c.cap] 33)) := (Below.refl _ _).alloc (Nat.le_refl _) _
      have HBOX1 : Hid ((wr.alloc (.cells #[.string c.x.scheme, .string c.x.token, .slice c.a c.len c.cap] 33)).heap[wr.heap.size]? = some (.cells #[.string c.x.scheme, .string c.x.token, .slice c.a c.len c.cap] 33 (0, 0))) := heap_alloc_new wr _
      have HI1 : Hid (Built (wr.alloc (.cells #[.string c.x.scheme, .string c.x.token, .slice c.a c.len c.cap] 33)) w.heap.size w.heap.size o ∧ Below w.heap.size w (wr.alloc (.cells #[.string c.x.scheme, .string c.x.token, .slice c.a c.len c.cap] 33))) := ⟨HI.out.2.2.1.below hb1, HI.out.2.2.2.trans (hb1.mono (Nat.le_of_lt hwz))⟩
      have HZ1 : Hid (w.heap.size ≤ (wr.alloc (.cells #[.string c.x.scheme, .string c.x.token, .slice c.a c.len c.cap] 33)).heap.size) := by show _ ≤ _; simp; omega
      clear hb1
      go_upto_if 15 with fail
      go_cut [] (fun wc => Hid (Built wc w.heap.size w.heap.size (o ++ sepC k) ∧ Below w.heap.size w wc) ∧ wc.heap[wr.heap.size]? = some (.cells #[.string c.x.scheme, .string c.x.token, .slice c.a c.len c.cap] 33 (0, 0)) ∧ w.heap.size ≤ wc.heap.size)
      case first =>
        by_cases h0 : k = 0
        · have HSP : Hid (sepC k = []) := by show _ = _; rw [h0]; rfl
          have hk0 : decide (0 < k) = false := by simp; omega
          rw [hk0]
          go_wp2
          go_meet
          exact ⟨⟨by rw [HSP.out, List.append_nil]; exact HI1.out.1, HI1.out.2⟩, HBOX1.out, HZ1.out⟩
        · have HSP : Hid (sepC k = [44, 32]) := by show _ = _; unfold sepC; rw [if_neg h0]
          have hk0 : decide (0 < k) = true := by simp; omega
          rw [hk0]
          go_wp2_with fail
          refine (bdk_write _ _ _ ⟨#[44, 32]⟩ _ HI1.out.1 (by have := HW.out; have : (⟨#[44, 32]⟩ : ByteArray).size = 2 := rfl; omega) HZ1.out).mono ?_
          rintro e w2 ⟨rfl, hw2, hb2, ho2⟩
          have HI2 : Hid (Built w2 w.heap.size w.heap.size (o ++ sepC k) ∧ Below w.heap.size w w2) := ⟨by rw [HSP.out]; exact hw2, HI1.out.2.trans hb2⟩
          have HBX2 : Hid (w2.heap[wr.heap.size]? = some (.cells #[.string c.x.scheme, .string c.x.token, .slice c.a c.len c.cap] 33 (0, 0))) := kept_cells ho2 HBOX1.out (by decide) (by omega)
          have HZ2 : Hid (w.heap.size ≤ w2.heap.size) := Nat.le_trans HZ1.out hb2.size
          clear hw2 hb2 ho2
          go_wp2
          go_meet
          exact ⟨HI2, HBX2.out, HZ2.out⟩
      case rest =>
        obtain ⟨HI3, hbox3, hz3⟩ := hcut
        have hd0 := cells_of hbox3 0 _ rfl
        have hd1 := cells_of hbox3 1 _ rfl
        have hd2 := cells_of hbox3 2 _ rfl
        clear hbox3
        have hwr : Calls Tryd.prog 29 #[.pointer (some ⟨w.heap.size, 0, none⟩), .agg #[.string c.x.scheme, .string c.x.token, .slice c.a c.len c.cap]] wc fun e w' => WrtAns c w.heap.size w.heap.size (o ++ sepC k) e w' ∧ Below w.heap.size wc w' :=
          write_any c HSC.out.1 HSC.out.2 _ _ _ (by
            have h1 := HW.out
            have h2 : (sepC k).length ≤ 2 := by unfold sepC; split <;> simp
            rw [List.length_append]
            omega) _ HI3.out.1 hz3 (HXC.out.1.below HI3.out.2) HXC.out.2
        go_wp2_with fail
        refine hwr.mono ?_
        rintro e w4 ⟨⟨t, ht, rfl, hw4⟩ | ⟨ht, rfl⟩, hb4⟩
        · have HN : Hid (PrintAt (xsOf cs) (o ++ (sepC k ++ t)) (k + 1)) := printAt_next HI.out.1 (xsOf_at HC.out) ht
          have HNL : Hid ((o ++ (sepC k ++ t)).length ≤ prtW ((xsOf cs).take (k + 1))) := by
            show _ ≤ _
            have h1 := HI.out.2.1
            have h2 := prtW_snoc _ _ _ (xsOf_at HC.out)
            have h3 := chalT_len _ _ ht
            have h4 : (sepC k).length ≤ 2 := by unfold sepC; split <;> simp
            rw [List.length_append, List.length_append]
            omega
          have HI4 : Hid (Built w4 w.heap.size w.heap.size (o ++ (sepC k ++ t)) ∧ Below w.heap.size w w4) := ⟨by rw [← List.append_assoc]; exact hw4, HI3.out.2.trans hb4⟩
          clear ht hw4 hb4 hwr
          go_wp2
          go_roundw
          case rel => exact ⟨k + 1, _, by omega, by go_num, ⟨HN.out, HNL.out, HI4.out.1, HI4.out.2⟩⟩
          case measure => simp [intOf]; omega
        · have HA : Hid (printL 0 (xsOf cs) = .error k) := printAt_bad HI.out.1 (xsOf_at HC.out) ht
          have HB4 : Hid (Below w.heap.size w w4) := HI3.out.2.trans hb4
          clear ht hb4 hwr
          go_wp2
          go_ret2
          exact ⟨.inr ⟨k, _, HA, rfl, cells_new _ _ _ 0, cells_new _ _ _ 1, HB4.out.size, by simp⟩, HB4.out.alloc HB4.out.size _⟩
    · have HA : Hid (printL 0 (xsOf cs) = .ok o) := printAt_end HI.out.1 (by unfold xsOf; simp; omega)
      have HAL : Hid (o.length ≤ prtW (xsOf cs)) := Nat.le_trans HI.out.2.1 (prtW_take _ _)
      go_wp2_with fail
      refine (bdk_string _ _ _ _ HI.out.2.2.1 (Nat.le_of_lt hwz)).mono ?_
      rintro e w2 ⟨rfl, hb2⟩
      have HB2 : Hid (Below w.heap.size w w2) := HI.out.2.2.2.trans hb2
      obtain ⟨so, HSO⟩ : ∃ so, Hid (bs o = so) := ⟨_, rfl⟩
      rw [HSO.out]
      go_wp2
      go_ret2
      exact ⟨.inl ⟨o, HA, HAL, by rw [HSO.out]; rfl⟩, HB2⟩
end Go.Proofs.YtlmfhbffknganaaDoor

/- Rows of the same challenges are alike, by the library's own functions. -/
namespace Go.Proofs.YtlmfhbffknganaaDoor
open Go.RowKit

set_option maxRecDepth 100000 in
set_option maxHeartbeats 2000000 in
theorem equalP_yes (ps : List Par) (a1 a2 : Option Addr) (n c1 c2 b1 o1 b2 o2 : Nat) (hn : n ≤ 1000000) (w : World) (h1 : Pars w a1 n b1 o1 ps) (h2 : Pars w a2 n b2 o2 ps) :
    Calls Tryd.prog 31 #[.slice a1 n c1, .slice a2 n c2] w fun e w' => e = .returned (.bool true) ∧ Below w.heap.size w w' := by
  have H1 : Hid (Pars w a1 n b1 o1 ps) := h1
  have H2 : Hid (Pars w a2 n b2 o2 ps) := h2
  have hl := h1.len_eq
  clear h1 h2
  go_enter Tryd.func31, Tryd.ntmps31
  go_wp2
  go_loopw [13] (fun i wr => ∃ (k : Nat), k ≤ n ∧ i = .int .i64 k ∧ ∃ q, wr = w.drewN q) (fun i _ => n - (intOf i).toNat)
  case atStart => exact ⟨0, Nat.zero_le _, rfl, 0, rfl⟩
  case round =>
    obtain ⟨k, hk, rfl, q, rfl⟩ := hrel
    by_cases hlt : k < n
    · obtain ⟨p, hpk⟩ : ∃ p, ps[k]? = some p := ⟨ps[k]'(by omega), List.getElem?_eq_getElem (by omega)⟩
      obtain ⟨ha1, _⟩ := H1.out.lies (by omega)
      obtain ⟨ha2, _⟩ := H2.out.lies (by omega)
      subst ha1 ha2
      have x1 := H1.out.one k p hpk
      have x2 := H1.out.two k p hpk
      have y1 := H2.out.one k p hpk
      have y2 := H2.out.two k p hpk
      have hkn : (k : Int) < (n : Int) := by omega
      clear hpk
      go_wp2
      go_quiet (fail)
      go_wp2
      go_roundw
      case rel => exact ⟨k + 1, by omega, by go_num, _, rfl⟩
      case measure => simp [intOf]; omega
    · have hkn : ¬ (k : Int) < (n : Int) := by omega
      go_wp2
      go_ret
      exact ⟨rfl, drewN_at (Below.refl _ _) _⟩
set_option maxRecDepth 100000 in
set_option maxHeartbeats 2000000 in
theorem sameChal_yes (c d : ChV) (hcd : c.x = d.x) (hl : c.len ≤ 1000000) (w : World) (h1 : ChOk w c) (h2 : ChOk w d) :
    Calls Tryd.prog 10 #[.agg #[.string c.x.scheme, .string c.x.token, .slice c.a c.len c.cap], .agg #[.string d.x.scheme, .string d.x.token, .slice d.a d.len d.cap]] w fun e w' => e = .returned (.bool true) ∧ Below w.heap.size w w' := by
  have hle : d.len = c.len := by unfold ChV.len; rw [hcd]
  have hds : d.x.scheme = c.x.scheme := by rw [hcd]
  have hdt : d.x.token = c.x.token := by rw [hcd]
  have h3 : Pars w d.a c.len d.b d.off c.x.params := by
    have := h2
    unfold ChOk at this
    rw [hle, ← hcd] at this
    exact this
  rw [hle, hds, hdt]
  have hb : Below w.heap.size w ((w.alloc (.cells #[.string c.x.scheme, .string c.x.token, .slice c.a c.len c.cap] 33)).alloc (.cells #[.string c.x.scheme, .string c.x.token, .slice d.a c.len d.cap] 33)) := ((Below.refl _ _).alloc (Nat.le_refl _) _).alloc (by simp) _
  have heq := equalP_yes c.x.params c.a d.a c.len c.cap d.cap c.b c.off d.b d.off hl _ (Pars.below h1 hb) (h3.below hb)
  clear h1 h2 h3 hcd hle hds hdt
  go_enter Tryd.func10, Tryd.ntmps10
  go_wp2_with (go_at_call 31; refine heq.mono ?_; rintro e w2 ⟨rfl, hb2⟩)
  go_ret
  exact ⟨rfl, hb.trans (hb2.mono (by simp; omega))⟩
set_option maxRecDepth 100000 in
set_option maxHeartbeats 2000000 in
theorem equalC_yes (cs ds : List ChV) (hx : xsOf cs = xsOf ds) (hl : ∀ c ∈ cs, c.len ≤ 1000000) (a1 a2 : Option Addr) (n c1 c2 b1 o1 b2 o2 : Nat) (hn : n ≤ 1000000) (w : World) (h1 : Chals w a1 n b1 o1 cs) (h2 : Chals w a2 n b2 o2 ds) :
    Calls Tryd.prog 9 #[.slice a1 n c1, .slice a2 n c2, .func (.func 10) #[] #[]] w fun e w' => e = .returned (.bool true) ∧ Below w.heap.size w w' := by
  have H1 : Hid (Chals w a1 n b1 o1 cs) := h1
  have H2 : Hid (Chals w a2 n b2 o2 ds) := h2
  have HL : Hid (∀ c ∈ cs, c.len ≤ 1000000) := hl
  have HX : Hid (xsOf cs = xsOf ds) := hx
  have hlen := h1.len_eq
  have hlen2 := h2.len_eq
  have hen := enters_at Tryd.func10 (by kernel_rfl) rfl
  clear h1 h2 hl hx
  go_enter Tryd.func9, Tryd.ntmps9
  go_wp2
  go_loopw [17] (fun i wr => ∃ (k : Nat), k ≤ n ∧ i = .int .i64 k ∧ Below w.heap.size w wr) (fun i _ => n - (intOf i).toNat)
  case atStart => exact ⟨0, Nat.zero_le _, rfl, Below.refl _ _⟩
  case round =>
    obtain ⟨k, hk, rfl, hb⟩ := hrel
    by_cases hlt : k < n
    · obtain ⟨c, hck⟩ : ∃ c, cs[k]? = some c := ⟨cs[k]'(by omega), List.getElem?_eq_getElem (by omega)⟩
      obtain ⟨d, hdk⟩ : ∃ d, ds[k]? = some d := ⟨ds[k]'(by omega), List.getElem?_eq_getElem (by omega)⟩
      have hcd : c.x = d.x := Option.some.inj ((xsOf_at hck).symm.trans ((congrArg (·[k]?) HX.out).trans (xsOf_at hdk)))
      have hX1 := H1.out.below hb
      have hX2 := H2.out.below hb
      obtain ⟨ha1, hl1⟩ := hX1.lies (by omega)
      obtain ⟨ha2, hl2⟩ := hX2.lies (by omega)
      subst ha1 ha2
      have x1 := hX1.one k c hck
      have x2 := hX1.two k c hck
      have x3 := hX1.three k c hck
      have y1 := hX2.one k d hdk
      have y2 := hX2.two k d hdk
      have y3 := hX2.three k d hdk
      have hkn : (k : Int) < (n : Int) := by omega
      have hbs : w.heap.size ≤ wr.heap.size := hb.size
      have hb2 : Below wr.heap.size wr ((wr.alloc (.cells #[.string c.x.scheme, .string c.x.token, .slice c.a c.len c.cap] 33)).alloc (.cells #[.string d.x.scheme, .string d.x.token, .slice d.a d.len d.cap] 33)) := ((Below.refl _ _).alloc (Nat.le_refl _) _).alloc (by simp) _
      have hs := sameChal_yes c d hcd (HL.out c (List.mem_of_getElem? hck)) _ ((hX1.pars c (List.mem_of_getElem? hck)).below hb2) ((hX2.pars d (List.mem_of_getElem? hdk)).below hb2)
      have HB2 : Hid (Below w.heap.size w ((wr.alloc (.cells #[.string c.x.scheme, .string c.x.token, .slice c.a c.len c.cap] 33)).alloc (.cells #[.string d.x.scheme, .string d.x.token, .slice d.a d.len d.cap] 33))) := hb.trans (hb2.mono hbs)
      clear hck hdk hcd hX1 hX2 hb2
      go_wp2_with fail
      refine hs.mono ?_
      rintro e w3 ⟨rfl, hb3⟩
      have HB3 : Hid (Below w.heap.size w w3) := HB2.out.trans (hb3.mono HB2.out.size)
      clear hb3 hs
      go_wp2
      go_roundw
      case rel => exact ⟨k + 1, by omega, by go_num, HB3.out⟩
      case measure => simp [intOf]; omega
    · have hkn : ¬ (k : Int) < (n : Int) := by omega
      go_wp2
      go_ret
      exact ⟨rfl, hb⟩
end Go.Proofs.YtlmfhbffknganaaDoor

/- Challenges that are written are read as they are, over lists of bytes. -/
namespace Go.Proofs.YtlmfhbffknganaaDoor

theorem kinds : ∀ c : UInt8, (tokB c = true → c ≠ 61 ∧ c ≠ 44 ∧ c ≠ 34 ∧ blankB c = false ∧ gapB c = false) ∧ (tkB c = true → c ≠ 61 ∧ c ≠ 44 ∧ blankB c = false) := by
  intro c
  have : ∀ n : Fin 256, (tokB (UInt8.ofNat n.1) = true → UInt8.ofNat n.1 ≠ 61 ∧ UInt8.ofNat n.1 ≠ 44 ∧ UInt8.ofNat n.1 ≠ 34 ∧ blankB (UInt8.ofNat n.1) = false ∧ gapB (UInt8.ofNat n.1) = false) ∧ (tkB (UInt8.ofNat n.1) = true → UInt8.ofNat n.1 ≠ 61 ∧ UInt8.ofNat n.1 ≠ 44 ∧ blankB (UInt8.ofNat n.1) = false) := by decide +kernel
  have h := this ⟨c.toNat, c.toNat_lt⟩
  simpa using h
/-- Nothing, or a comma ahead. -/
def Ends (m : List UInt8) : Prop := m = [] ∨ ∃ t, m = 44 :: t
theorem tw_end (f : UInt8 → Bool) (hf : f 44 = false) {m : List UInt8} (h : Ends m) : m.takeWhile f = [] ∧ m.dropWhile f = m := by
  rcases h with rfl | ⟨t, rfl⟩
  · exact ⟨rfl, rfl⟩
  · exact ⟨by rw [List.takeWhile_cons, hf]; rfl, by rw [List.dropWhile_cons, hf]; rfl⟩
theorem stops_end {m : List UInt8} (h : Ends m) : stopsL m = true := by
  rcases h with rfl | ⟨t, rfl⟩
  · rfl
  · rfl
theorem tw_app (f : UInt8 → Bool) {a m : List UInt8} (ha : a.all f = true) (hm : m.takeWhile f = []) : (a ++ m).takeWhile f = a := by
  rw [List.takeWhile_append_of_pos (by simpa [List.all_eq_true] using ha), hm, List.append_nil]
theorem dw_app (f : UInt8 → Bool) {a m : List UInt8} (ha : a.all f = true) (hm : m.dropWhile f = m) : (a ++ m).dropWhile f = m := by
  rw [List.dropWhile_append_of_pos (by simpa [List.all_eq_true] using ha), hm]
theorem dw_first (f : UInt8 → Bool) {c : UInt8} (t : List UInt8) (h : f c = false) : (c :: t).dropWhile f = c :: t ∧ (c :: t).takeWhile f = [] := by
  rw [List.dropWhile_cons, List.takeWhile_cons, h]
  exact ⟨rfl, rfl⟩
theorem isL_cons {l : List UInt8} (h : isL l = true) : ∃ c t, l = c :: t ∧ tokB c = true ∧ l.all tokB = true := by
  unfold isL at h
  rw [Bool.and_eq_true] at h
  cases l with
  | nil => cases h.1
  | cons c t =>
    refine ⟨c, t, rfl, ?_, h.2⟩
    have := h.2
    rw [List.all_cons, Bool.and_eq_true] at this
    exact this.1
/-- A parameter that is not like those ahead. -/
def Unlike : List Par → List Par → Prop
  | _, [] => True
  | acc, p :: r => toldL acc p.1 = false ∧ Unlike (acc ++ [p]) r
/-- A parameter's text, without the blank. -/
def parN (p : Par) (v : List UInt8) : List UInt8 := p.1.data.toList ++ 61 :: v
theorem parT_is {p : Par} {a : List UInt8} (h : parT p = some a) : ∃ v, valueO p.2.data.toList = some v ∧ a = 32 :: parN p v := by
  unfold parT at h
  obtain ⟨v, hv, rfl⟩ := Option.map_eq_some_iff.1 h
  exact ⟨v, hv, rfl⟩
theorem value_first {s v : List UInt8} (h : valueO s = some v) : ∃ c t, v = c :: t ∧ (tokB c = true ∨ c = 34) := by
  unfold valueO at h
  split at h
  · rename_i hs
    cases h
    obtain ⟨c, t, rfl, hc, _⟩ := isL_cons hs
    exact ⟨c, t, rfl, .inl hc⟩
  · unfold quoteO at h
    split at h
    · cases h
      exact ⟨34, _, rfl, .inr rfl⟩
    · cases h
theorem first_kinds {c : UInt8} (h : tokB c = true ∨ c = 34) : c ≠ 61 ∧ c ≠ 44 ∧ blankB c = false ∧ eqB c = false := by
  have : c ≠ 61 ∧ c ≠ 44 ∧ blankB c = false := by
    rcases h with h | rfl
    · exact ⟨((kinds c).1 h).1, ((kinds c).1 h).2.1, ((kinds c).1 h).2.2.2.1⟩
    · decide
  exact ⟨this.1, this.2.1, this.2.2, beq_eq_false_iff_ne.2 this.1⟩
theorem name_is {p : Par} {v R : List UInt8} (hn : isL p.1.data.toList = true) : nameL (parN p v ++ R) = some (p.1, v ++ R) := by
  obtain ⟨c, t, e, hc, ha⟩ := isL_cons hn
  unfold nameL parN
  have h1 : (p.1.data.toList ++ 61 :: v ++ R).takeWhile tokB = p.1.data.toList := by
    rw [List.append_assoc]
    exact tw_app tokB ha (dw_first tokB _ (by decide)).2
  have h2 : (p.1.data.toList ++ 61 :: v ++ R).dropWhile tokB = 61 :: (v ++ R) := by
    rw [List.append_assoc]
    exact dw_app tokB ha (dw_first tokB _ (by decide)).1
  rw [h1, h2, (dw_first blankB _ (by decide)).1, if_neg (by rw [e]; simp)]
  show some (bs p.1.data.toList, v ++ R) = _
  rw [bs_self]
theorem value_is {p : Par} {v R : List UInt8} (hv : valueO p.2.data.toList = some v) (hR : Ends R) : valueL ((v ++ R).dropWhile blankB) = some (p.2, R) := by
  obtain ⟨c, t, e, hc⟩ := value_first hv
  have hb : (v ++ R).dropWhile blankB = v ++ R := by
    rw [e]
    exact (dw_first blankB _ (first_kinds hc).2.2.1).1
  rw [hb]
  have hm : ∀ c t, R = c :: t → tokB c = false := by
    intro c t h
    rcases hR with rfl | ⟨t', rfl⟩
    · cases h
    · cases h; decide
  rcases value_word _ v R hm hv with ⟨hs, rfl, htw⟩ | ⟨hs, htw, hq⟩
  · unfold valueL
    obtain ⟨c', t', e', _, ha⟩ := isL_cons hs
    rw [htw, if_neg (by rw [e']; simp), bs_self]
    congr 2
    exact dw_app tokB ha (tw_end tokB (by decide) hR).2
  · unfold valueL
    rw [if_pos htw, hq]
    show some (bs p.2.data.toList, (v ++ R).drop v.length) = _
    rw [bs_self, List.drop_left]
/-- What stands between two parameters. -/
theorem parsF_is : ∀ {r : List Par} {a : List UInt8}, parsT false r = some a → (r = [] ∧ a = []) ∨ ∃ p r' v b, r = p :: r' ∧ valueO p.2.data.toList = some v ∧ parsT false r' = some b ∧ a = 44 :: 32 :: (parN p v ++ b)
  | [], a, h => by cases h; exact .inl ⟨rfl, rfl⟩
  | p :: r', a, h => by
    rw [parsT] at h
    rcases hp : parT p with _ | q
    · rw [hp] at h; cases h
    · rw [hp] at h
      obtain ⟨b, hb, rfl⟩ := Option.map_eq_some_iff.1 h
      obtain ⟨v, hv, rfl⟩ := parT_is hp
      exact .inr ⟨p, r', v, b, rfl, hv, hb, by simp [sepP]⟩
theorem ends_app {a m : List UInt8} {r : List Par} (h : parsT false r = some a) (hm : Ends m) : Ends (a ++ m) := by
  rcases parsF_is h with ⟨_, rfl⟩ | ⟨p, r', v, b, _, _, _, rfl⟩
  · exact hm
  · exact .inr ⟨_, rfl⟩
theorem params_print : ∀ (r : List Par) (p : Par) (acc : List Par) (f : Nat) (v b m : List UInt8), (∀ q ∈ p :: r, isL q.1.data.toList = true) → Unlike acc (p :: r) → acc.length + (p :: r).length ≤ 16 →
    valueO p.2.data.toList = some v → parsT false r = some b → Ends m → nameL (m.dropWhile gapB) = none → (parN p v ++ b ++ m).length < f →
    paramsL f acc (parN p v ++ b ++ m) = .ok (acc ++ p :: r, m.dropWhile gapB)
  | r, p, acc, 0, v, b, m, _, _, _, _, _, _, _, hf => absurd hf (Nat.not_lt_zero _)
  | r, p, acc, f + 1, v, b, m, hi, hu, hl, hv, hb, hm, hnm, hf => by
    have hE := ends_app hb hm
    have hpar : paramL acc (parN p v ++ b ++ m) = .ok (p, b ++ m) := by
      unfold paramL
      rw [List.append_assoc, name_is (hi p (by simp))]
      simp only [value_is hv hE]
      rw [hu.1, if_neg (by simp), if_neg (by simp at hl; omega)]
    rw [paramsL, hpar]
    simp only [(tw_end blankB (by decide) hE).2, stops_end hE, if_true]
    rcases parsF_is hb with ⟨rfl, rfl⟩ | ⟨q, r', v', b', rfl, hv', hb', rfl⟩
    · rw [List.nil_append, hnm]
      rfl
    · obtain ⟨c, t, e, hc, _⟩ := isL_cons (hi q (by simp))
      have hg : (44 :: 32 :: (parN q v' ++ b') ++ m).dropWhile gapB = parN q v' ++ b' ++ m := by
        rw [List.cons_append, List.cons_append, List.dropWhile_cons_of_pos (by decide), List.dropWhile_cons_of_pos (by decide)]
        unfold parN
        rw [e]
        exact (dw_first gapB _ ((kinds c).1 hc).2.2.2.2).1
      rw [hg, List.append_assoc, name_is (hi q (by simp))]
      simp only [Option.isSome_some, if_true]
      rw [← List.append_assoc, params_print r' q (acc ++ [p]) f v' b' m (fun x hx => hi x (by simp at hx ⊢; exact .inr hx)) hu.2 (by simp at hl ⊢; omega) hv' hb' hm hnm (by simp [parN] at hf ⊢; omega)]
      simp
theorem token_none {p : Par} {v R : List UInt8} (hn : isL p.1.data.toList = true) (hv : valueO p.2.data.toList = some v) : tokenL (parN p v ++ R) = none := by
  obtain ⟨c, t, e, hc⟩ := value_first hv
  obtain ⟨k1, k2, k3, k4⟩ := first_kinds hc
  unfold tokenL
  rw [if_neg]
  rintro ⟨_, hs⟩
  unfold parN at hs
  by_cases ha : p.1.data.toList.all tkB = true
  · rw [List.append_assoc, List.cons_append, dw_app tkB ha (dw_first tkB _ (by decide)).1, List.dropWhile_cons_of_pos (by decide), e, List.cons_append, (dw_first eqB _ k4).1, (dw_first blankB _ k3).1] at hs
    unfold stopsL at hs
    exact k2 (by simpa using hs)
  · obtain ⟨c', t', e', _, hall⟩ := isL_cons hn
    have hdw : ∃ d u, p.1.data.toList.dropWhile tkB = d :: u ∧ d ∈ p.1.data.toList := by
      cases h : p.1.data.toList.dropWhile tkB with
      | nil => exact absurd ((dw_nil _ _).1 h) ha
      | cons d u => exact ⟨d, u, rfl, (List.dropWhile_sublist _).subset (by rw [h]; simp)⟩
    obtain ⟨d, u, hd, hmem⟩ := hdw
    have hdt : tokB d = true := List.all_eq_true.1 hall d hmem
    obtain ⟨j1, j2, _, j3, _⟩ := (kinds d).1 hdt
    have hfull : (p.1.data.toList ++ 61 :: v ++ R).dropWhile tkB = d :: (u ++ 61 :: v ++ R) := by
      rw [List.append_assoc, List.dropWhile_append, hd]
      simp
    rw [hfull, (dw_first eqB _ (beq_eq_false_iff_ne.2 j1)).1, (dw_first blankB _ j3).1] at hs
    unfold stopsL at hs
    exact j2 (by simpa using hs)
/-- A Token as it is read. -/
def TokOk (t : List UInt8) : Prop := ∃ b e, t = b ++ e ∧ b ≠ [] ∧ b.all tkB = true ∧ e.all eqB = true
/-- A challenge that can be told so. -/
def Good (x : Chal) : Prop := isL x.scheme.data.toList = true ∧ (x.token.size = 0 ∨ TokOk x.token.data.toList ∧ x.params = []) ∧ (∀ q ∈ x.params, isL q.1.data.toList = true) ∧ Unlike [] x.params ∧ x.params.length ≤ 16
theorem empty_of {s : ByteArray} (h : s.size = 0) : s = ⟨#[]⟩ := ByteArray.ext (Array.eq_empty_of_size_eq_zero h)
theorem tokOk_first {t : List UInt8} (h : TokOk t) : ∃ c u, t = c :: u ∧ tkB c = true := by
  obtain ⟨b, e, rfl, hb, ha, _⟩ := h
  cases b with
  | nil => exact absurd rfl hb
  | cons c u =>
    rw [List.all_cons, Bool.and_eq_true] at ha
    exact ⟨c, u ++ e, rfl, ha.1⟩
theorem token_is {t m : List UInt8} (h : TokOk t) (hm : Ends m) : tokenL (t ++ m) = some (bs t, m) := by
  obtain ⟨b, e, rfl, hb, ha, he⟩ := h
  have hem : (e ++ m).dropWhile tkB = e ++ m := by
    cases e with
    | nil => exact (tw_end tkB (by decide) hm).2
    | cons c u =>
      rw [List.all_cons, Bool.and_eq_true] at he
      have hc : c = 61 := by simpa [eqB] using he.1
      subst hc
      exact (dw_first tkB _ (by decide)).1
  have h1 : (b ++ e ++ m).dropWhile tkB = e ++ m := by rw [List.append_assoc]; exact dw_app tkB ha hem
  have h2 : (e ++ m).dropWhile eqB = m := dw_app eqB he (tw_end eqB (by decide) hm).2
  unfold tokenL
  rw [h1, h2, (tw_end blankB (by decide) hm).2, if_pos ⟨by have := List.length_pos_iff.2 hb; simp; omega, stops_end hm⟩]
  congr 3
  rw [List.length_append, Nat.add_sub_cancel, List.take_left]
theorem chal_print {x : Chal} {t m : List UInt8} (hg : Good x) (ht : chalT x = some t) (ahead : Nat) (ha : ahead < 8) (hm : Ends m) (hnm : nameL (m.dropWhile gapB) = none) : ∃ u, chalL ahead (t ++ m) = .ok (x, u) ∧ u.dropWhile gapB = m.dropWhile gapB := by
  obtain ⟨h1, h2, h3, h4, h5⟩ := hg
  obtain ⟨c, s', es, hc, hall⟩ := isL_cons h1
  unfold chalT at ht
  obtain ⟨b, hb, rfl⟩ := Option.map_eq_some_iff.1 ht
  have hne : x.scheme.data.toList ≠ [] := by rw [es]; simp
  rcases h2 with h2 | ⟨h2, hp⟩
  · have htk := empty_of h2
    have htt : tokT x.token = [] := by unfold tokT; rw [if_pos h2]
    rw [htt, List.append_nil]
    rcases hps : x.params with _ | ⟨p, r⟩
    · rw [hps] at hb
      cases hb
      rw [List.append_nil]
      refine ⟨m, ?_, rfl⟩
      unfold chalL
      rw [tw_app tokB hall (tw_end tokB (by decide) hm).1, dw_app tokB hall (tw_end tokB (by decide) hm).2, (tw_end blankB (by decide) hm).2, stops_end hm, if_neg hne, if_neg (by omega), if_pos rfl, bs_self]
      rcases x with ⟨a1, a2, a3⟩
      simp only at hps htk
      rw [hps, htk]
    · rw [hps] at hb h3 h4 h5
      rw [parsT] at hb
      rcases hpt : parT p with _ | q
      · rw [hpt] at hb; cases hb
      · rw [hpt] at hb
        obtain ⟨b', hb', rfl⟩ := Option.map_eq_some_iff.1 hb
        obtain ⟨v, hv, rfl⟩ := parT_is hpt
        have e1 : x.scheme.data.toList ++ (sepP true ++ 32 :: parN p v ++ b') ++ m = x.scheme.data.toList ++ 32 :: (parN p v ++ b' ++ m) := by simp [sepP]
        rw [e1]
        obtain ⟨d, u', ed, hd, _⟩ := isL_cons (h3 p (by simp))
        have hb1 : (32 :: (parN p v ++ b' ++ m)).dropWhile blankB = parN p v ++ b' ++ m := by
          rw [List.dropWhile_cons_of_pos (by decide)]
          unfold parN
          rw [ed]
          exact (dw_first blankB _ ((kinds d).1 hd).2.2.2.1).1
        have hst : stopsL (parN p v ++ b' ++ m) = false := by
          unfold parN
          rw [ed]
          exact beq_eq_false_iff_ne.2 ((kinds d).1 hd).2.1
        refine ⟨m.dropWhile gapB, ?_, ?_⟩
        · unfold chalL
          rw [tw_app tokB hall (dw_first tokB _ (by decide)).2, dw_app tokB hall (dw_first tokB _ (by decide)).1, hb1, hst, if_neg hne, if_neg (by omega), if_neg (by simp), if_neg (by unfold runL; rw [List.takeWhile_cons_of_pos (by decide)]; simp), bs_self]
          unfold insideL
          rw [List.append_assoc, token_none (h3 p (by simp)) hv, ← List.append_assoc]
          simp only []
          rw [params_print r p [] _ v b' m h3 h4 (by simpa using h5) hv hb' hm hnm (by omega)]
          rcases x with ⟨a1, a2, a3⟩
          simp only at hps htk
          rw [hps, htk]
          rfl
        · have : ∀ l : List UInt8, (l.dropWhile gapB).dropWhile gapB = l.dropWhile gapB := fun l => by
            induction l with
            | nil => rfl
            | cons c t ih =>
              by_cases h : gapB c = true
              · rw [List.dropWhile_cons_of_pos h, ih]
              · rw [List.dropWhile_cons_of_neg h, List.dropWhile_cons_of_neg h]
          exact this m
  · rw [hp] at hb
    cases hb
    obtain ⟨d, u', ed, hd⟩ := tokOk_first h2
    have hz : x.token.size ≠ 0 := by
      intro h
      have := empty_of h
      rw [this] at ed
      cases ed
    have htt : tokT x.token = 32 :: x.token.data.toList := by unfold tokT; rw [if_neg hz]
    rw [htt, List.append_nil, List.append_assoc, List.cons_append]
    have hb1 : (32 :: (x.token.data.toList ++ m)).dropWhile blankB = x.token.data.toList ++ m := by
      rw [List.dropWhile_cons_of_pos (by decide), ed]
      exact (dw_first blankB _ ((kinds d).2 hd).2.2).1
    have hst : stopsL (x.token.data.toList ++ m) = false := by
      rw [ed]
      exact beq_eq_false_iff_ne.2 ((kinds d).2 hd).2.1
    refine ⟨m, ?_, rfl⟩
    unfold chalL
    rw [tw_app tokB hall (dw_first tokB _ (by decide)).2, dw_app tokB hall (dw_first tokB _ (by decide)).1, hb1, hst, if_neg hne, if_neg (by omega), if_neg (by simp), if_neg (by unfold runL; rw [List.takeWhile_cons_of_pos (by decide)]; simp), bs_self]
    unfold insideL
    rw [token_is h2 hm]
    simp only []
    rcases x with ⟨a1, a2, a3⟩
    simp only at hp
    rw [hp, bs_self]
theorem head_next {x : Chal} {a T : List UInt8} (hg : Good x) (ha : chalT x = some a) (hT : Ends T) : nameL (a ++ T) = none ∧ (a ++ T).dropWhile gapB = a ++ T ∧ a ≠ [] := by
  obtain ⟨h1, h2, h3, h4, h5⟩ := hg
  obtain ⟨c, s', es, hc, hall⟩ := isL_cons h1
  unfold chalT at ha
  obtain ⟨b, hb, rfl⟩ := Option.map_eq_some_iff.1 ha
  have hrest : ∃ R, x.scheme.data.toList ++ tokT x.token ++ b ++ T = x.scheme.data.toList ++ R ∧ (Ends R ∨ ∃ d u, R = 32 :: d :: u ∧ d ≠ 61 ∧ blankB d = false) := by
    refine ⟨tokT x.token ++ b ++ T, by simp, ?_⟩
    rcases h2 with h2 | ⟨h2, hp⟩
    · have htt : tokT x.token = [] := by unfold tokT; rw [if_pos h2]
      rw [htt, List.nil_append]
      rcases hps : x.params with _ | ⟨p, r⟩
      · rw [hps] at hb
        cases hb
        exact .inl hT
      · rw [hps] at hb h3
        rw [parsT] at hb
        rcases hpt : parT p with _ | q
        · rw [hpt] at hb; cases hb
        · rw [hpt] at hb
          obtain ⟨b', hb', rfl⟩ := Option.map_eq_some_iff.1 hb
          obtain ⟨v, hv, rfl⟩ := parT_is hpt
          obtain ⟨d, u', ed, hd, _⟩ := isL_cons (h3 p (by simp))
          refine .inr ⟨d, u' ++ 61 :: v ++ b' ++ T, ?_, ((kinds d).1 hd).1, ((kinds d).1 hd).2.2.2.1⟩
          unfold parN
          rw [ed]
          simp [sepP]
    · rw [hp] at hb
      cases hb
      obtain ⟨d, u', ed, hd⟩ := tokOk_first h2
      have hz : x.token.size ≠ 0 := by
        intro h
        have := empty_of h
        rw [this] at ed
        cases ed
      have htt : tokT x.token = 32 :: x.token.data.toList := by unfold tokT; rw [if_neg hz]
      rw [htt, ed]
      exact .inr ⟨d, u' ++ [] ++ T, by simp, ((kinds d).2 hd).1, ((kinds d).2 hd).2.2⟩
  obtain ⟨R, hR, hcase⟩ := hrest
  refine ⟨?_, ?_, by rw [es]; simp⟩
  · rw [hR]
    unfold nameL
    rcases hcase with hE | ⟨d, u, rfl, hd1, hd2⟩
    · rw [dw_app tokB hall (tw_end tokB (by decide) hE).2, (tw_end blankB (by decide) hE).2]
      split
      · rfl
      · rcases hE with rfl | ⟨t, rfl⟩ <;> rfl
    · rw [dw_app tokB hall (dw_first tokB _ (by decide)).1, List.dropWhile_cons_of_pos (by decide), (dw_first blankB _ hd2).1]
      split
      · rfl
      · show Option.map _ (if d = 61 then some u else none) = none
        rw [if_neg hd1]
        rfl
  · rw [hR, es]
    exact (dw_first gapB _ ((kinds c).1 hc).2.2.2.2).1
theorem parse_gapsL {f : Nat} {acc : List Chal} {u v : List UInt8} (h : u.dropWhile gapB = v.dropWhile gapB) : parseL (f + 1) acc u = parseL (f + 1) acc v := by rw [parseL, parseL, h]
theorem print_ends : ∀ {xs : List Chal} {i : Nat} {T : List UInt8}, printL (i + 1) xs = .ok T → Ends T
  | [], i, T, h => by cases h; exact .inl rfl
  | x :: r, i, T, h => by
    rw [printL] at h
    rcases hc : chalT x with _ | a
    · rw [hc] at h; cases h
    · rw [hc] at h
      rcases hr : printL (i + 1 + 1) r with e | b
      · simp only [hr] at h; cases h
      · simp only [hr] at h
        cases h
        exact .inr ⟨32 :: (a ++ b), by simp [sepC]⟩
theorem parse_print : ∀ (xs : List Chal) (acc : List Chal) (f i : Nat) (T : List UInt8), (∀ x ∈ xs, Good x) → acc.length + xs.length ≤ 8 → printL i xs = .ok T → T.length < f → parseL f acc T = .ok (acc ++ xs)
  | xs, acc, 0, i, T, _, _, _, hf => absurd hf (Nat.not_lt_zero _)
  | [], acc, f + 1, i, T, _, _, h, _ => by
    cases h
    rw [parseL, List.append_nil]
    rfl
  | x :: r, acc, f + 1, i, T, hg, hl, h, hf => by
    rw [printL] at h
    rcases hc : chalT x with _ | a
    · rw [hc] at h; cases h
    · rw [hc] at h
      rcases hr : printL (i + 1) r with e | b
      · simp only [hr] at h; cases h
      · simp only [hr] at h
        cases h
        have hE := print_ends hr
        obtain ⟨n1, n2, n3⟩ := head_next (hg x (by simp)) hc hE
        have hdw : (sepC i ++ a ++ b).dropWhile gapB = a ++ b := by
          unfold sepC
          split
          · rw [List.nil_append]; exact n2
          · rw [List.append_assoc, List.cons_append, List.dropWhile_cons_of_pos (by decide), List.cons_append, List.dropWhile_cons_of_pos (by decide), List.nil_append]
            exact n2
        have hnb : nameL (b.dropWhile gapB) = none := by
          cases r with
          | nil => cases hr; rfl
          | cons y r' =>
            rw [printL] at hr
            rcases hc' : chalT y with _ | a'
            · rw [hc'] at hr; cases hr
            · rw [hc'] at hr
              rcases hr' : printL (i + 1 + 1) r' with e | b'
              · simp only [hr'] at hr; cases hr
              · simp only [hr'] at hr
                cases hr
                have hE' := print_ends hr'
                obtain ⟨k1, k2, _⟩ := head_next (hg y (by simp)) hc' hE'
                have : (sepC (i + 1) ++ a' ++ b').dropWhile gapB = a' ++ b' := by
                  unfold sepC
                  rw [if_neg (by omega), List.append_assoc, List.cons_append, List.dropWhile_cons_of_pos (by decide), List.cons_append, List.dropWhile_cons_of_pos (by decide), List.nil_append]
                  exact k2
                rw [this]
                exact k1
        obtain ⟨u, hu1, hu2⟩ := chal_print (hg x (by simp)) hc acc.length (by simp at hl; omega) hE hnb
        rw [parseL, hdw, if_neg (by intro e; exact n3 (List.append_eq_nil_iff.1 e).1), hu1]
        simp only []
        have hf0 : 0 < f := by
          have := List.length_pos_iff.2 n3
          simp at hf
          omega
        obtain ⟨f', rfl⟩ : ∃ f', f = f' + 1 := ⟨f - 1, by omega⟩
        rw [parse_gapsL hu2, parse_print r (acc ++ [x]) (f' + 1) (i + 1) b (fun y hy => hg y (by simp [hy])) (by simp at hl ⊢; omega) hr (by have := List.length_pos_iff.2 n3; simp at hf; omega)]
        simp
/-- What is written so is read as it is. -/
theorem ask_print {xs : List Chal} {T : List UInt8} (hg : ∀ x ∈ xs, Good x) (hl : xs.length ≤ 8) (h : printL 0 xs = .ok T) : askL T = .ok xs := by
  unfold askL
  rw [parse_print xs [] _ 0 T hg (by simpa using hl) h (by omega)]
  rfl
end Go.Proofs.YtlmfhbffknganaaDoor

/- Challenges that are read can be written, over lists of bytes. -/
namespace Go.Proofs.YtlmfhbffknganaaDoor

theorem unq_text : ∀ (l : List UInt8) (e : Bool) (t : List UInt8) (n : Nat), unqL e l = some (t, n) → t.all textB = true
  | [], e, t, n, h => by cases h
  | c :: r, e, t, n, h => by
    rw [unqL] at h
    by_cases hc : textB c = false
    · rw [if_pos hc] at h; cases h
    · rw [if_neg hc] at h
      have hc' : textB c = true := by simpa using hc
      cases e
      · simp only [Bool.false_eq_true, if_false] at h
        by_cases h34 : c = 34
        · rw [if_pos h34] at h
          cases h
          rfl
        · rw [if_neg h34] at h
          by_cases h92 : c = 92
          · rw [if_pos h92] at h
            obtain ⟨⟨a, b⟩, h1, h2⟩ := Option.map_eq_some_iff.1 h
            simp only [Prod.mk.injEq] at h2
            rw [← h2.1]
            exact unq_text r true a b h1
          · rw [if_neg h92] at h
            obtain ⟨⟨a, b⟩, h1, h2⟩ := Option.map_eq_some_iff.1 h
            simp only [Prod.mk.injEq] at h2
            rw [← h2.1, List.all_cons, hc', unq_text r false a b h1]
            rfl
      · simp only [if_true] at h
        obtain ⟨⟨a, b⟩, h1, h2⟩ := Option.map_eq_some_iff.1 h
        simp only [Prod.mk.injEq] at h2
        rw [← h2.1, List.all_cons, hc', unq_text r false a b h1]
        rfl
theorem quoted_text {l t : List UInt8} {n : Nat} (h : quotedL l = some (t, n)) : t.all textB = true := by
  cases l with
  | nil => cases h
  | cons c r =>
    rw [quotedL] at h
    by_cases hc : c = 34
    · rw [if_pos hc] at h
      obtain ⟨⟨a, b⟩, h1, h2⟩ := Option.map_eq_some_iff.1 h
      simp only [Prod.mk.injEq] at h2
      rw [← h2.1]
      exact unq_text r false a b h1
    · rw [if_neg hc] at h
      cases h
theorem tw_isL {r : List UInt8} (h : r.takeWhile tokB ≠ []) : isL (r.takeWhile tokB) = true := by
  unfold isL
  rw [Bool.and_eq_true]
  refine ⟨?_, List.all_takeWhile⟩
  cases hr : r.takeWhile tokB with
  | nil => exact absurd hr h
  | cons c t => rfl
theorem name_word {r t : List UInt8} {n : ByteArray} (h : nameL r = some (n, t)) : isL n.data.toList = true := by
  unfold nameL at h
  split at h
  · cases h
  · rename_i h0
    obtain ⟨u, _, e⟩ := Option.map_eq_some_iff.1 h
    simp only [Prod.mk.injEq] at e
    rw [← e.1, bs_data]
    exact tw_isL h0
theorem value_ok {r u : List UInt8} {v : ByteArray} (h : valueL r = some (v, u)) : ∃ t, valueO v.data.toList = some t := by
  unfold valueL at h
  split at h
  · obtain ⟨⟨a, b⟩, h1, e⟩ := Option.map_eq_some_iff.1 h
    simp only [Prod.mk.injEq] at e
    rw [← e.1, bs_data]
    unfold valueO
    split
    · exact ⟨_, rfl⟩
    · unfold quoteO
      rw [if_pos (quoted_text h1)]
      exact ⟨_, rfl⟩
  · rename_i h0
    cases h
    rw [bs_data]
    unfold valueO
    rw [if_pos (tw_isL h0)]
    exact ⟨_, rfl⟩
/-- Parameters as they are read. -/
def ParsOk (ps : List Par) : Prop := (∀ q ∈ ps, isL q.1.data.toList = true ∧ ∃ t, valueO q.2.data.toList = some t) ∧ Unlike [] ps ∧ ps.length ≤ 16
theorem unlike_snoc : ∀ (l a : List Par) (p : Par), Unlike a l → toldL (a ++ l) p.1 = false → Unlike a (l ++ [p])
  | [], a, p, _, h => ⟨by simpa using h, trivial⟩
  | q :: r, a, p, hu, h => ⟨hu.1, unlike_snoc r (a ++ [q]) p hu.2 (by simpa using h)⟩
theorem param_ok {acc : List Par} {r u : List UInt8} {p : Par} (h : paramL acc r = .ok (p, u)) (ha : ParsOk acc) : ParsOk (acc ++ [p]) := by
  unfold paramL at h
  rcases hn : nameL r with _ | ⟨n, t⟩
  · rw [hn] at h; cases h
  · rw [hn] at h
    rcases hv : valueL (t.dropWhile blankB) with _ | ⟨v, u'⟩
    · simp only [hv] at h; cases h
    · simp only [hv] at h
      by_cases ht : toldL acc n = true
      · rw [if_pos ht] at h; cases h
      · rw [if_neg ht] at h
        by_cases h16 : 16 ≤ acc.length
        · rw [if_pos h16] at h; cases h
        · rw [if_neg h16] at h
          cases h
          refine ⟨fun q hq => ?_, unlike_snoc acc [] _ ha.2.1 (by simpa using ht), by simp; omega⟩
          rcases List.mem_append.1 hq with hq | hq
          · exact ha.1 q hq
          · rw [List.mem_singleton.1 hq]
            exact ⟨name_word hn, value_ok hv⟩
theorem params_ok : ∀ (f : Nat) (acc : List Par) (r : List UInt8) (ps : List Par) (u : List UInt8), paramsL f acc r = .ok (ps, u) → ParsOk acc → ParsOk ps
  | 0, acc, r, ps, u, h, _ => by cases h
  | f + 1, acc, r, ps, u, h, ha => by
    unfold paramsL at h
    rcases hp : paramL acc r with e | ⟨p, v⟩
    · rw [hp] at h; cases h
    · rw [hp] at h
      have h1 := param_ok hp ha
      simp only at h
      split at h
      · split at h
        · exact params_ok f _ _ _ _ h h1
        · cases h
          exact h1
      · cases h
theorem take_pre {l a b : List UInt8} (h : l = a ++ b) : l.take a.length = a := by rw [h, List.take_left]
theorem token_ok {r u : List UInt8} {t : ByteArray} (h : tokenL r = some (t, u)) : TokOk t.data.toList := by
  unfold tokenL at h
  split at h
  · rename_i h0
    cases h
    rw [bs_data]
    refine ⟨r.takeWhile tkB, (r.dropWhile tkB).takeWhile eqB, ?_, ?_, List.all_takeWhile, List.all_takeWhile⟩
    · have e1 : r = r.takeWhile tkB ++ ((r.dropWhile tkB).takeWhile eqB ++ (r.dropWhile tkB).dropWhile eqB) := by rw [List.takeWhile_append_dropWhile, List.takeWhile_append_dropWhile]
      have e2 : r.length - ((r.dropWhile tkB).dropWhile eqB).length = (r.takeWhile tkB ++ (r.dropWhile tkB).takeWhile eqB).length := by
        have := congrArg List.length e1
        simp only [List.length_append] at this ⊢
        omega
      rw [e2]
      exact take_pre (e1.trans (List.append_assoc _ _ _).symm)
    · intro e
      have := dw_tw tkB r
      rw [e] at this
      have h1 := h0.1
      simp at this
      omega
  · cases h
/-- A challenge as it is read. -/
def Read (x : Chal) : Prop := Good x ∧ ∀ q ∈ x.params, ∃ t, valueO q.2.data.toList = some t
theorem parsOk_nil : ParsOk [] := ⟨fun q hq => (by cases hq), trivial, by simp⟩
theorem chal_read {a : Nat} {r u : List UInt8} {x : Chal} (h : chalL a r = .ok (x, u)) : Read x := by
  unfold chalL at h
  split at h
  · cases h
  · rename_i h0
    have hw : isL (bs (r.takeWhile tokB)).data.toList = true := by rw [bs_data]; exact tw_isL h0
    split at h
    · cases h
    · split at h
      · cases h
        exact ⟨⟨hw, .inl rfl, fun q hq => (by cases hq), trivial, by simp⟩, fun q hq => by cases hq⟩
      · split at h
        · cases h
        · unfold insideL at h
          rcases ht : tokenL ((r.dropWhile tokB).dropWhile blankB) with _ | ⟨t, v⟩
          · rw [ht] at h
            simp only at h
            rcases hp : paramsL (((r.dropWhile tokB).dropWhile blankB).length + 1) [] ((r.dropWhile tokB).dropWhile blankB) with e | ⟨ps, v⟩
            · rw [hp] at h; cases h
            · rw [hp] at h
              cases h
              obtain ⟨k1, k2, k3⟩ := params_ok _ _ _ _ _ hp parsOk_nil
              exact ⟨⟨hw, .inl rfl, fun q hq => (k1 q hq).1, k2, k3⟩, fun q hq => (k1 q hq).2⟩
          · rw [ht] at h
            cases h
            exact ⟨⟨hw, .inr ⟨token_ok ht, rfl⟩, fun q hq => (by cases hq), trivial, by simp⟩, fun q hq => by cases hq⟩
theorem parse_read : ∀ (f : Nat) (acc : List Chal) (r : List UInt8) (xs : List Chal), parseL f acc r = .ok xs → (∀ x ∈ acc, Read x) → acc.length ≤ 8 → (∀ x ∈ xs, Read x) ∧ xs.length ≤ 8
  | 0, acc, r, xs, h, _, _ => by cases h
  | f + 1, acc, r, xs, h, ha, hl => by
    unfold parseL at h
    split at h
    · cases h
      exact ⟨ha, hl⟩
    · rcases hc : chalL acc.length (r.dropWhile gapB) with e | ⟨x, u⟩
      · rw [hc] at h; cases h
      · rw [hc] at h
        have h8 : acc.length < 8 := by
          unfold chalL at hc
          split at hc
          · cases hc
          · split at hc
            · cases hc
            · omega
        exact parse_read f _ _ _ h (fun y hy => by
          rcases List.mem_append.1 hy with hy | hy
          · exact ha y hy
          · rw [List.mem_singleton.1 hy]; exact chal_read hc) (by simp; omega)
theorem ask_read {s : List UInt8} {xs : List Chal} (h : askL s = .ok xs) : (∀ x ∈ xs, Read x) ∧ xs.length ≤ 8 := parse_read _ _ _ _ h (fun x hx => by cases hx) (by simp)
theorem parsT_some : ∀ (ps : List Par) (f : Bool), (∀ q ∈ ps, ∃ t, valueO q.2.data.toList = some t) → ∃ a, parsT f ps = some a
  | [], f, _ => ⟨_, rfl⟩
  | p :: r, f, h => by
    obtain ⟨t, ht⟩ := h p (by simp)
    obtain ⟨b, hb⟩ := parsT_some r false (fun q hq => h q (by simp [hq]))
    have hp : parT p = some (32 :: (p.1.data.toList ++ 61 :: t)) := by unfold parT; rw [ht]; rfl
    exact ⟨_, by rw [parsT, hp]; simp only []; rw [hb]; rfl⟩
theorem print_read : ∀ (xs : List Chal) (i : Nat), (∀ x ∈ xs, Read x) → ∃ T, printL i xs = .ok T
  | [], i, _ => ⟨_, rfl⟩
  | x :: r, i, h => by
    obtain ⟨a, ha⟩ := parsT_some x.params true (h x (by simp)).2
    obtain ⟨b, hb⟩ := print_read r (i + 1) (fun y hy => h y (by simp [hy]))
    have hc : chalT x = some (x.scheme.data.toList ++ tokT x.token ++ a) := by unfold chalT; rw [ha]; rfl
    exact ⟨_, by rw [printL, hc]; simp only []; rw [hb]; rfl⟩
/-- What is read is written, and read again as the same. -/
theorem ask_again {s : List UInt8} {xs : List Chal} (h : askL s = .ok xs) : ∃ T, printL 0 xs = .ok T ∧ askL T = .ok xs := by
  obtain ⟨h1, h2⟩ := ask_read h
  obtain ⟨T, hT⟩ := print_read xs 0 h1
  exact ⟨T, hT, ask_print (fun x hx => (h1 x hx).1) h2 hT⟩
end Go.Proofs.YtlmfhbffknganaaDoor
