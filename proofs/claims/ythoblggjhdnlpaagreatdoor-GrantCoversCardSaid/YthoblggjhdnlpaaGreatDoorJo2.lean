/- Texts of one claim, joined: each begins with what it proves. -/
import Derived.Test.YthoblggjhdnlpaaGreatDoorJo1
import Derived.Shelf.LaysM
import Derived.Shelf.Strconv.Clone
import Derived.Lib.LaidTab
import Derived.Lib.LaidU8
import Derived.Lib.Strings
import Derived.Lib.Slices
import Derived.Lib.Walk
import Derived.Lib.Bytealg
import Derived.Lib.SlTrimSet
import Derived.Lib.Index
/- Passes, and rows of them. -/
namespace Go.Proofs.YthoblggjhdnlpaaGreatDoor
open Go.RowKit

structure PsV where
  fs : Bool
  fh : ByteArray
  fp : Int
  us : Bool
  uh : ByteArray
  up : Int
  pa : ByteArray
  qu : ByteArray
  wi : Bool
  me : ByteArray
  he : ByteArray
  un : Int
def PsV.vals (v : PsV) : List Value := [.bool v.fs, .string v.fh, .int .i64 v.fp, .bool v.us, .string v.uh, .int .i64 v.up, .string v.pa, .string v.qu, .bool v.wi, .string v.me, .string v.he, .int .i64 v.un]
/-- A row of passes that lies somewhere. -/
structure Pss (w : World) (a0 : Option Addr) (len b off : Nat) (ps : List PsV) : Prop where
  len_eq : ps.length = len
  lies : 0 < len → a0 = some ⟨b, off, none⟩ ∧ b < w.heap.size
  cells : ∀ (j : Nat) (v : PsV), ps[j]? = some v → ∀ (i : Nat) (u : Value), v.vals[i]? = some u → w.cell? ⟨b, off + j * 12 + i, none⟩ = some u
theorem Pss.below {w w' : World} {a0 : Option Addr} {len b off : Nat} {ps : List PsV} (h : Pss w a0 len b off ps) (hb : Below w.heap.size w w') : Pss w' a0 len b off ps := by
  refine ⟨h.len_eq, fun h0 => ⟨(h.lies h0).1, Nat.lt_of_lt_of_le (h.lies h0).2 hb.size⟩, fun j v hj i u hi => ?_⟩
  have := (List.getElem?_eq_some_iff.1 hj).1
  have hl := h.len_eq
  rw [hb.cell (p := ⟨b, off + j * 12 + i, none⟩) (h.lies (by omega)).2]
  exact h.cells j v hj i u hi
theorem Pss.all {w : World} {a0 : Option Addr} {len b off : Nat} {ps : List PsV} (h : Pss w a0 len b off ps) {j : Nat} {v : PsV} (hj : ps[j]? = some v) :
    w.cell? ⟨b, off + j * 12, none⟩ = some (.bool v.fs) ∧ w.cell? ⟨b, off + j * 12 + 1, none⟩ = some (.string v.fh) ∧ w.cell? ⟨b, off + j * 12 + 2, none⟩ = some (.int .i64 v.fp) ∧ w.cell? ⟨b, off + j * 12 + 3, none⟩ = some (.bool v.us) ∧ w.cell? ⟨b, off + j * 12 + 4, none⟩ = some (.string v.uh) ∧ w.cell? ⟨b, off + j * 12 + 5, none⟩ = some (.int .i64 v.up) ∧ w.cell? ⟨b, off + j * 12 + 6, none⟩ = some (.string v.pa) ∧ w.cell? ⟨b, off + j * 12 + 7, none⟩ = some (.string v.qu) ∧ w.cell? ⟨b, off + j * 12 + 8, none⟩ = some (.bool v.wi) ∧ w.cell? ⟨b, off + j * 12 + 9, none⟩ = some (.string v.me) ∧ w.cell? ⟨b, off + j * 12 + 10, none⟩ = some (.string v.he) ∧ w.cell? ⟨b, off + j * 12 + 11, none⟩ = some (.int .i64 v.un) :=
  ⟨h.cells j v hj 0 _ rfl, h.cells j v hj 1 _ rfl, h.cells j v hj 2 _ rfl, h.cells j v hj 3 _ rfl, h.cells j v hj 4 _ rfl, h.cells j v hj 5 _ rfl, h.cells j v hj 6 _ rfl, h.cells j v hj 7 _ rfl, h.cells j v hj 8 _ rfl, h.cells j v hj 9 _ rfl, h.cells j v hj 10 _ rfl, h.cells j v hj 11 _ rfl⟩
theorem pss_nil (w : World) : Pss w none 0 0 0 [] := ⟨rfl, fun h => absurd h (by omega), fun j v hj => by simp at hj⟩
theorem take_any {α : Type} {f : α → Bool} {l : List α} {k : Nat} {x : α} (h : (l.take k).any f = false) (hk : l[k]? = some x) (hx : f x = false) : (l.take (k + 1)).any f = false := by
  obtain ⟨hk1, e⟩ := List.getElem?_eq_some_iff.1 hk
  rw [List.take_succ_eq_append_getElem hk1, List.any_append, h, e]
  simp [hx]
theorem take_all {α : Type} {f : α → Bool} {l : List α} {k : Nat} {x : α} (h : (l.take k).all f = true) (hk : l[k]? = some x) (hx : f x = true) : (l.take (k + 1)).all f = true := by
  obtain ⟨hk1, e⟩ := List.getElem?_eq_some_iff.1 hk
  rw [List.take_succ_eq_append_getElem hk1, List.all_append, h, e]
  simp [hx]
theorem not_all {α : Type} {f : α → Bool} {l : List α} {k : Nat} {x : α} (hk : l[k]? = some x) (hx : f x = false) : l.all f = false :=
  List.all_eq_false.2 ⟨x, List.mem_of_getElem? hk, by rw [hx]; simp⟩
end Go.Proofs.YthoblggjhdnlpaaGreatDoor

/- Whether a method is simple, by the program. -/
namespace Go.Proofs.YthoblggjhdnlpaaGreatDoor
open Go.RowKit

def simpleL (l : List UInt8) : Bool := l == [71, 69, 84] || (l == [72, 69, 65, 68] || l == [80, 79, 83, 84])
set_option maxHeartbeats 1000000 in
theorem simple_any (s : ByteArray) (w : World) : Calls Tryz.prog 23 #[.string s] w fun e w' => e = .returned (.bool (simpleL s.toList)) ∧ w' = w := by
  have HS : Hid (simpleL s.toList = (s.toList == [71, 69, 84] || (s.toList == [72, 69, 65, 68] || s.toList == [80, 79, 83, 84]))) := rfl
  go_enter Tryz.func23, Tryz.ntmps23
  go_wp2
  all_goals
    go_ret
    exact ⟨ret_bool (by rw [HS.out]; first | exact Bool.or_assoc _ _ _ | simp [*]), rfl⟩
end Go.Proofs.YthoblggjhdnlpaaGreatDoor

/- The library's contracts that are leant on, laid at this program's numbers. -/
namespace Go.Proofs.YthoblggjhdnlpaaGreatDoor
open Go.Shelf Go.RowKit
def laysM316_ren : Go.Shelf.Ren := ⟨fun | 316 => 55 | n => n, fun | 9 => 9 | 3 => 3 | 4 => 4 | 37 => 83 | 0 => 0 | 127 => 108 | 5 => 5 | n => n, fun | n => n⟩
theorem laysM316 : Go.Proofs.LaysM.n316 Tryz.prog laysM316_ren := {
  mixed := by kernel_rfl
  f316 := Tryz.func55.trans (congrArg some (by kernel_rfl))
  t0 := Tryz.underlying0
  a0 := Tryz.isAgg0
  z0 := Tryz.sizeOf0
  v0 := Tryz.zeroValue0
  t3 := Tryz.underlying3
  a3 := Tryz.isAgg3
  z3 := Tryz.sizeOf3
  v3 := Tryz.zeroValue3
  t4 := Tryz.underlying4
  a4 := Tryz.isAgg4
  z4 := Tryz.sizeOf4
  v4 := Tryz.zeroValue4
  t9 := Tryz.underlying9
  a9 := Tryz.isAgg9
  z9 := Tryz.sizeOf9
  v9 := Tryz.zeroValue9
  t37 := Tryz.underlying83
  a37 := Tryz.isAgg83
  z37 := Tryz.sizeOf83
  v37 := Tryz.zeroValue83
  t127 := Tryz.underlying108
  a127 := Tryz.isAgg108
  z127 := Tryz.sizeOf108
  v127 := Tryz.zeroValue108
  t5 := Tryz.underlying5
  a5 := Tryz.isAgg5
  z5 := Tryz.sizeOf5
  v5 := Tryz.zeroValue5
  i0 := by kernel_rfl
  i3 := by kernel_rfl
  i4 := by kernel_rfl
  i5 := by kernel_rfl
  i9 := by kernel_rfl
  i37 := by kernel_rfl
  i127 := by kernel_rfl }
end Go.Proofs.YthoblggjhdnlpaaGreatDoor

/- A text once more, by the library. -/
namespace Go.Proofs.YthoblggjhdnlpaaGreatDoor
open Go.RowKit Go.Shelf

theorem clone_any (s : ByteArray) (hs : s.size ≤ 20000) (w : World) :
    Calls Tryz.prog 31 #[.string s] w fun e w' => e = .returned (.string s) ∧ Below w.heap.size w w' := by
  have hc : ∀ w, Calls Tryz.prog 55 #[.string s] w fun e w' => e = .returned (.string s) ∧ Below w.heap.size w w' := fun w => Any.stringslite_Clone laysM316 s w (by omega)
  go_enter Tryz.func31, Tryz.ntmps31
  go_wp2_with (go_at_call 55; refine (hc _).mono ?_; rintro e w' ⟨rfl, hb⟩)
  go_ret
  exact ⟨rfl, hb⟩
end Go.Proofs.YthoblggjhdnlpaaGreatDoor

/- A method as it is sent, by the program. -/
namespace Go.Proofs.YthoblggjhdnlpaaGreatDoor
open Go.RowKit Go.Shelf

def mth0 : ByteArray := ⟨#[68, 69, 76, 69, 84, 69]⟩
def mth1 : ByteArray := ⟨#[71, 69, 84]⟩
def mth2 : ByteArray := ⟨#[72, 69, 65, 68]⟩
def mth3 : ByteArray := ⟨#[79, 80, 84, 73, 79, 78, 83]⟩
def mth4 : ByteArray := ⟨#[80, 79, 83, 84]⟩
def mth5 : ByteArray := ⟨#[80, 85, 84]⟩
/-- A method as it is sent: some in great letters. -/
def methodB (s : ByteArray) : ByteArray :=
  if sameL s.data.toList mth0.data.toList then mth0 else if sameL s.data.toList mth1.data.toList then mth1 else if sameL s.data.toList mth2.data.toList then mth2 else if sameL s.data.toList mth3.data.toList then mth3 else if sameL s.data.toList mth4.data.toList then mth4 else if sameL s.data.toList mth5.data.toList then mth5 else s
structure Methods (w : World) : Prop where
  lt : 0 < w.heap.size
  c0 : w.cell? ⟨0, 0, none⟩ = some (.string ⟨#[68, 69, 76, 69, 84, 69]⟩)
  c1 : w.cell? ⟨0, 1, none⟩ = some (.string ⟨#[71, 69, 84]⟩)
  c2 : w.cell? ⟨0, 2, none⟩ = some (.string ⟨#[72, 69, 65, 68]⟩)
  c3 : w.cell? ⟨0, 3, none⟩ = some (.string ⟨#[79, 80, 84, 73, 79, 78, 83]⟩)
  c4 : w.cell? ⟨0, 4, none⟩ = some (.string ⟨#[80, 79, 83, 84]⟩)
  c5 : w.cell? ⟨0, 5, none⟩ = some (.string ⟨#[80, 85, 84]⟩)
theorem Methods.below {w w' : World} (h : Methods w) {H : Nat} (hb : Below H w w') (hH : w.heap.size ≤ H) : Methods w' := by
  have k : ∀ i, w'.cell? ⟨0, i, none⟩ = w.cell? ⟨0, i, none⟩ := fun i => hb.cell (p := ⟨0, i, none⟩) (Nat.lt_of_lt_of_le h.lt hH)
  exact ⟨Nat.lt_of_lt_of_le h.lt hb.size, (k 0).trans h.c0, (k 1).trans h.c1, (k 2).trans h.c2, (k 3).trans h.c3, (k 4).trans h.c4, (k 5).trans h.c5⟩
theorem str_of_trod {br : Bool} {H : Type} {enc : TypeId × Value → H} {P : Program} {W : World} {fuel : Nat} {cs : List Value} {d : List UInt8} {q : List MemPlace} (ht : P.underlying 9 = some .string) (h : DataW.trod enc P W 0 (fun _ => true) br fuel 9 cs = some (.lit (.string d), q)) : cs = [.string ⟨d.toArray⟩] := by
  obtain ⟨s, e, x, _⟩ := DataW.trod_string ht h
  simp only [Prod.mk.injEq, DataW.lit.injEq, Lit.string.injEq] at x
  rw [e, x.1]
set_option maxRecDepth 100000 in
theorem methods_laid {W : World} (h : Lib.VarReads Tryz.prog W "gatepost/fetch.methods" Rows.laid_gatepost_fetch_methods) : Methods W := by
  obtain ⟨g', t', cs, fuel, p, hg, hty, hvar, hd⟩ := h
  have hn : Tryz.prog.globalNamed "gatepost/fetch.methods" = some 0 := by kernel_rfl
  have ht : (Tryz.prog.globals[0]?).map (·.type) = some 76 := by kernel_rfl
  obtain rfl := Option.some.inj (hn.symm.trans hg)
  obtain rfl := Option.some.inj (ht.symm.trans hty)
  have hv := fun i => World.var?_cell hg hvar i
  have k1 : Tryz.prog.cellsOf 9 = 1 := by kernel_rfl
  have a0 : cs[0]? = some (.string ⟨#[68, 69, 76, 69, 84, 69]⟩) := by
    obtain ⟨f, d, q, hd0, he⟩ := Lib.array_elem Tryz.underlying76 hd 0 (by omega)
    simp only [List.getElem?_cons_zero, Option.some.injEq] at hd0
    subst hd0
    have e := str_of_trod Tryz.underlying9 he
    rw [k1] at e
    have e2 := congrArg (fun l => l[0]?) e
    simpa [List.getElem?_take, List.getElem?_drop] using e2
  have a1 : cs[1]? = some (.string ⟨#[71, 69, 84]⟩) := by
    obtain ⟨f, d, q, hd0, he⟩ := Lib.array_elem Tryz.underlying76 hd 1 (by omega)
    simp only [List.getElem?_cons_zero, List.getElem?_cons_succ, Option.some.injEq] at hd0
    subst hd0
    have e := str_of_trod Tryz.underlying9 he
    rw [k1] at e
    have e2 := congrArg (fun l => l[0]?) e
    simpa [List.getElem?_take, List.getElem?_drop] using e2
  have a2 : cs[2]? = some (.string ⟨#[72, 69, 65, 68]⟩) := by
    obtain ⟨f, d, q, hd0, he⟩ := Lib.array_elem Tryz.underlying76 hd 2 (by omega)
    simp only [List.getElem?_cons_zero, List.getElem?_cons_succ, Option.some.injEq] at hd0
    subst hd0
    have e := str_of_trod Tryz.underlying9 he
    rw [k1] at e
    have e2 := congrArg (fun l => l[0]?) e
    simpa [List.getElem?_take, List.getElem?_drop] using e2
  have a3 : cs[3]? = some (.string ⟨#[79, 80, 84, 73, 79, 78, 83]⟩) := by
    obtain ⟨f, d, q, hd0, he⟩ := Lib.array_elem Tryz.underlying76 hd 3 (by omega)
    simp only [List.getElem?_cons_zero, List.getElem?_cons_succ, Option.some.injEq] at hd0
    subst hd0
    have e := str_of_trod Tryz.underlying9 he
    rw [k1] at e
    have e2 := congrArg (fun l => l[0]?) e
    simpa [List.getElem?_take, List.getElem?_drop] using e2
  have a4 : cs[4]? = some (.string ⟨#[80, 79, 83, 84]⟩) := by
    obtain ⟨f, d, q, hd0, he⟩ := Lib.array_elem Tryz.underlying76 hd 4 (by omega)
    simp only [List.getElem?_cons_zero, List.getElem?_cons_succ, Option.some.injEq] at hd0
    subst hd0
    have e := str_of_trod Tryz.underlying9 he
    rw [k1] at e
    have e2 := congrArg (fun l => l[0]?) e
    simpa [List.getElem?_take, List.getElem?_drop] using e2
  have a5 : cs[5]? = some (.string ⟨#[80, 85, 84]⟩) := by
    obtain ⟨f, d, q, hd0, he⟩ := Lib.array_elem Tryz.underlying76 hd 5 (by omega)
    simp only [List.getElem?_cons_zero, List.getElem?_cons_succ, Option.some.injEq] at hd0
    subst hd0
    have e := str_of_trod Tryz.underlying9 he
    rw [k1] at e
    have e2 := congrArg (fun l => l[0]?) e
    simpa [List.getElem?_take, List.getElem?_drop] using e2
  have c0 : W.cell? ⟨0, 0, none⟩ = some (.string ⟨#[68, 69, 76, 69, 84, 69]⟩) := by rw [hv 0]; exact a0
  have hlt : 0 < W.heap.size := by
    rcases Nat.lt_or_ge 0 W.heap.size with hl | hl
    · exact hl
    · simp [World.cell?, Array.getElem?_eq_none hl] at c0
  exact ⟨hlt, c0, by rw [hv 1]; exact a1, by rw [hv 2]; exact a2, by rw [hv 3]; exact a3, by rw [hv 4]; exact a4, by rw [hv 5]; exact a5⟩
theorem methods_at0 (W : World) : (Instr.index 76 (.agg #[.string ⟨#[68, 69, 76, 69, 84, 69]⟩, .string ⟨#[71, 69, 84]⟩, .string ⟨#[72, 69, 65, 68]⟩, .string ⟨#[79, 80, 84, 73, 79, 78, 83]⟩, .string ⟨#[80, 79, 83, 84]⟩, .string ⟨#[80, 85, 84]⟩]) (.int .i64 0)).run Tryz.prog W = .ok (.string ⟨#[68, 69, 76, 69, 84, 69]⟩) W := by kernel_rfl
theorem methods_at1 (W : World) : (Instr.index 76 (.agg #[.string ⟨#[68, 69, 76, 69, 84, 69]⟩, .string ⟨#[71, 69, 84]⟩, .string ⟨#[72, 69, 65, 68]⟩, .string ⟨#[79, 80, 84, 73, 79, 78, 83]⟩, .string ⟨#[80, 79, 83, 84]⟩, .string ⟨#[80, 85, 84]⟩]) (.int .i64 1)).run Tryz.prog W = .ok (.string ⟨#[71, 69, 84]⟩) W := by kernel_rfl
theorem methods_at2 (W : World) : (Instr.index 76 (.agg #[.string ⟨#[68, 69, 76, 69, 84, 69]⟩, .string ⟨#[71, 69, 84]⟩, .string ⟨#[72, 69, 65, 68]⟩, .string ⟨#[79, 80, 84, 73, 79, 78, 83]⟩, .string ⟨#[80, 79, 83, 84]⟩, .string ⟨#[80, 85, 84]⟩]) (.int .i64 2)).run Tryz.prog W = .ok (.string ⟨#[72, 69, 65, 68]⟩) W := by kernel_rfl
theorem methods_at3 (W : World) : (Instr.index 76 (.agg #[.string ⟨#[68, 69, 76, 69, 84, 69]⟩, .string ⟨#[71, 69, 84]⟩, .string ⟨#[72, 69, 65, 68]⟩, .string ⟨#[79, 80, 84, 73, 79, 78, 83]⟩, .string ⟨#[80, 79, 83, 84]⟩, .string ⟨#[80, 85, 84]⟩]) (.int .i64 3)).run Tryz.prog W = .ok (.string ⟨#[79, 80, 84, 73, 79, 78, 83]⟩) W := by kernel_rfl
theorem methods_at4 (W : World) : (Instr.index 76 (.agg #[.string ⟨#[68, 69, 76, 69, 84, 69]⟩, .string ⟨#[71, 69, 84]⟩, .string ⟨#[72, 69, 65, 68]⟩, .string ⟨#[79, 80, 84, 73, 79, 78, 83]⟩, .string ⟨#[80, 79, 83, 84]⟩, .string ⟨#[80, 85, 84]⟩]) (.int .i64 4)).run Tryz.prog W = .ok (.string ⟨#[80, 79, 83, 84]⟩) W := by kernel_rfl
theorem methods_at5 (W : World) : (Instr.index 76 (.agg #[.string ⟨#[68, 69, 76, 69, 84, 69]⟩, .string ⟨#[71, 69, 84]⟩, .string ⟨#[72, 69, 65, 68]⟩, .string ⟨#[79, 80, 84, 73, 79, 78, 83]⟩, .string ⟨#[80, 79, 83, 84]⟩, .string ⟨#[80, 85, 84]⟩]) (.int .i64 5)).run Tryz.prog W = .ok (.string ⟨#[80, 85, 84]⟩) W := by kernel_rfl
set_option maxRecDepth 100000 in
set_option maxHeartbeats 4000000 in
theorem method_any (s : ByteArray) (hs : s.size ≤ 3000) (w : World) (hm : Methods w) :
    Calls Tryz.prog 17 #[.string s] w fun e w' => e = .returned (.string (methodB s)) ∧ Below w.heap.size w w' := by
  obtain ⟨hlt, h0, h1, h2, h3, h4, h5⟩ := hm
  have q0 := methods_at0
  have q1 := methods_at1
  have q2 := methods_at2
  have q3 := methods_at3
  have q4 := methods_at4
  have q5 := methods_at5
  obtain ⟨x, HX⟩ : ∃ x, Hid (methodB s = x) := ⟨_, rfl⟩
  rw [HX.out]
  obtain ⟨b0, HB0⟩ : ∃ b, Hid (sameL s.data.toList mth0.data.toList = b) := ⟨_, rfl⟩
  obtain ⟨b1, HB1⟩ : ∃ b, Hid (sameL s.data.toList mth1.data.toList = b) := ⟨_, rfl⟩
  obtain ⟨b2, HB2⟩ : ∃ b, Hid (sameL s.data.toList mth2.data.toList = b) := ⟨_, rfl⟩
  obtain ⟨b3, HB3⟩ : ∃ b, Hid (sameL s.data.toList mth3.data.toList = b) := ⟨_, rfl⟩
  obtain ⟨b4, HB4⟩ : ∃ b, Hid (sameL s.data.toList mth4.data.toList = b) := ⟨_, rfl⟩
  obtain ⟨b5, HB5⟩ : ∃ b, Hid (sameL s.data.toList mth5.data.toList = b) := ⟨_, rfl⟩
  go_enter Tryz.func17, Tryz.ntmps17
  go_wp2
  have HW0 : Hid (Below w.heap.size w w) := Below.refl _ _
  refine wp_loop_rounds 7 ?_
  rw [rounds_succ]
  go_wp2_with fail
  refine (same_any s ⟨#[68, 69, 76, 69, 84, 69]⟩ (by omega) (by decide) _).mono ?_
  rintro e w1 ⟨rfl, hb⟩
  have HW1 : Hid (Below w.heap.size w w1) := HW0.out.trans (hb.mono HW0.out.size)
  clear hb
  rw [show sameL s.data.toList (⟨#[68, 69, 76, 69, 84, 69]⟩ : ByteArray).data.toList = b0 from HB0.out]
  cases b0
  rotate_left
  · have HE : Hid (x = mth0) := by
      show _ = _
      rw [← HX.out]
      unfold methodB
      simp only [HB0.out, if_true]
    go_wp2
    go_ret
    exact ⟨by rw [HE.out]; rfl, HW1.out⟩
  go_wp2_with fail
  rw [rounds_succ]
  go_wp2_with fail
  refine (same_any s ⟨#[71, 69, 84]⟩ (by omega) (by decide) _).mono ?_
  rintro e w2 ⟨rfl, hb⟩
  have HW2 : Hid (Below w.heap.size w w2) := HW1.out.trans (hb.mono HW1.out.size)
  clear hb
  rw [show sameL s.data.toList (⟨#[71, 69, 84]⟩ : ByteArray).data.toList = b1 from HB1.out]
  cases b1
  rotate_left
  · have HE : Hid (x = mth1) := by
      show _ = _
      rw [← HX.out]
      unfold methodB
      simp only [HB0.out, HB1.out, if_true, Bool.false_eq_true, if_false]
    go_wp2
    go_ret
    exact ⟨by rw [HE.out]; rfl, HW2.out⟩
  go_wp2_with fail
  rw [rounds_succ]
  go_wp2_with fail
  refine (same_any s ⟨#[72, 69, 65, 68]⟩ (by omega) (by decide) _).mono ?_
  rintro e w3 ⟨rfl, hb⟩
  have HW3 : Hid (Below w.heap.size w w3) := HW2.out.trans (hb.mono HW2.out.size)
  clear hb
  rw [show sameL s.data.toList (⟨#[72, 69, 65, 68]⟩ : ByteArray).data.toList = b2 from HB2.out]
  cases b2
  rotate_left
  · have HE : Hid (x = mth2) := by
      show _ = _
      rw [← HX.out]
      unfold methodB
      simp only [HB0.out, HB1.out, HB2.out, if_true, Bool.false_eq_true, if_false]
    go_wp2
    go_ret
    exact ⟨by rw [HE.out]; rfl, HW3.out⟩
  go_wp2_with fail
  rw [rounds_succ]
  go_wp2_with fail
  refine (same_any s ⟨#[79, 80, 84, 73, 79, 78, 83]⟩ (by omega) (by decide) _).mono ?_
  rintro e w4 ⟨rfl, hb⟩
  have HW4 : Hid (Below w.heap.size w w4) := HW3.out.trans (hb.mono HW3.out.size)
  clear hb
  rw [show sameL s.data.toList (⟨#[79, 80, 84, 73, 79, 78, 83]⟩ : ByteArray).data.toList = b3 from HB3.out]
  cases b3
  rotate_left
  · have HE : Hid (x = mth3) := by
      show _ = _
      rw [← HX.out]
      unfold methodB
      simp only [HB0.out, HB1.out, HB2.out, HB3.out, if_true, Bool.false_eq_true, if_false]
    go_wp2
    go_ret
    exact ⟨by rw [HE.out]; rfl, HW4.out⟩
  go_wp2_with fail
  rw [rounds_succ]
  go_wp2_with fail
  refine (same_any s ⟨#[80, 79, 83, 84]⟩ (by omega) (by decide) _).mono ?_
  rintro e w5 ⟨rfl, hb⟩
  have HW5 : Hid (Below w.heap.size w w5) := HW4.out.trans (hb.mono HW4.out.size)
  clear hb
  rw [show sameL s.data.toList (⟨#[80, 79, 83, 84]⟩ : ByteArray).data.toList = b4 from HB4.out]
  cases b4
  rotate_left
  · have HE : Hid (x = mth4) := by
      show _ = _
      rw [← HX.out]
      unfold methodB
      simp only [HB0.out, HB1.out, HB2.out, HB3.out, HB4.out, if_true, Bool.false_eq_true, if_false]
    go_wp2
    go_ret
    exact ⟨by rw [HE.out]; rfl, HW5.out⟩
  go_wp2_with fail
  rw [rounds_succ]
  go_wp2_with fail
  refine (same_any s ⟨#[80, 85, 84]⟩ (by omega) (by decide) _).mono ?_
  rintro e w6 ⟨rfl, hb⟩
  have HW6 : Hid (Below w.heap.size w w6) := HW5.out.trans (hb.mono HW5.out.size)
  clear hb
  rw [show sameL s.data.toList (⟨#[80, 85, 84]⟩ : ByteArray).data.toList = b5 from HB5.out]
  cases b5
  rotate_left
  · have HE : Hid (x = mth5) := by
      show _ = _
      rw [← HX.out]
      unfold methodB
      simp only [HB0.out, HB1.out, HB2.out, HB3.out, HB4.out, HB5.out, if_true, Bool.false_eq_true, if_false]
    go_wp2
    go_ret
    exact ⟨by rw [HE.out]; rfl, HW6.out⟩
  go_wp2_with fail
  rw [rounds_succ]
  have HE : Hid (x = s) := by
    show _ = _
    rw [← HX.out]
    unfold methodB
    simp only [HB0.out, HB1.out, HB2.out, HB3.out, HB4.out, HB5.out, Bool.false_eq_true, if_false]
  go_wp2_with fail
  refine (clone_any s (by omega) _).mono ?_
  rintro e w7 ⟨rfl, hb⟩
  go_wp2
  go_ret
  exact ⟨by rw [HE.out]; rfl, HW6.out.trans (hb.mono HW6.out.size)⟩
end Go.Proofs.YthoblggjhdnlpaaGreatDoor

/- Functions that say whether a byte is of a kind. -/
namespace Go.Proofs.YthoblggjhdnlpaaGreatDoor
open Go.RowKit

/-- A function that says whether a byte is of a kind. -/
structure Kind (K : Nat) (f : UInt8 → Bool) : Prop where
  says : ∀ (c : UInt8) (w : World), Calls Tryz.prog K #[.int .u8 (c.toNat : Int)] w fun e w' => e = .returned (.bool (f c)) ∧ w' = w
  enters : ∀ (args : Array Value) (w : World), (callFunc K args).run Tryz.prog w = .ok (.enter K args) w
theorem all_snoc (f : UInt8 → Bool) (s : ByteArray) (k : Nat) (hk : k < s.size) (c : UInt8) (e : s[k] = c) (h : (s.data.toList.take k).all f = true) (hc : f c = true) : (s.data.toList.take (k + 1)).all f = true := by
  rw [take_snoc s k hk, List.all_append, h, e]
  simp [hc]
theorem run_full (f : UInt8 → Bool) (s : ByteArray) (k : Nat) (hk : s.size ≤ k) (h : (s.data.toList.take k).all f = true) : runL f s.data.toList = s.size := by
  rw [List.take_of_length_le (by simpa using hk)] at h
  have := (runL_all f s.data.toList).2 h
  simpa using this
theorem run_part (f : UInt8 → Bool) (s : ByteArray) (k : Nat) (hk : k < s.size) (c : UInt8) (e : s[k] = c) (h : (s.data.toList.take k).all f = true) (hc : f c = false) : runL f s.data.toList = k :=
  runL_stop f _ k (by simpa using hk) h (by rw [← hc, ← e]; rfl)

end Go.Proofs.YthoblggjhdnlpaaGreatDoor

/- Where a byte stands in a list. -/
namespace Go.Proofs.YthoblggjhdnlpaaGreatDoor
open Go.RowKit

/-- Where a byte stands in a list; below 0: nowhere. -/
def ixOf (l : List UInt8) (c : UInt8) : Int := Lib.indexByte l c
theorem ixOf_cases (l : List UInt8) (c : UInt8) : (ixOf l c = -1 ∧ c ∉ l) ∨ ∃ n : Nat, n < l.length ∧ ixOf l c = n ∧ l.getD n 0 = c := by
  unfold ixOf
  induction l with
  | nil => exact .inl ⟨rfl, by simp⟩
  | cons b r ih =>
    unfold Lib.indexByte
    by_cases hb : b = c
    · subst hb
      exact .inr ⟨0, by simp, by simp, rfl⟩
    · rw [if_neg (by simpa using hb)]
      rcases ih with ⟨h1, h2⟩ | ⟨n, h1, h2, h3⟩
      · exact .inl ⟨by rw [h1]; rfl, by simp [h2, Ne.symm hb]⟩
      · refine .inr ⟨n + 1, by simpa using h1, ?_, by simpa using h3⟩
        rw [h2, if_neg (by simp)]
        simp

end Go.Proofs.YthoblggjhdnlpaaGreatDoor

/- Whether a byte stands in a list. -/
namespace Go.Proofs.YthoblggjhdnlpaaGreatDoor
open Go.RowKit

theorem ixOf_in (l : List UInt8) (c : UInt8) : (ixOf l c = -1 ∧ l.contains c = false) ∨ ∃ n : Nat, n < l.length ∧ ixOf l c = n ∧ l.contains c = true := by
  rcases ixOf_cases l c with ⟨h1, h2⟩ | ⟨n, h1, h2, h3⟩
  · exact .inl ⟨h1, by simpa using h2⟩
  · refine .inr ⟨n, h1, h2, ?_⟩
    rw [List.contains_iff_mem, ← h3]
    simp [h1]
end Go.Proofs.YthoblggjhdnlpaaGreatDoor

/- Where a byte stands in a text, by the library's own functions. -/
namespace Go.Proofs.YthoblggjhdnlpaaGreatDoor
open Go.RowKit

set_option maxHeartbeats 1000000 in
set_option maxRecDepth 100000 in
theorem slite_ix (s : ByteArray) (c : Int) (w : World) :
    Calls Tryz.prog 105 #[.string s, .int .u8 c] w fun e w' => e = .returned (.int .i64 (Lib.indexByte s.data.toList c.toNat.toUInt8)) ∧ w' = w := by
  go_enter Tryz.func105, Tryz.ntmps105
  go_wp2
  rw [run_callFunc_extern Tryz.func122 (by kernel_rfl) (by kernel_rfl) (by kernel_rfl) (e := Extern.BytealgIndexByte.indexByte) (by kernel_rfl), Lib.run_indexByteString]
  simp only [Result.andThen]
  rw [Oper.upon_value]
  go_wp2
  go_ret
  exact ⟨rfl, rfl⟩

set_option maxHeartbeats 1000000 in
theorem ix_any (s : ByteArray) (c : Int) (w : World) :
    Calls Tryz.prog 83 #[.string s, .int .u8 c] w fun e w' => e = .returned (.int .i64 (Lib.indexByte s.data.toList c.toNat.toUInt8)) ∧ w' = w := by
  go_enter Tryz.func83, Tryz.ntmps83
  go_wp2_with (go_at_call 105; refine (slite_ix _ _ _).mono ?_; rintro e w' ⟨rfl, rfl⟩)
  go_ret
  exact ⟨rfl, rfl⟩

theorem ix_of (s : ByteArray) (c : UInt8) (n : Int) (hn : n = c.toNat) (w : World) :
    Calls Tryz.prog 83 #[.string s, .int .u8 n] w fun e w' => e = .returned (.int .i64 (ixOf s.data.toList c)) ∧ w' = w := by
  subst hn
  refine (ix_any s _ w).mono ?_
  rintro e w' ⟨rfl, rfl⟩
  refine ⟨?_, rfl⟩
  unfold ixOf
  congr 3
  simp

end Go.Proofs.YthoblggjhdnlpaaGreatDoor

/- What may be sent without asking, byte by byte, by the program. -/
namespace Go.Proofs.YthoblggjhdnlpaaGreatDoor
open Go.RowKit

def forbS : List UInt8 := [34, 40, 41, 58, 60, 62, 63, 64, 91, 92, 93, 123, 125]
def tongS : List UInt8 := [32, 42, 44, 45, 46, 59, 61]
/-- A byte that may be in what is accepted. -/
def safeB (c : UInt8) : Bool := textB c && !forbS.contains c
def alnB (c : UInt8) : Bool := decide (97 ≤ c.toNat ∧ c.toNat ≤ 122) || (decide (65 ≤ c.toNat ∧ c.toNat ≤ 90) || decide (48 ≤ c.toNat ∧ c.toNat ≤ 57))
/-- A byte that may be in a list of languages. -/
def tongB (c : UInt8) : Bool := alnB c || tongS.contains c
theorem ix_forbS (c : UInt8) (w : World) :
    Calls Tryz.prog 83 #[.string { data := #[34, 40, 41, 58, 60, 62, 63, 64, 91, 92, 93, 123, 125] }, .int .u8 (c.toNat : Int)] w fun e w' => (∃ x : Int, e = .returned (.int .i64 x) ∧ Hid (forbS.contains c = !decide (x < 0))) ∧ w' = w := by
  refine (ix_of _ c _ rfl w).mono ?_
  rintro e w' ⟨rfl, rfl⟩
  refine ⟨⟨_, rfl, ?_⟩, rfl⟩
  show forbS.contains c = !decide (ixOf forbS c < 0)
  rcases ixOf_in forbS c with ⟨e1, e2⟩ | ⟨n, _, e1, e2⟩
  · rw [e1, e2]; rfl
  · rw [e1, e2]; simp
theorem ix_tongS (c : UInt8) (w : World) :
    Calls Tryz.prog 83 #[.string { data := #[32, 42, 44, 45, 46, 59, 61] }, .int .u8 (c.toNat : Int)] w fun e w' => (∃ x : Int, e = .returned (.int .i64 x) ∧ Hid (tongS.contains c = decide (0 ≤ x))) ∧ w' = w := by
  refine (ix_of _ c _ rfl w).mono ?_
  rintro e w' ⟨rfl, rfl⟩
  refine ⟨⟨_, rfl, ?_⟩, rfl⟩
  show tongS.contains c = decide (0 ≤ ixOf tongS c)
  rcases ixOf_in tongS c with ⟨e1, e2⟩ | ⟨n, _, e1, e2⟩
  · rw [e1, e2]; rfl
  · rw [e1, e2]; simp
theorem textB_of (c : UInt8) : textB c = (((c.toNat : Int) == 9) || (decide (32 ≤ (c.toNat : Int)) && !((c.toNat : Int) == 127))) := by
  have : ∀ n : Fin 256, textB (UInt8.ofNat n.1) = ((((UInt8.ofNat n.1).toNat : Int) == 9) || (decide (32 ≤ ((UInt8.ofNat n.1).toNat : Int)) && !(((UInt8.ofNat n.1).toNat : Int) == 127))) := by decide +kernel
  have h := this ⟨c.toNat, c.toNat_lt⟩
  simpa using h
set_option maxHeartbeats 1000000 in
theorem safe_any (c : UInt8) (w : World) : Calls Tryz.prog 73 #[.int .u8 (c.toNat : Int)] w fun e w' => e = .returned (.bool (safeB c)) ∧ w' = w := by
  have hcl : (c.toNat : Int) < 256 := by have := c.toNat_lt; omega
  have HT : Hid (textB c = (((c.toNat : Int) == 9) || (decide (32 ≤ (c.toNat : Int)) && !((c.toNat : Int) == 127)))) := textB_of c
  by_cases h1 : 32 ≤ (c.toNat : Int)
  · by_cases h2 : (c.toNat : Int) = 127
    · have HS : Hid (safeB c = false) := by
        show _ = _
        unfold safeB
        rw [HT.out, h2, decide_eq_true (by decide)]
        rfl
      go_enter Tryz.func73, Tryz.ntmps73
      go_wp2
      go_ret
      exact ⟨ret_bool (by rw [HS.out]), rfl⟩
    · have HS : Hid (safeB c = !forbS.contains c) := by
        show _ = _
        unfold safeB
        rw [HT.out, beq_eq_false_iff_ne.2 h2, decide_eq_true h1]
        simp
      go_enter Tryz.func73, Tryz.ntmps73
      go_wp2_with (go_at_call 83; refine (ix_forbS c _).mono ?_; rintro e w' ⟨⟨x, rfl, HX⟩, rfl⟩)
      go_ret
      exact ⟨ret_bool (by rw [HS.out, HX.out]; simp [h2]), rfl⟩
  · cases h2 : ((c.toNat : Int) == 9)
    · have HS : Hid (safeB c = false) := by
        show _ = _
        unfold safeB
        rw [HT.out, h2, decide_eq_false h1]
        rfl
      go_enter Tryz.func73, Tryz.ntmps73
      go_wp2
      go_ret
      exact ⟨ret_bool (by rw [HS.out]), rfl⟩
    · have HS : Hid (safeB c = !forbS.contains c) := by
        show _ = _
        unfold safeB
        rw [HT.out, h2]
        simp
      have h3 : ¬ (c.toNat : Int) = 127 := by omega
      go_enter Tryz.func73, Tryz.ntmps73
      go_wp2_with (go_at_call 83; refine (ix_forbS c _).mono ?_; rintro e w' ⟨⟨x, rfl, HX⟩, rfl⟩)
      go_ret
      exact ⟨ret_bool (by rw [HS.out, HX.out]; simp [h3]), rfl⟩
theorem kind_safe : Kind 73 safeB := ⟨safe_any, enters_at Tryz.func73 (by kernel_rfl) rfl⟩
set_option maxHeartbeats 1000000 in
theorem tong_any (c : UInt8) (w : World) : Calls Tryz.prog 74 #[.int .u8 (c.toNat : Int)] w fun e w' => e = .returned (.bool (tongB c)) ∧ w' = w := by
  have hcl : (c.toNat : Int) < 256 := by have := c.toNat_lt; omega
  by_cases h1 : 97 ≤ (c.toNat : Int)
  · by_cases h2 : (c.toNat : Int) ≤ 122
    · have HS : Hid (tongB c = true) := by
        show _ = _
        unfold tongB alnB
        rw [decide_eq_true (show 97 ≤ c.toNat ∧ c.toNat ≤ 122 by omega)]
        rfl
      go_enter Tryz.func74, Tryz.ntmps74
      go_wp2
      go_ret
      exact ⟨ret_bool (by rw [HS.out]), rfl⟩
    · have HS : Hid (tongB c = tongS.contains c) := by
        show _ = _
        unfold tongB alnB
        rw [decide_eq_false (show ¬ (97 ≤ c.toNat ∧ c.toNat ≤ 122) by omega), decide_eq_false (show ¬ (65 ≤ c.toNat ∧ c.toNat ≤ 90) by omega), decide_eq_false (show ¬ (48 ≤ c.toNat ∧ c.toNat ≤ 57) by omega)]
        rfl
      have h3 : 65 ≤ (c.toNat : Int) := by omega
      have h4 : ¬ (c.toNat : Int) ≤ 90 := by omega
      have h5 : 48 ≤ (c.toNat : Int) := by omega
      have h6 : ¬ (c.toNat : Int) ≤ 57 := by omega
      go_enter Tryz.func74, Tryz.ntmps74
      go_wp2_with (go_at_call 83; refine (ix_tongS c _).mono ?_; rintro e w' ⟨⟨x, rfl, HX⟩, rfl⟩)
      go_ret
      exact ⟨ret_bool (by rw [HS.out, HX.out]), rfl⟩
  · by_cases h3 : 65 ≤ (c.toNat : Int)
    · by_cases h2 : (c.toNat : Int) ≤ 90
      · have HS : Hid (tongB c = true) := by
          show _ = _
          unfold tongB alnB
          rw [decide_eq_true (show 65 ≤ c.toNat ∧ c.toNat ≤ 90 by omega)]
          simp
        go_enter Tryz.func74, Tryz.ntmps74
        go_wp2
        go_ret
        exact ⟨ret_bool (by rw [HS.out]), rfl⟩
      · have HS : Hid (tongB c = tongS.contains c) := by
          show _ = _
          unfold tongB alnB
          rw [decide_eq_false (show ¬ (97 ≤ c.toNat ∧ c.toNat ≤ 122) by omega), decide_eq_false (show ¬ (65 ≤ c.toNat ∧ c.toNat ≤ 90) by omega), decide_eq_false (show ¬ (48 ≤ c.toNat ∧ c.toNat ≤ 57) by omega)]
          rfl
        have h5 : 48 ≤ (c.toNat : Int) := by omega
        have h6 : ¬ (c.toNat : Int) ≤ 57 := by omega
        go_enter Tryz.func74, Tryz.ntmps74
        go_wp2_with (go_at_call 83; refine (ix_tongS c _).mono ?_; rintro e w' ⟨⟨x, rfl, HX⟩, rfl⟩)
        go_ret
        exact ⟨ret_bool (by rw [HS.out, HX.out]), rfl⟩
    · by_cases h5 : 48 ≤ (c.toNat : Int)
      · by_cases h2 : (c.toNat : Int) ≤ 57
        · have HS : Hid (tongB c = true) := by
            show _ = _
            unfold tongB alnB
            rw [decide_eq_true (show 48 ≤ c.toNat ∧ c.toNat ≤ 57 by omega)]
            simp
          go_enter Tryz.func74, Tryz.ntmps74
          go_wp2
          go_ret
          exact ⟨ret_bool (by rw [HS.out]), rfl⟩
        · have HS : Hid (tongB c = tongS.contains c) := by
            show _ = _
            unfold tongB alnB
            rw [decide_eq_false (show ¬ (97 ≤ c.toNat ∧ c.toNat ≤ 122) by omega), decide_eq_false (show ¬ (65 ≤ c.toNat ∧ c.toNat ≤ 90) by omega), decide_eq_false (show ¬ (48 ≤ c.toNat ∧ c.toNat ≤ 57) by omega)]
            rfl
          go_enter Tryz.func74, Tryz.ntmps74
          go_wp2_with (go_at_call 83; refine (ix_tongS c _).mono ?_; rintro e w' ⟨⟨x, rfl, HX⟩, rfl⟩)
          go_ret
          exact ⟨ret_bool (by rw [HS.out, HX.out]), rfl⟩
      · have HS : Hid (tongB c = tongS.contains c) := by
          show _ = _
          unfold tongB alnB
          rw [decide_eq_false (show ¬ (97 ≤ c.toNat ∧ c.toNat ≤ 122) by omega), decide_eq_false (show ¬ (65 ≤ c.toNat ∧ c.toNat ≤ 90) by omega), decide_eq_false (show ¬ (48 ≤ c.toNat ∧ c.toNat ≤ 57) by omega)]
          rfl
        go_enter Tryz.func74, Tryz.ntmps74
        go_wp2_with (go_at_call 83; refine (ix_tongS c _).mono ?_; rintro e w' ⟨⟨x, rfl, HX⟩, rfl⟩)
        go_ret
        exact ⟨ret_bool (by rw [HS.out, HX.out]), rfl⟩
theorem kind_tong : Kind 74 tongB := ⟨tong_any, enters_at Tryz.func74 (by kernel_rfl) rfl⟩

set_option maxHeartbeats 1000000 in
/-- Whether all bytes of a text are of a kind. -/
theorem all_any (K : Nat) (f : UInt8 → Bool) (hK : Kind K f) (s : ByteArray) (hs : s.size ≤ 5000) (w : World) :
    Calls Tryz.prog 72 #[.string s, .func (.func K) #[] #[]] w fun e w' => e = .returned (.bool (s.data.toList.all f)) ∧ w' = w := by
  have HK0 : Hid (Kind K f) := hK
  have hen := hK.enters
  clear hK
  go_enter Tryz.func72, Tryz.ntmps72
  go_wp2
  go_loop [8] (fun i => ∃ (k : Nat), k ≤ s.size ∧ i = .int .i64 k ∧ Hid ((s.data.toList.take k).all f = true)) (fun i => s.size - (intOf i).toNat)
  case atStart => exact ⟨0, Nat.zero_le _, rfl, rfl⟩
  case round =>
    obtain ⟨k, hk, rfl, HK⟩ := hrel
    by_cases hlt : k < s.size
    · obtain ⟨c, hcd⟩ : ∃ c : UInt8, s[k] = c := ⟨_, rfl⟩
      have hcl : (c.toNat : Int) < 256 := by have := c.toNat_lt; omega
      cases hf : f c
      · have HR : Hid (s.data.toList.all f = false) := by
          show _ = _
          rw [List.all_eq_false]
          refine ⟨c, ?_, by rw [hf]; simp⟩
          rw [← hcd]
          exact List.getElem_mem (by simpa using hlt)
        go_wp2_with fail
        refine (HK0.out.says c _).mono ?_
        rintro e w' ⟨rfl, rfl⟩
        rw [hf]
        go_wp2
        go_ret
        exact ⟨ret_bool (by rw [HR.out]), rfl⟩
      · have HS : Hid ((s.data.toList.take (k + 1)).all f = true) := all_snoc f s k hlt c hcd HK hf
        go_wp2_with fail
        refine (HK0.out.says c _).mono ?_
        rintro e w' ⟨rfl, rfl⟩
        rw [hf]
        go_wp2
        go_round
        case rel => exact ⟨k + 1, by omega, by go_num, HS⟩
        case measure => simp [intOf]; omega
    · have HR : Hid (s.data.toList.all f = true) := by
        have h : (s.data.toList.take k).all f = true := HK
        rw [List.take_of_length_le (by simp; omega)] at h
        exact h
      go_wp2
      go_ret
      exact ⟨ret_bool (by have := HR.out; simpa using this), rfl⟩
end Go.Proofs.YthoblggjhdnlpaaGreatDoor

/- Origins and paths as the document says them, over lists of bytes. -/
namespace Go.Proofs.YthoblggjhdnlpaaGreatDoor

/-- A byte of a host's label: a small letter or a digit. -/
def alnum (c : UInt8) : Bool := decide (97 ≤ c.toNat ∧ c.toNat ≤ 122) || decide (48 ≤ c.toNat ∧ c.toNat ≤ 57)
/-- Whether a byte may stand behind another one in a host (46: a point; ahead of the first byte and behind the last one a point is thought). -/
def hostStep (was c : UInt8) : Bool :=
  !((c == 46 && (was == 46 || was == 45)) || (c == 45 && was == 46) || (c != 46 && c != 45 && !alnum c))
def hostFrom (was : UInt8) : List UInt8 → Bool
  | [] => hostStep was 46
  | c :: t => hostStep was c && hostFrom c t
def hostL (l : List UInt8) : Bool := hostFrom 46 l
def rightL (host : List UInt8) (port : Int) : Bool := decide (host.length ≤ 60) && decide (1 ≤ port ∧ port ≤ 65535) && hostL host
/-- The port that is meant where none is told. -/
def portI (b : Bool) : Int := if b then 443 else 80
/-- A path up to its last slash, with it. -/
def dirL (l : List UInt8) : List UInt8 := (l.reverse.dropWhile (· != 47)).reverse
/-- A byte that may stand in a path or a query. -/
def sendB (c : UInt8) : Bool := decide (97 ≤ c.toNat ∧ c.toNat ≤ 122) || decide (65 ≤ c.toNat ∧ c.toNat ≤ 90) || decide (48 ≤ c.toNat ∧ c.toNat ≤ 57) || [45, 46, 95, 126, 33, 36, 38, 39, 40, 41, 42, 43, 44, 59, 61, 58, 64, 37, 47, 63].contains c
def sendL (l : List UInt8) : Bool := l.all sendB
/-- What stands between slashes. -/
def splitL (d : UInt8) : List UInt8 → List (List UInt8)
  | [] => [[]]
  | c :: t => if c = d then [] :: splitL d t else match splitL d t with
    | [] => [[c]]
    | p :: r => (c :: p) :: r
def joinL (d : UInt8) : List (List UInt8) → List UInt8
  | [] => []
  | [p] => p
  | p :: r => p ++ d :: joinL d r
/-- One part behind others: a point is left out, two take the one ahead away; if it is the last one an empty part stands there. -/
def cleanStep (last : Bool) (acc : List (List UInt8)) (p : List UInt8) : List (List UInt8) :=
  if p = [46] then (if last then acc ++ [[]] else acc)
  else if p = [46, 46] then (if last then acc.dropLast ++ [[]] else acc.dropLast)
  else acc ++ [p]
def cleanParts (acc : List (List UInt8)) : List (List UInt8) → List (List UInt8)
  | [] => acc
  | p :: r => cleanParts (cleanStep r.isEmpty acc p) r
def bodyL (s : List UInt8) : List UInt8 := match s with
  | 47 :: t => t
  | _ => s
def cleanL (s : List UInt8) : List UInt8 := 47 :: joinL 47 (cleanParts [] (splitL 47 (bodyL s)))
theorem clean_one : cleanL [47, 97, 47, 46, 47, 98, 47, 46, 46] = [47, 97, 47] := by decide
theorem clean_two : cleanL [46, 46, 47, 120] = [47, 120] := by decide
theorem clean_empty : cleanL [] = [47] := by decide
theorem host_one : hostL [97, 46, 116, 45, 49] = true := by decide
theorem host_two : hostL [97, 46] = false := by decide
end Go.Proofs.YthoblggjhdnlpaaGreatDoor

/- Clean is clean; a path's directory is its own: over lists of bytes. -/
namespace Go.Proofs.YthoblggjhdnlpaaGreatDoor

theorem splitL_ne (d : UInt8) : ∀ l, splitL d l ≠ []
  | [] => by simp [splitL]
  | c :: t => by
    unfold splitL
    split
    · simp
    · split <;> simp
theorem splitL_no (d : UInt8) : ∀ l, ∀ p ∈ splitL d l, d ∉ p
  | [], p, h => by
    simp [splitL] at h
    simp [h]
  | c :: t, p, h => by
    have ih := splitL_no d t
    unfold splitL at h
    split at h
    · rcases List.mem_cons.1 h with h | h
      · simp [h]
      · exact ih p h
    · rename_i hc
      split at h
      · simp at h
        subst h
        simp
        exact fun e => hc e.symm
      · rename_i q r hq
        rcases List.mem_cons.1 h with h | h
        · subst h
          have := ih q (by rw [hq]; simp)
          simp
          exact ⟨fun e => hc e.symm, this⟩
        · exact ih p (by rw [hq]; simp [h])
theorem splitL_part (d : UInt8) (p : List UInt8) (h : d ∉ p) : splitL d p = [p] := by
  induction p with
  | nil => rfl
  | cons c t ih =>
    have h1 : c ≠ d := fun e => h (by simp [e])
    have h2 : d ∉ t := fun e => h (by simp [e])
    unfold splitL
    rw [if_neg h1, ih h2]
theorem splitL_more (d : UInt8) (p t : List UInt8) (h : d ∉ p) : splitL d (p ++ d :: t) = p :: splitL d t := by
  induction p with
  | nil => simp [splitL]
  | cons c r ih =>
    have h1 : c ≠ d := fun e => h (by simp [e])
    have h2 : d ∉ r := fun e => h (by simp [e])
    rw [List.cons_append, splitL, if_neg h1, ih h2]
theorem splitL_joinL (d : UInt8) : ∀ ps : List (List UInt8), ps ≠ [] → (∀ p ∈ ps, d ∉ p) → splitL d (joinL d ps) = ps
  | [], h, _ => absurd rfl h
  | [p], _, h => splitL_part d p (h p (by simp))
  | p :: q :: r, _, h => by
    rw [joinL, splitL_more d p _ (h p (by simp)), splitL_joinL d (q :: r) (by simp) (fun x hx => h x (by simp [hx]))]
    simp
def plainP (p : List UInt8) : Prop := p ≠ [46] ∧ p ≠ [46, 46] ∧ (47 : UInt8) ∉ p
theorem cleanStep_plain (last : Bool) (acc : List (List UInt8)) (p : List UInt8) (ha : ∀ q ∈ acc, plainP q) (hp : (47 : UInt8) ∉ p) : ∀ q ∈ cleanStep last acc p, plainP q := by
  have hd : ∀ q ∈ acc.dropLast, plainP q := fun q hq => ha q ((List.dropLast_sublist acc).subset hq)
  have he : plainP [] := ⟨by simp, by simp, by simp⟩
  intro q hq
  unfold cleanStep at hq
  split at hq
  · split at hq
    · rcases List.mem_append.1 hq with h | h
      · exact ha q h
      · simp at h
        rw [h]
        exact he
    · exact ha q hq
  split at hq
  · split at hq
    · rcases List.mem_append.1 hq with h | h
      · exact hd q h
      · simp at h
        rw [h]
        exact he
    · exact hd q hq
  · rename_i h1 h2
    rcases List.mem_append.1 hq with h | h
    · exact ha q h
    · simp at h
      rw [h]
      exact ⟨h1, h2, hp⟩
theorem cleanParts_plain : ∀ (ps acc : List (List UInt8)), (∀ q ∈ acc, plainP q) → (∀ p ∈ ps, (47 : UInt8) ∉ p) → ∀ q ∈ cleanParts acc ps, plainP q
  | [], acc, ha, _, q, hq => ha q hq
  | p :: r, acc, ha, hp, q, hq => cleanParts_plain r _ (cleanStep_plain _ acc p ha (hp p (by simp))) (fun x hx => hp x (by simp [hx])) q hq
theorem cleanParts_ne : ∀ (ps acc : List (List UInt8)), ps ≠ [] → cleanParts acc ps ≠ []
  | [], _, h => absurd rfl h
  | [p], acc, _ => by
    simp only [cleanParts, List.isEmpty_nil]
    unfold cleanStep
    split
    · simp
    split
    · simp
    · simp
  | p :: q :: r, acc, _ => cleanParts_ne (q :: r) _ (by simp)
theorem cleanParts_same : ∀ (ps acc : List (List UInt8)), (∀ p ∈ ps, plainP p) → cleanParts acc ps = acc ++ ps
  | [], acc, _ => by simp [cleanParts]
  | p :: r, acc, h => by
    have hp := h p (by simp)
    rw [cleanParts, cleanStep, if_neg hp.1, if_neg hp.2.1, cleanParts_same r _ (fun x hx => h x (by simp [hx]))]
    simp
/-- The parts of a clean path. -/
theorem cleanL_parts (s : List UInt8) : ∃ ps, ps ≠ [] ∧ (∀ p ∈ ps, plainP p) ∧ cleanL s = 47 :: joinL 47 ps ∧ splitL 47 (cleanL s) = [] :: ps := by
  have h1 := cleanParts_plain (splitL 47 (bodyL s)) [] (by simp) (splitL_no 47 _)
  have h2 := cleanParts_ne (splitL 47 (bodyL s)) [] (splitL_ne 47 _)
  refine ⟨cleanParts [] (splitL 47 (bodyL s)), h2, h1, rfl, ?_⟩
  rw [cleanL, splitL, if_pos rfl, splitL_joinL 47 _ h2 (fun p hp => (h1 p hp).2.2)]
theorem cleanL_twice (s : List UInt8) : cleanL (cleanL s) = cleanL s := by
  obtain ⟨ps, hn, hp, hc, _⟩ := cleanL_parts s
  have e : cleanL (47 :: joinL 47 ps) = 47 :: joinL 47 (cleanParts [] (splitL 47 (joinL 47 ps))) := rfl
  rw [hc, e, splitL_joinL 47 ps hn (fun p h => (hp p h).2.2), cleanParts_same ps [] hp]
  simp
theorem dirL_prefix (l : List UInt8) : dirL l <+: l := by
  unfold dirL
  have h := List.dropWhile_suffix (l := l.reverse) (fun c : UInt8 => c != 47)
  have := List.reverse_prefix.2 h
  simpa using this
theorem dirL_twice (l : List UInt8) : dirL (dirL l) = dirL l := by
  unfold dirL
  rw [List.reverse_reverse]
  congr 1
  generalize l.reverse = r
  induction r with
  | nil => rfl
  | cons c t ih =>
    rw [List.dropWhile_cons]
    split
    · exact ih
    · rename_i h
      rw [List.dropWhile_cons, if_neg h]
end Go.Proofs.YthoblggjhdnlpaaGreatDoor

/- What the document says of words, texts between marks and lists, among themselves. -/
namespace Go.Proofs.YthoblggjhdnlpaaGreatDoor

theorem text_34 : textB 34 = true := by decide
theorem text_92 : textB 92 = true := by decide
theorem unq_esc (s more : List UInt8) (h : s.all textB = true) : unqL false (escL s ++ 34 :: more) = some (s, (escL s).length + 1) := by
  induction s with
  | nil => simp [escL, unqL, text_34]
  | cons c t ih =>
    rw [List.all_cons, Bool.and_eq_true] at h
    have ih := ih h.2
    rw [escL]
    split
    · rename_i hc
      simp only [List.cons_append]
      have e : unqL true (c :: (escL t ++ 34 :: more)) = some (c :: t, (escL t).length + 1 + 1) := by
        rw [unqL, ih]
        simp [h.1]
      rw [unqL, e]
      simp [text_92]
    · rename_i hc
      simp only [List.cons_append]
      rw [unqL, ih]
      have h1 : c ≠ 34 := fun e => hc (.inl e)
      have h2 : c ≠ 92 := fun e => hc (.inr e)
      simp [h.1, h1, h2]
theorem quoted_quote (s more : List UInt8) (h : s.all textB = true) : quotedL (quoteL s ++ more) = some (s, (quoteL s).length) := by
  unfold quoteL
  simp only [List.cons_append, List.append_assoc, List.nil_append]
  rw [quotedL, unq_esc s more h]
  simp
theorem unq_size : ∀ (l : List UInt8) (e : Bool) (t : List UInt8) (n : Nat), unqL e l = some (t, n) → t.length + 1 ≤ n ∧ n ≤ l.length
  | [], e, t, n, h => by simp [unqL] at h
  | c :: r, e, t, n, h => by
    rw [unqL] at h
    split at h
    · cases h
    · split at h
      · obtain ⟨⟨a, b⟩, h1, h2⟩ := Option.map_eq_some_iff.1 h
        have := unq_size r _ _ _ h1
        simp only [Prod.mk.injEq] at h2
        obtain ⟨rfl, rfl⟩ := h2
        simp
        omega
      · split at h
        · cases h
          simp
        · split at h
          · obtain ⟨⟨a, b⟩, h1, h2⟩ := Option.map_eq_some_iff.1 h
            have := unq_size r _ _ _ h1
            simp only [Prod.mk.injEq] at h2
            obtain ⟨rfl, rfl⟩ := h2
            simp
            omega
          · obtain ⟨⟨a, b⟩, h1, h2⟩ := Option.map_eq_some_iff.1 h
            have := unq_size r _ _ _ h1
            simp only [Prod.mk.injEq] at h2
            obtain ⟨rfl, rfl⟩ := h2
            simp
            omega
theorem quoted_size (l t : List UInt8) (n : Nat) (h : quotedL l = some (t, n)) : t.length + 2 ≤ n ∧ n ≤ l.length := by
  cases l with
  | nil => cases h
  | cons c r =>
    rw [quotedL] at h
    split at h
    · obtain ⟨⟨a, b⟩, h1, h2⟩ := Option.map_eq_some_iff.1 h
      have := unq_size r _ _ _ h1
      simp only [Prod.mk.injEq] at h2
      obtain ⟨rfl, rfl⟩ := h2
      simp
      omega
    · cases h
/-- A value, and what stands behind it, is read as what it is. -/
theorem value_word (s v more : List UInt8) (hm : ∀ c t, more = c :: t → tokB c = false) (h : valueO s = some v) :
    (isL s = true ∧ v = s ∧ (v ++ more).takeWhile tokB = s) ∨ (isL s = false ∧ (v ++ more).takeWhile tokB = [] ∧ quotedL (v ++ more) = some (s, v.length)) := by
  have hmore : more.takeWhile tokB = [] := by
    cases more with
    | nil => rfl
    | cons c t => rw [List.takeWhile_cons, hm c t rfl]; rfl
  unfold valueO at h
  split at h
  · rename_i hs
    cases h
    refine .inl ⟨hs, rfl, ?_⟩
    unfold isL at hs
    rw [Bool.and_eq_true] at hs
    rw [List.takeWhile_append_of_pos (by simpa [List.all_eq_true] using hs.2), hmore, List.append_nil]
  · rename_i hs
    unfold quoteO at h
    split at h
    · rename_i ht
      cases h
      refine .inr ⟨by simpa using hs, ?_, quoted_quote s more ht⟩
      unfold quoteL
      rw [List.cons_append, List.takeWhile_cons, show tokB 34 = false by decide]
      rfl
    · cases h

theorem dw_comma (f : UInt8 → Bool) (hf : f 44 = false) (p t : List UInt8) : (p ++ 44 :: t).dropWhile f = p.dropWhile f ++ 44 :: t := by
  induction p with
  | nil => simp [hf]
  | cons c r ih =>
    by_cases h : f c = true
    · simp [h, ih]
    · simp [h]
theorem tw_comma (f : UInt8 → Bool) (hf : f 44 = false) (p t : List UInt8) : (p ++ 44 :: t).takeWhile f = p.takeWhile f := by
  induction p with
  | nil => simp [hf]
  | cons c r ih =>
    by_cases h : f c = true
    · simp [h, ih]
    · simp [h]
theorem wordP_comma (p t : List UInt8) : wordP (p ++ 44 :: t) = wordP p := by
  unfold wordP
  rw [dw_comma _ blank_not_comma, tw_comma _ tok_not_comma]
theorem restP_comma (p t : List UInt8) : restP (p ++ 44 :: t) = restP p ++ 44 :: t := by
  unfold restP
  rw [dw_comma _ blank_not_comma, dw_comma _ tok_not_comma, dw_comma _ blank_not_comma]
theorem restP_suffix (p : List UInt8) : restP p <:+ p := by
  unfold restP
  exact (List.dropWhile_suffix _).trans ((List.dropWhile_suffix _).trans (List.dropWhile_suffix _))
theorem cut_at (l : List UInt8) : 44 ∈ l → ∃ p t, l = p ++ 44 :: t ∧ 44 ∉ p := by
  induction l with
  | nil => intro h; cases h
  | cons c r ih =>
    intro h
    by_cases hc : c = 44
    · exact ⟨[], r, by rw [hc]; rfl, by simp⟩
    · obtain ⟨p, t, e, hp⟩ := ih (by simpa [Ne.symm hc] using h)
      exact ⟨c :: p, t, by rw [e]; rfl, by simp [hp, Ne.symm hc]⟩
theorem split_cases (l : List UInt8) : (44 ∉ l ∧ splitL 44 l = [l]) ∨ ∃ p t, l = p ++ 44 :: t ∧ 44 ∉ p ∧ splitL 44 l = p :: splitL 44 t := by
  by_cases h : 44 ∈ l
  · obtain ⟨p, t, rfl, hp⟩ := cut_at l h
    exact .inr ⟨p, t, rfl, hp, splitL_more 44 p t hp⟩
  · exact .inl ⟨h, splitL_part 44 l h⟩
theorem list_end (k : Nat) (l : List UInt8) (h : restP l = []) : listP k (splitL 44 l) = .ok (consW (wordP l) []) := by
  rcases split_cases l with ⟨_, e⟩ | ⟨p, t, rfl, _, _⟩
  · rw [e, listP, if_pos h, listP]
    rfl
  · rw [restP_comma] at h
    simp at h
theorem list_more (k : Nat) (l t : List UInt8) (h : restP l = 44 :: t) : listP k (splitL 44 l) = (listP (k + (l.length - t.length)) (splitL 44 t)).map (consW (wordP l)) := by
  rcases split_cases l with ⟨hn, e⟩ | ⟨p, t', rfl, hn, e⟩
  · exact absurd ((restP_suffix l).mem (by rw [h]; simp)) hn
  · rw [restP_comma] at h
    cases hr : restP p with
    | nil =>
      rw [hr] at h
      simp only [List.nil_append, List.cons.injEq, true_and] at h
      subst h
      rw [e, listP, if_pos hr, wordP_comma]
      congr 2
      simp
      omega
    | cons c r =>
      rw [hr] at h
      simp only [List.cons_append, List.cons.injEq] at h
      exact absurd ((restP_suffix p).mem (by rw [hr, h.1]; simp)) hn
theorem list_bad (k : Nat) (l t : List UInt8) (c : UInt8) (h : restP l = c :: t) (hc : c ≠ 44) : listP k (splitL 44 l) = .error (k + (l.length - (restP l).length)) := by
  rcases split_cases l with ⟨hn, e⟩ | ⟨p, t', rfl, hn, e⟩
  · rw [e, listP, if_neg (by rw [h]; simp)]
  · rw [restP_comma] at h
    cases hr : restP p with
    | nil =>
      rw [hr] at h
      simp only [List.nil_append, List.cons.injEq] at h
      exact absurd h.1.symm hc
    | cons c' r =>
      rw [e, listP, if_neg (by rw [hr]; simp), restP_comma]
      congr 2
      simp
      omega
/-- All parts hold a word or nothing. -/
def okP (P : List (List UInt8)) : Prop := ∀ p ∈ P, restP p = []
def wordsP : List (List UInt8) → List (List UInt8)
  | [] => []
  | p :: r => consW (wordP p) (wordsP r)
theorem wordsP_append (a b : List (List UInt8)) : wordsP (a ++ b) = wordsP a ++ wordsP b := by
  induction a with
  | nil => rfl
  | cons p r ih =>
    rw [List.cons_append, wordsP, wordsP, ih]
    unfold consW
    split <;> rfl
theorem listP_ok (P : List (List UInt8)) : ∀ (k : Nat) (x : List (List UInt8)), listP k P = .ok x ↔ okP P ∧ x = wordsP P := by
  induction P with
  | nil =>
    intro k x
    rw [listP, wordsP]
    constructor
    · intro h
      refine ⟨fun p hp => ?_, ?_⟩
      · cases hp
      · cases h
        rfl
    · intro h
      rw [h.2]
  | cons p r ih =>
    intro k x
    rw [listP, wordsP]
    by_cases h : restP p = []
    · rw [if_pos h]
      cases e : listP (k + p.length + 1) r with
      | error n =>
        refine ⟨fun hh => (by cases hh), fun hh => ?_⟩
        have := (ih (k + p.length + 1) (wordsP r)).2 ⟨fun q hq => hh.1 q (by simp [hq]), rfl⟩
        rw [e] at this
        cases this
      | ok y =>
        have := (ih _ _).1 e
        refine ⟨fun hh => ⟨fun q hq => ?_, ?_⟩, fun hh => ?_⟩
        · rcases List.mem_cons.1 hq with rfl | hq
          · exact h
          · exact this.1 q hq
        · rw [← this.2]
          have : Except.ok (consW (wordP p) y) = Except.ok (ε := Nat) x := hh
          exact (Except.ok.inj this).symm
        · rw [hh.2, ← this.2]
          rfl
    · rw [if_neg h]
      exact ⟨fun hh => (by cases hh), fun hh => absurd (hh.1 p (by simp)) h⟩
def OkL (l : List UInt8) (x : List (List UInt8)) : Prop := okP (splitL 44 l) ∧ x = wordsP (splitL 44 l)
theorem okL_comma {a b : List UInt8} {x y : List (List UInt8)} (ha : OkL a x) (hb : OkL b y) : OkL (a ++ 44 :: b) (x ++ y) := by
  have e : splitL 44 (a ++ 44 :: b) = splitL 44 a ++ splitL 44 b := by
    clear ha hb
    induction a with
    | nil => simp [splitL]
    | cons c r ih =>
      rw [List.cons_append, splitL, splitL]
      by_cases hc : c = 44
      · rw [if_pos hc, if_pos hc, ih]
        rfl
      · rw [if_neg hc, if_neg hc, ih]
        cases e : splitL 44 r with
        | nil => exact absurd e (splitL_ne 44 r)
        | cons p q => rfl
  refine ⟨?_, ?_⟩
  · rw [e]
    intro p hp
    rcases List.mem_append.1 hp with hp | hp
    · exact ha.1 p hp
    · exact hb.1 p hp
  · rw [e, wordsP_append, ← ha.2, ← hb.2]
theorem okL_front {b : List UInt8} {y : List (List UInt8)} (c : UInt8) (hc : blankB c = true) (hb : OkL b y) : OkL (c :: b) y := by
  have hne : c ≠ 44 := by
    rintro rfl
    cases hc
  obtain ⟨p, r, e⟩ : ∃ p r, splitL 44 b = p :: r := by
    cases e : splitL 44 b with
    | nil => exact absurd e (splitL_ne 44 b)
    | cons p r => exact ⟨p, r, rfl⟩
  unfold OkL at *
  rw [splitL, if_neg hne, e]
  rw [e] at hb
  have h1 : restP (c :: p) = restP p := by
    unfold restP
    rw [List.dropWhile_cons, if_pos hc]
  have h2 : wordP (c :: p) = wordP p := by
    unfold wordP
    rw [List.dropWhile_cons, if_pos hc]
  dsimp only
  rw [wordsP, h2]
  refine ⟨fun q hq => ?_, hb.2⟩
  rcases List.mem_cons.1 hq with rfl | hq
  · rw [h1]
    exact hb.1 p (by simp)
  · exact hb.1 q (by simp [hq])
theorem dw_nil (f : UInt8 → Bool) (p : List UInt8) : p.dropWhile f = [] ↔ p.all f = true := by
  induction p with
  | nil => simp
  | cons c r ih =>
    by_cases h : f c = true
    · simp [h, ih]
    · simp [h]
theorem dw_snoc (f : UInt8 → Bool) (p : List UInt8) (c : UInt8) : (p ++ [c]).dropWhile f = if p.dropWhile f = [] then [c].dropWhile f else p.dropWhile f ++ [c] := by
  induction p with
  | nil => simp
  | cons d r ih =>
    by_cases h : f d = true
    · simp only [List.cons_append, List.dropWhile_cons, h, if_true, ih]
    · simp [h]
theorem tw_snoc (f : UInt8 → Bool) (p : List UInt8) (c : UInt8) (hc : f c = false) : (p ++ [c]).takeWhile f = p.takeWhile f := by
  induction p with
  | nil => simp [hc]
  | cons d r ih =>
    by_cases h : f d = true
    · simp [h, ih]
    · simp [h]
theorem part_back (p : List UInt8) (c : UInt8) (hc : blankB c = true) (h : restP p = []) : restP (p ++ [c]) = [] ∧ wordP (p ++ [c]) = wordP p := by
  have ht : tokB c = false := by
    unfold blankB at hc
    rcases Bool.or_eq_true _ _ ▸ hc with h | h
    · rw [eq_of_beq h]; decide
    · rw [eq_of_beq h]; decide
  have h1 : [c].dropWhile blankB = [] := by simp [hc]
  have h2 : [c].dropWhile tokB = [c] := by simp [ht]
  unfold restP wordP at *
  rw [dw_snoc blankB p c]
  by_cases h3 : p.dropWhile blankB = []
  · rw [if_pos h3, h1, h3]
    exact ⟨rfl, rfl⟩
  · rw [if_neg h3, tw_snoc _ _ _ ht, dw_snoc]
    refine ⟨?_, rfl⟩
    by_cases h4 : (p.dropWhile blankB).dropWhile tokB = []
    · rw [if_pos h4, h2, h1]
    · rw [if_neg h4, dw_snoc, if_pos h, h1]
theorem okL_back : ∀ (n : Nat) (a : List UInt8) (x : List (List UInt8)) (c : UInt8), a.length ≤ n → blankB c = true → OkL a x → OkL (a ++ [c]) x
  | n, a, x, c, hn, hc, ha => by
    have hne : c ≠ 44 := by
      rintro rfl
      cases hc
    rcases split_cases a with ⟨h, e⟩ | ⟨p, t, rfl, h, e⟩
    · unfold OkL at *
      rw [e] at ha
      rw [splitL_part 44 (a ++ [c]) (by simp [h, Ne.symm hne])]
      have := part_back a c hc (ha.1 a (by simp))
      refine ⟨fun q hq => ?_, ?_⟩
      · rw [List.mem_singleton.1 hq]
        exact this.1
      · rw [ha.2]
        simp only [wordsP, this.2]
    · cases n with
      | zero => simp at hn
      | succ n =>
        unfold OkL at ha
        rw [e] at ha
        have ht : OkL t (wordsP (splitL 44 t)) := ⟨fun q hq => ha.1 q (by simp [hq]), rfl⟩
        have := okL_back n t _ c (by simp at hn; omega) hc ht
        unfold OkL
        rw [List.append_assoc, List.cons_append, splitL_more 44 p _ h]
        refine ⟨fun q hq => ?_, ?_⟩
        · rcases List.mem_cons.1 hq with rfl | hq
          · exact ha.1 q (by simp)
          · exact this.1 q hq
        · rw [ha.2, wordsP, wordsP, ← this.2]
theorem okL_nil : OkL [] [] := by
  refine ⟨fun p hp => ?_, rfl⟩
  have : p = [] := by simpa [splitL] using hp
  rw [this]
  rfl
/-- Blank, comma, tab between two lists, once or more. -/
def gapsL : Nat → List UInt8
  | 0 => []
  | n + 1 => 32 :: 44 :: 9 :: gapsL n
theorem okL_gaps {b : List UInt8} {y : List (List UInt8)} (hb : OkL b y) : ∀ (n : Nat) (a : List UInt8) (x : List (List UInt8)), OkL a x → OkL (a ++ gapsL (n + 1) ++ b) (x ++ y)
  | 0, a, x, ha => by
    have := okL_comma (okL_back _ a x 32 (Nat.le_refl _) rfl ha) (okL_front 9 rfl hb)
    simpa [gapsL] using this
  | n + 1, a, x, ha => by
    have h0 : OkL [] [] := okL_nil
    have h1 := okL_gaps hb n [9] [] (okL_front 9 rfl h0)
    have := okL_comma (okL_back _ a x 32 (Nat.le_refl _) rfl ha) h1
    simpa [gapsL] using this
/-- Words with a comma and a blank between. -/
def joinC : List (List UInt8) → List UInt8
  | [] => []
  | [w] => w
  | w :: r => w ++ 44 :: 32 :: joinC r
theorem isL_word (w : List UInt8) (h : isL w = true) : w ≠ [] ∧ w.all tokB = true ∧ 44 ∉ w ∧ OkL w [w] := by
  unfold isL at h
  rw [Bool.and_eq_true] at h
  have h1 : w ≠ [] := by
    rintro rfl
    cases h.1
  have h2 : 44 ∉ w := by
    intro hm
    have := List.all_eq_true.1 h.2 44 hm
    cases this
  have hb : w.dropWhile blankB = w := by
    cases w with
    | nil => rfl
    | cons c t =>
      have hc := List.all_eq_true.1 h.2 c (by simp)
      have : blankB c = false := by
        unfold blankB
        rw [Bool.or_eq_false_iff]
        refine ⟨beq_eq_false_iff_ne.2 ?_, beq_eq_false_iff_ne.2 ?_⟩
        · rintro rfl
          cases hc
        · rintro rfl
          cases hc
      rw [List.dropWhile_cons, this]
      rfl
  have hd : w.dropWhile tokB = [] := (dw_nil _ _).2 h.2
  have ht : w.takeWhile tokB = w := by
    have := List.takeWhile_append_dropWhile (p := tokB) (l := w)
    rw [hd, List.append_nil] at this
    exact this
  refine ⟨h1, h.2, h2, ?_⟩
  unfold OkL
  rw [splitL_part 44 w h2]
  refine ⟨fun q hq => ?_, ?_⟩
  · rw [List.mem_singleton.1 hq]
    unfold restP
    rw [hb, hd]
    rfl
  · simp only [wordsP, wordP, hb, ht, consW]
    rw [if_neg h1]
theorem okL_join : ∀ l : List (List UInt8), (∀ w ∈ l, isL w = true) → OkL (joinC l) l
  | [], _ => okL_nil
  | [w], h => (isL_word w (h w (by simp))).2.2.2
  | w :: v :: r, h => by
    have ih := okL_join (v :: r) (fun x hx => h x (by simp [hx]))
    have hw := (isL_word w (h w (by simp))).2.2.2
    exact okL_comma hw (okL_front 32 rfl ih)
theorem words_are (P : List (List UInt8)) : ∀ w ∈ wordsP P, isL w = true := by
  induction P with
  | nil => intro w hw; cases hw
  | cons p r ih =>
    intro w hw
    rw [wordsP, consW] at hw
    split at hw
    · exact ih w hw
    · rename_i hne
      rcases List.mem_cons.1 hw with rfl | hw
      · unfold isL
        rw [Bool.and_eq_true]
        refine ⟨by simpa using hne, ?_⟩
        unfold wordP
        exact List.all_takeWhile
      · exact ih w hw
theorem okL_words {l : List UInt8} {x : List (List UInt8)} (h : OkL l x) : ∀ w ∈ x, isL w = true := by
  rw [h.2]
  exact words_are _
theorem okL_iff (l : List UInt8) (x : List (List UInt8)) : listP 0 (splitL 44 l) = .ok x ↔ OkL l x := listP_ok _ _ _
/-- One digit more; noughts ahead. -/
theorem sec_digit (s : List UInt8) (n : Nat) (c : UInt8) (hc : digB c = true) (h : secL s = some n) : secL (s ++ [c]) = some (min (10 * n + (c.toNat - 48)) 2147483648) := by
  unfold secL at *
  split at h
  · cases h
  · rename_i hn
    cases h
    rw [if_neg, secN_snoc]
    · rfl
    · rintro (h1 | h1)
      · simp at h1
      · apply hn
        right
        rw [List.all_append] at h1
        simpa [hc] using h1
theorem sec_noughts (s : List UInt8) (n k : Nat) (h : secL s = some n) : secL (List.replicate k 48 ++ s) = some n := by
  induction k with
  | zero => exact h
  | succ k ih =>
    rw [List.replicate_succ, List.cons_append]
    unfold secL at *
    split at ih
    · cases ih
    · rename_i hn
      cases ih
      rw [if_neg]
      · rfl
      · rintro (h1 | h1)
        · cases h1
        · apply hn
          right
          rw [List.all_cons] at h1
          simpa [show digB 48 = true by decide] using h1
end Go.Proofs.YthoblggjhdnlpaaGreatDoor

/- A part of a list, trimmed: what it has to do with its word and with what stands behind it. -/
namespace Go.Proofs.YthoblggjhdnlpaaGreatDoor

def trimW (p : List UInt8) : List UInt8 := ((p.dropWhile blankB).reverse.dropWhile blankB).reverse
theorem set_blank : (fun c : UInt8 => ([32, 9] : List UInt8).contains c) = blankB := by
  funext c
  unfold blankB
  simp
  rfl
/-- What stands ahead of the blanks at the end. -/
theorem trim_split (a : List UInt8) : ∃ br : List UInt8, a = (a.reverse.dropWhile blankB).reverse ++ br ∧ br.all blankB = true := by
  refine ⟨(a.reverse.takeWhile blankB).reverse, ?_, ?_⟩
  · rw [← List.reverse_append, List.takeWhile_append_dropWhile, List.reverse_reverse]
  · rw [List.all_reverse]
    exact List.all_takeWhile
theorem last_not (a : List UInt8) (h : (a.reverse.dropWhile blankB).reverse ≠ []) : ∃ (i : List UInt8) (c : UInt8), (a.reverse.dropWhile blankB).reverse = i ++ [c] ∧ blankB c = false := by
  cases e : a.reverse.dropWhile blankB with
  | nil => rw [e] at h; exact absurd rfl h
  | cons c t =>
    refine ⟨t.reverse, c, by simp, ?_⟩
    have := List.head_dropWhile_not (p := blankB) (l := a.reverse) (by rw [e]; simp)
    simp only [e, List.head_cons] at this
    simpa using this
theorem first_not (p : List UInt8) (c : UInt8) (t : List UInt8) (h : p.dropWhile blankB = c :: t) : blankB c = false := by
  have := List.head_dropWhile_not (p := blankB) (l := p) (by rw [h]; simp)
  simp only [h, List.head_cons] at this
  simpa using this
theorem dw_all (f : UInt8 → Bool) (l r : List UInt8) (h : l.all f = true) : (l ++ r).dropWhile f = r.dropWhile f := by
  induction l with
  | nil => rfl
  | cons c t ih =>
    rw [List.all_cons, Bool.and_eq_true] at h
    rw [List.cons_append, List.dropWhile_cons, if_pos h.1, ih h.2]
theorem dw_part (f : UInt8 → Bool) (l r : List UInt8) (h : l.all f = false) : (l ++ r).dropWhile f = l.dropWhile f ++ r := by
  induction l with
  | nil => simp at h
  | cons c t ih =>
    by_cases hc : f c = true
    · rw [List.all_cons, hc, Bool.true_and] at h
      rw [List.cons_append, List.dropWhile_cons, if_pos hc, ih h, List.dropWhile_cons, if_pos hc]
    · rw [List.cons_append, List.dropWhile_cons, if_neg hc, List.dropWhile_cons, if_neg hc]
      rfl
theorem rdrop_part (l r : List UInt8) (h : r.all blankB = false) : ((l ++ r).reverse.dropWhile blankB).reverse = l ++ (r.reverse.dropWhile blankB).reverse := by
  rw [List.reverse_append, dw_part blankB _ _ (by rw [List.all_reverse]; exact h), List.reverse_append, List.reverse_reverse]
theorem trimS_is (p : List UInt8) : Lib.trimS p [32, 9] = trimW p := by
  unfold Lib.trimS Lib.trimRightS Lib.trimLeftS trimW
  rw [set_blank]
  have hp : p = p.takeWhile blankB ++ p.dropWhile blankB := List.takeWhile_append_dropWhile.symm
  cases hd : p.dropWhile blankB with
  | nil =>
    have ha : p.all blankB = true := (dw_nil _ _).1 hd
    have : p.reverse.dropWhile blankB = [] := (dw_nil _ _).2 (by rw [List.all_reverse]; exact ha)
    rw [this]
    rfl
  | cons c t =>
    have hc := first_not p c t hd
    have hna : (c :: t).all blankB = false := by rw [List.all_cons, hc]; rfl
    have e1 : (p.reverse.dropWhile blankB).reverse = p.takeWhile blankB ++ ((c :: t).reverse.dropWhile blankB).reverse := by
      conv => lhs; rw [hp, hd]
      exact rdrop_part _ _ hna
    obtain ⟨br, e, hb⟩ := trim_split (c :: t)
    rw [e1, dw_all blankB _ _ List.all_takeWhile]
    cases hr : ((c :: t).reverse.dropWhile blankB).reverse with
    | nil =>
      rw [hr, List.nil_append] at e
      rw [← e, hna] at hb
      cases hb
    | cons d u =>
      rw [hr, List.cons_append, List.cons.injEq] at e
      rw [List.dropWhile_cons, ← e.1, hc]
      rfl
theorem tw_all (f : UInt8 → Bool) (l r : List UInt8) (h : l.all f = true) (hr : r.takeWhile f = []) : (l ++ r).takeWhile f = l := by
  rw [List.takeWhile_append_of_pos (by simpa [List.all_eq_true] using h), hr, List.append_nil]
theorem blank_no_tok (c : UInt8) (h : blankB c = true) : tokB c = false := by
  unfold blankB at h
  rcases Bool.or_eq_true _ _ ▸ h with h | h
  · rw [eq_of_beq h]; decide
  · rw [eq_of_beq h]; decide
theorem tok_no_blank (c : UInt8) (h : tokB c = true) : blankB c = false := by
  cases e : blankB c
  · rfl
  · rw [blank_no_tok c e] at h; cases h
theorem tw_blank (br : List UInt8) (h : br.all blankB = true) : br.takeWhile tokB = [] := by
  cases br with
  | nil => rfl
  | cons c t =>
    rw [List.all_cons, Bool.and_eq_true] at h
    rw [List.takeWhile_cons, blank_no_tok c h.1]
    rfl
theorem dw_blank_tok (br : List UInt8) (h : br.all blankB = true) : br.dropWhile tokB = br := by
  cases br with
  | nil => rfl
  | cons c t =>
    rw [List.all_cons, Bool.and_eq_true] at h
    rw [List.dropWhile_cons, blank_no_tok c h.1]
    rfl
theorem part_none (p : List UInt8) (h : trimW p = []) : restP p = [] ∧ wordP p = [] := by
  obtain ⟨br, e, hb⟩ := trim_split (p.dropWhile blankB)
  have h1 : (p.dropWhile blankB).reverse.dropWhile blankB = [] := by
    have := congrArg List.reverse h
    unfold trimW at this
    simpa using this
  rw [h1] at e
  simp only [List.reverse_nil, List.nil_append] at e
  unfold restP wordP
  cases hc : p.dropWhile blankB with
  | nil => exact ⟨rfl, rfl⟩
  | cons c t =>
    have hn := first_not p c t hc
    rw [hc] at e
    rw [← e, List.all_cons, hn] at hb
    cases hb
theorem part_word (p : List UInt8) (h : isL (trimW p) = true) : restP p = [] ∧ wordP p = trimW p := by
  obtain ⟨br, e, hb⟩ := trim_split (p.dropWhile blankB)
  have e2 : p.dropWhile blankB = trimW p ++ br := e
  unfold isL at h
  rw [Bool.and_eq_true] at h
  unfold restP wordP
  rw [e2]
  refine ⟨?_, tw_all tokB _ _ h.2 (tw_blank br hb)⟩
  rw [dw_all tokB _ _ h.2, dw_blank_tok br hb]
  exact (dw_nil _ _).2 hb
/-- How many bytes of the trimmed part are a word and the blanks behind it. -/
def badN (w : List UInt8) : Nat := if runL tokB w = 0 then 0 else runL tokB w + runL blankB (w.drop (runL tokB w))
theorem trimIndex_at (bl w br : List UInt8) (hb : bl.all blankB = true) (c : UInt8) (t : List UInt8) (hw : w = c :: t) (hc : blankB c = false) : Lib.index (bl ++ w ++ br) w = bl.length := by
  induction bl with
  | nil =>
    subst hw
    show Lib.index (c :: (t ++ br)) (c :: t) = 0
    rw [Lib.index, if_pos]
    rw [List.isPrefixOf_iff_prefix]
    exact ⟨br, rfl⟩
  | cons d r ih =>
    rw [List.all_cons, Bool.and_eq_true] at hb
    have ih := ih hb.2
    show Lib.index (d :: (r ++ w ++ br)) w = _
    rw [Lib.index, if_neg, ih, if_neg]
    · simp
    · simp
    · intro hp
      rw [hw, List.isPrefixOf_iff_prefix] at hp
      obtain ⟨z, hz⟩ := hp
      have : c = d := by
        have := congrArg List.head? hz
        simpa using this
      rw [this, hb.1] at hc
      cases hc
theorem part_bad (p : List UInt8) (h0 : trimW p ≠ []) (h : isL (trimW p) = false) : restP p ≠ [] ∧ p.length - (restP p).length = runL blankB p + badN (trimW p) ∧ Lib.index p (trimW p) = runL blankB p := by
  obtain ⟨br, e, hb⟩ := trim_split (p.dropWhile blankB)
  have e2 : p.dropWhile blankB = trimW p ++ br := e
  obtain ⟨i, cl, el, hcl⟩ := last_not (p.dropWhile blankB) h0
  have el2 : trimW p = i ++ [cl] := el
  have hnt : (trimW p).all tokB = false := by
    unfold isL at h
    cases ht : (trimW p).all tokB
    · rfl
    · rw [ht, Bool.and_true] at h
      have : (trimW p).isEmpty = true := by simpa using h
      exact absurd (List.isEmpty_iff.1 this) h0
  obtain ⟨c, t, hct⟩ : ∃ c t, trimW p = c :: t := by
    cases hh : trimW p with
    | nil => exact absurd hh h0
    | cons c t => exact ⟨c, t, rfl⟩
  have hc : blankB c = false := first_not p c (t ++ br) (by rw [e2, hct]; rfl)
  have hpl : p.length = runL blankB p + ((trimW p).length + br.length) := by
    have h1 := drop_runL blankB p
    have h2 := congrArg List.length h1
    rw [List.length_drop, e2, List.length_append] at h2
    have := runL_le blankB p
    omega
  have hdr : (trimW p).dropWhile tokB = (trimW p).drop (runL tokB (trimW p)) := (drop_runL _ _).symm
  have hlt : runL tokB (trimW p) < (trimW p).length := by
    have h1 := runL_le tokB (trimW p)
    rcases Nat.lt_or_ge (runL tokB (trimW p)) (trimW p).length with h2 | h2
    · exact h2
    · have : runL tokB (trimW p) = (trimW p).length := by omega
      rw [(runL_all _ _).1 this] at hnt
      cases hnt
  have hnb : ((trimW p).drop (runL tokB (trimW p))).all blankB = false := by
    cases hx : ((trimW p).drop (runL tokB (trimW p))).all blankB
    · rfl
    · have hm : cl ∈ (trimW p).drop (runL tokB (trimW p)) := by
        rw [el2] at hlt ⊢
        rw [List.drop_append_of_le_length (by simp at hlt; omega)]
        simp
      have := List.all_eq_true.1 hx cl hm
      rw [hcl] at this
      cases this
  have hrest : restP p = (trimW p).drop (runL tokB (trimW p) + runL blankB ((trimW p).drop (runL tokB (trimW p)))) ++ br := by
    unfold restP
    rw [e2, dw_part tokB _ _ hnt, hdr, dw_part blankB _ _ hnb, ← drop_runL, List.drop_drop]
  have hn2 : runL blankB ((trimW p).drop (runL tokB (trimW p))) < ((trimW p).drop (runL tokB (trimW p))).length := by
    have h1 := runL_le blankB ((trimW p).drop (runL tokB (trimW p)))
    rcases Nat.lt_or_ge (runL blankB ((trimW p).drop (runL tokB (trimW p)))) ((trimW p).drop (runL tokB (trimW p))).length with h2 | h2
    · exact h2
    · rw [(runL_all _ _).1 (by omega)] at hnb
      cases hnb
  rw [List.length_drop] at hn2
  have hbad : badN (trimW p) = runL tokB (trimW p) + runL blankB ((trimW p).drop (runL tokB (trimW p))) := by
    unfold badN
    split
    · rename_i hz
      rw [hz, List.drop_zero, hct]
      have : runL blankB (c :: t) = 0 := by
        unfold runL
        rw [List.takeWhile_cons, hc]
        rfl
      rw [this]
    · rfl
  refine ⟨?_, ?_, ?_⟩
  · rw [hrest]
    intro hx
    have := congrArg List.length hx
    simp at this
    omega
  · rw [hrest, List.length_append, List.length_drop, hbad]
    omega
  · have hp : p = p.takeWhile blankB ++ trimW p ++ br := by
      rw [List.append_assoc, ← e2, List.takeWhile_append_dropWhile]
    have := trimIndex_at (p.takeWhile blankB) (trimW p) br List.all_takeWhile c t hct hc
    rw [← hp] at this
    rw [this]
    rfl
theorem part_size (d : UInt8) : ∀ (l : List UInt8) (p : List UInt8), p ∈ splitL d l → p.length ≤ l.length
  | [], p, h => by
    have : p = [] := by simpa [splitL] using h
    rw [this]
    exact Nat.le_refl _
  | c :: t, p, h => by
    rw [splitL] at h
    split at h
    · rcases List.mem_cons.1 h with rfl | h
      · simp
      · have := part_size d t p h
        simp
        omega
    · cases e : splitL d t with
      | nil =>
        rw [e] at h
        have : p = [c] := by simpa using h
        rw [this]
        simp
      | cons q r =>
        rw [e] at h
        rcases List.mem_cons.1 h with rfl | h
        · have := part_size d t q (by rw [e]; simp)
          simp
          omega
        · have := part_size d t p (by rw [e]; simp [h])
          simp
          omega
theorem trim_length (p : List UInt8) : (trimW p).length ≤ p.length := by
  unfold trimW
  rw [List.length_reverse]
  refine Nat.le_trans (List.dropWhile_sublist _).length_le ?_
  rw [List.length_reverse]
  exact (List.dropWhile_sublist _).length_le
end Go.Proofs.YthoblggjhdnlpaaGreatDoor
