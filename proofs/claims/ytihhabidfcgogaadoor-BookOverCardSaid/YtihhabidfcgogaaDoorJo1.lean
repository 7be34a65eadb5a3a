/- Texts of one claim, joined: each begins with what it proves. -/
import Derived.Test.YtihhabidfcgogaaDoorRows
import Derived.WalkKit
import Derived.WalkSpells
import Derived.ProofKit
import Derived.Lib.SlBytesRow
import Derived.Laws.IdiomStrings
import Derived.Deep.RegionHeld3
import Derived.Deep.AppendLies
import Derived.OwnWalk
import Derived.Deep.LoopGhost
import Derived.Deep.QuietTactic
import Derived.BigQuiet
import Derived.Maps.OwnOps
import Derived.Maps.OwnSet
import Derived.Maps.Views
import Derived.WideKeyEntry
import Derived.DeepKeys4
import Derived.Shelf.LaysM
import Derived.Shelf.Strconv.Clone
/- What every walk needs: texts as lists of bytes. -/
namespace Go.Proofs.YtihhabidfcgogaaDoor
open Go.RowKit

def bs (l : List UInt8) : ByteArray := ⟨l.toArray⟩
theorem bs_append (a b : List UInt8) : bs (a ++ b) = bs a ++ bs b := by
  apply ByteArray.ext
  simp [bs]
theorem bs_size (l : List UInt8) : (bs l).size = l.length := by simp [bs, ByteArray.size]
theorem bs_data (l : List UInt8) : (bs l).data.toList = l := by simp [bs]
theorem bs_self (s : ByteArray) : bs s.data.toList = s := by
  apply ByteArray.ext
  simp [bs]
theorem bs_inj {a b : List UInt8} (h : bs a = bs b) : a = b := by rw [← bs_data a, ← bs_data b, h]
theorem ret_str {a b : ByteArray} (h : a = b) : Ending.returned (.string a) = .returned (.string b) := by rw [h]
theorem str_eq {a b : ByteArray} (h : b = a) : Value.string a = .string b := by rw [h]
theorem take_snoc (s : ByteArray) (k : Nat) (h : k < s.size) : s.data.toList.take (k + 1) = s.data.toList.take k ++ [s[k]] := by
  rw [List.take_succ_eq_append_getElem (by simpa using h)]; rfl
theorem ofNat_back (n : Int) (h0 : 0 ≤ n) (h1 : n < 256) : ((UInt8.ofNat n.toNat).toNat : Int) = n := by
  simp only [UInt8.toNat_ofNat']
  omega

theorem own : ownKnob Tryd.prog.godebug = none := by kernel_rfl
end Go.Proofs.YtihhabidfcgogaaDoor

/- Words, texts between marks, lists and seconds as the document says them, over lists of bytes. -/
namespace Go.Proofs.YtihhabidfcgogaaDoor

def tsigns : List UInt8 := [33, 35, 36, 37, 38, 39, 42, 43, 45, 46, 94, 95, 124, 126, 96]
/-- A byte of a word. -/
def tokB (c : UInt8) : Bool := decide (97 ≤ c.toNat ∧ c.toNat ≤ 122) || decide (65 ≤ c.toNat ∧ c.toNat ≤ 90) || decide (48 ≤ c.toNat ∧ c.toNat ≤ 57) || tsigns.contains c
def blankB (c : UInt8) : Bool := c == 32 || c == 9
/-- A byte that may stand between marks. -/
def textB (c : UInt8) : Bool := c == 9 || (decide (32 ≤ c.toNat) && c != 127)
def digB (c : UInt8) : Bool := decide (48 ≤ c.toNat ∧ c.toNat ≤ 57)
/-- How many bytes of a kind stand at the beginning. -/
def runL (f : UInt8 → Bool) (l : List UInt8) : Nat := (l.takeWhile f).length
theorem runL_le (f : UInt8 → Bool) (l : List UInt8) : runL f l ≤ l.length := (List.takeWhile_sublist f).length_le
theorem runL_all (f : UInt8 → Bool) (l : List UInt8) : runL f l = l.length ↔ l.all f = true := by
  unfold runL
  induction l with
  | nil => simp
  | cons c t ih =>
    by_cases h : f c = true
    · simp only [List.takeWhile_cons, h, if_true, List.length_cons, Nat.add_right_cancel_iff, ih, List.all_cons, Bool.true_and]
    · simp [h]
theorem runL_stop (f : UInt8 → Bool) (l : List UInt8) (k : Nat) (hk : k < l.length) (h1 : (l.take k).all f = true) (h2 : f l[k] = false) : runL f l = k := by
  unfold runL
  have e : l = l.take k ++ l[k] :: l.drop (k + 1) := by
    rw [← List.drop_eq_getElem_cons hk, List.take_append_drop]
  conv => lhs; rw [e]
  rw [List.takeWhile_append_of_pos (by simpa [List.all_eq_true] using h1), List.takeWhile_cons, h2]
  simp
  omega
theorem take_runL (f : UInt8 → Bool) (l : List UInt8) : l.take (runL f l) = l.takeWhile f := by
  unfold runL
  induction l with
  | nil => rfl
  | cons c t ih =>
    by_cases h : f c = true
    · simp [h, ih]
    · simp [h]
theorem drop_runL (f : UInt8 → Bool) (l : List UInt8) : l.drop (runL f l) = l.dropWhile f := by
  unfold runL
  induction l with
  | nil => rfl
  | cons c t ih =>
    by_cases h : f c = true
    · simp [h, ih]
    · simp [h]
/-- A word: one byte at least. -/
def isL (l : List UInt8) : Bool := !l.isEmpty && l.all tokB
/-- Each mark, and each stroke, with a stroke ahead. -/
def escL : List UInt8 → List UInt8
  | [] => []
  | c :: t => if c = 34 ∨ c = 92 then 92 :: c :: escL t else c :: escL t
theorem escL_append (a b : List UInt8) : escL (a ++ b) = escL a ++ escL b := by
  induction a with
  | nil => rfl
  | cons c t ih =>
    rw [List.cons_append, escL, escL]
    split <;> rw [ih] <;> rfl
theorem escL_length (l : List UInt8) : (escL l).length ≤ 2 * l.length := by
  induction l with
  | nil => simp [escL]
  | cons c t ih =>
    rw [escL]
    split <;> simp <;> omega
def quoteL (l : List UInt8) : List UInt8 := 34 :: (escL l ++ [34])
def quoteO (l : List UInt8) : Option (List UInt8) := if l.all textB then some (quoteL l) else none
def valueO (l : List UInt8) : Option (List UInt8) := if isL l then some l else quoteO l
/-- What stands ahead of the closing mark, and how many bytes both take. -/
def unqL : Bool → List UInt8 → Option (List UInt8 × Nat)
  | _, [] => none
  | esc, c :: t =>
    if textB c = false then none
    else if esc then (unqL false t).map fun x => (c :: x.1, x.2 + 1)
    else if c = 34 then some ([], 1)
    else if c = 92 then (unqL true t).map fun x => (x.1, x.2 + 1)
    else (unqL false t).map fun x => (c :: x.1, x.2 + 1)
/-- The text between marks that begins a text, and how many bytes it has. -/
def quotedL : List UInt8 → Option (List UInt8 × Nat)
  | [] => none
  | c :: t => if c = 34 then (unqL false t).map fun x => (x.1, x.2 + 1) else none
/-- One part of a list: its word, and what stands behind it that should not. -/
def wordP (p : List UInt8) : List UInt8 := (p.dropWhile blankB).takeWhile tokB
def restP (p : List UInt8) : List UInt8 := ((p.dropWhile blankB).dropWhile tokB).dropWhile blankB
def consW (w : List UInt8) (l : List (List UInt8)) : List (List UInt8) := if w = [] then l else w :: l
/-- The words of a list's parts, or the place where something else stands. -/
def listP : Nat → List (List UInt8) → Except Nat (List (List UInt8))
  | _, [] => .ok []
  | k, p :: r => if restP p = [] then (listP (k + p.length + 1) r).map (consW (wordP p)) else .error (k + (p.length - (restP p).length))
def secStep (n : Nat) (c : UInt8) : Nat := min (10 * n + (c.toNat - 48)) 2147483648
def secN (n : Nat) (l : List UInt8) : Nat := l.foldl secStep n
/-- A number of seconds. -/
def secL (l : List UInt8) : Option Nat := if l = [] ∨ l.all digB = false then none else some (secN 0 l)
theorem secStep_le (n : Nat) (c : UInt8) : secStep n c ≤ 2147483648 := Nat.min_le_right _ _
theorem secN_le (n : Nat) (l : List UInt8) (h : n ≤ 2147483648) : secN n l ≤ 2147483648 := by
  unfold secN
  induction l generalizing n with
  | nil => exact h
  | cons c t ih => exact ih _ (secStep_le n c)
theorem secN_snoc (n : Nat) (l : List UInt8) (c : UInt8) : secN n (l ++ [c]) = secStep (secN n l) c := by simp [secN]
theorem tok_not_comma : tokB 44 = false := by decide
theorem blank_not_comma : blankB 44 = false := by decide
theorem tok_all : ∀ c : UInt8, tokB c = (decide (33 ≤ c.toNat ∧ c.toNat ≤ 126) && !([34, 40, 41, 44, 47, 58, 59, 60, 61, 62, 63, 64, 91, 92, 93, 123, 125] : List UInt8).contains c) := by
  intro c
  have : ∀ n : Fin 256, tokB (UInt8.ofNat n.1) = (decide (33 ≤ (UInt8.ofNat n.1).toNat ∧ (UInt8.ofNat n.1).toNat ≤ 126) && !([34, 40, 41, 44, 47, 58, 59, 60, 61, 62, 63, 64, 91, 92, 93, 123, 125] : List UInt8).contains (UInt8.ofNat n.1)) := by decide +kernel
  have h := this ⟨c.toNat, c.toNat_lt⟩
  simpa using h
end Go.Proofs.YtihhabidfcgogaaDoor

/- What a challenge is. -/
namespace Go.Proofs.YtihhabidfcgogaaDoor

abbrev Par := ByteArray × ByteArray
structure Chal where
  scheme : ByteArray
  token : ByteArray
  params : List Par
end Go.Proofs.YtihhabidfcgogaaDoor

/- What is answered, and a function value that is called. -/
namespace Go.Proofs.YtihhabidfcgogaaDoor
open Go.RowKit

theorem ret_bool {a b : Bool} (h : a = b) : Ending.returned (.bool a) = .returned (.bool b) := by rw [h]
theorem ret_i64 {a b : Int} (h : a = b) : Ending.returned (.int .i64 a) = .returned (.int .i64 b) := by rw [h]
theorem enters_at {K : Nat} {fn : Func} {c : Code} (hf : Tryd.prog.funcs[K]? = some fn) (hname : (fn.name == "runtime.NumGoroutine") = false) (hb : fn.body = some c) (args : Array Value) (w : World) :
    (callFunc K args).run Tryd.prog w = .ok (.enter K args) w := by
  have h1 : fn.name ≠ "runtime.NumGoroutine" := by simpa using hname
  simp [callFunc, hf, h1, hb]
end Go.Proofs.YtihhabidfcgogaaDoor

/- Passes, and rows of them. -/
namespace Go.Proofs.YtihhabidfcgogaaDoor
open Go.RowKit

structure PsV where
  fs : Bool
  fh : ByteArray
  fp : Int
  us : Bool
  uh : ByteArray
  up : Int
  pa : ByteArray
  qu : ByteArray
  wi : Bool
  me : ByteArray
  he : ByteArray
  un : Int
def PsV.vals (v : PsV) : List Value := [.bool v.fs, .string v.fh, .int .i64 v.fp, .bool v.us, .string v.uh, .int .i64 v.up, .string v.pa, .string v.qu, .bool v.wi, .string v.me, .string v.he, .int .i64 v.un]
/-- A row of passes that lies somewhere. -/
structure Pss (w : World) (a0 : Option Addr) (len b off : Nat) (ps : List PsV) : Prop where
  len_eq : ps.length = len
  lies : 0 < len → a0 = some ⟨b, off, none⟩ ∧ b < w.heap.size
  cells : ∀ (j : Nat) (v : PsV), ps[j]? = some v → ∀ (i : Nat) (u : Value), v.vals[i]? = some u → w.cell? ⟨b, off + j * 12 + i, none⟩ = some u
theorem Pss.below {w w' : World} {a0 : Option Addr} {len b off : Nat} {ps : List PsV} (h : Pss w a0 len b off ps) (hb : Below w.heap.size w w') : Pss w' a0 len b off ps := by
  refine ⟨h.len_eq, fun h0 => ⟨(h.lies h0).1, Nat.lt_of_lt_of_le (h.lies h0).2 hb.size⟩, fun j v hj i u hi => ?_⟩
  have := (List.getElem?_eq_some_iff.1 hj).1
  have hl := h.len_eq
  rw [hb.cell (p := ⟨b, off + j * 12 + i, none⟩) (h.lies (by omega)).2]
  exact h.cells j v hj i u hi
theorem Pss.all {w : World} {a0 : Option Addr} {len b off : Nat} {ps : List PsV} (h : Pss w a0 len b off ps) {j : Nat} {v : PsV} (hj : ps[j]? = some v) :
    w.cell? ⟨b, off + j * 12, none⟩ = some (.bool v.fs) ∧ w.cell? ⟨b, off + j * 12 + 1, none⟩ = some (.string v.fh) ∧ w.cell? ⟨b, off + j * 12 + 2, none⟩ = some (.int .i64 v.fp) ∧ w.cell? ⟨b, off + j * 12 + 3, none⟩ = some (.bool v.us) ∧ w.cell? ⟨b, off + j * 12 + 4, none⟩ = some (.string v.uh) ∧ w.cell? ⟨b, off + j * 12 + 5, none⟩ = some (.int .i64 v.up) ∧ w.cell? ⟨b, off + j * 12 + 6, none⟩ = some (.string v.pa) ∧ w.cell? ⟨b, off + j * 12 + 7, none⟩ = some (.string v.qu) ∧ w.cell? ⟨b, off + j * 12 + 8, none⟩ = some (.bool v.wi) ∧ w.cell? ⟨b, off + j * 12 + 9, none⟩ = some (.string v.me) ∧ w.cell? ⟨b, off + j * 12 + 10, none⟩ = some (.string v.he) ∧ w.cell? ⟨b, off + j * 12 + 11, none⟩ = some (.int .i64 v.un) :=
  ⟨h.cells j v hj 0 _ rfl, h.cells j v hj 1 _ rfl, h.cells j v hj 2 _ rfl, h.cells j v hj 3 _ rfl, h.cells j v hj 4 _ rfl, h.cells j v hj 5 _ rfl, h.cells j v hj 6 _ rfl, h.cells j v hj 7 _ rfl, h.cells j v hj 8 _ rfl, h.cells j v hj 9 _ rfl, h.cells j v hj 10 _ rfl, h.cells j v hj 11 _ rfl⟩
theorem pss_nil (w : World) : Pss w none 0 0 0 [] := ⟨rfl, fun h => absurd h (by omega), fun j v hj => by simp at hj⟩
theorem take_any {α : Type} {f : α → Bool} {l : List α} {k : Nat} {x : α} (h : (l.take k).any f = false) (hk : l[k]? = some x) (hx : f x = false) : (l.take (k + 1)).any f = false := by
  obtain ⟨hk1, e⟩ := List.getElem?_eq_some_iff.1 hk
  rw [List.take_succ_eq_append_getElem hk1, List.any_append, h, e]
  simp [hx]
theorem take_all {α : Type} {f : α → Bool} {l : List α} {k : Nat} {x : α} (h : (l.take k).all f = true) (hk : l[k]? = some x) (hx : f x = true) : (l.take (k + 1)).all f = true := by
  obtain ⟨hk1, e⟩ := List.getElem?_eq_some_iff.1 hk
  rw [List.take_succ_eq_append_getElem hk1, List.all_append, h, e]
  simp [hx]
theorem not_all {α : Type} {f : α → Bool} {l : List α} {k : Nat} {x : α} (hk : l[k]? = some x) (hx : f x = false) : l.all f = false :=
  List.all_eq_false.2 ⟨x, List.mem_of_getElem? hk, by rw [hx]; simp⟩
end Go.Proofs.YtihhabidfcgogaaDoor

/- Two origins, URLs, passes held against each other, whatever they are. -/
namespace Go.Proofs.YtihhabidfcgogaaDoor
open Go.RowKit

theorem text_eq (x y : ByteArray) : x = y ↔ x.toList = y.toList := by
  constructor
  · intro h; rw [h]
  · intro h
    rw [ByteArray.toList_eq, ByteArray.toList_eq] at h
    cases x; cases y
    simp only [ByteArray.mk.injEq]
    exact Array.toList_inj.1 h
theorem bool_of (P : Prop) : ∃ O : Bool, O = true ↔ P := ⟨@decide P (Classical.propDecidable P), by simp⟩
theorem eqOB (k : Nat) (a c : Bool) (x y : ByteArray) (n m : Int) (E : Bool) (hE : E = true ↔ (a = c ∧ x = y ∧ n = m)) (w : World) :
    (Op.equalIn (k + 2) 31 (.agg #[.bool a, .string x, .int .i64 n]) (.agg #[.bool c, .string y, .int .i64 m])).run Tryd.prog w = .ok E w := by
  have u3 := Tryd.underlying3
  have u4 := Tryd.underlying4
  have u9 := Tryd.underlying9
  have a3 := Tryd.isAgg3
  have z3 := Tryd.sizeOf3
  have hS : Tryd.prog.underlying 31 = some (.struct (Tryd.prog.fieldsOf 31)) := by kernel_rfl
  have hp : Tryd.prog.stoodInHeld 31 = false := by kernel_rfl
  rw [run_equalIn_agg w (k + 1) 31 _ _ hS hp]
  simp only [Program.fieldsOf, Tryd.underlying31]
  go_simp
  rw [text_eq] at hE
  clear u3 u4 u9 a3 z3 hS hp
  by_cases h1 : a = c <;> by_cases h2 : x.toList = y.toList <;> by_cases h3 : n = m <;> cases E <;> simp_all
theorem eqUB (k : Nat) (a c : Bool) (x y : ByteArray) (n m : Int) (p q s t : ByteArray) (E : Bool) (hE : E = true ↔ ((a = c ∧ x = y ∧ n = m) ∧ p = q ∧ s = t)) (w : World) :
    (Op.equalIn (k + 3) 33 (.agg #[.bool a, .string x, .int .i64 n, .string p, .string s]) (.agg #[.bool c, .string y, .int .i64 m, .string q, .string t])).run Tryd.prog w = .ok E w := by
  have u3 := Tryd.underlying3
  have u4 := Tryd.underlying4
  have u9 := Tryd.underlying9
  have a3 := Tryd.isAgg3
  have z3 := Tryd.sizeOf3
  have hS : Tryd.prog.underlying 33 = some (.struct (Tryd.prog.fieldsOf 33)) := by kernel_rfl
  have hp : Tryd.prog.stoodInHeld 33 = false := by kernel_rfl
  obtain ⟨O, hO⟩ : ∃ O : Bool, O = true ↔ (a = c ∧ x = y ∧ n = m) := bool_of _
  have eo := fun w => eqOB k a c x y n m O hO w
  rw [← hO] at hE
  rw [text_eq, text_eq] at hE
  clear hO
  rw [run_equalIn_agg w (k + 2) 33 _ _ hS hp]
  simp only [Program.fieldsOf, Tryd.underlying33]
  go_simp
  clear u3 u4 u9 a3 z3 hS hp eo
  by_cases h2 : p.toList = q.toList <;> by_cases h3 : s.toList = t.toList <;> cases O <;> cases E <;> simp_all
theorem eqPB (p q : PsV) (E : Bool) (hE : E = true ↔ p = q) (w : World) :
    (Op.equalIn 10000 35 (.agg #[.bool p.fs, .string p.fh, .int .i64 p.fp, .bool p.us, .string p.uh, .int .i64 p.up, .string p.pa, .string p.qu, .bool p.wi, .string p.me, .string p.he, .int .i64 p.un]) (.agg #[.bool q.fs, .string q.fh, .int .i64 q.fp, .bool q.us, .string q.uh, .int .i64 q.up, .string q.pa, .string q.qu, .bool q.wi, .string q.me, .string q.he, .int .i64 q.un])).run Tryd.prog w = .ok E w := by
  have u3 := Tryd.underlying3
  have u4 := Tryd.underlying4
  have u9 := Tryd.underlying9
  have a3 := Tryd.isAgg3
  have z3 := Tryd.sizeOf3
  have hS : Tryd.prog.underlying 35 = some (.struct (Tryd.prog.fieldsOf 35)) := by kernel_rfl
  have hp : Tryd.prog.stoodInHeld 35 = false := by kernel_rfl
  obtain ⟨O, hO⟩ : ∃ O : Bool, O = true ↔ (p.fs = q.fs ∧ p.fh = q.fh ∧ p.fp = q.fp) := bool_of _
  obtain ⟨U, hU⟩ : ∃ U : Bool, U = true ↔ ((p.us = q.us ∧ p.uh = q.uh ∧ p.up = q.up) ∧ p.pa = q.pa ∧ p.qu = q.qu) := bool_of _
  have eo := fun w => eqOB 9997 p.fs q.fs p.fh q.fh p.fp q.fp O hO w
  have eu := fun w => eqUB 9996 p.us q.us p.uh q.uh p.up q.up p.pa q.pa p.qu q.qu U hU w
  have hpq : p = q ↔ (O = true ∧ U = true ∧ p.wi = q.wi ∧ p.me.toList = q.me.toList ∧ p.he.toList = q.he.toList ∧ p.un = q.un) := by
    rw [hO, hU, ← text_eq, ← text_eq]
    constructor
    · intro h; subst h; simp
    · intro h
      cases p; cases q
      simp_all
  rw [hpq] at hE
  clear hpq hO hU
  rw [show (10000 : Nat) = 9999 + 1 from rfl, run_equalIn_agg w 9999 35 _ _ hS hp]
  simp only [Program.fieldsOf, Tryd.underlying35]
  go_simp
  clear u3 u4 u9 a3 z3 hS hp eo eu
  by_cases h1 : p.wi = q.wi <;> by_cases h2 : p.me.toList = q.me.toList <;> by_cases h3 : p.he.toList = q.he.toList <;> by_cases h4 : p.un = q.un <;> cases O <;> cases U <;> cases E <;> simp_all
end Go.Proofs.YtihhabidfcgogaaDoor

/- A request in a block of its own. -/
namespace Go.Proofs.YtihhabidfcgogaaDoor
open Go.RowKit

/-- A struct in the first block that a call makes. -/
structure BoxQ (T : TypeId) (w : World) (cs : Array Value) (W : World) : Prop where
  bel : Below w.heap.size w W
  row : W.heap[w.heap.size]? = some (.cells cs T (0, 0))
theorem BoxQ.new (T : TypeId) (w : World) (cs : Array Value) : BoxQ T w cs (w.alloc (.cells cs T)) := ⟨(Below.refl _ _).alloc (Nat.le_refl _) _, heap_alloc_new w _⟩
theorem BoxQ.step {T : TypeId} {w W W' : World} {cs : Array Value} (h : BoxQ T w cs W) (hb : Below W.heap.size W W') : BoxQ T w cs W' :=
  ⟨h.bel.trans (hb.mono h.bel.size), (hb.block _ (Array.getElem?_eq_some_iff.1 h.row).1).trans h.row⟩
theorem BoxQ.at {T : TypeId} {w W : World} {cs : Array Value} (h : BoxQ T w cs W) (j : Nat) (v : Value) (hj : cs[j]? = some v) : W.cell? ⟨w.heap.size, j, none⟩ = some v := by
  simp [World.cell?, h.row, hj]
theorem BoxQ.lt {T : TypeId} {w W : World} {cs : Array Value} (h : BoxQ T w cs W) : w.heap.size < W.heap.size := (Array.getElem?_eq_some_iff.1 h.row).1
theorem BoxQ.inB {T : TypeId} {w W W' : World} {cs : Array Value} (h : BoxQ T w cs W) (hb : Below W.heap.size W W') : Below w.heap.size w W' := h.bel.trans (hb.mono h.bel.size)
theorem lt_cell9 {W : World} {g i : Nat} {v : Value} (h : W.cell? ⟨g, i, none⟩ = some v) : g < W.heap.size := by
  rcases Nat.lt_or_ge g W.heap.size with h1 | h1
  · exact h1
  · simp [World.cell?, Array.getElem?_eq_none h1] at h
end Go.Proofs.YtihhabidfcgogaaDoor

/- New blocks: what they hold, and that nothing older has turned. -/
namespace Go.Proofs.YtihhabidfcgogaaDoor
open Go.RowKit

theorem cells_new (W : World) (cs : Array Value) (t : TypeId) (j : Nat) : (W.alloc (.cells cs t)).cell? ⟨W.heap.size, j, none⟩ = cs[j]? := World.cell?_alloc_mark _ _ _ _ _
theorem drewN_below {B : Nat} {a w : World} (h : Below B a w) (n : Nat) : Below B a (w.drewN n) := h.trans ⟨rfl, rfl, rfl, Nat.le_refl _, fun _ _ => rfl⟩
end Go.Proofs.YtihhabidfcgogaaDoor

/- Whether a pass stands in a row of passes, by the library's own functions. -/
namespace Go.Proofs.YtihhabidfcgogaaDoor
open Go.RowKit
set_option linter.unusedVariables false

/-- Whether it is the same pass. -/
noncomputable def isP (x y : PsV) : Bool := @decide (x = y) (Classical.propDecidable _)
theorem isP_self (x : PsV) : isP x x = true := by unfold isP; simp
set_option maxRecDepth 100000 in
set_option maxHeartbeats 4000000 in
theorem indexP_is (x : PsV) (l : List PsV) (a0 : Option Addr) (len cap b off : Nat) (hlen : len ≤ 1000000) (w : World) (hx : Pss w a0 len b off l) :
    Calls Tryd.prog 35 #[.slice a0 len cap, .agg #[.bool x.fs, .string x.fh, .int .i64 x.fp, .bool x.us, .string x.uh, .int .i64 x.up, .string x.pa, .string x.qu, .bool x.wi, .string x.me, .string x.he, .int .i64 x.un]] w fun e w' => (∃ r : Int, e = .returned (.int .i64 r) ∧ Hid (decide (0 ≤ r) = l.any (isP x))) ∧ Below w.heap.size w w' := by
  have HL : Hid (l.length = len) := hx.len_eq
  have HQ : Hid (BoxQ 35 w #[.bool x.fs, .string x.fh, .int .i64 x.fp, .bool x.us, .string x.uh, .int .i64 x.up, .string x.pa, .string x.qu, .bool x.wi, .string x.me, .string x.he, .int .i64 x.un] (w.alloc (.cells #[.bool x.fs, .string x.fh, .int .i64 x.fp, .bool x.us, .string x.uh, .int .i64 x.up, .string x.pa, .string x.qu, .bool x.wi, .string x.me, .string x.he, .int .i64 x.un] 35))) := BoxQ.new _ _ _
  have HX : Hid (Pss (w.alloc (.cells #[.bool x.fs, .string x.fh, .int .i64 x.fp, .bool x.us, .string x.uh, .int .i64 x.up, .string x.pa, .string x.qu, .bool x.wi, .string x.me, .string x.he, .int .i64 x.un] 35)) a0 len b off l) := hx.below HQ.out.bel
  have HB : Hid (Below w.heap.size w (w.alloc (.cells #[.bool x.fs, .string x.fh, .int .i64 x.fp, .bool x.us, .string x.uh, .int .i64 x.up, .string x.pa, .string x.qu, .bool x.wi, .string x.me, .string x.he, .int .i64 x.un] 35))) := HQ.out.bel
  clear hx
  go_enter Tryd.func35, Tryd.ntmps35
  go_wp2
  generalize hW0 : w.alloc (.cells #[.bool x.fs, .string x.fh, .int .i64 x.fp, .bool x.us, .string x.uh, .int .i64 x.up, .string x.pa, .string x.qu, .bool x.wi, .string x.me, .string x.he, .int .i64 x.un] 35) = W0 at HQ HX HB ⊢
  clear hW0
  have b0 := HQ.out.at 0 _ rfl
  have b1 := HQ.out.at 1 _ rfl
  have b2 := HQ.out.at 2 _ rfl
  have b3 := HQ.out.at 3 _ rfl
  have b4 := HQ.out.at 4 _ rfl
  have b5 := HQ.out.at 5 _ rfl
  have b6 := HQ.out.at 6 _ rfl
  have b7 := HQ.out.at 7 _ rfl
  have b8 := HQ.out.at 8 _ rfl
  have b9 := HQ.out.at 9 _ rfl
  have b10 := HQ.out.at 10 _ rfl
  have b11 := HQ.out.at 11 _ rfl
  go_loopw [8] (fun i wr => ∃ (k q : Nat), k ≤ len ∧ i = .int .i64 k ∧ wr = W0.drewN q ∧ Hid ((l.take k).any (isP x) = false)) (fun i _ => len - (intOf i).toNat)
  case atStart => exact ⟨0, 0, Nat.zero_le _, rfl, rfl, rfl⟩
  case round =>
    obtain ⟨k, q, hk, rfl, rfl, HK⟩ := hrel
    by_cases hlt : k < len
    · have hltz : (k : Int) < (len : Int) := by omega
      obtain ⟨y, hy⟩ : ∃ y, l[k]? = some y := ⟨l[k]'(by have := HL.out; omega), List.getElem?_eq_getElem (by have := HL.out; omega)⟩
      have HYK : Hid (l[k]? = some y) := hy
      obtain ⟨ha0, _⟩ := HX.out.lies (by omega)
      subst ha0
      obtain ⟨c0, c1, c2, c3, c4, c5, c6, c7, c8, c9, c10, c11⟩ := HX.out.all hy
      obtain ⟨t, HT⟩ : ∃ t, Hid (isP x y = t) := ⟨_, rfl⟩
      have ep := fun W => eqPB x y t (by rw [← HT.out]; unfold isP; simp) W
      clear hy
      cases t
      · have HS : Hid ((l.take (k + 1)).any (isP x) = false) := take_any HK.out HYK.out HT.out
        go_wp2
        go_quiet (fail)
        go_wp2
        go_roundw
        case rel => exact ⟨k + 1, _, by omega, by go_num, rfl, HS⟩
        case measure => simp [intOf]; omega
      · have HS : Hid (l.any (isP x) = true) := List.any_eq_true.2 ⟨_, List.mem_of_getElem? HYK.out, HT.out⟩
        go_wp2
        go_quiet (fail)
        go_wp2
        go_ret
        exact ⟨⟨_, rfl, by show _ = _; rw [HS.out]; exact decide_eq_true (Int.natCast_nonneg _)⟩, drewN_below (drewN_below HB.out _) _⟩
    · have hltz : ¬ (k : Int) < (len : Int) := by omega
      have HS : Hid (l.any (isP x) = false) := by
        have := HK.out
        rw [List.take_of_length_le (by have := HL.out; omega)] at this
        exact this
      go_wp2
      go_ret
      exact ⟨⟨_, rfl, by show _ = _; rw [HS.out]; rfl⟩, drewN_below HB.out _⟩
set_option maxRecDepth 100000 in
set_option maxHeartbeats 4000000 in
theorem containsP_is (x : PsV) (l : List PsV) (a0 : Option Addr) (len cap b off : Nat) (hlen : len ≤ 1000000) (w : World) (hx : Pss w a0 len b off l) :
    Calls Tryd.prog 12 #[.slice a0 len cap, .agg #[.bool x.fs, .string x.fh, .int .i64 x.fp, .bool x.us, .string x.uh, .int .i64 x.up, .string x.pa, .string x.qu, .bool x.wi, .string x.me, .string x.he, .int .i64 x.un]] w fun e w' => e = .returned (.bool (l.any (isP x))) ∧ Below w.heap.size w w' := by
  have HQ : Hid (BoxQ 35 w #[.bool x.fs, .string x.fh, .int .i64 x.fp, .bool x.us, .string x.uh, .int .i64 x.up, .string x.pa, .string x.qu, .bool x.wi, .string x.me, .string x.he, .int .i64 x.un] (w.alloc (.cells #[.bool x.fs, .string x.fh, .int .i64 x.fp, .bool x.us, .string x.uh, .int .i64 x.up, .string x.pa, .string x.qu, .bool x.wi, .string x.me, .string x.he, .int .i64 x.un] 35))) := BoxQ.new _ _ _
  have HI : Hid (Calls Tryd.prog 35 #[.slice a0 len cap, .agg #[.bool x.fs, .string x.fh, .int .i64 x.fp, .bool x.us, .string x.uh, .int .i64 x.up, .string x.pa, .string x.qu, .bool x.wi, .string x.me, .string x.he, .int .i64 x.un]] (w.alloc (.cells #[.bool x.fs, .string x.fh, .int .i64 x.fp, .bool x.us, .string x.uh, .int .i64 x.up, .string x.pa, .string x.qu, .bool x.wi, .string x.me, .string x.he, .int .i64 x.un] 35)) fun e w' => (∃ r : Int, e = .returned (.int .i64 r) ∧ Hid (decide (0 ≤ r) = l.any (isP x))) ∧ Below (w.alloc (.cells #[.bool x.fs, .string x.fh, .int .i64 x.fp, .bool x.us, .string x.uh, .int .i64 x.up, .string x.pa, .string x.qu, .bool x.wi, .string x.me, .string x.he, .int .i64 x.un] 35)).heap.size (w.alloc (.cells #[.bool x.fs, .string x.fh, .int .i64 x.fp, .bool x.us, .string x.uh, .int .i64 x.up, .string x.pa, .string x.qu, .bool x.wi, .string x.me, .string x.he, .int .i64 x.un] 35)) w') :=
    indexP_is x l a0 len cap b off hlen _ (hx.below HQ.out.bel)
  have b0 := HQ.out.at 0 _ rfl
  have b1 := HQ.out.at 1 _ rfl
  have b2 := HQ.out.at 2 _ rfl
  have b3 := HQ.out.at 3 _ rfl
  have b4 := HQ.out.at 4 _ rfl
  have b5 := HQ.out.at 5 _ rfl
  have b6 := HQ.out.at 6 _ rfl
  have b7 := HQ.out.at 7 _ rfl
  have b8 := HQ.out.at 8 _ rfl
  have b9 := HQ.out.at 9 _ rfl
  have b10 := HQ.out.at 10 _ rfl
  have b11 := HQ.out.at 11 _ rfl
  clear hx
  go_enter Tryd.func12, Tryd.ntmps12
  go_wp2_with fail
  refine HI.out.mono ?_
  rintro e w1 ⟨⟨r, rfl, HR⟩, hb⟩
  have HB1 : Hid (Below w.heap.size w w1) := HQ.out.inB hb
  clear hb HI
  go_wp2
  go_ret
  exact ⟨ret_bool HR.out, HB1.out⟩
end Go.Proofs.YtihhabidfcgogaaDoor

/- What a book of passes is told to keep: pure. -/
namespace Go.Proofs.YtihhabidfcgogaaDoor

noncomputable instance decPsV : DecidableEq PsV := fun a b => Classical.propDecidable (a = b)
/-- What a pass is for, whenever it is over. -/
def PsV.key (p : PsV) : PsV := { p with un := 0 }
theorem PsV.key_key (p : PsV) : p.key.key = p.key := rfl
/-- From the end on: of those for the same the first one that comes, if it isn't over. -/
noncomputable def pickL (now : Int) (seen : List PsV) : List PsV → List PsV
  | [] => []
  | p :: r => if p.key ∈ seen ∨ ¬ now < p.un then pickL now (p.key :: seen) r else p :: pickL now (p.key :: seen) r
noncomputable def putL (now : Int) (xs l : List PsV) : List PsV := ((pickL now [] (xs ++ l).reverse).take 32).reverse
theorem pickL_congr (now : Int) : ∀ (l s t : List PsV), (∀ k, k ∈ s ↔ k ∈ t) → pickL now s l = pickL now t l
  | [], _, _, _ => rfl
  | p :: r, s, t, h => by
    have ih := pickL_congr now r (p.key :: s) (p.key :: t) (fun k => by simp [h k])
    simp only [pickL, h p.key, ih]
theorem pickL_append (now : Int) : ∀ (a b s : List PsV), pickL now s (a ++ b) = pickL now s a ++ pickL now (a.map PsV.key ++ s) b
  | [], b, s => rfl
  | p :: r, b, s => by
    have ih := pickL_append now r b (p.key :: s)
    have hc := pickL_congr now b (r.map PsV.key ++ p.key :: s) ((p :: r).map PsV.key ++ s) (fun k => by simp [List.mem_append, or_assoc, or_comm, or_left_comm])
    rw [hc] at ih
    simp only [List.cons_append, pickL, ih]
    split <;> simp
theorem pickL_new (now : Int) (pre : List PsV) (x : PsV) (h1 : x.key ∉ pre.map PsV.key) (h2 : now < x.un) : pickL now [] (pre ++ [x]) = pickL now [] pre ++ [x] := by
  rw [pickL_append]
  simp only [List.append_nil, pickL, h1, h2, not_true_eq_false, or_self, if_false]
theorem pickL_old (now : Int) (pre : List PsV) (x : PsV) (h : x.key ∈ pre.map PsV.key ∨ ¬ now < x.un) : pickL now [] (pre ++ [x]) = pickL now [] pre := by
  rw [pickL_append]
  simp only [List.append_nil, pickL, if_pos h]
theorem pickL_full (now : Int) (pre rest : List PsV) (h : (pickL now [] pre).length = 32) : (pickL now [] (pre ++ rest)).take 32 = pickL now [] pre := by
  rw [pickL_append, List.take_append_of_le_length (by omega), List.take_of_length_le (by omega)]
theorem pickL_mem (now : Int) : ∀ (l s : List PsV) (p : PsV), p ∈ pickL now s l → p ∈ l ∧ now < p.un ∧ p.key ∉ s
  | [], _, _, h => by cases h
  | q :: r, s, p, h => by
    simp only [pickL] at h
    split at h
    · obtain ⟨h1, h2, h3⟩ := pickL_mem now r _ p h
      exact ⟨List.mem_cons_of_mem _ h1, h2, fun hs => h3 (List.mem_cons_of_mem _ hs)⟩
    · rename_i hc
      rcases List.mem_cons.1 h with rfl | h
      · exact ⟨by simp, Classical.byContradiction fun hn => hc (.inr hn), fun hs => hc (.inl hs)⟩
      · obtain ⟨h1, h2, h3⟩ := pickL_mem now r _ p h
        exact ⟨List.mem_cons_of_mem _ h1, h2, fun hs => h3 (List.mem_cons_of_mem _ hs)⟩
theorem pickL_apart (now : Int) : ∀ (l s : List PsV), (pickL now s l).Pairwise (fun p q => p.key ≠ q.key)
  | [], _ => .nil
  | q :: r, s => by
    simp only [pickL]
    split
    · exact pickL_apart now r _
    · refine List.pairwise_cons.2 ⟨fun p hp e => ?_, pickL_apart now r _⟩
      exact (pickL_mem now r _ p hp).2.2 (by rw [← e]; simp)
theorem putL_mem {now : Int} {xs l : List PsV} {p : PsV} (h : p ∈ putL now xs l) : (p ∈ xs ∨ p ∈ l) ∧ now < p.un := by
  obtain ⟨h1, h2, _⟩ := pickL_mem _ _ _ _ (List.mem_of_mem_take (List.mem_reverse.1 h))
  exact ⟨List.mem_append.1 (List.mem_reverse.1 h1), h2⟩
theorem putL_len (now : Int) (xs l : List PsV) : (putL now xs l).length ≤ 32 := by
  simp only [putL, List.length_reverse, List.length_take]
  omega
theorem putL_apart (now : Int) (xs l : List PsV) : (putL now xs l).Pairwise (fun p q => p.key ≠ q.key) := by
  unfold putL
  rw [List.pairwise_reverse]
  exact ((pickL_apart now _ _).sublist (List.take_sublist _ _)).imp fun h e => h e.symm
end Go.Proofs.YtihhabidfcgogaaDoor

/- How often something came, by what it is for: counts in a map of the call's own. -/
namespace Go.Proofs.YtihhabidfcgogaaDoor
open Go.RowKit Go.Maps

theorem laidOutC : laidOutB Tryd.prog = true := by kernel_rfl
theorem rowC : (35 : TypeId) < Tryd.prog.types.size := of_decide_eq_true (by kernel_rfl)
theorem wideC : (match Tryd.prog.underlying 35 with | some (.array _ _) | some (.struct _) => true | _ => false) = true := by kernel_rfl
set_option maxRecDepth 100000 in
theorem klawC : Go.WideMaps.KeyLaw Tryd.prog 35 := deep_law_laid laidOutC (m := 4) (by omega) rowC (by kernel_rfl) wideC
theorem lawC : Keyed Tryd.prog 35 := Keyed.of_law klawC
theorem keyTC : Tryd.prog.keyType 35 = true := by kernel_rfl
theorem cellsPC : Tryd.prog.cellsOf 35 = 12 := by kernel_rfl
theorem cellsUC : Tryd.prog.cellsOf 33 = 5 := by kernel_rfl
theorem cellsOC : Tryd.prog.cellsOf 31 = 3 := by kernel_rfl
theorem cells3C : Tryd.prog.cellsOf 3 = 1 := by kernel_rfl
theorem cells4C : Tryd.prog.cellsOf 4 = 1 := by kernel_rfl
theorem cells9C : Tryd.prog.cellsOf 9 = 1 := by kernel_rfl
/-- A pass that may be a key. -/
structure KeyOk (p : PsV) : Prop where
  h1 : p.fh.size ≤ maxLen
  h2 : p.uh.size ≤ maxLen
  h3 : p.pa.size ≤ maxLen
  h4 : p.qu.size ≤ maxLen
  h5 : p.me.size ≤ maxLen
  h6 : p.he.size ≤ maxLen
  n1 : (Lit.int .i64 p.fp).wf = true
  n2 : (Lit.int .i64 p.up).wf = true
  n3 : (Lit.int .i64 p.un).wf = true
theorem KeyOk.key {p : PsV} (h : KeyOk p) : KeyOk p.key := ⟨h.h1, h.h2, h.h3, h.h4, h.h5, h.h6, h.n1, h.n2, (by decide : (Lit.int .i64 0).wf = true)⟩
theorem litsS (d : Nat) (t : TypeId) (fs : Array Field) (cs : List Value) (hu : Tryd.prog.underlying t = some (.struct fs)) (hc : cs.length = Tryd.prog.cellsOf t) (hn : fs.all (·.name != "_") = true) :
    Tryd.prog.keyLits (d + 1) t cs = (fs.toList.mapM fun f => Tryd.prog.keyLits d f.type ((cs.drop f.offset).take (Tryd.prog.cellsOf f.type))).map List.flatten := by
  simp only [Program.keyLits, hu]
  rw [if_pos ⟨hc, hn⟩]
theorem litB (d : Nat) (b : Bool) : Tryd.prog.keyLits (d + 1) 4 [.bool b] = some [.bool b] := by simp only [Program.keyLits, Tryd.underlying4]
theorem litI (d : Nat) (n : Int) (h : (Lit.int .i64 n).wf = true) : Tryd.prog.keyLits (d + 1) 3 [.int .i64 n] = some [.int .i64 n] := by simp [Program.keyLits, Tryd.underlying3, h]
theorem litT (d : Nat) (s : ByteArray) (h : s.size ≤ maxLen) : Tryd.prog.keyLits (d + 1) 9 [.string s] = some [.string s.data.toList] := by simp [Program.keyLits, Tryd.underlying9, h]
theorem litsO (d : Nat) (b : Bool) (s : ByteArray) (n : Int) (hs : s.size ≤ maxLen) (hn : (Lit.int .i64 n).wf = true) :
    Tryd.prog.keyLits (d + 2) 31 [.bool b, .string s, .int .i64 n] = some [.bool b, .string s.data.toList, .int .i64 n] := by
  rw [litsS (d + 1) _ _ _ Tryd.underlying31 (by rw [cellsOC]; rfl) (by simp)]
  simp only [List.mapM_cons, List.mapM_nil, List.drop, List.take, cells3C, cells4C, cells9C, litB, litI d n hn, litT d s hs]
  rfl
theorem litsU (d : Nat) (b : Bool) (s : ByteArray) (n : Int) (p q : ByteArray) (hs : s.size ≤ maxLen) (hn : (Lit.int .i64 n).wf = true) (hp : p.size ≤ maxLen) (hq : q.size ≤ maxLen) :
    Tryd.prog.keyLits (d + 3) 33 [.bool b, .string s, .int .i64 n, .string p, .string q] = some [.bool b, .string s.data.toList, .int .i64 n, .string p.data.toList, .string q.data.toList] := by
  rw [litsS (d + 2) _ _ _ Tryd.underlying33 (by rw [cellsUC]; rfl) (by simp)]
  simp only [List.mapM_cons, List.mapM_nil, List.drop, List.take, cells9C, cellsOC, litsO d b s n hs hn, litT (d + 1) p hp, litT (d + 1) q hq]
  rfl
noncomputable def kb (p : PsV) : Lit := .string (keyBytes [.bool p.fs, .string p.fh.data.toList, .int .i64 p.fp, .bool p.us, .string p.uh.data.toList, .int .i64 p.up, .string p.pa.data.toList, .string p.qu.data.toList, .bool p.wi, .string p.me.data.toList, .string p.he.data.toList, .int .i64 p.un])
theorem keyOfC (p : PsV) (h : KeyOk p) : keyOf Tryd.prog 35 (.agg p.vals.toArray) = some (kb p) := by
  obtain ⟨d, hd⟩ : ∃ d, Tryd.prog.types.size + 1 = d + 5 := ⟨Tryd.prog.types.size - 4, by have : 4 ≤ Tryd.prog.types.size := of_decide_eq_true (by kernel_rfl); omega⟩
  have hO := litsO (d + 2) p.fs p.fh p.fp h.h1 h.n1
  have hU := litsU (d + 1) p.us p.uh p.up p.pa p.qu h.h2 h.n2 h.h3 h.h4
  have hL : Tryd.prog.keyLits (d + 5) 35 p.vals = some [.bool p.fs, .string p.fh.data.toList, .int .i64 p.fp, .bool p.us, .string p.uh.data.toList, .int .i64 p.up, .string p.pa.data.toList, .string p.qu.data.toList, .bool p.wi, .string p.me.data.toList, .string p.he.data.toList, .int .i64 p.un] := by
    rw [litsS (d + 4) _ _ _ Tryd.underlying35 (by rw [cellsPC]; rfl) (by simp)]
    simp only [PsV.vals, List.mapM_cons, List.mapM_nil, List.drop, List.take, cells3C, cells4C, cells9C, cellsOC, cellsUC, hO, hU, litB, litI (d + 3) p.un h.n3, litT (d + 3) p.me h.h5, litT (d + 3) p.he h.h6]
    rfl
  have hf : (Value.agg p.vals.toArray).formed Tryd.prog 35 = true := by simp [Value.formed, Tryd.underlying35, cellsPC, PsV.vals]
  have e : (Value.agg p.vals.toArray).cells.toList = p.vals := rfl
  unfold keyOf
  simp only [Tryd.underlying35, keyTC, hf, Bool.and_self, if_true, hd, e, hL, Option.map_some, kb]
theorem kb_inj {p q : PsV} (hp : KeyOk p) (hq : KeyOk q) (e : kb p = kb q) : p = q := by
  have := lawC.inj (keyOfC p hp) (by rw [e]; exact keyOfC q hq)
  injection this with h
  have h2 := congrArg Array.toList h
  simp only [PsV.vals, List.cons.injEq, Value.bool.injEq, Value.string.injEq, Value.int.injEq, and_true, true_and] at h2
  cases p; cases q
  simp_all
end Go.Proofs.YtihhabidfcgogaaDoor

/- How often something came: what a map of the call's own says, is told, and how it is told more. -/
namespace Go.Proofs.YtihhabidfcgogaaDoor
open Go.RowKit Go.Maps
set_option linter.unusedVariables false
set_option linter.unusedSimpArgs false
set_option maxRecDepth 100000
open Go.ChangeMaps (setBlock heap_setBlock_same heap_setBlock_other)

def zC : DataW Unit := .lit (.int .i64 0)
noncomputable abbrev RC : Value → Option (DataW Unit × List MemPlace) := plainElem Tryd.prog 3
/-- Block b is a map of at most n entries that tells how often each pass came, by what it is for. -/
def OwnC (w : World) (b n : Nat) (c : PsV → Nat) : Prop := ∃ D, w.ownsMap Tryd.prog 35 RC b n D ∧ ∀ p, KeyOk p → D.atKey (kb p) zC = .lit (.int .i64 (c p))
theorem OwnC.lt {w : World} {b n : Nat} {c : PsV → Nat} (h : OwnC w b n c) : b < w.heap.size := by obtain ⟨D, h1, _⟩ := h; exact h1.lt
theorem OwnC.kept {w w' : World} {b n : Nat} {c : PsV → Nat} {row : Option Nat} (h : OwnC w b n c) (hg : w.grownBy w' row) (hne : some b ≠ row) : OwnC w' b n c := by
  obtain ⟨D, h1, h2⟩ := h
  exact ⟨D, h1.kept hg hne, h2⟩
theorem OwnC.congr {w : World} {b n : Nat} {c d : PsV → Nat} (h : OwnC w b n c) (e : ∀ l, c l = d l) : OwnC w b n d := by
  rw [show d = c from funext fun l => (e l).symm]
  exact h
theorem ownC_made (w : World) : OwnC (w.alloc (.map #[] 0)) w.heap.size 0 (fun _ => 0) := ⟨_, World.ownsMap_made w _ _ _, fun p _ => rfl⟩
theorem zero3C (w : World) : (zeroValue 3).run Tryd.prog w = .ok (.int .i64 0) w := by kernel_rfl
theorem keyLitC (p : PsV) : WideAt.IsKeyLit (kb p) := trivial
theorem OwnC.look {w : World} {b n : Nat} {c : PsV → Nat} (h : OwnC w b n c) (p : PsV) (hp : KeyOk p) : (Instr.lookup 54 (.map (some b)) (.agg p.vals.toArray) false).run Tryd.prog w = .ok (.int .i64 (c p)) w := by
  obtain ⟨D, h1, h2⟩ := h
  obtain ⟨x, hrun, hat, _⟩ := h1.lookup_int lawC Tryd.underlying54 Tryd.underlying3 (zero3C w) (keyOfC p hp)
  have := h2 p hp
  rw [show (zC : DataW Unit) = .lit (.int .i64 0) from rfl, hat] at this
  injection this with e
  injection e with _ e
  rw [hrun, e]
theorem wf_small (m : Nat) (hm : m ≤ 100000) : (Lit.int .i64 (m : Int)).wf = true := by
  show (decide (IntKind.i64.min ≤ (m : Int)) && decide ((m : Int) ≤ IntKind.i64.max)) = true
  have h0 : (0 : Int) ≤ (m : Int) := by omega
  have h1 : (m : Int) ≤ 100000 := by omega
  have a : IntKind.i64.min ≤ (m : Int) := Int.le_trans (by decide) h0
  have c : (m : Int) ≤ IntKind.i64.max := Int.le_trans h1 (by decide)
  rw [decide_eq_true a, decide_eq_true c]
  rfl
theorem setBlock_twice (w : World) (b : Nat) (o o' : Obj) : setBlock (setBlock w b o) b o' = setBlock w b o' := by simp [setBlock]
theorem grown_setBlock (w : World) (b : Nat) (o : Obj) : w.grownBy (setBlock w b o) (some b) :=
  ⟨rfl, rfl, rfl, by simp [setBlock], fun i _ hi => by
    have : i ≠ b := fun e => hi (by rw [e])
    simp [setBlock, Array.getElem?_setIfInBounds, this.symm]⟩
theorem OwnC.entry {w : World} {b n : Nat} {c : PsV → Nat} (h : OwnC w b n c) (hn : n ≤ 100000) (p : PsV) (hp : KeyOk p) :
    ∃ (st : Nat) (w1 : World), (Instr.mapEntry 54 (.map (some b)) (.agg p.vals.toArray)).run Tryd.prog w = .ok (.tuple #[.int .i64 (c p), goInt st]) w1 ∧ w.grownBy w1 (some b) ∧ w1.heap.size = w.heap.size ∧
      (Instr.lookup 54 (.map (some b)) (.agg p.vals.toArray) false).run Tryd.prog w1 = .ok (.int .i64 (c p)) w1 ∧
      ∀ m : Nat, m ≤ 100000 → ∃ w2, (Instr.entryStore 54 (.map (some b)) (goInt st) (.int .i64 m)).run Tryd.prog w1 = .ok () w2 ∧ OwnC w2 b (n + 1) (fun q => if q = p then m else c q) ∧ w.grownBy w2 (some b) ∧ w2.heap.size = w.heap.size := by
  have hl := h.look p hp
  have hkey := keyOfC p hp
  have hC := h
  obtain ⟨D, hown, h2⟩ := h
  have hown0 := hown
  obtain ⟨es, clock, hb, F, hs, hD⟩ := hown0
  obtain ⟨v0, st, es1, clock1, hrun, hor, hst⟩ := Go.WideElems.entry_then_store klawC Tryd.underlying54 zero3C hb F hkey
  have hw1 : OwnC (setBlock w b (.map es1 clock1)) b (n + 1) c ∧ v0 = .int .i64 (c p) := by
    rcases lawC.find w hkey es.toList F.keys with ⟨h1, hno⟩ | ⟨j, e0, h1, hj, h3⟩
    · have hm : (Instr.mapEntry 54 (.map (some b)) (.agg p.vals.toArray)).run Tryd.prog w = .ok (.tuple #[.int .i64 0, goInt clock]) (setBlock w b (.map (es.push ⟨.agg p.vals.toArray, .int .i64 0, clock⟩) (clock + 1))) := by
        simp [Instr.mapEntry, run_underlying Tryd.underlying54, MapKept.run_getObj_map hb, lawC.check w false hkey, h1, zero3C, MapKept.run_setObj_map _ hb, Result.andThen, setBlock]
      have hu : (Instr.mapUpdate 54 (.map (some b)) (.agg p.vals.toArray) (.int .i64 0)).run Tryd.prog w = .ok () (setBlock w b (.map (es.push ⟨.agg p.vals.toArray, .int .i64 0, clock⟩) (clock + 1))) := by
        simp [Instr.mapUpdate, run_underlying Tryd.underlying54, MapKept.run_getObj_map hb, lawC.check w false hkey, h1, MapKept.run_setObj_map _ hb, Result.andThen, setBlock]
      have hc0 : c p = 0 := by
        have hl2 : (Instr.lookup 54 (.map (some b)) (.agg p.vals.toArray) false).run Tryd.prog w = .ok (.int .i64 0) w := by
          simp [Instr.lookup, run_underlying Tryd.underlying54, MapKept.run_getObj_map hb, lawC.check w _ hkey, h1, zero3C, Result.andThen]
        rw [hl2] at hl
        injection hl with e
        injection e with _ e
        omega
      rw [hrun] at hm
      injection hm with e1 e2
      obtain ⟨w', hr, ho, _⟩ := hown.update lawC Tryd.underlying54 (by unfold maxLen; omega) hkey (plainElem_int (H := Unit) Tryd.underlying3 (a := 0) (by decide))
      rw [hu] at hr
      injection hr with _ e3
      refine ⟨⟨_, (by rw [e2, e3]; exact ho), fun q hq => ?_⟩, ?_⟩
      · by_cases e : kb q = kb p
        · rw [e, atKey_put_same hown.isMap (keyLitC p), kb_inj hq hp e, hc0]
          rfl
        · rw [atKey_put_other e]
          exact h2 q hq
      · injection e1 with e1
        simp only [Array.mk.injEq, List.cons.injEq] at e1
        rw [e1.1, hc0]
        rfl
    · have hj' : es[j]? = some e0 := by simpa using hj
      have hsame : es.modify j (fun e => { e with key := .agg p.vals.toArray }) = es := by
        apply Array.ext'
        rw [Array.toList_modify, Go.ChangeMaps.modify_eq_set _ _ _ _ hj]
        have : ({ e0 with key := .agg p.vals.toArray } : MapEntry) = e0 := by rw [← h3]
        rw [this]
        exact Go.WideElems.set_self _ _ _ hj
      have hm : (Instr.mapEntry 54 (.map (some b)) (.agg p.vals.toArray)).run Tryd.prog w = .ok (.tuple #[e0.val, goInt e0.born]) (setBlock w b (.map es clock)) := by
        simp [Instr.mapEntry, run_underlying Tryd.underlying54, MapKept.run_getObj_map hb, lawC.check w false hkey, h1, hj', h3, lawC.stays w hkey, hsame, MapKept.run_setObj_map _ hb, Result.andThen, setBlock]
      have hv : e0.val = .int .i64 (c p) := by
        have hl2 : (Instr.lookup 54 (.map (some b)) (.agg p.vals.toArray) false).run Tryd.prog w = .ok e0.val w := by
          simp [Instr.lookup, run_underlying Tryd.underlying54, MapKept.run_getObj_map hb, lawC.check w _ hkey, h1, Result.andThen]
        rw [hl2] at hl
        injection hl
      rw [hrun] at hm
      injection hm with e1 e2
      refine ⟨⟨D, (by rw [e2]; exact ⟨es, clock, heap_setBlock_same hb _, F, by omega, hD⟩), h2⟩, ?_⟩
      injection e1 with e1
      simp only [Array.mk.injEq, List.cons.injEq] at e1
      rw [e1.1, hv]
  refine ⟨st, _, by rw [hrun, hw1.2], grown_setBlock w b _, by simp [setBlock], hw1.1.look p hp, fun m hm => ?_⟩
  obtain ⟨es', clock', r1, r2⟩ := hst _ (.int .i64 m) (heap_setBlock_same hb (.map es1 clock1))
  rw [setBlock_twice] at r1
  obtain ⟨w', hr, ho, hg⟩ := hown.update lawC Tryd.underlying54 (by unfold maxLen; omega) hkey (plainElem_int (H := Unit) Tryd.underlying3 (a := (m : Int)) (wf_small m hm))
  rw [r2] at hr
  injection hr with _ e3
  refine ⟨_, r1, ⟨_, (by rw [e3]; exact ho), fun q hq => ?_⟩, grown_setBlock w b _, by simp [setBlock]⟩
  by_cases e : kb q = kb p
  · rw [e, atKey_put_same hown.isMap (keyLitC p)]
    simp only [if_pos (kb_inj hq hp e)]
  · rw [atKey_put_other e]
    simp only [if_neg (fun e2 : q = p => e (by rw [e2]))]
    exact h2 q hq
end Go.Proofs.YtihhabidfcgogaaDoor

/- What every walk over the coding package needs: rows of bytes that a call owns, and the two conversions between texts and rows. -/
namespace Go.Proofs.YtihhabidfcgogaaDoor
open Go.RowKit

/-- The cells of a row of bytes: what they hold, and that they may be written. -/
def Row (w : World) (B : Nat) (L : List UInt8) : Prop := ∀ j (h : j < L.length), w.cell? ⟨B, j, none⟩ = some (.int .u8 (L[j].toNat : Int)) ∧ w.frozen? ⟨B, j, none⟩ = false

theorem conv_bytes (s : ByteArray) (w : World) : ∃ (cap : Nat) (W1 : World), (convert 9 81 (.string s)).run Tryd.prog w = .ok (.slice (some ⟨w.heap.size, 0, none⟩) s.size cap) W1 ∧ Row W1 w.heap.size s.data.toList ∧ Below w.heap.size w W1 ∧ W1.heap.size = w.heap.size + 1 := by
  refine ⟨_, _, run_bytes_of_string (P := Tryd.prog) w 9 81 5 s Tryd.underlying9 Tryd.underlying81 Tryd.underlying5, ?_, ?_, ?_⟩
  · intro j hj
    have hj' : j < s.size := by simpa using hj
    refine ⟨?_, ?_⟩
    · have h1 : (w.drew.alloc (.cells (bytesRow s (grownCap w s.size 0 5)) 5 ((bytesRow s (grownCap w s.size 0 5)).size, (bytesRow s (grownCap w s.size 0 5)).size + 1))).cell? ⟨w.drew.heap.size, j, none⟩ = (bytesRow s (grownCap w s.size 0 5))[j]? := World.cell?_alloc_mark _ _ _ _ _
      rw [bytesRow_at s _ j hj'] at h1
      exact h1
    · have h2 : (w.drew.alloc (.cells (bytesRow s (grownCap w s.size 0 5)) 5 ((bytesRow s (grownCap w s.size 0 5)).size, (bytesRow s (grownCap w s.size 0 5)).size + 1))).frozen? ⟨w.drew.heap.size, j, none⟩ = _ := World.frozen?_alloc_mark _ _ _ _ _ _
      have h3 : j < (bytesRow s (grownCap w s.size 0 5)).size := by simp [bytesRow]; omega
      rw [decide_eq_false (by omega), Bool.false_and] at h2
      exact h2
  · exact ((Below.refl _ _).drew).alloc (Nat.le_refl _) _
  · simp

theorem conv_back {w : World} {B : Nat} {L : List UInt8} (h : Row w B L) (n cap : Nat) (hn : L.length = n) : (convert 81 9 (.slice (some ⟨B, 0, none⟩) n cap)).run Tryd.prog w = .ok (.string (bs L)) w := by
  subst hn
  refine run_convert_bytes_back (P := Tryd.prog) w 81 9 5 ⟨B, 0, none⟩ cap L Tryd.underlying81 Tryd.underlying5 Tryd.underlying9 (fun j hj => ?_)
  have := (h j hj).1
  rw [WideShapes.add_plain, Nat.zero_add]
  exact this

theorem Row.set {w : World} {B : Nat} {L : List UInt8} (h : Row w B L) (k : Nat) (c : UInt8) (n : Int) (hn : n = c.toNat) : Row (w.setCell ⟨B, k, none⟩ (.int .u8 n)) B (L.set k c) := by
  subst hn
  intro j hj
  have hj' : j < L.length := by simpa using hj
  refine ⟨?_, ?_⟩
  · by_cases e : j = k
    · subst e
      rw [World.cell?_setCell_same _ _ _ (h j hj').1]
      simp
    · have hne : (⟨B, k, none⟩ : Addr) ≠ ⟨B, j, none⟩ := by intro hh; injection hh with _ h2; omega
      rw [World.cell?_setCell_other _ _ _ _ hne, (h j hj').1]
      simp [Ne.symm e]
  · have := (h j hj').2
    simpa using this

/-- A value of type []byte that owns the bytes l, among the blocks from B on. -/
def Own (w : World) (B : Nat) (v : Value) (l : List UInt8) : Prop := w.ownsRow B 5 1 v l.length (l.map fun c => Value.int .u8 (c.toNat : Int))

theorem Own.back {w : World} {B g n cap : Nat} {l : List UInt8} (h : Own w B (.slice (some ⟨g, 0, none⟩) n cap) l) (hn : l.length = n) : (convert 81 9 (.slice (some ⟨g, 0, none⟩) n cap)).run Tryd.prog w = .ok (.string (bs l)) w := by
  subst hn
  refine run_convert_bytes_back (P := Tryd.prog) w 81 9 5 ⟨g, 0, none⟩ cap l Tryd.underlying81 Tryd.underlying5 Tryd.underlying9 (fun j hj => ?_)
  have := World.ownsRow.cells h (g := g) rfl j (.int .u8 (l[j].toNat : Int)) (by simp [hj])
  exact this

theorem Own.rows {w : World} {B n : Nat} {v : Value} {l : List UInt8} (h : Own w B v l) (hn : l.length = n) : w.ownsRow B 5 1 v n (l.map fun c => Value.int .u8 (c.toNat : Int)) := by
  subst hn
  exact h
theorem Own.more {w : World} {B n m : Nat} {v : Value} {l ds : List UInt8} (h : w.ownsRow B 5 1 v (n + m) ((l.map fun c => Value.int .u8 (c.toNat : Int)) ++ (ds.map fun c => Value.int .u8 (c.toNat : Int)))) (hn : l.length = n) (hm : ds.length = m) : Own w B v (l ++ ds) := by
  subst hn hm
  unfold Own
  rw [List.length_append, List.map_append]
  exact h
theorem Own.ge {w : World} {B g n cap : Nat} {l : List UInt8} (h : Own w B (.slice (some ⟨g, 0, none⟩) n cap) l) : B ≤ g := by
  rcases h.2 with h | ⟨g', _, _, h, hg, _⟩
  · cases h.1
  · injection h with h _ _; injection h with h; injection h with h; omega
theorem Own.below {w wr w1 : World} {B g n cap : Nat} {l : List UInt8} {o : Obj} (h : Own wr B (.slice (some ⟨g, 0, none⟩) n cap) l) (hb : Below B w wr) (hB : B ≤ wr.heap.size)
    (hg : (wr.alloc o).grownBy w1 (Value.slice (some ⟨g, 0, none⟩) n cap).ownBlock) : Below B w w1 := by
  refine (hb.alloc hB _).grown hg (by simp; omega) (fun x hx => ?_)
  simp only [Value.ownBlock, Option.some.injEq] at hx
  have := h.ge
  omega

theorem info5 : (Tryd.prog.info? 5).map (fun i => (i.zero, i.size, i.bytes)) = some (some (.int .u8 0), 1, 1) := by kernel_rfl
end Go.Proofs.YtihhabidfcgogaaDoor

/- The library's contracts that are leant on, laid at this program's numbers. -/
namespace Go.Proofs.YtihhabidfcgogaaDoor
open Go.Shelf Go.RowKit
def laysM316_ren : Go.Shelf.Ren := ⟨fun | 316 => 53 | n => n, fun | 9 => 9 | 3 => 3 | 4 => 4 | 37 => 81 | 0 => 0 | 127 => 88 | 5 => 5 | n => n, fun | n => n⟩
theorem laysM316 : Go.Proofs.LaysM.n316 Tryd.prog laysM316_ren := {
  mixed := by kernel_rfl
  f316 := Tryd.func53.trans (congrArg some (by kernel_rfl))
  t0 := Tryd.underlying0
  a0 := Tryd.isAgg0
  z0 := Tryd.sizeOf0
  v0 := Tryd.zeroValue0
  t3 := Tryd.underlying3
  a3 := Tryd.isAgg3
  z3 := Tryd.sizeOf3
  v3 := Tryd.zeroValue3
  t4 := Tryd.underlying4
  a4 := Tryd.isAgg4
  z4 := Tryd.sizeOf4
  v4 := Tryd.zeroValue4
  t9 := Tryd.underlying9
  a9 := Tryd.isAgg9
  z9 := Tryd.sizeOf9
  v9 := Tryd.zeroValue9
  t37 := Tryd.underlying81
  a37 := Tryd.isAgg81
  z37 := Tryd.sizeOf81
  v37 := Tryd.zeroValue81
  t127 := Tryd.underlying88
  a127 := Tryd.isAgg88
  z127 := Tryd.sizeOf88
  v127 := Tryd.zeroValue88
  t5 := Tryd.underlying5
  a5 := Tryd.isAgg5
  z5 := Tryd.sizeOf5
  v5 := Tryd.zeroValue5
  i0 := by kernel_rfl
  i3 := by kernel_rfl
  i4 := by kernel_rfl
  i5 := by kernel_rfl
  i9 := by kernel_rfl
  i37 := by kernel_rfl
  i127 := by kernel_rfl }
end Go.Proofs.YtihhabidfcgogaaDoor
