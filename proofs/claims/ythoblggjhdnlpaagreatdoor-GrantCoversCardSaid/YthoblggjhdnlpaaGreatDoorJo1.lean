/- Texts of one claim, joined: each begins with what it proves. -/
import Derived.Test.YthoblggjhdnlpaaGreatDoorRows
import Derived.WalkKit
import Derived.WalkSpells
import Derived.ProofKit
import Derived.Lib.SlBytesRow
import Derived.Laws.IdiomStrings
import Derived.Deep.RegionHeld3
import Derived.Deep.AppendLies
import Derived.OwnWalk
import Derived.Deep.Draws
import Derived.Deep.LoopGhost
import Derived.Deep.QuietTactic
import Derived.BigQuiet
/- What every walk needs: texts as lists of bytes. -/
namespace Go.Proofs.YthoblggjhdnlpaaGreatDoor
open Go.RowKit

def bs (l : List UInt8) : ByteArray := ⟨l.toArray⟩
theorem bs_append (a b : List UInt8) : bs (a ++ b) = bs a ++ bs b := by
  apply ByteArray.ext
  simp [bs]
theorem bs_size (l : List UInt8) : (bs l).size = l.length := by simp [bs, ByteArray.size]
theorem bs_data (l : List UInt8) : (bs l).data.toList = l := by simp [bs]
theorem bs_self (s : ByteArray) : bs s.data.toList = s := by
  apply ByteArray.ext
  simp [bs]
theorem bs_inj {a b : List UInt8} (h : bs a = bs b) : a = b := by rw [← bs_data a, ← bs_data b, h]
theorem ret_str {a b : ByteArray} (h : a = b) : Ending.returned (.string a) = .returned (.string b) := by rw [h]
theorem str_eq {a b : ByteArray} (h : b = a) : Value.string a = .string b := by rw [h]
theorem take_snoc (s : ByteArray) (k : Nat) (h : k < s.size) : s.data.toList.take (k + 1) = s.data.toList.take k ++ [s[k]] := by
  rw [List.take_succ_eq_append_getElem (by simpa using h)]; rfl
theorem ofNat_back (n : Int) (h0 : 0 ≤ n) (h1 : n < 256) : ((UInt8.ofNat n.toNat).toNat : Int) = n := by
  simp only [UInt8.toNat_ofNat']
  omega

theorem own : ownKnob Tryz.prog.godebug = none := by kernel_rfl
end Go.Proofs.YthoblggjhdnlpaaGreatDoor

/- Words, texts between marks, lists and seconds as the document says them, over lists of bytes. -/
namespace Go.Proofs.YthoblggjhdnlpaaGreatDoor

def tsigns : List UInt8 := [33, 35, 36, 37, 38, 39, 42, 43, 45, 46, 94, 95, 124, 126, 96]
/-- A byte of a word. -/
def tokB (c : UInt8) : Bool := decide (97 ≤ c.toNat ∧ c.toNat ≤ 122) || decide (65 ≤ c.toNat ∧ c.toNat ≤ 90) || decide (48 ≤ c.toNat ∧ c.toNat ≤ 57) || tsigns.contains c
def blankB (c : UInt8) : Bool := c == 32 || c == 9
/-- A byte that may stand between marks. -/
def textB (c : UInt8) : Bool := c == 9 || (decide (32 ≤ c.toNat) && c != 127)
def digB (c : UInt8) : Bool := decide (48 ≤ c.toNat ∧ c.toNat ≤ 57)
/-- How many bytes of a kind stand at the beginning. -/
def runL (f : UInt8 → Bool) (l : List UInt8) : Nat := (l.takeWhile f).length
theorem runL_le (f : UInt8 → Bool) (l : List UInt8) : runL f l ≤ l.length := (List.takeWhile_sublist f).length_le
theorem runL_all (f : UInt8 → Bool) (l : List UInt8) : runL f l = l.length ↔ l.all f = true := by
  unfold runL
  induction l with
  | nil => simp
  | cons c t ih =>
    by_cases h : f c = true
    · simp only [List.takeWhile_cons, h, if_true, List.length_cons, Nat.add_right_cancel_iff, ih, List.all_cons, Bool.true_and]
    · simp [h]
theorem runL_stop (f : UInt8 → Bool) (l : List UInt8) (k : Nat) (hk : k < l.length) (h1 : (l.take k).all f = true) (h2 : f l[k] = false) : runL f l = k := by
  unfold runL
  have e : l = l.take k ++ l[k] :: l.drop (k + 1) := by
    rw [← List.drop_eq_getElem_cons hk, List.take_append_drop]
  conv => lhs; rw [e]
  rw [List.takeWhile_append_of_pos (by simpa [List.all_eq_true] using h1), List.takeWhile_cons, h2]
  simp
  omega
theorem take_runL (f : UInt8 → Bool) (l : List UInt8) : l.take (runL f l) = l.takeWhile f := by
  unfold runL
  induction l with
  | nil => rfl
  | cons c t ih =>
    by_cases h : f c = true
    · simp [h, ih]
    · simp [h]
theorem drop_runL (f : UInt8 → Bool) (l : List UInt8) : l.drop (runL f l) = l.dropWhile f := by
  unfold runL
  induction l with
  | nil => rfl
  | cons c t ih =>
    by_cases h : f c = true
    · simp [h, ih]
    · simp [h]
/-- A word: one byte at least. -/
def isL (l : List UInt8) : Bool := !l.isEmpty && l.all tokB
/-- Each mark, and each stroke, with a stroke ahead. -/
def escL : List UInt8 → List UInt8
  | [] => []
  | c :: t => if c = 34 ∨ c = 92 then 92 :: c :: escL t else c :: escL t
theorem escL_append (a b : List UInt8) : escL (a ++ b) = escL a ++ escL b := by
  induction a with
  | nil => rfl
  | cons c t ih =>
    rw [List.cons_append, escL, escL]
    split <;> rw [ih] <;> rfl
theorem escL_length (l : List UInt8) : (escL l).length ≤ 2 * l.length := by
  induction l with
  | nil => simp [escL]
  | cons c t ih =>
    rw [escL]
    split <;> simp <;> omega
def quoteL (l : List UInt8) : List UInt8 := 34 :: (escL l ++ [34])
def quoteO (l : List UInt8) : Option (List UInt8) := if l.all textB then some (quoteL l) else none
def valueO (l : List UInt8) : Option (List UInt8) := if isL l then some l else quoteO l
/-- What stands ahead of the closing mark, and how many bytes both take. -/
def unqL : Bool → List UInt8 → Option (List UInt8 × Nat)
  | _, [] => none
  | esc, c :: t =>
    if textB c = false then none
    else if esc then (unqL false t).map fun x => (c :: x.1, x.2 + 1)
    else if c = 34 then some ([], 1)
    else if c = 92 then (unqL true t).map fun x => (x.1, x.2 + 1)
    else (unqL false t).map fun x => (c :: x.1, x.2 + 1)
/-- The text between marks that begins a text, and how many bytes it has. -/
def quotedL : List UInt8 → Option (List UInt8 × Nat)
  | [] => none
  | c :: t => if c = 34 then (unqL false t).map fun x => (x.1, x.2 + 1) else none
/-- One part of a list: its word, and what stands behind it that should not. -/
def wordP (p : List UInt8) : List UInt8 := (p.dropWhile blankB).takeWhile tokB
def restP (p : List UInt8) : List UInt8 := ((p.dropWhile blankB).dropWhile tokB).dropWhile blankB
def consW (w : List UInt8) (l : List (List UInt8)) : List (List UInt8) := if w = [] then l else w :: l
/-- The words of a list's parts, or the place where something else stands. -/
def listP : Nat → List (List UInt8) → Except Nat (List (List UInt8))
  | _, [] => .ok []
  | k, p :: r => if restP p = [] then (listP (k + p.length + 1) r).map (consW (wordP p)) else .error (k + (p.length - (restP p).length))
def secStep (n : Nat) (c : UInt8) : Nat := min (10 * n + (c.toNat - 48)) 2147483648
def secN (n : Nat) (l : List UInt8) : Nat := l.foldl secStep n
/-- A number of seconds. -/
def secL (l : List UInt8) : Option Nat := if l = [] ∨ l.all digB = false then none else some (secN 0 l)
theorem secStep_le (n : Nat) (c : UInt8) : secStep n c ≤ 2147483648 := Nat.min_le_right _ _
theorem secN_le (n : Nat) (l : List UInt8) (h : n ≤ 2147483648) : secN n l ≤ 2147483648 := by
  unfold secN
  induction l generalizing n with
  | nil => exact h
  | cons c t ih => exact ih _ (secStep_le n c)
theorem secN_snoc (n : Nat) (l : List UInt8) (c : UInt8) : secN n (l ++ [c]) = secStep (secN n l) c := by simp [secN]
theorem tok_not_comma : tokB 44 = false := by decide
theorem blank_not_comma : blankB 44 = false := by decide
theorem tok_all : ∀ c : UInt8, tokB c = (decide (33 ≤ c.toNat ∧ c.toNat ≤ 126) && !([34, 40, 41, 44, 47, 58, 59, 60, 61, 62, 63, 64, 91, 92, 93, 123, 125] : List UInt8).contains c) := by
  intro c
  have : ∀ n : Fin 256, tokB (UInt8.ofNat n.1) = (decide (33 ≤ (UInt8.ofNat n.1).toNat ∧ (UInt8.ofNat n.1).toNat ≤ 126) && !([34, 40, 41, 44, 47, 58, 59, 60, 61, 62, 63, 64, 91, 92, 93, 123, 125] : List UInt8).contains (UInt8.ofNat n.1)) := by decide +kernel
  have h := this ⟨c.toNat, c.toNat_lt⟩
  simpa using h
end Go.Proofs.YthoblggjhdnlpaaGreatDoor

/- What a challenge is. -/
namespace Go.Proofs.YthoblggjhdnlpaaGreatDoor

abbrev Par := ByteArray × ByteArray
structure Chal where
  scheme : ByteArray
  token : ByteArray
  params : List Par
end Go.Proofs.YthoblggjhdnlpaaGreatDoor

/- Rows of parameters that lie somewhere. -/
namespace Go.Proofs.YthoblggjhdnlpaaGreatDoor
open Go.RowKit

/-- A row of parameters that lies somewhere. -/
structure Pars (w : World) (a0 : Option Addr) (len b off : Nat) (ps : List Par) : Prop where
  len_eq : ps.length = len
  lies : 0 < len → a0 = some ⟨b, off, none⟩ ∧ b < w.heap.size
  one : ∀ (j : Nat) (p : Par), ps[j]? = some p → w.cell? ⟨b, off + j * 2, none⟩ = some (.string p.1)
  two : ∀ (j : Nat) (p : Par), ps[j]? = some p → w.cell? ⟨b, off + j * 2 + 1, none⟩ = some (.string p.2)
theorem Pars.grown {w w' : World} {a0 : Option Addr} {len b off : Nat} {ps : List Par} {row : Option Nat} (h : Pars w a0 len b off ps) (hg : w.grownBy w' row) (hr : 0 < len → some b ≠ row) : Pars w' a0 len b off ps := by
  have hpos : ∀ (j : Nat) (p : Par), ps[j]? = some p → 0 < len := fun j p hp => by
    have := (List.getElem?_eq_some_iff.1 hp).1
    have := h.len_eq
    omega
  exact ⟨h.len_eq, fun h0 => ⟨(h.lies h0).1, Nat.lt_of_lt_of_le (h.lies h0).2 hg.size⟩, fun j p hp => hg.cell (h.one j p hp) (hr (hpos j p hp)), fun j p hp => hg.cell (h.two j p hp) (hr (hpos j p hp))⟩
theorem Pars.below {w w' : World} {a0 : Option Addr} {len b off : Nat} {ps : List Par} (h : Pars w a0 len b off ps) (hb : Below w.heap.size w w') : Pars w' a0 len b off ps :=
  h.grown (row := none) ⟨hb.os, hb.tape, hb.output, hb.size, fun i hi _ => hb.block i hi⟩ (fun _ => by simp)
theorem Pars.belowB {w w' : World} {a0 : Option Addr} {len b off : Nat} {ps : List Par} {B : Nat} (h : Pars w a0 len b off ps) (hb : Below B w w') (hB : 0 < len → b < B) : Pars w' a0 len b off ps := by
  have hpos : ∀ (j : Nat) (p : Par), ps[j]? = some p → b < B := fun j p hp => by
    have := (List.getElem?_eq_some_iff.1 hp).1
    have := h.len_eq
    exact hB (by omega)
  exact ⟨h.len_eq, fun h0 => ⟨(h.lies h0).1, Nat.lt_of_lt_of_le (h.lies h0).2 hb.size⟩, fun j p hp => (hb.cell (p := ⟨b, off + j * 2, none⟩) (hpos j p hp)).trans (h.one j p hp), fun j p hp => (hb.cell (p := ⟨b, off + j * 2 + 1, none⟩) (hpos j p hp)).trans (h.two j p hp)⟩
end Go.Proofs.YthoblggjhdnlpaaGreatDoor

/- Headers that are too long to be held. -/
namespace Go.Proofs.YthoblggjhdnlpaaGreatDoor
open Go.RowKit

def overP (p : Par) : Bool := decide (300 < p.1.size + p.2.size)
/-- Headers that are too many, or too long; n: the bytes of all else. -/
def largeL (ps : List Par) (n : Nat) : Bool := decide (45 < ps.length) || (decide (900 < n) || ps.any overP)
theorem over_snoc {ps : List Par} {k : Nat} {p : Par} (h : (ps.take k).any overP = false) (hk : ps[k]? = some p) (hp : ¬ 300 < p.1.size + p.2.size) : (ps.take (k + 1)).any overP = false := by
  obtain ⟨hk1, e⟩ := List.getElem?_eq_some_iff.1 hk
  rw [List.take_succ_eq_append_getElem hk1, List.any_append, h, e]
  have : overP p = false := by unfold overP; exact decide_eq_false hp
  simp [this]
theorem large_small {ps : List Par} {n : Nat} (h : largeL ps n = false) : ps.length ≤ 45 ∧ n ≤ 900 ∧ ∀ p ∈ ps, p.1.size + p.2.size ≤ 300 := by
  unfold largeL at h
  simp only [Bool.or_eq_false_iff, decide_eq_false_iff_not] at h
  refine ⟨by omega, by omega, fun p hp => ?_⟩
  have h3 := List.any_eq_false.1 h.2.2 p hp
  unfold overP at h3
  simpa using h3
end Go.Proofs.YthoblggjhdnlpaaGreatDoor

/- What is answered, and a function value that is called. -/
namespace Go.Proofs.YthoblggjhdnlpaaGreatDoor
open Go.RowKit

theorem ret_bool {a b : Bool} (h : a = b) : Ending.returned (.bool a) = .returned (.bool b) := by rw [h]
theorem ret_i64 {a b : Int} (h : a = b) : Ending.returned (.int .i64 a) = .returned (.int .i64 b) := by rw [h]
theorem enters_at {K : Nat} {fn : Func} {c : Code} (hf : Tryz.prog.funcs[K]? = some fn) (hname : (fn.name == "runtime.NumGoroutine") = false) (hb : fn.body = some c) (args : Array Value) (w : World) :
    (callFunc K args).run Tryz.prog w = .ok (.enter K args) w := by
  have h1 : fn.name ≠ "runtime.NumGoroutine" := by simpa using hname
  simp [callFunc, hf, h1, hb]
end Go.Proofs.YthoblggjhdnlpaaGreatDoor

/- New blocks: what they hold, and that nothing older has turned. -/
namespace Go.Proofs.YthoblggjhdnlpaaGreatDoor
open Go.RowKit

theorem cells_new (W : World) (cs : Array Value) (t : TypeId) (j : Nat) : (W.alloc (.cells cs t)).cell? ⟨W.heap.size, j, none⟩ = cs[j]? := World.cell?_alloc_mark _ _ _ _ _
theorem drewN_below {B : Nat} {a w : World} (h : Below B a w) (n : Nat) : Below B a (w.drewN n) := h.trans ⟨rfl, rfl, rfl, Nat.le_refl _, fun _ _ => rfl⟩
end Go.Proofs.YthoblggjhdnlpaaGreatDoor

/- Whether headers are few, by the law's own words: the library's functions over a row of parameters that lies somewhere. -/
namespace Go.Proofs.YthoblggjhdnlpaaGreatDoor
open Go.RowKit

/-- A function that says whether a parameter is of a kind, at these. -/
structure KindP (K : Nat) (f : Par → Bool) (ps : List Par) : Prop where
  says : ∀ p ∈ ps, ∀ w : World, Calls Tryz.prog K #[.agg #[.string p.1, .string p.2]] w fun e w' => e = .returned (.bool (f p)) ∧ Below w.heap.size w w'
  enters : ∀ (args : Array Value) (w : World), (callFunc K args).run Tryz.prog w = .ok (.enter K args) w
set_option maxRecDepth 100000 in
set_option maxHeartbeats 2000000 in
theorem indexP8_any (K : Nat) (f : Par → Bool) (ps : List Par) (hK : KindP K f ps) (a0 : Option Addr) (len cap b off : Nat) (hlen : len ≤ 1000000) (w : World) (hx : Pars w a0 len b off ps) :
    Calls Tryz.prog 33 #[.slice a0 len cap, .func (.func K) #[] #[]] w fun e w' => (∃ r : Int, e = .returned (.int .i64 r) ∧ Hid (decide (0 ≤ r) = ps.any f)) ∧ Below w.heap.size w w' := by
  have HX : Hid (Pars w a0 len b off ps) := hx
  have hl := hx.len_eq
  have HK0 : Hid (KindP K f ps) := hK
  have hen := hK.enters
  clear hK hx
  go_enter Tryz.func33, Tryz.ntmps33
  go_wp2
  go_loopw [8] (fun i wr => ∃ (k : Nat), k ≤ len ∧ i = .int .i64 k ∧ Hid ((ps.take k).any f = false) ∧ Hid (Below w.heap.size w wr)) (fun i _ => len - (intOf i).toNat)
  case atStart => exact ⟨0, Nat.zero_le _, rfl, rfl, Below.refl _ _⟩
  case round =>
    obtain ⟨k, hk, rfl, HK, HB⟩ := hrel
    by_cases hlt : k < len
    · have hltz : (k : Int) < (len : Int) := by omega
      obtain ⟨p, hp⟩ : ∃ p, ps[k]? = some p := ⟨ps[k]'(by omega), List.getElem?_eq_getElem (by omega)⟩
      obtain ⟨pn, pv⟩ := p
      have HPK : Hid (ps[k]? = some (pn, pv)) := hp
      have HM : Hid ((pn, pv) ∈ ps) := List.mem_of_getElem? hp
      obtain ⟨ha0, _⟩ := HX.out.lies (by omega)
      subst ha0
      have hXr := HX.out.below HB.out
      have c1 : wr.cell? ⟨b, off + k * 2, none⟩ = some (.string pn) := hXr.one k _ hp
      have c2 : wr.cell? ⟨b, off + k * 2 + 1, none⟩ = some (.string pv) := hXr.two k _ hp
      have hsay := HK0.out.says _ HM.out
      clear hp hXr
      cases hf : f (pn, pv)
      · have HS : Hid ((ps.take (k + 1)).any f = false) := by
          show _ = _
          obtain ⟨hk1, e⟩ := List.getElem?_eq_some_iff.1 HPK.out
          rw [List.take_succ_eq_append_getElem hk1, List.any_append, HK.out, e]
          simp [hf]
        go_wp2_with fail
        refine (hsay _).mono ?_
        rintro e w' ⟨rfl, hb'⟩
        rw [hf]
        have HB2 : Hid (Below w.heap.size w w') := HB.out.trans (hb'.mono HB.out.size)
        clear hb'
        go_wp2
        go_roundw
        case rel => exact ⟨k + 1, by omega, by go_num, HS, HB2⟩
        case measure => simp [intOf]; omega
      · have HS : Hid (ps.any f = true) := List.any_eq_true.2 ⟨_, HM.out, hf⟩
        go_wp2_with fail
        refine (hsay _).mono ?_
        rintro e w' ⟨rfl, hb'⟩
        rw [hf]
        have HB2 : Hid (Below w.heap.size w w') := HB.out.trans (hb'.mono HB.out.size)
        clear hb'
        go_wp2
        go_ret
        exact ⟨⟨_, rfl, by show _ = _; rw [HS.out]; exact decide_eq_true (Int.natCast_nonneg _)⟩, HB2.out⟩
    · have hltz : ¬ (k : Int) < (len : Int) := by omega
      have HS : Hid (ps.any f = false) := by
        have := HK.out
        rw [List.take_of_length_le (by omega)] at this
        exact this
      go_wp2
      go_ret
      exact ⟨⟨_, rfl, by show _ = _; rw [HS.out]; rfl⟩, HB.out⟩
theorem overF_any (p : Par) (h1 : p.1.size ≤ 140737488355328) (h2 : p.2.size ≤ 140737488355328) (w : World) :
    Calls Tryz.prog 15 #[.agg #[.string p.1, .string p.2]] w fun e w' => e = .returned (.bool (overP p)) ∧ Below w.heap.size w w' := by
  obtain ⟨x, y⟩ := p
  simp only at h1 h2 ⊢
  have HO : Hid (overP (x, y) = decide ((300 : Int) < (x.size : Int) + (y.size : Int))) := by
    show _ = _
    unfold overP
    simp only [← Int.ofNat_lt]
    rfl
  go_enter Tryz.func15, Tryz.ntmps15
  go_wp2
  go_ret
  exact ⟨ret_bool HO.out.symm, (Below.refl _ _).alloc (Nat.le_refl _) _⟩
/-- Few headers, and small ones. -/
def fewL (ps : List Par) : Bool := decide (ps.length ≤ 40) && !ps.any overP
set_option maxHeartbeats 1000000 in
theorem few_any (ps : List Par) (hz : ∀ p ∈ ps, p.1.size ≤ 140737488355328 ∧ p.2.size ≤ 140737488355328) (a0 : Option Addr) (len cap b off : Nat) (hlb : len ≤ 9223372036854775807) (w : World) (hx : Pars w a0 len b off ps) :
    Calls Tryz.prog 6 #[.slice a0 len cap] w fun e w' => e = .returned (.bool (fewL ps)) ∧ Below w.heap.size w w' := by
  have hl := hx.len_eq
  by_cases h : len ≤ 40
  · have h' : (len : Int) ≤ 40 := by omega
    have hK : KindP 15 overP ps := ⟨fun p hp w => overF_any p (hz p hp).1 (hz p hp).2 w, enters_at Tryz.func15 (by kernel_rfl) rfl⟩
    have hcon : ∀ w', Pars w' a0 len b off ps → Calls Tryz.prog 14 #[.slice a0 len cap, .func (.func 15) #[] #[]] w' fun e w'' => e = .returned (.bool (ps.any overP)) ∧ Below w'.heap.size w' w'' := fun w' hx' => by
      go_enter Tryz.func14, Tryz.ntmps14
      go_wp2_with (go_at_call 33; refine (indexP8_any _ overP ps hK a0 len cap b off (by omega) _ hx').mono ?_; rintro e w'' ⟨⟨r, rfl, HR⟩, hb⟩)
      go_ret
      exact ⟨ret_bool HR.out, hb⟩
    obtain ⟨q, HQ⟩ : ∃ q, Hid (ps.any overP = q) := ⟨_, rfl⟩
    rw [HQ.out] at hcon
    have HF : Hid (fewL ps = !q) := by
      show _ = _
      unfold fewL
      rw [decide_eq_true (by omega), HQ.out, Bool.true_and]
    clear hK hz
    go_enter Tryz.func6, Tryz.ntmps6
    go_wp2_with fail
    refine (hcon _ hx).mono ?_
    rintro e w1 ⟨rfl, hb1⟩
    go_wp2
    go_ret
    exact ⟨ret_bool HF.out.symm, hb1⟩
  · have h' : ¬ (len : Int) ≤ 40 := by omega
    have HF : Hid (fewL ps = false) := by
      show _ = _
      unfold fewL
      rw [decide_eq_false (by omega), Bool.false_and]
    go_enter Tryz.func6, Tryz.ntmps6
    go_wp2
    go_ret
    exact ⟨ret_bool HF.out.symm, Below.refl _ _⟩
theorem fewL_small {ps : List Par} (h : fewL ps = true) : ps.length ≤ 40 ∧ ∀ p ∈ ps, p.1.size + p.2.size ≤ 300 := by
  unfold fewL at h
  rw [Bool.and_eq_true] at h
  refine ⟨of_decide_eq_true h.1, fun p hp => ?_⟩
  have h2 : ps.any overP = false := by simpa using h.2
  have h3 := List.any_eq_false.1 h2 p hp
  unfold overP at h3
  simpa using h3
end Go.Proofs.YthoblggjhdnlpaaGreatDoor

/- What every walk over the coding package needs: rows of bytes that a call owns, and the two conversions between texts and rows. -/
namespace Go.Proofs.YthoblggjhdnlpaaGreatDoor
open Go.RowKit

/-- The cells of a row of bytes: what they hold, and that they may be written. -/
def Row (w : World) (B : Nat) (L : List UInt8) : Prop := ∀ j (h : j < L.length), w.cell? ⟨B, j, none⟩ = some (.int .u8 (L[j].toNat : Int)) ∧ w.frozen? ⟨B, j, none⟩ = false

theorem conv_bytes (s : ByteArray) (w : World) : ∃ (cap : Nat) (W1 : World), (convert 9 83 (.string s)).run Tryz.prog w = .ok (.slice (some ⟨w.heap.size, 0, none⟩) s.size cap) W1 ∧ Row W1 w.heap.size s.data.toList ∧ Below w.heap.size w W1 ∧ W1.heap.size = w.heap.size + 1 := by
  refine ⟨_, _, run_bytes_of_string (P := Tryz.prog) w 9 83 5 s Tryz.underlying9 Tryz.underlying83 Tryz.underlying5, ?_, ?_, ?_⟩
  · intro j hj
    have hj' : j < s.size := by simpa using hj
    refine ⟨?_, ?_⟩
    · have h1 : (w.drew.alloc (.cells (bytesRow s (grownCap w s.size 0 5)) 5 ((bytesRow s (grownCap w s.size 0 5)).size, (bytesRow s (grownCap w s.size 0 5)).size + 1))).cell? ⟨w.drew.heap.size, j, none⟩ = (bytesRow s (grownCap w s.size 0 5))[j]? := World.cell?_alloc_mark _ _ _ _ _
      rw [bytesRow_at s _ j hj'] at h1
      exact h1
    · have h2 : (w.drew.alloc (.cells (bytesRow s (grownCap w s.size 0 5)) 5 ((bytesRow s (grownCap w s.size 0 5)).size, (bytesRow s (grownCap w s.size 0 5)).size + 1))).frozen? ⟨w.drew.heap.size, j, none⟩ = _ := World.frozen?_alloc_mark _ _ _ _ _ _
      have h3 : j < (bytesRow s (grownCap w s.size 0 5)).size := by simp [bytesRow]; omega
      rw [decide_eq_false (by omega), Bool.false_and] at h2
      exact h2
  · exact ((Below.refl _ _).drew).alloc (Nat.le_refl _) _
  · simp

theorem conv_back {w : World} {B : Nat} {L : List UInt8} (h : Row w B L) (n cap : Nat) (hn : L.length = n) : (convert 83 9 (.slice (some ⟨B, 0, none⟩) n cap)).run Tryz.prog w = .ok (.string (bs L)) w := by
  subst hn
  refine run_convert_bytes_back (P := Tryz.prog) w 83 9 5 ⟨B, 0, none⟩ cap L Tryz.underlying83 Tryz.underlying5 Tryz.underlying9 (fun j hj => ?_)
  have := (h j hj).1
  rw [WideShapes.add_plain, Nat.zero_add]
  exact this

theorem Row.set {w : World} {B : Nat} {L : List UInt8} (h : Row w B L) (k : Nat) (c : UInt8) (n : Int) (hn : n = c.toNat) : Row (w.setCell ⟨B, k, none⟩ (.int .u8 n)) B (L.set k c) := by
  subst hn
  intro j hj
  have hj' : j < L.length := by simpa using hj
  refine ⟨?_, ?_⟩
  · by_cases e : j = k
    · subst e
      rw [World.cell?_setCell_same _ _ _ (h j hj').1]
      simp
    · have hne : (⟨B, k, none⟩ : Addr) ≠ ⟨B, j, none⟩ := by intro hh; injection hh with _ h2; omega
      rw [World.cell?_setCell_other _ _ _ _ hne, (h j hj').1]
      simp [Ne.symm e]
  · have := (h j hj').2
    simpa using this

/-- A value of type []byte that owns the bytes l, among the blocks from B on. -/
def Own (w : World) (B : Nat) (v : Value) (l : List UInt8) : Prop := w.ownsRow B 5 1 v l.length (l.map fun c => Value.int .u8 (c.toNat : Int))

theorem Own.back {w : World} {B g n cap : Nat} {l : List UInt8} (h : Own w B (.slice (some ⟨g, 0, none⟩) n cap) l) (hn : l.length = n) : (convert 83 9 (.slice (some ⟨g, 0, none⟩) n cap)).run Tryz.prog w = .ok (.string (bs l)) w := by
  subst hn
  refine run_convert_bytes_back (P := Tryz.prog) w 83 9 5 ⟨g, 0, none⟩ cap l Tryz.underlying83 Tryz.underlying5 Tryz.underlying9 (fun j hj => ?_)
  have := World.ownsRow.cells h (g := g) rfl j (.int .u8 (l[j].toNat : Int)) (by simp [hj])
  exact this

theorem Own.rows {w : World} {B n : Nat} {v : Value} {l : List UInt8} (h : Own w B v l) (hn : l.length = n) : w.ownsRow B 5 1 v n (l.map fun c => Value.int .u8 (c.toNat : Int)) := by
  subst hn
  exact h
theorem Own.more {w : World} {B n m : Nat} {v : Value} {l ds : List UInt8} (h : w.ownsRow B 5 1 v (n + m) ((l.map fun c => Value.int .u8 (c.toNat : Int)) ++ (ds.map fun c => Value.int .u8 (c.toNat : Int)))) (hn : l.length = n) (hm : ds.length = m) : Own w B v (l ++ ds) := by
  subst hn hm
  unfold Own
  rw [List.length_append, List.map_append]
  exact h
theorem Own.ge {w : World} {B g n cap : Nat} {l : List UInt8} (h : Own w B (.slice (some ⟨g, 0, none⟩) n cap) l) : B ≤ g := by
  rcases h.2 with h | ⟨g', _, _, h, hg, _⟩
  · cases h.1
  · injection h with h _ _; injection h with h; injection h with h; omega
theorem Own.below {w wr w1 : World} {B g n cap : Nat} {l : List UInt8} {o : Obj} (h : Own wr B (.slice (some ⟨g, 0, none⟩) n cap) l) (hb : Below B w wr) (hB : B ≤ wr.heap.size)
    (hg : (wr.alloc o).grownBy w1 (Value.slice (some ⟨g, 0, none⟩) n cap).ownBlock) : Below B w w1 := by
  refine (hb.alloc hB _).grown hg (by simp; omega) (fun x hx => ?_)
  simp only [Value.ownBlock, Option.some.injEq] at hx
  have := h.ge
  omega

theorem info5 : (Tryz.prog.info? 5).map (fun i => (i.zero, i.size, i.bytes)) = some (some (.int .u8 0), 1, 1) := by kernel_rfl
end Go.Proofs.YthoblggjhdnlpaaGreatDoor

/- A text in small letters by the program, told as a list of bytes. -/
namespace Go.Proofs.YthoblggjhdnlpaaGreatDoor
open Go.RowKit

def low (c : UInt8) : UInt8 := if 65 ≤ c ∧ c ≤ 90 then c + 32 else c
theorem low_in (c : UInt8) (h : 65 ≤ (c.toNat : Int) ∧ (c.toNat : Int) ≤ 90) : UInt8.ofNat ((c.toNat : Int) + 32).toNat = low c := by
  have h1 : 65 ≤ c := by rw [UInt8.le_iff_toNat_le]; have : (65 : UInt8).toNat = 65 := rfl; omega
  have h2 : c ≤ 90 := by rw [UInt8.le_iff_toNat_le]; have : (90 : UInt8).toNat = 90 := rfl; omega
  unfold low
  rw [if_pos ⟨h1, h2⟩]
  apply UInt8.toNat_inj.1
  have := c.toNat_lt
  simp only [UInt8.toNat_ofNat', UInt8.toNat_add]
  have : (32 : UInt8).toNat = 32 := rfl
  omega
theorem low_out (c : UInt8) (h : ¬ (65 ≤ (c.toNat : Int) ∧ (c.toNat : Int) ≤ 90)) : low c = c := by
  unfold low
  rw [if_neg]
  rintro ⟨h1, h2⟩
  rw [UInt8.le_iff_toNat_le] at h1 h2
  have : (65 : UInt8).toNat = 65 := rfl
  have : (90 : UInt8).toNat = 90 := rfl
  omega
theorem step_set (f : UInt8 → UInt8) (l : List UInt8) (k : Nat) (c : UInt8) (h : k < l.length) (hc : l[k] = c) : ((l.take k).map f ++ l.drop k).set k (f c) = (l.take (k + 1)).map f ++ l.drop (k + 1) := by
  subst hc
  have e1 : ((l.take k).map f).length = k := by simp; omega
  rw [List.drop_eq_getElem_cons h, List.set_append_right _ _ (by omega), e1, Nat.sub_self, List.set_cons_zero, List.take_succ_eq_append_getElem h, List.map_append, List.append_assoc]
  rfl
theorem step_at (f : UInt8 → UInt8) (l : List UInt8) (k : Nat) (h : k < l.length) (h2 : k < ((l.take k).map f ++ l.drop k).length) : ((l.take k).map f ++ l.drop k)[k] = l[k] := by
  have e1 : ((l.take k).map f).length = k := by simp; omega
  rw [List.getElem_append_right (by omega)]
  simp only [List.getElem_drop, e1, Nat.sub_self, Nat.add_zero]
theorem step_same (f : UInt8 → UInt8) (l : List UInt8) (k : Nat) (c : UInt8) (h : k < l.length) (hc : l[k] = c) (hf : f c = c) : (l.take k).map f ++ l.drop k = (l.take (k + 1)).map f ++ l.drop (k + 1) := by
  subst hc
  rw [List.drop_eq_getElem_cons h, List.take_succ_eq_append_getElem h, List.map_append, List.append_assoc, List.map_cons, hf]
  rfl
theorem low_num (c : UInt8) (h : 65 ≤ (c.toNat : Int) ∧ (c.toNat : Int) ≤ 90) : (c.toNat : Int) + 32 = (low c).toNat := by
  rw [← low_in c h, ofNat_back _ (by omega) (by omega)]

set_option maxHeartbeats 400000 in
theorem lower_any (s : ByteArray) (w : World) (hs : s.size ≤ 20000) :
    Calls Tryz.prog 40 #[.string s] w fun e w' => e = .returned (.string (bs (s.data.toList.map low))) ∧ Below w.heap.size w w' := by
  obtain ⟨cap, W1, hconv, hrow, hbel, hsz⟩ := conv_bytes s w
  have HR : Hid (Row W1 w.heap.size s.data.toList) := hrow
  clear hrow
  go_enter Tryz.func40, Tryz.ntmps40
  go_wp2
  go_loopw [9] (fun i wr => ∃ (k : Nat), k ≤ s.size ∧ i = .int .i64 k ∧ Hid (Row wr w.heap.size ((s.data.toList.take k).map low ++ s.data.toList.drop k)) ∧ Below w.heap.size w wr ∧ wr.heap.size = w.heap.size + 1) (fun i _ => s.size - (intOf i).toNat)
  case atStart => exact ⟨0, Nat.zero_le _, rfl, HR, hbel, hsz⟩
  case round =>
    obtain ⟨k, hk, rfl, HW, hb, hz⟩ := hrel
    by_cases hlt : k < s.size
    · have hlt' : k < s.data.toList.length := by simpa using hlt
      obtain ⟨c, hcd⟩ : ∃ c : UInt8, s.data.toList[k] = c := ⟨_, rfl⟩
      have HC : Hid (s.data.toList[k] = c) := hcd
      have hcl : (c.toNat : Int) < 256 := by have := c.toNat_lt; omega
      have hlen : k < ((s.data.toList.take k).map low ++ s.data.toList.drop k).length := by simp; omega
      have hcell : wr.cell? ⟨w.heap.size, k, none⟩ = some (.int .u8 c.toNat) := by
        rw [← hcd, ← step_at low s.data.toList k hlt' hlen]; exact (HW.out k hlen).1
      have hfro : wr.frozen? ⟨w.heap.size, k, none⟩ = false := (HW.out k hlen).2
      clear hconv HR hbel hsz hcd hlen
      by_cases h1 : 65 ≤ (c.toNat : Int)
      · by_cases h2 : (c.toNat : Int) ≤ 90
        · go_wp2
          go_roundw
          case rel => exact ⟨k + 1, by omega, by go_num, by rw [← step_set low _ k c hlt' HC.out]; exact HW.out.set k _ _ (low_num c ⟨h1, h2⟩), hb.setCell (Nat.le_refl _) _, by simp [World.setCell, hz]⟩
          case measure => simp [intOf]; omega
        · go_wp2
          go_roundw
          case rel => exact ⟨k + 1, by omega, by go_num, by rw [← step_same low _ k c hlt' HC.out (low_out c (by omega))]; exact HW, hb, hz⟩
          case measure => simp [intOf]; omega
      · go_wp2
        go_roundw
        case rel => exact ⟨k + 1, by omega, by go_num, by rw [← step_same low _ k c hlt' HC.out (low_out c (by omega))]; exact HW, hb, hz⟩
        case measure => simp [intOf]; omega
    · have hke : k = s.size := by omega
      have hend : (s.data.toList.take k).map low ++ s.data.toList.drop k = s.data.toList.map low := by
        rw [List.take_of_length_le (by simp; omega), List.drop_of_length_le (by simp; omega), List.append_nil]
      have hrow : Row wr w.heap.size (s.data.toList.map low) := by rw [← hend]; exact HW.out
      have hback := conv_back hrow s.size cap (by simp)
      clear hend hrow HW hke hconv HR hbel hsz
      go_wp2
      go_ret
      exact ⟨rfl, hb⟩
end Go.Proofs.YthoblggjhdnlpaaGreatDoor

/- Whether two texts are alike, by the program. -/
namespace Go.Proofs.YthoblggjhdnlpaaGreatDoor
open Go.RowKit

def sameL (a b : List UInt8) : Bool := a.map low == b.map low
theorem eq_bs (a b : List UInt8) : ((bs a).toList == (bs b).toList) = (a == b) := by rw [ByteArray.toList_eq, ByteArray.toList_eq, bs_data, bs_data]
set_option maxHeartbeats 1000000 in
theorem same_any (s t : ByteArray) (hs : s.size ≤ 4000) (ht : t.size ≤ 4000) (w : World) :
    Calls Tryz.prog 35 #[.string s, .string t] w fun e w' => e = .returned (.bool (sameL s.data.toList t.data.toList)) ∧ Below w.heap.size w w' := by
  obtain ⟨x, HX⟩ : ∃ x : ByteArray, Hid (bs (s.data.toList.map low) = x) := ⟨_, rfl⟩
  obtain ⟨y, HY⟩ : ∃ y : ByteArray, Hid (bs (t.data.toList.map low) = y) := ⟨_, rfl⟩
  have HS : Hid (sameL s.data.toList t.data.toList = (x.toList == y.toList)) := by show _ = _; rw [← HX.out, ← HY.out, eq_bs]; rfl
  go_enter Tryz.func35, Tryz.ntmps35
  go_wp2_with fail
  refine (lower_any s _ (by omega)).mono ?_
  rintro e w1 ⟨rfl, hb1⟩
  rw [HX.out]
  go_wp2_with fail
  refine (lower_any t _ (by omega)).mono ?_
  rintro e w2 ⟨rfl, hb2⟩
  rw [HY.out]
  go_wp2
  go_ret
  exact ⟨ret_bool HS.out.symm, hb1.trans (hb2.mono hb1.size)⟩
end Go.Proofs.YthoblggjhdnlpaaGreatDoor

/- What a field's name tells in an answer. -/
namespace Go.Proofs.YthoblggjhdnlpaaGreatDoor

/-- One value more behind what is there. -/
def joinV (s : Option (List UInt8)) (v : List UInt8) : List UInt8 := match s with | none => v | some o => o ++ 44 :: 32 :: v
def getStep (n : List UInt8) (s : Option (List UInt8)) (p : Par) : Option (List UInt8) := if sameL p.1.data.toList n then some (joinV s p.2.data.toList) else s
/-- The values of a name, a comma and a blank between. -/
def fieldL (n : List UInt8) (ps : List Par) : Option (List UInt8) := ps.foldl (getStep n) none
def fieldT (n : List UInt8) (ps : List Par) : List UInt8 := (fieldL n ps).getD []
theorem fieldL_snoc (n : List UInt8) {ps : List Par} {k : Nat} {p : Par} (h : ps[k]? = some p) : fieldL n (ps.take (k + 1)) = getStep n (fieldL n (ps.take k)) p := by
  obtain ⟨hk, e⟩ := List.getElem?_eq_some_iff.1 h
  rw [List.take_succ_eq_append_getElem hk, e]
  unfold fieldL
  rw [List.foldl_append]
  rfl
theorem fieldL_other {n : List UInt8} {ps : List Par} {k : Nat} {p : Par} (h : ps[k]? = some p) (hs : sameL p.1.data.toList n = false) : fieldL n (ps.take (k + 1)) = fieldL n (ps.take k) := by
  rw [fieldL_snoc n h]
  unfold getStep
  rw [hs]
  rfl
theorem fieldL_same {n : List UInt8} {ps : List Par} {k : Nat} {p : Par} (h : ps[k]? = some p) (hs : sameL p.1.data.toList n = true) : fieldL n (ps.take (k + 1)) = some (joinV (fieldL n (ps.take k)) p.2.data.toList) := by
  rw [fieldL_snoc n h]
  unfold getStep
  rw [hs]
  rfl
theorem fieldT_none {n : List UInt8} {ps : List Par} (h : fieldL n ps = none) : fieldT n ps = [] := by unfold fieldT; rw [h]; rfl
theorem fieldT_some {n : List UInt8} {ps : List Par} {o : List UInt8} (h : fieldL n ps = some o) : fieldT n ps = o := by unfold fieldT; rw [h]; rfl
/-- The names' letters alone count. -/
theorem sameL_low {n m : List UInt8} (h : n.map low = m.map low) (a : List UInt8) : sameL a n = sameL a m := by unfold sameL; rw [h]
theorem fieldL_low {n m : List UInt8} (h : n.map low = m.map low) (ps : List Par) : fieldL n ps = fieldL m ps := by
  unfold fieldL
  congr 1
  funext s p
  unfold getStep
  rw [sameL_low h]
theorem fieldT_low {n m : List UInt8} (h : n.map low = m.map low) (ps : List Par) : fieldT n ps = fieldT m ps := by unfold fieldT; rw [fieldL_low h]
theorem fieldT_step_len (n : List UInt8) (s : Option (List UInt8)) (p : Par) : ((getStep n s p).getD []).length ≤ (s.getD []).length + p.2.size + 2 := by
  have hz : p.2.data.toList.length = p.2.size := Array.length_toList
  unfold getStep
  split
  · cases s with
    | none => simp only [Option.getD_some, Option.getD_none, joinV, hz]; simp
    | some o => simp only [Option.getD_some, joinV, List.length_append, List.length_cons, hz]; omega
  · omega
theorem fieldT_take_len (n : List UInt8) (ps : List Par) (m : Nat) (hm : ∀ p ∈ ps, p.2.size ≤ m) (k : Nat) : (fieldT n (ps.take k)).length ≤ (m + 2) * k := by
  induction k with
  | zero => simp [fieldT, fieldL]
  | succ k ih =>
    by_cases h : k < ps.length
    · have h1 : ps[k]? = some ps[k] := List.getElem?_eq_getElem h
      have h2 := fieldT_step_len n (fieldL n (ps.take k)) ps[k]
      have h3 := hm _ (List.getElem_mem h)
      unfold fieldT at ih ⊢
      rw [fieldL_snoc n h1, Nat.mul_succ]
      omega
    · rw [List.take_of_length_le (by omega)] at ih ⊢
      rw [Nat.mul_succ]
      omega
theorem fieldT_len (n : List UInt8) (ps : List Par) (m : Nat) (hm : ∀ p ∈ ps, p.2.size ≤ m) : (fieldT n ps).length ≤ (m + 2) * ps.length := by
  have h := fieldT_take_len n ps m hm ps.length
  rwa [List.take_length] at h
/-- Fields of an answer that are few and small enough. -/
def Few9 (ps : List Par) : Prop := ps.length ≤ 45 ∧ ∀ p ∈ ps, p.1.size ≤ 300 ∧ p.2.size ≤ 300
theorem Few9.len {ps : List Par} (h : Few9 ps) (n : List UInt8) : (fieldT n ps).length ≤ 13590 := by
  have h1 := fieldT_len n ps 300 (fun p hp => (h.2 p hp).2)
  have h2 := h.1
  have h3 : (300 + 2) * ps.length ≤ 302 * 45 := Nat.mul_le_mul_left _ h2
  omega
end Go.Proofs.YthoblggjhdnlpaaGreatDoor

/- A few fields are fields: what the law asks ahead is what the walks want. -/
namespace Go.Proofs.YthoblggjhdnlpaaGreatDoor
open Go.RowKit

theorem few9_few {ps : List Par} (h : fewL ps = true) : Few9 ps := by
  obtain ⟨h1, h2⟩ := fewL_small h
  exact ⟨by omega, fun p hp => by have := h2 p hp; omega⟩
end Go.Proofs.YthoblggjhdnlpaaGreatDoor

/- A request in a block of its own. -/
namespace Go.Proofs.YthoblggjhdnlpaaGreatDoor
open Go.RowKit

/-- A struct in the first block that a call makes. -/
structure BoxQ (T : TypeId) (w : World) (cs : Array Value) (W : World) : Prop where
  bel : Below w.heap.size w W
  row : W.heap[w.heap.size]? = some (.cells cs T (0, 0))
theorem BoxQ.new (T : TypeId) (w : World) (cs : Array Value) : BoxQ T w cs (w.alloc (.cells cs T)) := ⟨(Below.refl _ _).alloc (Nat.le_refl _) _, heap_alloc_new w _⟩
theorem BoxQ.step {T : TypeId} {w W W' : World} {cs : Array Value} (h : BoxQ T w cs W) (hb : Below W.heap.size W W') : BoxQ T w cs W' :=
  ⟨h.bel.trans (hb.mono h.bel.size), (hb.block _ (Array.getElem?_eq_some_iff.1 h.row).1).trans h.row⟩
theorem BoxQ.at {T : TypeId} {w W : World} {cs : Array Value} (h : BoxQ T w cs W) (j : Nat) (v : Value) (hj : cs[j]? = some v) : W.cell? ⟨w.heap.size, j, none⟩ = some v := by
  simp [World.cell?, h.row, hj]
theorem BoxQ.lt {T : TypeId} {w W : World} {cs : Array Value} (h : BoxQ T w cs W) : w.heap.size < W.heap.size := (Array.getElem?_eq_some_iff.1 h.row).1
theorem BoxQ.inB {T : TypeId} {w W W' : World} {cs : Array Value} (h : BoxQ T w cs W) (hb : Below W.heap.size W W') : Below w.heap.size w W' := h.bel.trans (hb.mono h.bel.size)
theorem lt_cell9 {W : World} {g i : Nat} {v : Value} (h : W.cell? ⟨g, i, none⟩ = some v) : g < W.heap.size := by
  rcases Nat.lt_or_ge g W.heap.size with h1 | h1
  · exact h1
  · simp [World.cell?, Array.getElem?_eq_none h1] at h
end Go.Proofs.YthoblggjhdnlpaaGreatDoor
