/- Texts of one claim, joined: each begins with what it proves. -/
import Derived.Test.YtlmfhbffknganaaGreatDoorRows
import Derived.WalkKit
import Derived.WalkSpells
import Derived.ProofKit
import Derived.Lib.SlBytesRow
import Derived.Laws.IdiomStrings
import Derived.Deep.RegionHeld3
import Derived.Deep.AppendLies
import Derived.OwnWalk
import Derived.Lib.Strings
import Derived.Lib.Slices
import Derived.Lib.Walk
import Derived.Lib.Bytealg
import Derived.Shelf.LaysM
import Derived.Shelf.Strconv.Clone
import Derived.Deep.Cut
import Derived.Deep.QuietTactic
import Derived.BigQuiet
import Derived.Deep.Draws
/- What every walk needs: texts as lists of bytes. -/
namespace Go.Proofs.YtlmfhbffknganaaGreatDoor
open Go.RowKit

def bs (l : List UInt8) : ByteArray := ⟨l.toArray⟩
theorem bs_append (a b : List UInt8) : bs (a ++ b) = bs a ++ bs b := by
  apply ByteArray.ext
  simp [bs]
theorem bs_size (l : List UInt8) : (bs l).size = l.length := by simp [bs, ByteArray.size]
theorem bs_data (l : List UInt8) : (bs l).data.toList = l := by simp [bs]
theorem bs_self (s : ByteArray) : bs s.data.toList = s := by
  apply ByteArray.ext
  simp [bs]
theorem bs_inj {a b : List UInt8} (h : bs a = bs b) : a = b := by rw [← bs_data a, ← bs_data b, h]
theorem ret_str {a b : ByteArray} (h : a = b) : Ending.returned (.string a) = .returned (.string b) := by rw [h]
theorem str_eq {a b : ByteArray} (h : b = a) : Value.string a = .string b := by rw [h]
theorem take_snoc (s : ByteArray) (k : Nat) (h : k < s.size) : s.data.toList.take (k + 1) = s.data.toList.take k ++ [s[k]] := by
  rw [List.take_succ_eq_append_getElem (by simpa using h)]; rfl
theorem ofNat_back (n : Int) (h0 : 0 ≤ n) (h1 : n < 256) : ((UInt8.ofNat n.toNat).toNat : Int) = n := by
  simp only [UInt8.toNat_ofNat']
  omega

theorem own : ownKnob Tryz.prog.godebug = none := by kernel_rfl
end Go.Proofs.YtlmfhbffknganaaGreatDoor

/- Words, texts between marks, lists and seconds as the document says them, over lists of bytes. -/
namespace Go.Proofs.YtlmfhbffknganaaGreatDoor

def tsigns : List UInt8 := [33, 35, 36, 37, 38, 39, 42, 43, 45, 46, 94, 95, 124, 126, 96]
/-- A byte of a word. -/
def tokB (c : UInt8) : Bool := decide (97 ≤ c.toNat ∧ c.toNat ≤ 122) || decide (65 ≤ c.toNat ∧ c.toNat ≤ 90) || decide (48 ≤ c.toNat ∧ c.toNat ≤ 57) || tsigns.contains c
def blankB (c : UInt8) : Bool := c == 32 || c == 9
/-- A byte that may stand between marks. -/
def textB (c : UInt8) : Bool := c == 9 || (decide (32 ≤ c.toNat) && c != 127)
def digB (c : UInt8) : Bool := decide (48 ≤ c.toNat ∧ c.toNat ≤ 57)
/-- How many bytes of a kind stand at the beginning. -/
def runL (f : UInt8 → Bool) (l : List UInt8) : Nat := (l.takeWhile f).length
theorem runL_le (f : UInt8 → Bool) (l : List UInt8) : runL f l ≤ l.length := (List.takeWhile_sublist f).length_le
theorem runL_all (f : UInt8 → Bool) (l : List UInt8) : runL f l = l.length ↔ l.all f = true := by
  unfold runL
  induction l with
  | nil => simp
  | cons c t ih =>
    by_cases h : f c = true
    · simp only [List.takeWhile_cons, h, if_true, List.length_cons, Nat.add_right_cancel_iff, ih, List.all_cons, Bool.true_and]
    · simp [h]
theorem runL_stop (f : UInt8 → Bool) (l : List UInt8) (k : Nat) (hk : k < l.length) (h1 : (l.take k).all f = true) (h2 : f l[k] = false) : runL f l = k := by
  unfold runL
  have e : l = l.take k ++ l[k] :: l.drop (k + 1) := by
    rw [← List.drop_eq_getElem_cons hk, List.take_append_drop]
  conv => lhs; rw [e]
  rw [List.takeWhile_append_of_pos (by simpa [List.all_eq_true] using h1), List.takeWhile_cons, h2]
  simp
  omega
theorem take_runL (f : UInt8 → Bool) (l : List UInt8) : l.take (runL f l) = l.takeWhile f := by
  unfold runL
  induction l with
  | nil => rfl
  | cons c t ih =>
    by_cases h : f c = true
    · simp [h, ih]
    · simp [h]
theorem drop_runL (f : UInt8 → Bool) (l : List UInt8) : l.drop (runL f l) = l.dropWhile f := by
  unfold runL
  induction l with
  | nil => rfl
  | cons c t ih =>
    by_cases h : f c = true
    · simp [h, ih]
    · simp [h]
/-- A word: one byte at least. -/
def isL (l : List UInt8) : Bool := !l.isEmpty && l.all tokB
/-- Each mark, and each stroke, with a stroke ahead. -/
def escL : List UInt8 → List UInt8
  | [] => []
  | c :: t => if c = 34 ∨ c = 92 then 92 :: c :: escL t else c :: escL t
theorem escL_append (a b : List UInt8) : escL (a ++ b) = escL a ++ escL b := by
  induction a with
  | nil => rfl
  | cons c t ih =>
    rw [List.cons_append, escL, escL]
    split <;> rw [ih] <;> rfl
theorem escL_length (l : List UInt8) : (escL l).length ≤ 2 * l.length := by
  induction l with
  | nil => simp [escL]
  | cons c t ih =>
    rw [escL]
    split <;> simp <;> omega
def quoteL (l : List UInt8) : List UInt8 := 34 :: (escL l ++ [34])
def quoteO (l : List UInt8) : Option (List UInt8) := if l.all textB then some (quoteL l) else none
def valueO (l : List UInt8) : Option (List UInt8) := if isL l then some l else quoteO l
/-- What stands ahead of the closing mark, and how many bytes both take. -/
def unqL : Bool → List UInt8 → Option (List UInt8 × Nat)
  | _, [] => none
  | esc, c :: t =>
    if textB c = false then none
    else if esc then (unqL false t).map fun x => (c :: x.1, x.2 + 1)
    else if c = 34 then some ([], 1)
    else if c = 92 then (unqL true t).map fun x => (x.1, x.2 + 1)
    else (unqL false t).map fun x => (c :: x.1, x.2 + 1)
/-- The text between marks that begins a text, and how many bytes it has. -/
def quotedL : List UInt8 → Option (List UInt8 × Nat)
  | [] => none
  | c :: t => if c = 34 then (unqL false t).map fun x => (x.1, x.2 + 1) else none
/-- One part of a list: its word, and what stands behind it that should not. -/
def wordP (p : List UInt8) : List UInt8 := (p.dropWhile blankB).takeWhile tokB
def restP (p : List UInt8) : List UInt8 := ((p.dropWhile blankB).dropWhile tokB).dropWhile blankB
def consW (w : List UInt8) (l : List (List UInt8)) : List (List UInt8) := if w = [] then l else w :: l
/-- The words of a list's parts, or the place where something else stands. -/
def listP : Nat → List (List UInt8) → Except Nat (List (List UInt8))
  | _, [] => .ok []
  | k, p :: r => if restP p = [] then (listP (k + p.length + 1) r).map (consW (wordP p)) else .error (k + (p.length - (restP p).length))
def secStep (n : Nat) (c : UInt8) : Nat := min (10 * n + (c.toNat - 48)) 2147483648
def secN (n : Nat) (l : List UInt8) : Nat := l.foldl secStep n
/-- A number of seconds. -/
def secL (l : List UInt8) : Option Nat := if l = [] ∨ l.all digB = false then none else some (secN 0 l)
theorem secStep_le (n : Nat) (c : UInt8) : secStep n c ≤ 2147483648 := Nat.min_le_right _ _
theorem secN_le (n : Nat) (l : List UInt8) (h : n ≤ 2147483648) : secN n l ≤ 2147483648 := by
  unfold secN
  induction l generalizing n with
  | nil => exact h
  | cons c t ih => exact ih _ (secStep_le n c)
theorem secN_snoc (n : Nat) (l : List UInt8) (c : UInt8) : secN n (l ++ [c]) = secStep (secN n l) c := by simp [secN]
theorem tok_not_comma : tokB 44 = false := by decide
theorem blank_not_comma : blankB 44 = false := by decide
theorem tok_all : ∀ c : UInt8, tokB c = (decide (33 ≤ c.toNat ∧ c.toNat ≤ 126) && !([34, 40, 41, 44, 47, 58, 59, 60, 61, 62, 63, 64, 91, 92, 93, 123, 125] : List UInt8).contains c) := by
  intro c
  have : ∀ n : Fin 256, tokB (UInt8.ofNat n.1) = (decide (33 ≤ (UInt8.ofNat n.1).toNat ∧ (UInt8.ofNat n.1).toNat ≤ 126) && !([34, 40, 41, 44, 47, 58, 59, 60, 61, 62, 63, 64, 91, 92, 93, 123, 125] : List UInt8).contains (UInt8.ofNat n.1)) := by decide +kernel
  have h := this ⟨c.toNat, c.toNat_lt⟩
  simpa using h
end Go.Proofs.YtlmfhbffknganaaGreatDoor

/- What is answered, and a function value that is called. -/
namespace Go.Proofs.YtlmfhbffknganaaGreatDoor
open Go.RowKit

theorem ret_bool {a b : Bool} (h : a = b) : Ending.returned (.bool a) = .returned (.bool b) := by rw [h]
theorem ret_i64 {a b : Int} (h : a = b) : Ending.returned (.int .i64 a) = .returned (.int .i64 b) := by rw [h]
theorem enters_at {K : Nat} {fn : Func} {c : Code} (hf : Tryz.prog.funcs[K]? = some fn) (hname : (fn.name == "runtime.NumGoroutine") = false) (hb : fn.body = some c) (args : Array Value) (w : World) :
    (callFunc K args).run Tryz.prog w = .ok (.enter K args) w := by
  have h1 : fn.name ≠ "runtime.NumGoroutine" := by simpa using hname
  simp [callFunc, hf, h1, hb]
end Go.Proofs.YtlmfhbffknganaaGreatDoor

/- Functions that say whether a byte is of a kind. -/
namespace Go.Proofs.YtlmfhbffknganaaGreatDoor
open Go.RowKit

/-- A function that says whether a byte is of a kind. -/
structure Kind (K : Nat) (f : UInt8 → Bool) : Prop where
  says : ∀ (c : UInt8) (w : World), Calls Tryz.prog K #[.int .u8 (c.toNat : Int)] w fun e w' => e = .returned (.bool (f c)) ∧ w' = w
  enters : ∀ (args : Array Value) (w : World), (callFunc K args).run Tryz.prog w = .ok (.enter K args) w
theorem all_snoc (f : UInt8 → Bool) (s : ByteArray) (k : Nat) (hk : k < s.size) (c : UInt8) (e : s[k] = c) (h : (s.data.toList.take k).all f = true) (hc : f c = true) : (s.data.toList.take (k + 1)).all f = true := by
  rw [take_snoc s k hk, List.all_append, h, e]
  simp [hc]
theorem run_full (f : UInt8 → Bool) (s : ByteArray) (k : Nat) (hk : s.size ≤ k) (h : (s.data.toList.take k).all f = true) : runL f s.data.toList = s.size := by
  rw [List.take_of_length_le (by simpa using hk)] at h
  have := (runL_all f s.data.toList).2 h
  simpa using this
theorem run_part (f : UInt8 → Bool) (s : ByteArray) (k : Nat) (hk : k < s.size) (c : UInt8) (e : s[k] = c) (h : (s.data.toList.take k).all f = true) (hc : f c = false) : runL f s.data.toList = k :=
  runL_stop f _ k (by simpa using hk) h (by rw [← hc, ← e]; rfl)

end Go.Proofs.YtlmfhbffknganaaGreatDoor

/- How many bytes of a kind stand at a text's beginning, by the program; digits. -/
namespace Go.Proofs.YtlmfhbffknganaaGreatDoor
open Go.RowKit

theorem digB_yes (c : UInt8) (h1 : 48 ≤ (c.toNat : Int)) (h2 : (c.toNat : Int) ≤ 57) : digB c = true := decide_eq_true ⟨by omega, by omega⟩
theorem digB_no (c : UInt8) (h : ¬ (48 ≤ (c.toNat : Int) ∧ (c.toNat : Int) ≤ 57)) : digB c = false := decide_eq_false (by omega)
theorem tdigit_any (c : UInt8) (w : World) : Calls Tryz.prog 90 #[.int .u8 (c.toNat : Int)] w fun e w' => e = .returned (.bool (digB c)) ∧ w' = w := by
  by_cases h : 48 ≤ (c.toNat : Int)
  · by_cases h2 : (c.toNat : Int) ≤ 57
    · rw [digB_yes c h h2]
      go_enter Tryz.func90, Tryz.ntmps90
      go_wp2
      go_ret
      exact ⟨rfl, rfl⟩
    · rw [digB_no c (by omega)]
      go_enter Tryz.func90, Tryz.ntmps90
      go_wp2
      go_ret
      exact ⟨rfl, rfl⟩
  · rw [digB_no c (by omega)]
    go_enter Tryz.func90, Tryz.ntmps90
    go_wp2
    go_ret
    exact ⟨rfl, rfl⟩

theorem kind_digit : Kind 90 digB := ⟨tdigit_any, enters_at Tryz.func90 (by kernel_rfl) rfl⟩
set_option maxHeartbeats 1000000 in
theorem run_any (K : Nat) (f : UInt8 → Bool) (hK : Kind K f) (s : ByteArray) (hs : s.size ≤ 20000) (w : World) :
    Calls Tryz.prog 53 #[.string s, .func (.func K) #[] #[]] w fun e w' => e = .returned (.int .i64 (runL f s.data.toList : Int)) ∧ w' = w := by
  have HK0 : Hid (Kind K f) := hK
  have hen := hK.enters
  clear hK
  go_enter Tryz.func53, Tryz.ntmps53
  go_wp2
  go_loop [8] (fun i => ∃ (k : Nat), k ≤ s.size ∧ i = .int .i64 k ∧ Hid ((s.data.toList.take k).all f = true)) (fun i => s.size - (intOf i).toNat)
  case atStart => exact ⟨0, Nat.zero_le _, rfl, rfl⟩
  case round =>
    obtain ⟨k, hk, rfl, HK⟩ := hrel
    by_cases hlt : k < s.size
    · obtain ⟨c, hcd⟩ : ∃ c : UInt8, s[k] = c := ⟨_, rfl⟩
      have hcl : (c.toNat : Int) < 256 := by have := c.toNat_lt; omega
      have HC : Hid (s[k] = c) := hcd
      cases hf : f c
      · have HR : Hid (runL f s.data.toList = k) := run_part f s k hlt c hcd HK hf
        go_wp2_with fail
        refine (HK0.out.says c _).mono ?_
        rintro e w' ⟨rfl, rfl⟩
        rw [hf]
        go_wp2
        go_ret
        exact ⟨ret_i64 (by rw [HR.out]), rfl⟩
      · have HS : Hid ((s.data.toList.take (k + 1)).all f = true) := all_snoc f s k hlt c hcd HK hf
        go_wp2_with fail
        refine (HK0.out.says c _).mono ?_
        rintro e w' ⟨rfl, rfl⟩
        rw [hf]
        go_wp2
        go_round
        case rel => exact ⟨k + 1, by omega, by go_num, HS⟩
        case measure => simp [intOf]; omega
    · have HR : Hid (runL f s.data.toList = s.size) := run_full f s k (by omega) HK
      go_wp2
      go_ret
      exact ⟨ret_i64 (by rw [HR.out]), rfl⟩
end Go.Proofs.YtlmfhbffknganaaGreatDoor

/- Where a byte stands in a list. -/
namespace Go.Proofs.YtlmfhbffknganaaGreatDoor
open Go.RowKit

/-- Where a byte stands in a list; below 0: nowhere. -/
def ixOf (l : List UInt8) (c : UInt8) : Int := Lib.indexByte l c
theorem ixOf_cases (l : List UInt8) (c : UInt8) : (ixOf l c = -1 ∧ c ∉ l) ∨ ∃ n : Nat, n < l.length ∧ ixOf l c = n ∧ l.getD n 0 = c := by
  unfold ixOf
  induction l with
  | nil => exact .inl ⟨rfl, by simp⟩
  | cons b r ih =>
    unfold Lib.indexByte
    by_cases hb : b = c
    · subst hb
      exact .inr ⟨0, by simp, by simp, rfl⟩
    · rw [if_neg (by simpa using hb)]
      rcases ih with ⟨h1, h2⟩ | ⟨n, h1, h2, h3⟩
      · exact .inl ⟨by rw [h1]; rfl, by simp [h2, Ne.symm hb]⟩
      · refine .inr ⟨n + 1, by simpa using h1, ?_, by simpa using h3⟩
        rw [h2, if_neg (by simp)]
        simp

end Go.Proofs.YtlmfhbffknganaaGreatDoor

/- Whether a byte stands in a list. -/
namespace Go.Proofs.YtlmfhbffknganaaGreatDoor
open Go.RowKit

theorem ixOf_in (l : List UInt8) (c : UInt8) : (ixOf l c = -1 ∧ l.contains c = false) ∨ ∃ n : Nat, n < l.length ∧ ixOf l c = n ∧ l.contains c = true := by
  rcases ixOf_cases l c with ⟨h1, h2⟩ | ⟨n, h1, h2, h3⟩
  · exact .inl ⟨h1, by simpa using h2⟩
  · refine .inr ⟨n, h1, h2, ?_⟩
    rw [List.contains_iff_mem, ← h3]
    simp [h1]
end Go.Proofs.YtlmfhbffknganaaGreatDoor

/- Where a byte stands in a text, by the library's own functions. -/
namespace Go.Proofs.YtlmfhbffknganaaGreatDoor
open Go.RowKit

set_option maxHeartbeats 1000000 in
set_option maxRecDepth 100000 in
theorem slite_ix (s : ByteArray) (c : Int) (w : World) :
    Calls Tryz.prog 104 #[.string s, .int .u8 c] w fun e w' => e = .returned (.int .i64 (Lib.indexByte s.data.toList c.toNat.toUInt8)) ∧ w' = w := by
  go_enter Tryz.func104, Tryz.ntmps104
  go_wp2
  rw [run_callFunc_extern Tryz.func119 (by kernel_rfl) (by kernel_rfl) (by kernel_rfl) (e := Extern.BytealgIndexByte.indexByte) (by kernel_rfl), Lib.run_indexByteString]
  simp only [Result.andThen]
  rw [Oper.upon_value]
  go_wp2
  go_ret
  exact ⟨rfl, rfl⟩

set_option maxHeartbeats 1000000 in
theorem ix_any (s : ByteArray) (c : Int) (w : World) :
    Calls Tryz.prog 80 #[.string s, .int .u8 c] w fun e w' => e = .returned (.int .i64 (Lib.indexByte s.data.toList c.toNat.toUInt8)) ∧ w' = w := by
  go_enter Tryz.func80, Tryz.ntmps80
  go_wp2_with (go_at_call 104; refine (slite_ix _ _ _).mono ?_; rintro e w' ⟨rfl, rfl⟩)
  go_ret
  exact ⟨rfl, rfl⟩

theorem ix_of (s : ByteArray) (c : UInt8) (n : Int) (hn : n = c.toNat) (w : World) :
    Calls Tryz.prog 80 #[.string s, .int .u8 n] w fun e w' => e = .returned (.int .i64 (ixOf s.data.toList c)) ∧ w' = w := by
  subst hn
  refine (ix_any s _ w).mono ?_
  rintro e w' ⟨rfl, rfl⟩
  refine ⟨?_, rfl⟩
  unfold ixOf
  congr 3
  simp

end Go.Proofs.YtlmfhbffknganaaGreatDoor

/- Whether a byte may be one of a word, and a text is a word, by the program. -/
namespace Go.Proofs.YtlmfhbffknganaaGreatDoor
open Go.RowKit

theorem tokB_small (c : UInt8) (h : 97 ≤ (c.toNat : Int) ∧ (c.toNat : Int) ≤ 122) : tokB c = true := by
  unfold tokB
  rw [decide_eq_true (show 97 ≤ c.toNat ∧ c.toNat ≤ 122 by omega)]
  rfl
theorem tokB_great (c : UInt8) (h : 65 ≤ (c.toNat : Int) ∧ (c.toNat : Int) ≤ 90) : tokB c = true := by
  unfold tokB
  rw [decide_eq_true (show 65 ≤ c.toNat ∧ c.toNat ≤ 90 by omega)]
  simp
theorem tokB_digit (c : UInt8) (h : digB c = true) : tokB c = true := by
  unfold tokB
  unfold digB at h
  rw [h]
  simp
theorem tokB_rest (c : UInt8) (h1 : ¬ (97 ≤ (c.toNat : Int) ∧ (c.toNat : Int) ≤ 122)) (h2 : ¬ (65 ≤ (c.toNat : Int) ∧ (c.toNat : Int) ≤ 90)) (h3 : digB c = false) : tokB c = tsigns.contains c := by
  unfold tokB
  unfold digB at h3
  rw [decide_eq_false (show ¬ (97 ≤ c.toNat ∧ c.toNat ≤ 122) by omega), decide_eq_false (show ¬ (65 ≤ c.toNat ∧ c.toNat ≤ 90) by omega), h3]
  rfl
def ixT (c : UInt8) : Int := ixOf tsigns c
theorem ix_tsigns (c : UInt8) (w : World) :
    Calls Tryz.prog 80 #[.string { data := #[33, 35, 36, 37, 38, 39, 42, 43, 45, 46, 94, 95, 124, 126, 96] }, .int .u8 (c.toNat : Int)] w fun e w' => e = .returned (.int .i64 (ixT c)) ∧ w' = w := ix_of _ c _ rfl w
set_option maxHeartbeats 1000000 in
theorem byte_any (c : UInt8) (w : World) : Calls Tryz.prog 56 #[.int .u8 (c.toNat : Int)] w fun e w' => e = .returned (.bool (tokB c)) ∧ w' = w := by
  by_cases h1 : 97 ≤ (c.toNat : Int) ∧ (c.toNat : Int) ≤ 122
  · rw [tokB_small c h1]
    obtain ⟨h1, h2⟩ := h1
    go_enter Tryz.func56, Tryz.ntmps56
    go_wp2
    go_ret
    exact ⟨rfl, rfl⟩
  by_cases h2 : 65 ≤ (c.toNat : Int) ∧ (c.toNat : Int) ≤ 90
  · rw [tokB_great c h2]
    obtain ⟨h2, h3⟩ := h2
    have h4 : ¬ 97 ≤ (c.toNat : Int) := by omega
    clear h1
    go_enter Tryz.func56, Tryz.ntmps56
    go_wp2
    go_ret
    exact ⟨rfl, rfl⟩
  have key : (∃ x : Bool, digB c = true ∧ tokB c = true) ∨ (digB c = false ∧ tokB c = tsigns.contains c) := by
    cases h3 : digB c
    · exact .inr ⟨rfl, tokB_rest c h1 h2 h3⟩
    · exact .inl ⟨true, rfl, tokB_digit c h3⟩
  rcases key with ⟨_, hd, ht⟩ | ⟨hd, ht⟩
  · rw [ht]
    clear ht
    by_cases a1 : 97 ≤ (c.toNat : Int)
    · have a2 : ¬ (c.toNat : Int) ≤ 122 := by omega
      have a3 : 65 ≤ (c.toNat : Int) := by omega
      have a4 : ¬ (c.toNat : Int) ≤ 90 := by omega
      clear h1 h2
      go_enter Tryz.func56, Tryz.ntmps56
      go_wp2_with (go_at_call 90; refine (tdigit_any c _).mono ?_; rintro e w' ⟨rfl, rfl⟩; rw [hd])
      go_ret
      exact ⟨rfl, rfl⟩
    · by_cases a3 : 65 ≤ (c.toNat : Int)
      · have a4 : ¬ (c.toNat : Int) ≤ 90 := by omega
        clear h1 h2
        go_enter Tryz.func56, Tryz.ntmps56
        go_wp2_with (go_at_call 90; refine (tdigit_any c _).mono ?_; rintro e w' ⟨rfl, rfl⟩; rw [hd])
        go_ret
        exact ⟨rfl, rfl⟩
      · clear h1 h2
        go_enter Tryz.func56, Tryz.ntmps56
        go_wp2_with (go_at_call 90; refine (tdigit_any c _).mono ?_; rintro e w' ⟨rfl, rfl⟩; rw [hd])
        go_ret
        exact ⟨rfl, rfl⟩
  · obtain ⟨x, hx, hx2⟩ : ∃ x : Int, ixT c = x ∧ Hid (tokB c = decide (0 ≤ x)) := by
      refine ⟨_, rfl, ?_⟩
      show _ = _
      rw [ht]
      unfold ixT
      rcases ixOf_in tsigns c with ⟨e1, e2⟩ | ⟨n, _, e1, e2⟩
      · rw [e1, e2]; rfl
      · rw [e1, e2]; simp
    clear ht
    rw [hx2.out]
    by_cases a1 : 97 ≤ (c.toNat : Int)
    · have a2 : ¬ (c.toNat : Int) ≤ 122 := by omega
      have a3 : 65 ≤ (c.toNat : Int) := by omega
      have a4 : ¬ (c.toNat : Int) ≤ 90 := by omega
      clear h1 h2
      go_enter Tryz.func56, Tryz.ntmps56
      go_wp2_with (first | (go_at_call 90; refine (tdigit_any c _).mono ?_; rintro e w' ⟨rfl, rfl⟩; rw [hd]) | (go_at_call 80; refine (ix_tsigns c _).mono ?_; rintro e w' ⟨rfl, rfl⟩; rw [hx]))
      go_ret
      exact ⟨rfl, rfl⟩
    · by_cases a3 : 65 ≤ (c.toNat : Int)
      · have a4 : ¬ (c.toNat : Int) ≤ 90 := by omega
        clear h1 h2
        go_enter Tryz.func56, Tryz.ntmps56
        go_wp2_with (first | (go_at_call 90; refine (tdigit_any c _).mono ?_; rintro e w' ⟨rfl, rfl⟩; rw [hd]) | (go_at_call 80; refine (ix_tsigns c _).mono ?_; rintro e w' ⟨rfl, rfl⟩; rw [hx]))
        go_ret
        exact ⟨rfl, rfl⟩
      · clear h1 h2
        go_enter Tryz.func56, Tryz.ntmps56
        go_wp2_with (first | (go_at_call 90; refine (tdigit_any c _).mono ?_; rintro e w' ⟨rfl, rfl⟩; rw [hd]) | (go_at_call 80; refine (ix_tsigns c _).mono ?_; rintro e w' ⟨rfl, rfl⟩; rw [hx]))
        go_ret
        exact ⟨rfl, rfl⟩
theorem kind_byte : Kind 56 tokB := ⟨byte_any, enters_at Tryz.func56 (by kernel_rfl) rfl⟩
theorem isL_empty (s : ByteArray) (h : s.size = 0) : isL s.data.toList = false := by
  have : s.data.toList = [] := by
    apply List.eq_nil_of_length_eq_zero
    simpa using h
  rw [this]
  rfl
theorem isL_run (s : ByteArray) (h : 0 < s.size) : isL s.data.toList = decide ((runL tokB s.data.toList : Int) = (s.size : Int)) := by
  unfold isL
  have h1 : s.data.toList.isEmpty = false := by
    cases e : s.data.toList with
    | nil =>
      have h5 : s.data.toList.length = s.size := Array.length_toList
      rw [e] at h5
      simp only [List.length_nil] at h5
      omega
    | cons c t => rfl
  have h2 := runL_all tokB s.data.toList
  have h3 : s.data.toList.length = s.size := Array.length_toList
  rw [h1, Bool.eq_iff_iff]
  simp only [Bool.not_false, Bool.true_and, decide_eq_true_eq]
  rw [← h2, h3]
  omega
theorem u8_is {c : UInt8} {n : Nat} (hn : n < 256) : (c.toNat : Int) = n ↔ c = UInt8.ofNat n := by
  constructor
  · intro h
    apply UInt8.toNat_inj.1
    simp only [UInt8.toNat_ofNat']
    omega
  · rintro rfl
    simp only [UInt8.toNat_ofNat']
    omega

end Go.Proofs.YtlmfhbffknganaaGreatDoor

/- What every walk over the coding package needs: rows of bytes that a call owns, and the two conversions between texts and rows. -/
namespace Go.Proofs.YtlmfhbffknganaaGreatDoor
open Go.RowKit

/-- The cells of a row of bytes: what they hold, and that they may be written. -/
def Row (w : World) (B : Nat) (L : List UInt8) : Prop := ∀ j (h : j < L.length), w.cell? ⟨B, j, none⟩ = some (.int .u8 (L[j].toNat : Int)) ∧ w.frozen? ⟨B, j, none⟩ = false

theorem conv_bytes (s : ByteArray) (w : World) : ∃ (cap : Nat) (W1 : World), (convert 9 67 (.string s)).run Tryz.prog w = .ok (.slice (some ⟨w.heap.size, 0, none⟩) s.size cap) W1 ∧ Row W1 w.heap.size s.data.toList ∧ Below w.heap.size w W1 ∧ W1.heap.size = w.heap.size + 1 := by
  refine ⟨_, _, run_bytes_of_string (P := Tryz.prog) w 9 67 5 s Tryz.underlying9 Tryz.underlying67 Tryz.underlying5, ?_, ?_, ?_⟩
  · intro j hj
    have hj' : j < s.size := by simpa using hj
    refine ⟨?_, ?_⟩
    · have h1 : (w.drew.alloc (.cells (bytesRow s (grownCap w s.size 0 5)) 5 ((bytesRow s (grownCap w s.size 0 5)).size, (bytesRow s (grownCap w s.size 0 5)).size + 1))).cell? ⟨w.drew.heap.size, j, none⟩ = (bytesRow s (grownCap w s.size 0 5))[j]? := World.cell?_alloc_mark _ _ _ _ _
      rw [bytesRow_at s _ j hj'] at h1
      exact h1
    · have h2 : (w.drew.alloc (.cells (bytesRow s (grownCap w s.size 0 5)) 5 ((bytesRow s (grownCap w s.size 0 5)).size, (bytesRow s (grownCap w s.size 0 5)).size + 1))).frozen? ⟨w.drew.heap.size, j, none⟩ = _ := World.frozen?_alloc_mark _ _ _ _ _ _
      have h3 : j < (bytesRow s (grownCap w s.size 0 5)).size := by simp [bytesRow]; omega
      rw [decide_eq_false (by omega), Bool.false_and] at h2
      exact h2
  · exact ((Below.refl _ _).drew).alloc (Nat.le_refl _) _
  · simp

theorem conv_back {w : World} {B : Nat} {L : List UInt8} (h : Row w B L) (n cap : Nat) (hn : L.length = n) : (convert 67 9 (.slice (some ⟨B, 0, none⟩) n cap)).run Tryz.prog w = .ok (.string (bs L)) w := by
  subst hn
  refine run_convert_bytes_back (P := Tryz.prog) w 67 9 5 ⟨B, 0, none⟩ cap L Tryz.underlying67 Tryz.underlying5 Tryz.underlying9 (fun j hj => ?_)
  have := (h j hj).1
  rw [WideShapes.add_plain, Nat.zero_add]
  exact this

theorem Row.set {w : World} {B : Nat} {L : List UInt8} (h : Row w B L) (k : Nat) (c : UInt8) (n : Int) (hn : n = c.toNat) : Row (w.setCell ⟨B, k, none⟩ (.int .u8 n)) B (L.set k c) := by
  subst hn
  intro j hj
  have hj' : j < L.length := by simpa using hj
  refine ⟨?_, ?_⟩
  · by_cases e : j = k
    · subst e
      rw [World.cell?_setCell_same _ _ _ (h j hj').1]
      simp
    · have hne : (⟨B, k, none⟩ : Addr) ≠ ⟨B, j, none⟩ := by intro hh; injection hh with _ h2; omega
      rw [World.cell?_setCell_other _ _ _ _ hne, (h j hj').1]
      simp [Ne.symm e]
  · have := (h j hj').2
    simpa using this

/-- A value of type []byte that owns the bytes l, among the blocks from B on. -/
def Own (w : World) (B : Nat) (v : Value) (l : List UInt8) : Prop := w.ownsRow B 5 1 v l.length (l.map fun c => Value.int .u8 (c.toNat : Int))

theorem Own.back {w : World} {B g n cap : Nat} {l : List UInt8} (h : Own w B (.slice (some ⟨g, 0, none⟩) n cap) l) (hn : l.length = n) : (convert 67 9 (.slice (some ⟨g, 0, none⟩) n cap)).run Tryz.prog w = .ok (.string (bs l)) w := by
  subst hn
  refine run_convert_bytes_back (P := Tryz.prog) w 67 9 5 ⟨g, 0, none⟩ cap l Tryz.underlying67 Tryz.underlying5 Tryz.underlying9 (fun j hj => ?_)
  have := World.ownsRow.cells h (g := g) rfl j (.int .u8 (l[j].toNat : Int)) (by simp [hj])
  exact this

theorem Own.rows {w : World} {B n : Nat} {v : Value} {l : List UInt8} (h : Own w B v l) (hn : l.length = n) : w.ownsRow B 5 1 v n (l.map fun c => Value.int .u8 (c.toNat : Int)) := by
  subst hn
  exact h
theorem Own.more {w : World} {B n m : Nat} {v : Value} {l ds : List UInt8} (h : w.ownsRow B 5 1 v (n + m) ((l.map fun c => Value.int .u8 (c.toNat : Int)) ++ (ds.map fun c => Value.int .u8 (c.toNat : Int)))) (hn : l.length = n) (hm : ds.length = m) : Own w B v (l ++ ds) := by
  subst hn hm
  unfold Own
  rw [List.length_append, List.map_append]
  exact h
theorem Own.ge {w : World} {B g n cap : Nat} {l : List UInt8} (h : Own w B (.slice (some ⟨g, 0, none⟩) n cap) l) : B ≤ g := by
  rcases h.2 with h | ⟨g', _, _, h, hg, _⟩
  · cases h.1
  · injection h with h _ _; injection h with h; injection h with h; omega
theorem Own.below {w wr w1 : World} {B g n cap : Nat} {l : List UInt8} {o : Obj} (h : Own wr B (.slice (some ⟨g, 0, none⟩) n cap) l) (hb : Below B w wr) (hB : B ≤ wr.heap.size)
    (hg : (wr.alloc o).grownBy w1 (Value.slice (some ⟨g, 0, none⟩) n cap).ownBlock) : Below B w w1 := by
  refine (hb.alloc hB _).grown hg (by simp; omega) (fun x hx => ?_)
  simp only [Value.ownBlock, Option.some.injEq] at hx
  have := h.ge
  omega

theorem info5 : (Tryz.prog.info? 5).map (fun i => (i.zero, i.size, i.bytes)) = some (some (.int .u8 0), 1, 1) := by kernel_rfl
end Go.Proofs.YtlmfhbffknganaaGreatDoor

/- One element more at a row that a call owns. -/
namespace Go.Proofs.YtlmfhbffknganaaGreatDoor
open Go.RowKit

theorem Own.lt {w : World} {B : Nat} {v : Value} {l : List UInt8} (h : Own w B v l) : ∀ k, v.ownBlock = some k → B ≤ k ∧ k < w.heap.size := World.ownsRow.lt h
theorem Own.keep {w w' : World} {B : Nat} {v : Value} {l : List UInt8} (h : Own w B v l) (hb : Below w.heap.size w w') : Own w' B v l := by
  refine World.ownsRow.kept (row := none) h ⟨hb.1, hb.2, hb.3, hb.size, fun k hk _ => hb.block k hk⟩ ?_
  rcases v.ownBlock with _ | k
  · exact .inl rfl
  · exact .inr (by simp)
/-- A byte more at a row of bytes. -/
theorem wp_app1 {ops : Array Oper} {rest : List Oper} {o : Oper} {a : Act} {Q : Exit → Act → World → Prop} (hgd : o.guard = none) (s x : Operand)
    (ho : o.op = .call { callee := .builtin .append, args := #[s, x], argTypes := #[67, 67] })
    (B : Nat) (w0 wr : World) (v : Value) (l : List UInt8) (n : Nat) (hs : a.eval s = v) (hown : Own wr B v l) (hn : l.length = n) (hl : n ≤ 100000) (hb : Below B w0 wr) (hB : B ≤ wr.heap.size)
    (d : UInt8) (dn : Int) (hd : dn = (d.toNat : Int)) (hx : a.eval x = .slice (some ⟨wr.heap.size, 0, none⟩) 1 1)
    (h : ∀ g cap w', Own w' B (.slice (some ⟨g, 0, none⟩) (n + 1) cap) (l ++ [d]) → Below B w0 w' → g < w'.heap.size → (wr.alloc (.cells #[.int .u8 dn] 5)).grownBy w' v.ownBlock → wpList Tryz.prog ops Q rest (a.put o.dst (.slice (some ⟨g, 0, none⟩) (n + 1) cap)) w') :
    wpList Tryz.prog ops Q (o :: rest) a (wr.alloc (.cells #[.int .u8 dn] 5)) := by
  subst hd
  obtain ⟨i0, hi0, hz0, hz1, hz2⟩ := info_parts info5
  refine wpList_append_lies _ hgd s x 67 ho B 5 i0 (.int .u8 0) 1 1 Tryz.underlying67 hi0 hz0 hz1 hz2 rfl (by omega) v n _ hs ((hown.rows hn).alloc _) ⟨wr.heap.size, 0, none⟩ 1 1 [.int .u8 (d.toNat : Int)] hx rfl
    (World.news_of_block (cs := #[.int .u8 (d.toNat : Int)]) (t := 5) (fr := (0, 0)) (heap_alloc_new wr _)) (by simp [Value.oneCell']) (by omega) (by unfold maxLen; omega) (by omega) (by simp; omega) _ rfl ?_
  intro g cap w' hown1 hgrow _ hlt
  refine h g cap w' (Own.more (ds := [d]) hown1 hn rfl) ?_ hlt hgrow
  refine (hb.alloc hB _).grown hgrow (by simp; omega) (fun k hk => (hown.lt k hk).1)
end Go.Proofs.YtlmfhbffknganaaGreatDoor

/- The library's contracts that are leant on, laid at this program's numbers. -/
namespace Go.Proofs.YtlmfhbffknganaaGreatDoor
open Go.Shelf Go.RowKit
def laysM316_ren : Go.Shelf.Ren := ⟨fun | 316 => 107 | n => n, fun | 9 => 9 | 3 => 3 | 4 => 4 | 37 => 67 | 0 => 0 | 127 => 105 | 5 => 5 | n => n, fun | n => n⟩
theorem laysM316 : Go.Proofs.LaysM.n316 Tryz.prog laysM316_ren := {
  mixed := by kernel_rfl
  f316 := Tryz.func107.trans (congrArg some (by kernel_rfl))
  t0 := Tryz.underlying0
  a0 := Tryz.isAgg0
  z0 := Tryz.sizeOf0
  v0 := Tryz.zeroValue0
  t3 := Tryz.underlying3
  a3 := Tryz.isAgg3
  z3 := Tryz.sizeOf3
  v3 := Tryz.zeroValue3
  t4 := Tryz.underlying4
  a4 := Tryz.isAgg4
  z4 := Tryz.sizeOf4
  v4 := Tryz.zeroValue4
  t9 := Tryz.underlying9
  a9 := Tryz.isAgg9
  z9 := Tryz.sizeOf9
  v9 := Tryz.zeroValue9
  t37 := Tryz.underlying67
  a37 := Tryz.isAgg67
  z37 := Tryz.sizeOf67
  v37 := Tryz.zeroValue67
  t127 := Tryz.underlying105
  a127 := Tryz.isAgg105
  z127 := Tryz.sizeOf105
  v127 := Tryz.zeroValue105
  t5 := Tryz.underlying5
  a5 := Tryz.isAgg5
  z5 := Tryz.sizeOf5
  v5 := Tryz.zeroValue5
  i0 := by kernel_rfl
  i3 := by kernel_rfl
  i4 := by kernel_rfl
  i5 := by kernel_rfl
  i9 := by kernel_rfl
  i37 := by kernel_rfl
  i127 := by kernel_rfl }
end Go.Proofs.YtlmfhbffknganaaGreatDoor

/- A text once more, by the library. -/
namespace Go.Proofs.YtlmfhbffknganaaGreatDoor
open Go.RowKit Go.Shelf

theorem clone_any (s : ByteArray) (hs : s.size ≤ 20000) (w : World) :
    Calls Tryz.prog 84 #[.string s] w fun e w' => e = .returned (.string s) ∧ Below w.heap.size w w' := by
  have hc : ∀ w, Calls Tryz.prog 107 #[.string s] w fun e w' => e = .returned (.string s) ∧ Below w.heap.size w w' := fun w => Any.stringslite_Clone laysM316 s w (by omega)
  go_enter Tryz.func84, Tryz.ntmps84
  go_wp2_with (go_at_call 107; refine (hc _).mono ?_; rintro e w' ⟨rfl, hb⟩)
  go_ret
  exact ⟨rfl, hb⟩
end Go.Proofs.YtlmfhbffknganaaGreatDoor

/- Where a cursor is, and what of the world it leaves as it was. -/
namespace Go.Proofs.YtlmfhbffknganaaGreatDoor
open Go.RowKit

/-- A cursor at block b: its text, and where it is. -/
structure Cur (w : World) (b : Nat) (s : ByteArray) (k : Nat) : Prop where
  text : w.cell? ⟨b, 0, none⟩ = some (.string s)
  place : w.cell? ⟨b, 1, none⟩ = some (.int .i64 (k : Int))
  free : w.frozen? ⟨b, 1, none⟩ = false
  le : k ≤ s.size
theorem Cur.drewN {w : World} {b : Nat} {s : ByteArray} {k : Nat} (h : Cur w b s k) (n : Nat) : Cur (w.drewN n) b s k := ⟨h.text, h.place, h.free, h.le⟩
theorem Cur.drew {w : World} {b : Nat} {s : ByteArray} {k : Nat} (h : Cur w b s k) : Cur w.drew b s k := ⟨h.text, h.place, h.free, h.le⟩
theorem Cur.lt {w : World} {b : Nat} {s : ByteArray} {k : Nat} (h : Cur w b s k) : b < w.heap.size := by
  rcases Nat.lt_or_ge b w.heap.size with h1 | h1
  · exact h1
  · have := h.text
    simp [World.cell?, Array.getElem?_eq_none h1] at this
theorem Cur.set {w : World} {b : Nat} {s : ByteArray} {k : Nat} (h : Cur w b s k) (m : Nat) (hm : m ≤ s.size) (v : Int) (hv : v = (m : Int)) : Cur (w.setCell ⟨b, 1, none⟩ (.int .i64 v)) b s m := by
  subst hv
  refine ⟨?_, World.cell?_setCell_same _ _ _ h.place, ?_, hm⟩
  · rw [World.cell?_setCell_other _ _ _ _ (by intro e; injection e with _ e2; omega)]
    exact h.text
  · have := h.free
    simpa using this
theorem Cur.grown {w w' : World} {b : Nat} {s : ByteArray} {k : Nat} {row : Option Nat} (h : Cur w b s k) (hg : w.grownBy w' row) (hr : some b ≠ row) : Cur w' b s k :=
  ⟨hg.cell h.text hr, hg.cell h.place hr, (World.frozen?_of_block (a := ⟨b, 1, none⟩) (hg.block b h.lt hr)).trans h.free, h.le⟩
theorem Cur.below {w w' : World} {b : Nat} {s : ByteArray} {k : Nat} (h : Cur w b s k) (hb : Below w.heap.size w w') : Cur w' b s k :=
  h.grown (row := none) ⟨hb.os, hb.tape, hb.output, hb.size, fun i hi _ => hb.block i hi⟩ (by simp)
theorem grown_drewN (w : World) (n : Nat) (row : Option Nat) : w.grownBy (w.drewN n) row := ⟨rfl, rfl, rfl, Nat.le_refl _, fun _ _ _ => rfl⟩
theorem grown_set (w : World) (b i : Nat) (v : Value) : w.grownBy (w.setCell ⟨b, i, none⟩ v) (some b) :=
  ⟨rfl, rfl, rfl, by simp [World.setCell], fun k _ hk => Below.heap_setCell _ _ _ _ (by intro e; apply hk; rw [e])⟩
theorem grown_trans {a b c : World} {row : Option Nat} (h : a.grownBy b row) (k : b.grownBy c row) : a.grownBy c row :=
  ⟨k.os.trans h.os, k.tape.trans h.tape, k.output.trans h.output, Nat.le_trans h.size k.size, fun i hi hr => (k.block i (Nat.lt_of_lt_of_le hi h.size) hr).trans (h.block i hi hr)⟩
theorem grown_below {w w' : World} (hb : Below w.heap.size w w') (row : Option Nat) : w.grownBy w' row := ⟨hb.os, hb.tape, hb.output, hb.size, fun i hi _ => hb.block i hi⟩

theorem blankB_32 (c : UInt8) (h : (c.toNat : Int) = 32) : blankB c = true := by
  rw [(u8_is (n := 32) (by omega)).1 h]
  rfl
theorem blankB_9 (c : UInt8) (h : (c.toNat : Int) = 9) : blankB c = true := by
  rw [(u8_is (n := 9) (by omega)).1 h]
  rfl
theorem blankB_no (c : UInt8) (h : ¬ (c.toNat : Int) = 32) (h2 : ¬ (c.toNat : Int) = 9) : blankB c = false := by
  unfold blankB
  rw [beq_eq_false_iff_ne.2 (by rintro rfl; exact h rfl), beq_eq_false_iff_ne.2 (by rintro rfl; exact h2 rfl)]
  rfl
theorem blank_any (c : UInt8) (w : World) : Calls Tryz.prog 89 #[.int .u8 (c.toNat : Int)] w fun e w' => e = .returned (.bool (blankB c)) ∧ w' = w := by
  by_cases h : (c.toNat : Int) = 32
  · rw [blankB_32 c h]
    go_enter Tryz.func89, Tryz.ntmps89
    go_wp2
    go_ret
    exact ⟨rfl, rfl⟩
  · by_cases h2 : (c.toNat : Int) = 9
    · rw [blankB_9 c h2]
      go_enter Tryz.func89, Tryz.ntmps89
      go_wp2
      go_ret
      exact ⟨rfl, rfl⟩
    · rw [blankB_no c h h2]
      have e1 := beq_eq_false_iff_ne.2 h
      have e2 := beq_eq_false_iff_ne.2 h2
      go_enter Tryz.func89, Tryz.ntmps89
      go_wp2
      go_ret
      exact ⟨rfl, rfl⟩
theorem kind_blank : Kind 89 blankB := ⟨blank_any, enters_at Tryz.func89 (by kernel_rfl) rfl⟩

theorem on_any (s : ByteArray) (w : World) :
    Calls Tryz.prog 24 #[.string s] w fun e w' => e = .returned (.pointer (some ⟨w.heap.size, 0, none⟩)) ∧ Cur w' w.heap.size s 0 ∧ Below w.heap.size w w' ∧ w.heap.size < w'.heap.size := by
  go_enter Tryz.func24, Tryz.ntmps24
  go_wp2
  go_ret
  exact ⟨rfl, ⟨by simp, by simp, by simp, Nat.zero_le _⟩, (Below.refl _ _).alloc (Nat.le_refl _) _, by simp⟩
theorem at_any (b : Nat) (s : ByteArray) (k : Nat) (w : World) (hc : Cur w b s k) :
    Calls Tryz.prog 26 #[.pointer (some ⟨b, 0, none⟩)] w fun e w' => e = .returned (.int .i64 (k : Int)) ∧ w' = w := by
  obtain ⟨h1, h2, h3, h4⟩ := hc
  go_enter Tryz.func26, Tryz.ntmps26
  go_wp2
  go_ret
  exact ⟨rfl, rfl⟩
theorem end_any (b : Nat) (s : ByteArray) (k : Nat) (w : World) (hc : Cur w b s k) :
    Calls Tryz.prog 36 #[.pointer (some ⟨b, 0, none⟩)] w fun e w' => e = .returned (.bool ((k : Int) == (s.size : Int))) ∧ ∃ n, w' = w.drewN n := by
  obtain ⟨h1, h2, h3, h4⟩ := hc
  go_enter Tryz.func36, Tryz.ntmps36
  go_wp2
  go_quiet (fail)
  go_wp2
  go_ret
  exact ⟨rfl, _, rfl⟩
end Go.Proofs.YtlmfhbffknganaaGreatDoor
