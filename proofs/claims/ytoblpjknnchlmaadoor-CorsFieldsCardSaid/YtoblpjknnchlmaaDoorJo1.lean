/- Texts of one claim, joined: each begins with what it proves. -/
import Derived.Test.YtoblpjknnchlmaaDoorRows
import Derived.WalkKit
import Derived.WalkSpells
import Derived.ProofKit
import Derived.Lib.SlBytesRow
import Derived.Laws.IdiomStrings
import Derived.Deep.RegionHeld3
import Derived.Deep.AppendLies
import Derived.OwnWalk
import Derived.Shelf.Strings.Search2
import Derived.Lib.Strings
import Derived.Lib.Slices
import Derived.Lib.Walk
import Derived.Lib.Bytealg
import Derived.Deep.QuietTactic
import Derived.BigQuiet
import Derived.Lib.SlTrimSet
import Derived.Lib.Index
/- What every walk needs: texts as lists of bytes. -/
namespace Go.Proofs.YtoblpjknnchlmaaDoor
open Go.RowKit

def bs (l : List UInt8) : ByteArray := ⟨l.toArray⟩
theorem bs_append (a b : List UInt8) : bs (a ++ b) = bs a ++ bs b := by
  apply ByteArray.ext
  simp [bs]
theorem bs_size (l : List UInt8) : (bs l).size = l.length := by simp [bs, ByteArray.size]
theorem bs_data (l : List UInt8) : (bs l).data.toList = l := by simp [bs]
theorem bs_self (s : ByteArray) : bs s.data.toList = s := by
  apply ByteArray.ext
  simp [bs]
theorem bs_inj {a b : List UInt8} (h : bs a = bs b) : a = b := by rw [← bs_data a, ← bs_data b, h]
theorem ret_str {a b : ByteArray} (h : a = b) : Ending.returned (.string a) = .returned (.string b) := by rw [h]
theorem str_eq {a b : ByteArray} (h : b = a) : Value.string a = .string b := by rw [h]
theorem take_snoc (s : ByteArray) (k : Nat) (h : k < s.size) : s.data.toList.take (k + 1) = s.data.toList.take k ++ [s[k]] := by
  rw [List.take_succ_eq_append_getElem (by simpa using h)]; rfl
theorem ofNat_back (n : Int) (h0 : 0 ≤ n) (h1 : n < 256) : ((UInt8.ofNat n.toNat).toNat : Int) = n := by
  simp only [UInt8.toNat_ofNat']
  omega

theorem own : ownKnob Tryd.prog.godebug = none := by kernel_rfl
end Go.Proofs.YtoblpjknnchlmaaDoor

/- What every walk over the coding package needs: rows of bytes that a call owns, and the two conversions between texts and rows. -/
namespace Go.Proofs.YtoblpjknnchlmaaDoor
open Go.RowKit

/-- The cells of a row of bytes: what they hold, and that they may be written. -/
def Row (w : World) (B : Nat) (L : List UInt8) : Prop := ∀ j (h : j < L.length), w.cell? ⟨B, j, none⟩ = some (.int .u8 (L[j].toNat : Int)) ∧ w.frozen? ⟨B, j, none⟩ = false

theorem conv_bytes (s : ByteArray) (w : World) : ∃ (cap : Nat) (W1 : World), (convert 9 73 (.string s)).run Tryd.prog w = .ok (.slice (some ⟨w.heap.size, 0, none⟩) s.size cap) W1 ∧ Row W1 w.heap.size s.data.toList ∧ Below w.heap.size w W1 ∧ W1.heap.size = w.heap.size + 1 := by
  refine ⟨_, _, run_bytes_of_string (P := Tryd.prog) w 9 73 5 s Tryd.underlying9 Tryd.underlying73 Tryd.underlying5, ?_, ?_, ?_⟩
  · intro j hj
    have hj' : j < s.size := by simpa using hj
    refine ⟨?_, ?_⟩
    · have h1 : (w.drew.alloc (.cells (bytesRow s (grownCap w s.size 0 5)) 5 ((bytesRow s (grownCap w s.size 0 5)).size, (bytesRow s (grownCap w s.size 0 5)).size + 1))).cell? ⟨w.drew.heap.size, j, none⟩ = (bytesRow s (grownCap w s.size 0 5))[j]? := World.cell?_alloc_mark _ _ _ _ _
      rw [bytesRow_at s _ j hj'] at h1
      exact h1
    · have h2 : (w.drew.alloc (.cells (bytesRow s (grownCap w s.size 0 5)) 5 ((bytesRow s (grownCap w s.size 0 5)).size, (bytesRow s (grownCap w s.size 0 5)).size + 1))).frozen? ⟨w.drew.heap.size, j, none⟩ = _ := World.frozen?_alloc_mark _ _ _ _ _ _
      have h3 : j < (bytesRow s (grownCap w s.size 0 5)).size := by simp [bytesRow]; omega
      rw [decide_eq_false (by omega), Bool.false_and] at h2
      exact h2
  · exact ((Below.refl _ _).drew).alloc (Nat.le_refl _) _
  · simp

theorem conv_back {w : World} {B : Nat} {L : List UInt8} (h : Row w B L) (n cap : Nat) (hn : L.length = n) : (convert 73 9 (.slice (some ⟨B, 0, none⟩) n cap)).run Tryd.prog w = .ok (.string (bs L)) w := by
  subst hn
  refine run_convert_bytes_back (P := Tryd.prog) w 73 9 5 ⟨B, 0, none⟩ cap L Tryd.underlying73 Tryd.underlying5 Tryd.underlying9 (fun j hj => ?_)
  have := (h j hj).1
  rw [WideShapes.add_plain, Nat.zero_add]
  exact this

theorem Row.set {w : World} {B : Nat} {L : List UInt8} (h : Row w B L) (k : Nat) (c : UInt8) (n : Int) (hn : n = c.toNat) : Row (w.setCell ⟨B, k, none⟩ (.int .u8 n)) B (L.set k c) := by
  subst hn
  intro j hj
  have hj' : j < L.length := by simpa using hj
  refine ⟨?_, ?_⟩
  · by_cases e : j = k
    · subst e
      rw [World.cell?_setCell_same _ _ _ (h j hj').1]
      simp
    · have hne : (⟨B, k, none⟩ : Addr) ≠ ⟨B, j, none⟩ := by intro hh; injection hh with _ h2; omega
      rw [World.cell?_setCell_other _ _ _ _ hne, (h j hj').1]
      simp [Ne.symm e]
  · have := (h j hj').2
    simpa using this

/-- A value of type []byte that owns the bytes l, among the blocks from B on. -/
def Own (w : World) (B : Nat) (v : Value) (l : List UInt8) : Prop := w.ownsRow B 5 1 v l.length (l.map fun c => Value.int .u8 (c.toNat : Int))

theorem Own.back {w : World} {B g n cap : Nat} {l : List UInt8} (h : Own w B (.slice (some ⟨g, 0, none⟩) n cap) l) (hn : l.length = n) : (convert 73 9 (.slice (some ⟨g, 0, none⟩) n cap)).run Tryd.prog w = .ok (.string (bs l)) w := by
  subst hn
  refine run_convert_bytes_back (P := Tryd.prog) w 73 9 5 ⟨g, 0, none⟩ cap l Tryd.underlying73 Tryd.underlying5 Tryd.underlying9 (fun j hj => ?_)
  have := World.ownsRow.cells h (g := g) rfl j (.int .u8 (l[j].toNat : Int)) (by simp [hj])
  exact this

theorem Own.rows {w : World} {B n : Nat} {v : Value} {l : List UInt8} (h : Own w B v l) (hn : l.length = n) : w.ownsRow B 5 1 v n (l.map fun c => Value.int .u8 (c.toNat : Int)) := by
  subst hn
  exact h
theorem Own.more {w : World} {B n m : Nat} {v : Value} {l ds : List UInt8} (h : w.ownsRow B 5 1 v (n + m) ((l.map fun c => Value.int .u8 (c.toNat : Int)) ++ (ds.map fun c => Value.int .u8 (c.toNat : Int)))) (hn : l.length = n) (hm : ds.length = m) : Own w B v (l ++ ds) := by
  subst hn hm
  unfold Own
  rw [List.length_append, List.map_append]
  exact h
theorem Own.ge {w : World} {B g n cap : Nat} {l : List UInt8} (h : Own w B (.slice (some ⟨g, 0, none⟩) n cap) l) : B ≤ g := by
  rcases h.2 with h | ⟨g', _, _, h, hg, _⟩
  · cases h.1
  · injection h with h _ _; injection h with h; injection h with h; omega
theorem Own.below {w wr w1 : World} {B g n cap : Nat} {l : List UInt8} {o : Obj} (h : Own wr B (.slice (some ⟨g, 0, none⟩) n cap) l) (hb : Below B w wr) (hB : B ≤ wr.heap.size)
    (hg : (wr.alloc o).grownBy w1 (Value.slice (some ⟨g, 0, none⟩) n cap).ownBlock) : Below B w w1 := by
  refine (hb.alloc hB _).grown hg (by simp; omega) (fun x hx => ?_)
  simp only [Value.ownBlock, Option.some.injEq] at hx
  have := h.ge
  omega

theorem info5 : (Tryd.prog.info? 5).map (fun i => (i.zero, i.size, i.bytes)) = some (some (.int .u8 0), 1, 1) := by kernel_rfl
end Go.Proofs.YtoblpjknnchlmaaDoor

/- The library's contracts that are leant on, laid at this program's numbers. -/
namespace Go.Proofs.YtoblpjknnchlmaaDoor
open Go.Shelf Go.RowKit
def lays219_ren : Go.Shelf.Ren := ⟨fun | 219 => 46 | 217 => 21 | 225 => 54 | 224 => 55 | 267 => 56 | 266 => 39 | 314 => 62 | n => n, fun | 9 => 9 | 3 => 3 | 4 => 4 | 5 => 5 | 46 => 80 | 146 => 100 | 51 => 99 | n => n, fun | 1 => 0 | n => n⟩
theorem lays219 : Go.Proofs.Lays.n219 Tryd.prog lays219_ren := {
  mixed := by kernel_rfl
  f217 := Tryd.func21.trans (congrArg some (by kernel_rfl))
  f219 := Tryd.func46.trans (congrArg some (by kernel_rfl))
  f224 := Tryd.func55.trans (congrArg some (by kernel_rfl))
  f225 := Tryd.func54.trans (congrArg some (by kernel_rfl))
  f266 := Tryd.func39.trans (congrArg some (by kernel_rfl))
  f267 := Tryd.func56.trans (congrArg some (by kernel_rfl))
  f314 := Tryd.func62.trans (congrArg some (by kernel_rfl))
  t3 := Tryd.underlying3
  a3 := Tryd.isAgg3
  z3 := Tryd.sizeOf3
  v3 := Tryd.zeroValue3
  t4 := Tryd.underlying4
  a4 := Tryd.isAgg4
  z4 := Tryd.sizeOf4
  v4 := Tryd.zeroValue4
  t5 := Tryd.underlying5
  a5 := Tryd.isAgg5
  z5 := Tryd.sizeOf5
  v5 := Tryd.zeroValue5
  t9 := Tryd.underlying9
  a9 := Tryd.isAgg9
  z9 := Tryd.sizeOf9
  v9 := Tryd.zeroValue9
  t46 := Tryd.underlying80
  a46 := Tryd.isAgg80
  z46 := Tryd.sizeOf80
  v46 := Tryd.zeroValue80
  t51 := Tryd.underlying99
  a51 := Tryd.isAgg99
  z51 := Tryd.sizeOf99
  v51 := Tryd.zeroValue99
  t146 := Tryd.underlying100
  a146 := Tryd.isAgg100
  z146 := Tryd.sizeOf100
  v146 := Tryd.zeroValue100
  g1 := by kernel_rfl }
end Go.Proofs.YtoblpjknnchlmaaDoor

/- Where a byte stands in a list. -/
namespace Go.Proofs.YtoblpjknnchlmaaDoor
open Go.RowKit

/-- Where a byte stands in a list; below 0: nowhere. -/
def ixOf (l : List UInt8) (c : UInt8) : Int := Lib.indexByte l c
theorem ixOf_cases (l : List UInt8) (c : UInt8) : (ixOf l c = -1 ∧ c ∉ l) ∨ ∃ n : Nat, n < l.length ∧ ixOf l c = n ∧ l.getD n 0 = c := by
  unfold ixOf
  induction l with
  | nil => exact .inl ⟨rfl, by simp⟩
  | cons b r ih =>
    unfold Lib.indexByte
    by_cases hb : b = c
    · subst hb
      exact .inr ⟨0, by simp, by simp, rfl⟩
    · rw [if_neg (by simpa using hb)]
      rcases ih with ⟨h1, h2⟩ | ⟨n, h1, h2, h3⟩
      · exact .inl ⟨by rw [h1]; rfl, by simp [h2, Ne.symm hb]⟩
      · refine .inr ⟨n + 1, by simpa using h1, ?_, by simpa using h3⟩
        rw [h2, if_neg (by simp)]
        simp

end Go.Proofs.YtoblpjknnchlmaaDoor

/- Origins and paths as the document says them, over lists of bytes. -/
namespace Go.Proofs.YtoblpjknnchlmaaDoor

/-- A byte of a host's label: a small letter or a digit. -/
def alnum (c : UInt8) : Bool := decide (97 ≤ c.toNat ∧ c.toNat ≤ 122) || decide (48 ≤ c.toNat ∧ c.toNat ≤ 57)
/-- Whether a byte may stand behind another one in a host (46: a point; ahead of the first byte and behind the last one a point is thought). -/
def hostStep (was c : UInt8) : Bool :=
  !((c == 46 && (was == 46 || was == 45)) || (c == 45 && was == 46) || (c != 46 && c != 45 && !alnum c))
def hostFrom (was : UInt8) : List UInt8 → Bool
  | [] => hostStep was 46
  | c :: t => hostStep was c && hostFrom c t
def hostL (l : List UInt8) : Bool := hostFrom 46 l
def rightL (host : List UInt8) (port : Int) : Bool := decide (host.length ≤ 60) && decide (1 ≤ port ∧ port ≤ 65535) && hostL host
/-- The port that is meant where none is told. -/
def portI (b : Bool) : Int := if b then 443 else 80
/-- A path up to its last slash, with it. -/
def dirL (l : List UInt8) : List UInt8 := (l.reverse.dropWhile (· != 47)).reverse
/-- A byte that may stand in a path or a query. -/
def sendB (c : UInt8) : Bool := decide (97 ≤ c.toNat ∧ c.toNat ≤ 122) || decide (65 ≤ c.toNat ∧ c.toNat ≤ 90) || decide (48 ≤ c.toNat ∧ c.toNat ≤ 57) || [45, 46, 95, 126, 33, 36, 38, 39, 40, 41, 42, 43, 44, 59, 61, 58, 64, 37, 47, 63].contains c
def sendL (l : List UInt8) : Bool := l.all sendB
/-- What stands between slashes. -/
def splitL (d : UInt8) : List UInt8 → List (List UInt8)
  | [] => [[]]
  | c :: t => if c = d then [] :: splitL d t else match splitL d t with
    | [] => [[c]]
    | p :: r => (c :: p) :: r
def joinL (d : UInt8) : List (List UInt8) → List UInt8
  | [] => []
  | [p] => p
  | p :: r => p ++ d :: joinL d r
/-- One part behind others: a point is left out, two take the one ahead away; if it is the last one an empty part stands there. -/
def cleanStep (last : Bool) (acc : List (List UInt8)) (p : List UInt8) : List (List UInt8) :=
  if p = [46] then (if last then acc ++ [[]] else acc)
  else if p = [46, 46] then (if last then acc.dropLast ++ [[]] else acc.dropLast)
  else acc ++ [p]
def cleanParts (acc : List (List UInt8)) : List (List UInt8) → List (List UInt8)
  | [] => acc
  | p :: r => cleanParts (cleanStep r.isEmpty acc p) r
def bodyL (s : List UInt8) : List UInt8 := match s with
  | 47 :: t => t
  | _ => s
def cleanL (s : List UInt8) : List UInt8 := 47 :: joinL 47 (cleanParts [] (splitL 47 (bodyL s)))
theorem clean_one : cleanL [47, 97, 47, 46, 47, 98, 47, 46, 46] = [47, 97, 47] := by decide
theorem clean_two : cleanL [46, 46, 47, 120] = [47, 120] := by decide
theorem clean_empty : cleanL [] = [47] := by decide
theorem host_one : hostL [97, 46, 116, 45, 49] = true := by decide
theorem host_two : hostL [97, 46] = false := by decide
end Go.Proofs.YtoblpjknnchlmaaDoor

/- Clean is clean; a path's directory is its own: over lists of bytes. -/
namespace Go.Proofs.YtoblpjknnchlmaaDoor

theorem splitL_ne (d : UInt8) : ∀ l, splitL d l ≠ []
  | [] => by simp [splitL]
  | c :: t => by
    unfold splitL
    split
    · simp
    · split <;> simp
theorem splitL_no (d : UInt8) : ∀ l, ∀ p ∈ splitL d l, d ∉ p
  | [], p, h => by
    simp [splitL] at h
    simp [h]
  | c :: t, p, h => by
    have ih := splitL_no d t
    unfold splitL at h
    split at h
    · rcases List.mem_cons.1 h with h | h
      · simp [h]
      · exact ih p h
    · rename_i hc
      split at h
      · simp at h
        subst h
        simp
        exact fun e => hc e.symm
      · rename_i q r hq
        rcases List.mem_cons.1 h with h | h
        · subst h
          have := ih q (by rw [hq]; simp)
          simp
          exact ⟨fun e => hc e.symm, this⟩
        · exact ih p (by rw [hq]; simp [h])
theorem splitL_part (d : UInt8) (p : List UInt8) (h : d ∉ p) : splitL d p = [p] := by
  induction p with
  | nil => rfl
  | cons c t ih =>
    have h1 : c ≠ d := fun e => h (by simp [e])
    have h2 : d ∉ t := fun e => h (by simp [e])
    unfold splitL
    rw [if_neg h1, ih h2]
theorem splitL_more (d : UInt8) (p t : List UInt8) (h : d ∉ p) : splitL d (p ++ d :: t) = p :: splitL d t := by
  induction p with
  | nil => simp [splitL]
  | cons c r ih =>
    have h1 : c ≠ d := fun e => h (by simp [e])
    have h2 : d ∉ r := fun e => h (by simp [e])
    rw [List.cons_append, splitL, if_neg h1, ih h2]
theorem splitL_joinL (d : UInt8) : ∀ ps : List (List UInt8), ps ≠ [] → (∀ p ∈ ps, d ∉ p) → splitL d (joinL d ps) = ps
  | [], h, _ => absurd rfl h
  | [p], _, h => splitL_part d p (h p (by simp))
  | p :: q :: r, _, h => by
    rw [joinL, splitL_more d p _ (h p (by simp)), splitL_joinL d (q :: r) (by simp) (fun x hx => h x (by simp [hx]))]
    simp
def plainP (p : List UInt8) : Prop := p ≠ [46] ∧ p ≠ [46, 46] ∧ (47 : UInt8) ∉ p
theorem cleanStep_plain (last : Bool) (acc : List (List UInt8)) (p : List UInt8) (ha : ∀ q ∈ acc, plainP q) (hp : (47 : UInt8) ∉ p) : ∀ q ∈ cleanStep last acc p, plainP q := by
  have hd : ∀ q ∈ acc.dropLast, plainP q := fun q hq => ha q ((List.dropLast_sublist acc).subset hq)
  have he : plainP [] := ⟨by simp, by simp, by simp⟩
  intro q hq
  unfold cleanStep at hq
  split at hq
  · split at hq
    · rcases List.mem_append.1 hq with h | h
      · exact ha q h
      · simp at h
        rw [h]
        exact he
    · exact ha q hq
  split at hq
  · split at hq
    · rcases List.mem_append.1 hq with h | h
      · exact hd q h
      · simp at h
        rw [h]
        exact he
    · exact hd q hq
  · rename_i h1 h2
    rcases List.mem_append.1 hq with h | h
    · exact ha q h
    · simp at h
      rw [h]
      exact ⟨h1, h2, hp⟩
theorem cleanParts_plain : ∀ (ps acc : List (List UInt8)), (∀ q ∈ acc, plainP q) → (∀ p ∈ ps, (47 : UInt8) ∉ p) → ∀ q ∈ cleanParts acc ps, plainP q
  | [], acc, ha, _, q, hq => ha q hq
  | p :: r, acc, ha, hp, q, hq => cleanParts_plain r _ (cleanStep_plain _ acc p ha (hp p (by simp))) (fun x hx => hp x (by simp [hx])) q hq
theorem cleanParts_ne : ∀ (ps acc : List (List UInt8)), ps ≠ [] → cleanParts acc ps ≠ []
  | [], _, h => absurd rfl h
  | [p], acc, _ => by
    simp only [cleanParts, List.isEmpty_nil]
    unfold cleanStep
    split
    · simp
    split
    · simp
    · simp
  | p :: q :: r, acc, _ => cleanParts_ne (q :: r) _ (by simp)
theorem cleanParts_same : ∀ (ps acc : List (List UInt8)), (∀ p ∈ ps, plainP p) → cleanParts acc ps = acc ++ ps
  | [], acc, _ => by simp [cleanParts]
  | p :: r, acc, h => by
    have hp := h p (by simp)
    rw [cleanParts, cleanStep, if_neg hp.1, if_neg hp.2.1, cleanParts_same r _ (fun x hx => h x (by simp [hx]))]
    simp
/-- The parts of a clean path. -/
theorem cleanL_parts (s : List UInt8) : ∃ ps, ps ≠ [] ∧ (∀ p ∈ ps, plainP p) ∧ cleanL s = 47 :: joinL 47 ps ∧ splitL 47 (cleanL s) = [] :: ps := by
  have h1 := cleanParts_plain (splitL 47 (bodyL s)) [] (by simp) (splitL_no 47 _)
  have h2 := cleanParts_ne (splitL 47 (bodyL s)) [] (splitL_ne 47 _)
  refine ⟨cleanParts [] (splitL 47 (bodyL s)), h2, h1, rfl, ?_⟩
  rw [cleanL, splitL, if_pos rfl, splitL_joinL 47 _ h2 (fun p hp => (h1 p hp).2.2)]
theorem cleanL_twice (s : List UInt8) : cleanL (cleanL s) = cleanL s := by
  obtain ⟨ps, hn, hp, hc, _⟩ := cleanL_parts s
  have e : cleanL (47 :: joinL 47 ps) = 47 :: joinL 47 (cleanParts [] (splitL 47 (joinL 47 ps))) := rfl
  rw [hc, e, splitL_joinL 47 ps hn (fun p h => (hp p h).2.2), cleanParts_same ps [] hp]
  simp
theorem dirL_prefix (l : List UInt8) : dirL l <+: l := by
  unfold dirL
  have h := List.dropWhile_suffix (l := l.reverse) (fun c : UInt8 => c != 47)
  have := List.reverse_prefix.2 h
  simpa using this
theorem dirL_twice (l : List UInt8) : dirL (dirL l) = dirL l := by
  unfold dirL
  rw [List.reverse_reverse]
  congr 1
  generalize l.reverse = r
  induction r with
  | nil => rfl
  | cons c t ih =>
    rw [List.dropWhile_cons]
    split
    · exact ih
    · rename_i h
      rw [List.dropWhile_cons, if_neg h]
end Go.Proofs.YtoblpjknnchlmaaDoor

/- What stands between a text's marks, by where the next mark stands. -/
namespace Go.Proofs.YtoblpjknnchlmaaDoor
open Go.RowKit

theorem ixOf_first (l : List UInt8) (c : UInt8) : (ixOf l c = -1 ∧ c ∉ l) ∨ ∃ n : Nat, n < l.length ∧ ixOf l c = n ∧ c ∉ l.take n ∧ l = l.take n ++ c :: l.drop (n + 1) := by
  unfold ixOf
  induction l with
  | nil => exact .inl ⟨rfl, by simp⟩
  | cons b r ih =>
    unfold Lib.indexByte
    by_cases hb : b = c
    · subst hb
      exact .inr ⟨0, by simp, by simp, by simp, rfl⟩
    · rw [if_neg (by simpa using hb)]
      rcases ih with ⟨h1, h2⟩ | ⟨n, h1, h2, h3, h4⟩
      · exact .inl ⟨by rw [h1]; rfl, by simp [h2, Ne.symm hb]⟩
      · refine .inr ⟨n + 1, by simpa using h1, ?_, by simp [h3, Ne.symm hb], by simp only [List.take_succ_cons, List.drop_succ_cons, List.cons_append]; rw [← h4]⟩
        rw [h2, if_neg (by simp)]
        simp

theorem extract_data (s : ByteArray) (a b : Nat) : (s.extract a b).data.toList = (s.data.toList.drop a).take (b - a) := by
  rw [ByteArray.data_extract, Array.toList_extract, List.extract_eq_take_drop]
theorem upto_data (s : ByteArray) (b : Nat) : (s.extract 0 b).data.toList = s.data.toList.take b := by rw [extract_data]; simp
theorem from_data (s : ByteArray) (a : Nat) : (s.extract a s.size).data.toList = s.data.toList.drop a := by
  rw [extract_data, List.take_of_length_le]
  simp
theorem bs_of {s : ByteArray} {l : List UInt8} (h : s.data.toList = l) : s = bs l := by rw [← h, bs_self]
/-- The parts of a text, as texts. -/
def partsOf (c : UInt8) (s : ByteArray) : List ByteArray := (splitL c s.data.toList).map bs
theorem partsOf_none (c : UInt8) (s : ByteArray) (h : c ∉ s.data.toList) : partsOf c s = [s] := by
  unfold partsOf
  rw [splitL_part c _ h, List.map_singleton, bs_self]
theorem partsOf_more (c : UInt8) (s : ByteArray) (n : Nat) (_hn : n < s.size) (h1 : c ∉ s.data.toList.take n) (h2 : s.data.toList = s.data.toList.take n ++ c :: s.data.toList.drop (n + 1)) :
    partsOf c s = s.extract 0 n :: partsOf c (s.extract (n + 1) s.size) := by
  unfold partsOf
  rw [h2, splitL_more c _ _ h1, List.map_cons, from_data, ← bs_of (upto_data s n)]
end Go.Proofs.YtoblpjknnchlmaaDoor

/- Where a text of one byte stands in a text, by the library. -/
namespace Go.Proofs.YtoblpjknnchlmaaDoor
open Go.RowKit Go.Shelf

theorem index_at (s : ByteArray) (c : UInt8) (w : World) :
    Calls Tryd.prog 46 #[.string s, .string ⟨#[c]⟩] w fun e w' => e = .returned (.int .i64 (ixOf s.data.toList c)) ∧ w' = w := Any.stringslite_Index_one lays219 s c w
end Go.Proofs.YtoblpjknnchlmaaDoor

/- What stands ahead of a text's first mark, and behind it, by the library. -/
namespace Go.Proofs.YtoblpjknnchlmaaDoor
open Go.RowKit Go.Shelf

/-- A text ahead of its first mark, and behind it; whether there is one. -/
def cutL (c : UInt8) : List UInt8 → List UInt8 × List UInt8 × Bool
  | [] => ([], [], false)
  | b :: t => if b = c then ([], t, true) else (b :: (cutL c t).1, (cutL c t).2.1, (cutL c t).2.2)
theorem cutL_none (c : UInt8) : ∀ l, c ∉ l → cutL c l = (l, [], false)
  | [], _ => rfl
  | b :: t, h => by
    have h1 : b ≠ c := fun e => h (by simp [e])
    rw [cutL, if_neg h1, cutL_none c t (fun e => h (by simp [e]))]
theorem cutL_some (c : UInt8) (b : List UInt8) : ∀ a, c ∉ a → cutL c (a ++ c :: b) = (a, b, true)
  | [], _ => by simp [cutL]
  | x :: a, h => by
    have h1 : x ≠ c := fun e => h (by simp [e])
    rw [List.cons_append, cutL, if_neg h1, cutL_some c b a (fun e => h (by simp [e]))]
theorem cutBelow {B : Nat} {a w : World} (h : Below B a w) (n : Nat) : Below B a (w.drewN n) := h.trans ⟨rfl, rfl, rfl, Nat.le_refl _, fun _ _ => rfl⟩
set_option maxHeartbeats 1000000 in
theorem cut_any (s : ByteArray) (c : UInt8) (hs : s.size ≤ 5000) (w : World) :
    Calls Tryd.prog 16 #[.string s, .string ⟨#[c]⟩] w fun e w' => ∃ (a b : ByteArray) (f : Bool), e = .returned (.tuple #[.string a, .string b, .bool f]) ∧ a.size ≤ s.size ∧ b.size ≤ s.size ∧ Hid (cutL c s.data.toList = (a.data.toList, b.data.toList, f)) ∧ Below w.heap.size w w' := by
  rcases ixOf_first s.data.toList c with ⟨hi, hno⟩ | ⟨k, hk, hi, hno, hsp⟩
  · have HE : Hid (cutL c s.data.toList = (s.data.toList, [], false)) := cutL_none c _ hno
    clear hno
    have hin : ∀ w, Calls Tryd.prog 31 #[.string s, .string ⟨#[c]⟩] w fun e w' => e = .returned (.tuple #[.string s, .string ⟨#[]⟩, .bool false]) ∧ w' = w := by
      intro w
      go_enter Tryd.func31, Tryd.ntmps31
      go_wp2_with (go_at_call 46; refine (index_at s c _).mono ?_; rintro e w' ⟨rfl, rfl⟩)
      (try simp only [Exit.inBlock, Exit.then])
      refine bodyPost_ret (results_tmp3 rfl _ _ _) rfl ⟨rfl, rfl⟩
    go_enter Tryd.func16, Tryd.ntmps16
    go_wp2_with (go_at_call 31; refine (hin _).mono ?_; rintro e w' ⟨rfl, rfl⟩)
    (try simp only [Exit.inBlock, Exit.then])
    refine bodyPost_ret (results_tmp3 rfl _ _ _) rfl ⟨s, ⟨#[]⟩, false, rfl, Nat.le_refl _, Nat.zero_le _, HE, Below.refl _ _⟩
  · have hk' : k < s.size := by simpa using hk
    have HE : Hid (cutL c s.data.toList = ((s.extract 0 k).data.toList, (s.extract (k + 1) s.size).data.toList, true)) := by
      show _ = _
      rw [upto_data, from_data]
      conv => lhs; rw [hsp]
      exact cutL_some c _ _ hno
    clear hno hsp hk
    have hin : ∀ w, Calls Tryd.prog 31 #[.string s, .string ⟨#[c]⟩] w fun e w' => e = .returned (.tuple #[.string (s.extract 0 k), .string (s.extract (k + 1) s.size), .bool true]) ∧ Below w.heap.size w w' := by
      intro w
      have b1 : (0 : Int) ≤ (k : Int) := by omega
      have b2 : (k : Int) ≤ (s.size : Int) := by omega
      have b3 : (k : Int) + 1 ≤ (s.size : Int) := by omega
      have b4 : (0 : Int) ≤ (k : Int) + 1 := by omega
      have b5 : IntKind.i64.wrap ((k : Int) + 1) = (k : Int) + 1 := IntWalk.i64_in _ ⟨by omega, by omega⟩
      go_enter Tryd.func31, Tryd.ntmps31
      go_wp2_with (go_at_call 46; refine (index_at s c _).mono ?_; rintro e w' ⟨rfl, rfl⟩)
      go_quiet (fail)
      go_wp2
      (try simp only [Exit.inBlock, Exit.then])
      refine bodyPost_ret (results_tmp3 rfl _ _ _) rfl ⟨rfl, cutBelow (Below.refl _ _) _⟩
    go_enter Tryd.func16, Tryd.ntmps16
    go_wp2_with (go_at_call 31; refine (hin _).mono ?_; rintro e w' ⟨rfl, hb⟩)
    (try simp only [Exit.inBlock, Exit.then])
    refine bodyPost_ret (results_tmp3 rfl _ _ _) rfl ⟨_, _, true, rfl, by simp; omega, by simp, HE, hb⟩

end Go.Proofs.YtoblpjknnchlmaaDoor

/- Words, texts between marks, lists and seconds as the document says them, over lists of bytes. -/
namespace Go.Proofs.YtoblpjknnchlmaaDoor

def tsigns : List UInt8 := [33, 35, 36, 37, 38, 39, 42, 43, 45, 46, 94, 95, 124, 126, 96]
/-- A byte of a word. -/
def tokB (c : UInt8) : Bool := decide (97 ≤ c.toNat ∧ c.toNat ≤ 122) || decide (65 ≤ c.toNat ∧ c.toNat ≤ 90) || decide (48 ≤ c.toNat ∧ c.toNat ≤ 57) || tsigns.contains c
def blankB (c : UInt8) : Bool := c == 32 || c == 9
/-- A byte that may stand between marks. -/
def textB (c : UInt8) : Bool := c == 9 || (decide (32 ≤ c.toNat) && c != 127)
def digB (c : UInt8) : Bool := decide (48 ≤ c.toNat ∧ c.toNat ≤ 57)
/-- How many bytes of a kind stand at the beginning. -/
def runL (f : UInt8 → Bool) (l : List UInt8) : Nat := (l.takeWhile f).length
theorem runL_le (f : UInt8 → Bool) (l : List UInt8) : runL f l ≤ l.length := (List.takeWhile_sublist f).length_le
theorem runL_all (f : UInt8 → Bool) (l : List UInt8) : runL f l = l.length ↔ l.all f = true := by
  unfold runL
  induction l with
  | nil => simp
  | cons c t ih =>
    by_cases h : f c = true
    · simp only [List.takeWhile_cons, h, if_true, List.length_cons, Nat.add_right_cancel_iff, ih, List.all_cons, Bool.true_and]
    · simp [h]
theorem runL_stop (f : UInt8 → Bool) (l : List UInt8) (k : Nat) (hk : k < l.length) (h1 : (l.take k).all f = true) (h2 : f l[k] = false) : runL f l = k := by
  unfold runL
  have e : l = l.take k ++ l[k] :: l.drop (k + 1) := by
    rw [← List.drop_eq_getElem_cons hk, List.take_append_drop]
  conv => lhs; rw [e]
  rw [List.takeWhile_append_of_pos (by simpa [List.all_eq_true] using h1), List.takeWhile_cons, h2]
  simp
  omega
theorem take_runL (f : UInt8 → Bool) (l : List UInt8) : l.take (runL f l) = l.takeWhile f := by
  unfold runL
  induction l with
  | nil => rfl
  | cons c t ih =>
    by_cases h : f c = true
    · simp [h, ih]
    · simp [h]
theorem drop_runL (f : UInt8 → Bool) (l : List UInt8) : l.drop (runL f l) = l.dropWhile f := by
  unfold runL
  induction l with
  | nil => rfl
  | cons c t ih =>
    by_cases h : f c = true
    · simp [h, ih]
    · simp [h]
/-- A word: one byte at least. -/
def isL (l : List UInt8) : Bool := !l.isEmpty && l.all tokB
/-- Each mark, and each stroke, with a stroke ahead. -/
def escL : List UInt8 → List UInt8
  | [] => []
  | c :: t => if c = 34 ∨ c = 92 then 92 :: c :: escL t else c :: escL t
theorem escL_append (a b : List UInt8) : escL (a ++ b) = escL a ++ escL b := by
  induction a with
  | nil => rfl
  | cons c t ih =>
    rw [List.cons_append, escL, escL]
    split <;> rw [ih] <;> rfl
theorem escL_length (l : List UInt8) : (escL l).length ≤ 2 * l.length := by
  induction l with
  | nil => simp [escL]
  | cons c t ih =>
    rw [escL]
    split <;> simp <;> omega
def quoteL (l : List UInt8) : List UInt8 := 34 :: (escL l ++ [34])
def quoteO (l : List UInt8) : Option (List UInt8) := if l.all textB then some (quoteL l) else none
def valueO (l : List UInt8) : Option (List UInt8) := if isL l then some l else quoteO l
/-- What stands ahead of the closing mark, and how many bytes both take. -/
def unqL : Bool → List UInt8 → Option (List UInt8 × Nat)
  | _, [] => none
  | esc, c :: t =>
    if textB c = false then none
    else if esc then (unqL false t).map fun x => (c :: x.1, x.2 + 1)
    else if c = 34 then some ([], 1)
    else if c = 92 then (unqL true t).map fun x => (x.1, x.2 + 1)
    else (unqL false t).map fun x => (c :: x.1, x.2 + 1)
/-- The text between marks that begins a text, and how many bytes it has. -/
def quotedL : List UInt8 → Option (List UInt8 × Nat)
  | [] => none
  | c :: t => if c = 34 then (unqL false t).map fun x => (x.1, x.2 + 1) else none
/-- One part of a list: its word, and what stands behind it that should not. -/
def wordP (p : List UInt8) : List UInt8 := (p.dropWhile blankB).takeWhile tokB
def restP (p : List UInt8) : List UInt8 := ((p.dropWhile blankB).dropWhile tokB).dropWhile blankB
def consW (w : List UInt8) (l : List (List UInt8)) : List (List UInt8) := if w = [] then l else w :: l
/-- The words of a list's parts, or the place where something else stands. -/
def listP : Nat → List (List UInt8) → Except Nat (List (List UInt8))
  | _, [] => .ok []
  | k, p :: r => if restP p = [] then (listP (k + p.length + 1) r).map (consW (wordP p)) else .error (k + (p.length - (restP p).length))
def secStep (n : Nat) (c : UInt8) : Nat := min (10 * n + (c.toNat - 48)) 2147483648
def secN (n : Nat) (l : List UInt8) : Nat := l.foldl secStep n
/-- A number of seconds. -/
def secL (l : List UInt8) : Option Nat := if l = [] ∨ l.all digB = false then none else some (secN 0 l)
theorem secStep_le (n : Nat) (c : UInt8) : secStep n c ≤ 2147483648 := Nat.min_le_right _ _
theorem secN_le (n : Nat) (l : List UInt8) (h : n ≤ 2147483648) : secN n l ≤ 2147483648 := by
  unfold secN
  induction l generalizing n with
  | nil => exact h
  | cons c t ih => exact ih _ (secStep_le n c)
theorem secN_snoc (n : Nat) (l : List UInt8) (c : UInt8) : secN n (l ++ [c]) = secStep (secN n l) c := by simp [secN]
theorem tok_not_comma : tokB 44 = false := by decide
theorem blank_not_comma : blankB 44 = false := by decide
theorem tok_all : ∀ c : UInt8, tokB c = (decide (33 ≤ c.toNat ∧ c.toNat ≤ 126) && !([34, 40, 41, 44, 47, 58, 59, 60, 61, 62, 63, 64, 91, 92, 93, 123, 125] : List UInt8).contains c) := by
  intro c
  have : ∀ n : Fin 256, tokB (UInt8.ofNat n.1) = (decide (33 ≤ (UInt8.ofNat n.1).toNat ∧ (UInt8.ofNat n.1).toNat ≤ 126) && !([34, 40, 41, 44, 47, 58, 59, 60, 61, 62, 63, 64, 91, 92, 93, 123, 125] : List UInt8).contains (UInt8.ofNat n.1)) := by decide +kernel
  have h := this ⟨c.toNat, c.toNat_lt⟩
  simpa using h
end Go.Proofs.YtoblpjknnchlmaaDoor

/- What the document says of words, texts between marks and lists, among themselves. -/
namespace Go.Proofs.YtoblpjknnchlmaaDoor

theorem text_34 : textB 34 = true := by decide
theorem text_92 : textB 92 = true := by decide
theorem unq_esc (s more : List UInt8) (h : s.all textB = true) : unqL false (escL s ++ 34 :: more) = some (s, (escL s).length + 1) := by
  induction s with
  | nil => simp [escL, unqL, text_34]
  | cons c t ih =>
    rw [List.all_cons, Bool.and_eq_true] at h
    have ih := ih h.2
    rw [escL]
    split
    · rename_i hc
      simp only [List.cons_append]
      have e : unqL true (c :: (escL t ++ 34 :: more)) = some (c :: t, (escL t).length + 1 + 1) := by
        rw [unqL, ih]
        simp [h.1]
      rw [unqL, e]
      simp [text_92]
    · rename_i hc
      simp only [List.cons_append]
      rw [unqL, ih]
      have h1 : c ≠ 34 := fun e => hc (.inl e)
      have h2 : c ≠ 92 := fun e => hc (.inr e)
      simp [h.1, h1, h2]
theorem quoted_quote (s more : List UInt8) (h : s.all textB = true) : quotedL (quoteL s ++ more) = some (s, (quoteL s).length) := by
  unfold quoteL
  simp only [List.cons_append, List.append_assoc, List.nil_append]
  rw [quotedL, unq_esc s more h]
  simp
theorem unq_size : ∀ (l : List UInt8) (e : Bool) (t : List UInt8) (n : Nat), unqL e l = some (t, n) → t.length + 1 ≤ n ∧ n ≤ l.length
  | [], e, t, n, h => by simp [unqL] at h
  | c :: r, e, t, n, h => by
    rw [unqL] at h
    split at h
    · cases h
    · split at h
      · obtain ⟨⟨a, b⟩, h1, h2⟩ := Option.map_eq_some_iff.1 h
        have := unq_size r _ _ _ h1
        simp only [Prod.mk.injEq] at h2
        obtain ⟨rfl, rfl⟩ := h2
        simp
        omega
      · split at h
        · cases h
          simp
        · split at h
          · obtain ⟨⟨a, b⟩, h1, h2⟩ := Option.map_eq_some_iff.1 h
            have := unq_size r _ _ _ h1
            simp only [Prod.mk.injEq] at h2
            obtain ⟨rfl, rfl⟩ := h2
            simp
            omega
          · obtain ⟨⟨a, b⟩, h1, h2⟩ := Option.map_eq_some_iff.1 h
            have := unq_size r _ _ _ h1
            simp only [Prod.mk.injEq] at h2
            obtain ⟨rfl, rfl⟩ := h2
            simp
            omega
theorem quoted_size (l t : List UInt8) (n : Nat) (h : quotedL l = some (t, n)) : t.length + 2 ≤ n ∧ n ≤ l.length := by
  cases l with
  | nil => cases h
  | cons c r =>
    rw [quotedL] at h
    split at h
    · obtain ⟨⟨a, b⟩, h1, h2⟩ := Option.map_eq_some_iff.1 h
      have := unq_size r _ _ _ h1
      simp only [Prod.mk.injEq] at h2
      obtain ⟨rfl, rfl⟩ := h2
      simp
      omega
    · cases h
/-- A value, and what stands behind it, is read as what it is. -/
theorem value_word (s v more : List UInt8) (hm : ∀ c t, more = c :: t → tokB c = false) (h : valueO s = some v) :
    (isL s = true ∧ v = s ∧ (v ++ more).takeWhile tokB = s) ∨ (isL s = false ∧ (v ++ more).takeWhile tokB = [] ∧ quotedL (v ++ more) = some (s, v.length)) := by
  have hmore : more.takeWhile tokB = [] := by
    cases more with
    | nil => rfl
    | cons c t => rw [List.takeWhile_cons, hm c t rfl]; rfl
  unfold valueO at h
  split at h
  · rename_i hs
    cases h
    refine .inl ⟨hs, rfl, ?_⟩
    unfold isL at hs
    rw [Bool.and_eq_true] at hs
    rw [List.takeWhile_append_of_pos (by simpa [List.all_eq_true] using hs.2), hmore, List.append_nil]
  · rename_i hs
    unfold quoteO at h
    split at h
    · rename_i ht
      cases h
      refine .inr ⟨by simpa using hs, ?_, quoted_quote s more ht⟩
      unfold quoteL
      rw [List.cons_append, List.takeWhile_cons, show tokB 34 = false by decide]
      rfl
    · cases h

theorem dw_comma (f : UInt8 → Bool) (hf : f 44 = false) (p t : List UInt8) : (p ++ 44 :: t).dropWhile f = p.dropWhile f ++ 44 :: t := by
  induction p with
  | nil => simp [hf]
  | cons c r ih =>
    by_cases h : f c = true
    · simp [h, ih]
    · simp [h]
theorem tw_comma (f : UInt8 → Bool) (hf : f 44 = false) (p t : List UInt8) : (p ++ 44 :: t).takeWhile f = p.takeWhile f := by
  induction p with
  | nil => simp [hf]
  | cons c r ih =>
    by_cases h : f c = true
    · simp [h, ih]
    · simp [h]
theorem wordP_comma (p t : List UInt8) : wordP (p ++ 44 :: t) = wordP p := by
  unfold wordP
  rw [dw_comma _ blank_not_comma, tw_comma _ tok_not_comma]
theorem restP_comma (p t : List UInt8) : restP (p ++ 44 :: t) = restP p ++ 44 :: t := by
  unfold restP
  rw [dw_comma _ blank_not_comma, dw_comma _ tok_not_comma, dw_comma _ blank_not_comma]
theorem restP_suffix (p : List UInt8) : restP p <:+ p := by
  unfold restP
  exact (List.dropWhile_suffix _).trans ((List.dropWhile_suffix _).trans (List.dropWhile_suffix _))
theorem cut_at (l : List UInt8) : 44 ∈ l → ∃ p t, l = p ++ 44 :: t ∧ 44 ∉ p := by
  induction l with
  | nil => intro h; cases h
  | cons c r ih =>
    intro h
    by_cases hc : c = 44
    · exact ⟨[], r, by rw [hc]; rfl, by simp⟩
    · obtain ⟨p, t, e, hp⟩ := ih (by simpa [Ne.symm hc] using h)
      exact ⟨c :: p, t, by rw [e]; rfl, by simp [hp, Ne.symm hc]⟩
theorem split_cases (l : List UInt8) : (44 ∉ l ∧ splitL 44 l = [l]) ∨ ∃ p t, l = p ++ 44 :: t ∧ 44 ∉ p ∧ splitL 44 l = p :: splitL 44 t := by
  by_cases h : 44 ∈ l
  · obtain ⟨p, t, rfl, hp⟩ := cut_at l h
    exact .inr ⟨p, t, rfl, hp, splitL_more 44 p t hp⟩
  · exact .inl ⟨h, splitL_part 44 l h⟩
theorem list_end (k : Nat) (l : List UInt8) (h : restP l = []) : listP k (splitL 44 l) = .ok (consW (wordP l) []) := by
  rcases split_cases l with ⟨_, e⟩ | ⟨p, t, rfl, _, _⟩
  · rw [e, listP, if_pos h, listP]
    rfl
  · rw [restP_comma] at h
    simp at h
theorem list_more (k : Nat) (l t : List UInt8) (h : restP l = 44 :: t) : listP k (splitL 44 l) = (listP (k + (l.length - t.length)) (splitL 44 t)).map (consW (wordP l)) := by
  rcases split_cases l with ⟨hn, e⟩ | ⟨p, t', rfl, hn, e⟩
  · exact absurd ((restP_suffix l).mem (by rw [h]; simp)) hn
  · rw [restP_comma] at h
    cases hr : restP p with
    | nil =>
      rw [hr] at h
      simp only [List.nil_append, List.cons.injEq, true_and] at h
      subst h
      rw [e, listP, if_pos hr, wordP_comma]
      congr 2
      simp
      omega
    | cons c r =>
      rw [hr] at h
      simp only [List.cons_append, List.cons.injEq] at h
      exact absurd ((restP_suffix p).mem (by rw [hr, h.1]; simp)) hn
theorem list_bad (k : Nat) (l t : List UInt8) (c : UInt8) (h : restP l = c :: t) (hc : c ≠ 44) : listP k (splitL 44 l) = .error (k + (l.length - (restP l).length)) := by
  rcases split_cases l with ⟨hn, e⟩ | ⟨p, t', rfl, hn, e⟩
  · rw [e, listP, if_neg (by rw [h]; simp)]
  · rw [restP_comma] at h
    cases hr : restP p with
    | nil =>
      rw [hr] at h
      simp only [List.nil_append, List.cons.injEq] at h
      exact absurd h.1.symm hc
    | cons c' r =>
      rw [e, listP, if_neg (by rw [hr]; simp), restP_comma]
      congr 2
      simp
      omega
/-- All parts hold a word or nothing. -/
def okP (P : List (List UInt8)) : Prop := ∀ p ∈ P, restP p = []
def wordsP : List (List UInt8) → List (List UInt8)
  | [] => []
  | p :: r => consW (wordP p) (wordsP r)
theorem wordsP_append (a b : List (List UInt8)) : wordsP (a ++ b) = wordsP a ++ wordsP b := by
  induction a with
  | nil => rfl
  | cons p r ih =>
    rw [List.cons_append, wordsP, wordsP, ih]
    unfold consW
    split <;> rfl
theorem listP_ok (P : List (List UInt8)) : ∀ (k : Nat) (x : List (List UInt8)), listP k P = .ok x ↔ okP P ∧ x = wordsP P := by
  induction P with
  | nil =>
    intro k x
    rw [listP, wordsP]
    constructor
    · intro h
      refine ⟨fun p hp => ?_, ?_⟩
      · cases hp
      · cases h
        rfl
    · intro h
      rw [h.2]
  | cons p r ih =>
    intro k x
    rw [listP, wordsP]
    by_cases h : restP p = []
    · rw [if_pos h]
      cases e : listP (k + p.length + 1) r with
      | error n =>
        refine ⟨fun hh => (by cases hh), fun hh => ?_⟩
        have := (ih (k + p.length + 1) (wordsP r)).2 ⟨fun q hq => hh.1 q (by simp [hq]), rfl⟩
        rw [e] at this
        cases this
      | ok y =>
        have := (ih _ _).1 e
        refine ⟨fun hh => ⟨fun q hq => ?_, ?_⟩, fun hh => ?_⟩
        · rcases List.mem_cons.1 hq with rfl | hq
          · exact h
          · exact this.1 q hq
        · rw [← this.2]
          have : Except.ok (consW (wordP p) y) = Except.ok (ε := Nat) x := hh
          exact (Except.ok.inj this).symm
        · rw [hh.2, ← this.2]
          rfl
    · rw [if_neg h]
      exact ⟨fun hh => (by cases hh), fun hh => absurd (hh.1 p (by simp)) h⟩
def OkL (l : List UInt8) (x : List (List UInt8)) : Prop := okP (splitL 44 l) ∧ x = wordsP (splitL 44 l)
theorem okL_comma {a b : List UInt8} {x y : List (List UInt8)} (ha : OkL a x) (hb : OkL b y) : OkL (a ++ 44 :: b) (x ++ y) := by
  have e : splitL 44 (a ++ 44 :: b) = splitL 44 a ++ splitL 44 b := by
    clear ha hb
    induction a with
    | nil => simp [splitL]
    | cons c r ih =>
      rw [List.cons_append, splitL, splitL]
      by_cases hc : c = 44
      · rw [if_pos hc, if_pos hc, ih]
        rfl
      · rw [if_neg hc, if_neg hc, ih]
        cases e : splitL 44 r with
        | nil => exact absurd e (splitL_ne 44 r)
        | cons p q => rfl
  refine ⟨?_, ?_⟩
  · rw [e]
    intro p hp
    rcases List.mem_append.1 hp with hp | hp
    · exact ha.1 p hp
    · exact hb.1 p hp
  · rw [e, wordsP_append, ← ha.2, ← hb.2]
theorem okL_front {b : List UInt8} {y : List (List UInt8)} (c : UInt8) (hc : blankB c = true) (hb : OkL b y) : OkL (c :: b) y := by
  have hne : c ≠ 44 := by
    rintro rfl
    cases hc
  obtain ⟨p, r, e⟩ : ∃ p r, splitL 44 b = p :: r := by
    cases e : splitL 44 b with
    | nil => exact absurd e (splitL_ne 44 b)
    | cons p r => exact ⟨p, r, rfl⟩
  unfold OkL at *
  rw [splitL, if_neg hne, e]
  rw [e] at hb
  have h1 : restP (c :: p) = restP p := by
    unfold restP
    rw [List.dropWhile_cons, if_pos hc]
  have h2 : wordP (c :: p) = wordP p := by
    unfold wordP
    rw [List.dropWhile_cons, if_pos hc]
  dsimp only
  rw [wordsP, h2]
  refine ⟨fun q hq => ?_, hb.2⟩
  rcases List.mem_cons.1 hq with rfl | hq
  · rw [h1]
    exact hb.1 p (by simp)
  · exact hb.1 q (by simp [hq])
theorem dw_nil (f : UInt8 → Bool) (p : List UInt8) : p.dropWhile f = [] ↔ p.all f = true := by
  induction p with
  | nil => simp
  | cons c r ih =>
    by_cases h : f c = true
    · simp [h, ih]
    · simp [h]
theorem dw_snoc (f : UInt8 → Bool) (p : List UInt8) (c : UInt8) : (p ++ [c]).dropWhile f = if p.dropWhile f = [] then [c].dropWhile f else p.dropWhile f ++ [c] := by
  induction p with
  | nil => simp
  | cons d r ih =>
    by_cases h : f d = true
    · simp only [List.cons_append, List.dropWhile_cons, h, if_true, ih]
    · simp [h]
theorem tw_snoc (f : UInt8 → Bool) (p : List UInt8) (c : UInt8) (hc : f c = false) : (p ++ [c]).takeWhile f = p.takeWhile f := by
  induction p with
  | nil => simp [hc]
  | cons d r ih =>
    by_cases h : f d = true
    · simp [h, ih]
    · simp [h]
theorem part_back (p : List UInt8) (c : UInt8) (hc : blankB c = true) (h : restP p = []) : restP (p ++ [c]) = [] ∧ wordP (p ++ [c]) = wordP p := by
  have ht : tokB c = false := by
    unfold blankB at hc
    rcases Bool.or_eq_true _ _ ▸ hc with h | h
    · rw [eq_of_beq h]; decide
    · rw [eq_of_beq h]; decide
  have h1 : [c].dropWhile blankB = [] := by simp [hc]
  have h2 : [c].dropWhile tokB = [c] := by simp [ht]
  unfold restP wordP at *
  rw [dw_snoc blankB p c]
  by_cases h3 : p.dropWhile blankB = []
  · rw [if_pos h3, h1, h3]
    exact ⟨rfl, rfl⟩
  · rw [if_neg h3, tw_snoc _ _ _ ht, dw_snoc]
    refine ⟨?_, rfl⟩
    by_cases h4 : (p.dropWhile blankB).dropWhile tokB = []
    · rw [if_pos h4, h2, h1]
    · rw [if_neg h4, dw_snoc, if_pos h, h1]
theorem okL_back : ∀ (n : Nat) (a : List UInt8) (x : List (List UInt8)) (c : UInt8), a.length ≤ n → blankB c = true → OkL a x → OkL (a ++ [c]) x
  | n, a, x, c, hn, hc, ha => by
    have hne : c ≠ 44 := by
      rintro rfl
      cases hc
    rcases split_cases a with ⟨h, e⟩ | ⟨p, t, rfl, h, e⟩
    · unfold OkL at *
      rw [e] at ha
      rw [splitL_part 44 (a ++ [c]) (by simp [h, Ne.symm hne])]
      have := part_back a c hc (ha.1 a (by simp))
      refine ⟨fun q hq => ?_, ?_⟩
      · rw [List.mem_singleton.1 hq]
        exact this.1
      · rw [ha.2]
        simp only [wordsP, this.2]
    · cases n with
      | zero => simp at hn
      | succ n =>
        unfold OkL at ha
        rw [e] at ha
        have ht : OkL t (wordsP (splitL 44 t)) := ⟨fun q hq => ha.1 q (by simp [hq]), rfl⟩
        have := okL_back n t _ c (by simp at hn; omega) hc ht
        unfold OkL
        rw [List.append_assoc, List.cons_append, splitL_more 44 p _ h]
        refine ⟨fun q hq => ?_, ?_⟩
        · rcases List.mem_cons.1 hq with rfl | hq
          · exact ha.1 q (by simp)
          · exact this.1 q hq
        · rw [ha.2, wordsP, wordsP, ← this.2]
theorem okL_nil : OkL [] [] := by
  refine ⟨fun p hp => ?_, rfl⟩
  have : p = [] := by simpa [splitL] using hp
  rw [this]
  rfl
/-- Blank, comma, tab between two lists, once or more. -/
def gapsL : Nat → List UInt8
  | 0 => []
  | n + 1 => 32 :: 44 :: 9 :: gapsL n
theorem okL_gaps {b : List UInt8} {y : List (List UInt8)} (hb : OkL b y) : ∀ (n : Nat) (a : List UInt8) (x : List (List UInt8)), OkL a x → OkL (a ++ gapsL (n + 1) ++ b) (x ++ y)
  | 0, a, x, ha => by
    have := okL_comma (okL_back _ a x 32 (Nat.le_refl _) rfl ha) (okL_front 9 rfl hb)
    simpa [gapsL] using this
  | n + 1, a, x, ha => by
    have h0 : OkL [] [] := okL_nil
    have h1 := okL_gaps hb n [9] [] (okL_front 9 rfl h0)
    have := okL_comma (okL_back _ a x 32 (Nat.le_refl _) rfl ha) h1
    simpa [gapsL] using this
/-- Words with a comma and a blank between. -/
def joinC : List (List UInt8) → List UInt8
  | [] => []
  | [w] => w
  | w :: r => w ++ 44 :: 32 :: joinC r
theorem isL_word (w : List UInt8) (h : isL w = true) : w ≠ [] ∧ w.all tokB = true ∧ 44 ∉ w ∧ OkL w [w] := by
  unfold isL at h
  rw [Bool.and_eq_true] at h
  have h1 : w ≠ [] := by
    rintro rfl
    cases h.1
  have h2 : 44 ∉ w := by
    intro hm
    have := List.all_eq_true.1 h.2 44 hm
    cases this
  have hb : w.dropWhile blankB = w := by
    cases w with
    | nil => rfl
    | cons c t =>
      have hc := List.all_eq_true.1 h.2 c (by simp)
      have : blankB c = false := by
        unfold blankB
        rw [Bool.or_eq_false_iff]
        refine ⟨beq_eq_false_iff_ne.2 ?_, beq_eq_false_iff_ne.2 ?_⟩
        · rintro rfl
          cases hc
        · rintro rfl
          cases hc
      rw [List.dropWhile_cons, this]
      rfl
  have hd : w.dropWhile tokB = [] := (dw_nil _ _).2 h.2
  have ht : w.takeWhile tokB = w := by
    have := List.takeWhile_append_dropWhile (p := tokB) (l := w)
    rw [hd, List.append_nil] at this
    exact this
  refine ⟨h1, h.2, h2, ?_⟩
  unfold OkL
  rw [splitL_part 44 w h2]
  refine ⟨fun q hq => ?_, ?_⟩
  · rw [List.mem_singleton.1 hq]
    unfold restP
    rw [hb, hd]
    rfl
  · simp only [wordsP, wordP, hb, ht, consW]
    rw [if_neg h1]
theorem okL_join : ∀ l : List (List UInt8), (∀ w ∈ l, isL w = true) → OkL (joinC l) l
  | [], _ => okL_nil
  | [w], h => (isL_word w (h w (by simp))).2.2.2
  | w :: v :: r, h => by
    have ih := okL_join (v :: r) (fun x hx => h x (by simp [hx]))
    have hw := (isL_word w (h w (by simp))).2.2.2
    exact okL_comma hw (okL_front 32 rfl ih)
theorem words_are (P : List (List UInt8)) : ∀ w ∈ wordsP P, isL w = true := by
  induction P with
  | nil => intro w hw; cases hw
  | cons p r ih =>
    intro w hw
    rw [wordsP, consW] at hw
    split at hw
    · exact ih w hw
    · rename_i hne
      rcases List.mem_cons.1 hw with rfl | hw
      · unfold isL
        rw [Bool.and_eq_true]
        refine ⟨by simpa using hne, ?_⟩
        unfold wordP
        exact List.all_takeWhile
      · exact ih w hw
theorem okL_words {l : List UInt8} {x : List (List UInt8)} (h : OkL l x) : ∀ w ∈ x, isL w = true := by
  rw [h.2]
  exact words_are _
theorem okL_iff (l : List UInt8) (x : List (List UInt8)) : listP 0 (splitL 44 l) = .ok x ↔ OkL l x := listP_ok _ _ _
/-- One digit more; noughts ahead. -/
theorem sec_digit (s : List UInt8) (n : Nat) (c : UInt8) (hc : digB c = true) (h : secL s = some n) : secL (s ++ [c]) = some (min (10 * n + (c.toNat - 48)) 2147483648) := by
  unfold secL at *
  split at h
  · cases h
  · rename_i hn
    cases h
    rw [if_neg, secN_snoc]
    · rfl
    · rintro (h1 | h1)
      · simp at h1
      · apply hn
        right
        rw [List.all_append] at h1
        simpa [hc] using h1
theorem sec_noughts (s : List UInt8) (n k : Nat) (h : secL s = some n) : secL (List.replicate k 48 ++ s) = some n := by
  induction k with
  | zero => exact h
  | succ k ih =>
    rw [List.replicate_succ, List.cons_append]
    unfold secL at *
    split at ih
    · cases ih
    · rename_i hn
      cases ih
      rw [if_neg]
      · rfl
      · rintro (h1 | h1)
        · cases h1
        · apply hn
          right
          rw [List.all_cons] at h1
          simpa [show digB 48 = true by decide] using h1
end Go.Proofs.YtoblpjknnchlmaaDoor

/- A part of a list, trimmed: what it has to do with its word and with what stands behind it. -/
namespace Go.Proofs.YtoblpjknnchlmaaDoor

def trimW (p : List UInt8) : List UInt8 := ((p.dropWhile blankB).reverse.dropWhile blankB).reverse
theorem set_blank : (fun c : UInt8 => ([32, 9] : List UInt8).contains c) = blankB := by
  funext c
  unfold blankB
  simp
  rfl
/-- What stands ahead of the blanks at the end. -/
theorem trim_split (a : List UInt8) : ∃ br : List UInt8, a = (a.reverse.dropWhile blankB).reverse ++ br ∧ br.all blankB = true := by
  refine ⟨(a.reverse.takeWhile blankB).reverse, ?_, ?_⟩
  · rw [← List.reverse_append, List.takeWhile_append_dropWhile, List.reverse_reverse]
  · rw [List.all_reverse]
    exact List.all_takeWhile
theorem last_not (a : List UInt8) (h : (a.reverse.dropWhile blankB).reverse ≠ []) : ∃ (i : List UInt8) (c : UInt8), (a.reverse.dropWhile blankB).reverse = i ++ [c] ∧ blankB c = false := by
  cases e : a.reverse.dropWhile blankB with
  | nil => rw [e] at h; exact absurd rfl h
  | cons c t =>
    refine ⟨t.reverse, c, by simp, ?_⟩
    have := List.head_dropWhile_not (p := blankB) (l := a.reverse) (by rw [e]; simp)
    simp only [e, List.head_cons] at this
    simpa using this
theorem first_not (p : List UInt8) (c : UInt8) (t : List UInt8) (h : p.dropWhile blankB = c :: t) : blankB c = false := by
  have := List.head_dropWhile_not (p := blankB) (l := p) (by rw [h]; simp)
  simp only [h, List.head_cons] at this
  simpa using this
theorem dw_all (f : UInt8 → Bool) (l r : List UInt8) (h : l.all f = true) : (l ++ r).dropWhile f = r.dropWhile f := by
  induction l with
  | nil => rfl
  | cons c t ih =>
    rw [List.all_cons, Bool.and_eq_true] at h
    rw [List.cons_append, List.dropWhile_cons, if_pos h.1, ih h.2]
theorem dw_part (f : UInt8 → Bool) (l r : List UInt8) (h : l.all f = false) : (l ++ r).dropWhile f = l.dropWhile f ++ r := by
  induction l with
  | nil => simp at h
  | cons c t ih =>
    by_cases hc : f c = true
    · rw [List.all_cons, hc, Bool.true_and] at h
      rw [List.cons_append, List.dropWhile_cons, if_pos hc, ih h, List.dropWhile_cons, if_pos hc]
    · rw [List.cons_append, List.dropWhile_cons, if_neg hc, List.dropWhile_cons, if_neg hc]
      rfl
theorem rdrop_part (l r : List UInt8) (h : r.all blankB = false) : ((l ++ r).reverse.dropWhile blankB).reverse = l ++ (r.reverse.dropWhile blankB).reverse := by
  rw [List.reverse_append, dw_part blankB _ _ (by rw [List.all_reverse]; exact h), List.reverse_append, List.reverse_reverse]
theorem trimS_is (p : List UInt8) : Lib.trimS p [32, 9] = trimW p := by
  unfold Lib.trimS Lib.trimRightS Lib.trimLeftS trimW
  rw [set_blank]
  have hp : p = p.takeWhile blankB ++ p.dropWhile blankB := List.takeWhile_append_dropWhile.symm
  cases hd : p.dropWhile blankB with
  | nil =>
    have ha : p.all blankB = true := (dw_nil _ _).1 hd
    have : p.reverse.dropWhile blankB = [] := (dw_nil _ _).2 (by rw [List.all_reverse]; exact ha)
    rw [this]
    rfl
  | cons c t =>
    have hc := first_not p c t hd
    have hna : (c :: t).all blankB = false := by rw [List.all_cons, hc]; rfl
    have e1 : (p.reverse.dropWhile blankB).reverse = p.takeWhile blankB ++ ((c :: t).reverse.dropWhile blankB).reverse := by
      conv => lhs; rw [hp, hd]
      exact rdrop_part _ _ hna
    obtain ⟨br, e, hb⟩ := trim_split (c :: t)
    rw [e1, dw_all blankB _ _ List.all_takeWhile]
    cases hr : ((c :: t).reverse.dropWhile blankB).reverse with
    | nil =>
      rw [hr, List.nil_append] at e
      rw [← e, hna] at hb
      cases hb
    | cons d u =>
      rw [hr, List.cons_append, List.cons.injEq] at e
      rw [List.dropWhile_cons, ← e.1, hc]
      rfl
theorem tw_all (f : UInt8 → Bool) (l r : List UInt8) (h : l.all f = true) (hr : r.takeWhile f = []) : (l ++ r).takeWhile f = l := by
  rw [List.takeWhile_append_of_pos (by simpa [List.all_eq_true] using h), hr, List.append_nil]
theorem blank_no_tok (c : UInt8) (h : blankB c = true) : tokB c = false := by
  unfold blankB at h
  rcases Bool.or_eq_true _ _ ▸ h with h | h
  · rw [eq_of_beq h]; decide
  · rw [eq_of_beq h]; decide
theorem tok_no_blank (c : UInt8) (h : tokB c = true) : blankB c = false := by
  cases e : blankB c
  · rfl
  · rw [blank_no_tok c e] at h; cases h
theorem tw_blank (br : List UInt8) (h : br.all blankB = true) : br.takeWhile tokB = [] := by
  cases br with
  | nil => rfl
  | cons c t =>
    rw [List.all_cons, Bool.and_eq_true] at h
    rw [List.takeWhile_cons, blank_no_tok c h.1]
    rfl
theorem dw_blank_tok (br : List UInt8) (h : br.all blankB = true) : br.dropWhile tokB = br := by
  cases br with
  | nil => rfl
  | cons c t =>
    rw [List.all_cons, Bool.and_eq_true] at h
    rw [List.dropWhile_cons, blank_no_tok c h.1]
    rfl
theorem part_none (p : List UInt8) (h : trimW p = []) : restP p = [] ∧ wordP p = [] := by
  obtain ⟨br, e, hb⟩ := trim_split (p.dropWhile blankB)
  have h1 : (p.dropWhile blankB).reverse.dropWhile blankB = [] := by
    have := congrArg List.reverse h
    unfold trimW at this
    simpa using this
  rw [h1] at e
  simp only [List.reverse_nil, List.nil_append] at e
  unfold restP wordP
  cases hc : p.dropWhile blankB with
  | nil => exact ⟨rfl, rfl⟩
  | cons c t =>
    have hn := first_not p c t hc
    rw [hc] at e
    rw [← e, List.all_cons, hn] at hb
    cases hb
theorem part_word (p : List UInt8) (h : isL (trimW p) = true) : restP p = [] ∧ wordP p = trimW p := by
  obtain ⟨br, e, hb⟩ := trim_split (p.dropWhile blankB)
  have e2 : p.dropWhile blankB = trimW p ++ br := e
  unfold isL at h
  rw [Bool.and_eq_true] at h
  unfold restP wordP
  rw [e2]
  refine ⟨?_, tw_all tokB _ _ h.2 (tw_blank br hb)⟩
  rw [dw_all tokB _ _ h.2, dw_blank_tok br hb]
  exact (dw_nil _ _).2 hb
/-- How many bytes of the trimmed part are a word and the blanks behind it. -/
def badN (w : List UInt8) : Nat := if runL tokB w = 0 then 0 else runL tokB w + runL blankB (w.drop (runL tokB w))
theorem trimIndex_at (bl w br : List UInt8) (hb : bl.all blankB = true) (c : UInt8) (t : List UInt8) (hw : w = c :: t) (hc : blankB c = false) : Lib.index (bl ++ w ++ br) w = bl.length := by
  induction bl with
  | nil =>
    subst hw
    show Lib.index (c :: (t ++ br)) (c :: t) = 0
    rw [Lib.index, if_pos]
    rw [List.isPrefixOf_iff_prefix]
    exact ⟨br, rfl⟩
  | cons d r ih =>
    rw [List.all_cons, Bool.and_eq_true] at hb
    have ih := ih hb.2
    show Lib.index (d :: (r ++ w ++ br)) w = _
    rw [Lib.index, if_neg, ih, if_neg]
    · simp
    · simp
    · intro hp
      rw [hw, List.isPrefixOf_iff_prefix] at hp
      obtain ⟨z, hz⟩ := hp
      have : c = d := by
        have := congrArg List.head? hz
        simpa using this
      rw [this, hb.1] at hc
      cases hc
theorem part_bad (p : List UInt8) (h0 : trimW p ≠ []) (h : isL (trimW p) = false) : restP p ≠ [] ∧ p.length - (restP p).length = runL blankB p + badN (trimW p) ∧ Lib.index p (trimW p) = runL blankB p := by
  obtain ⟨br, e, hb⟩ := trim_split (p.dropWhile blankB)
  have e2 : p.dropWhile blankB = trimW p ++ br := e
  obtain ⟨i, cl, el, hcl⟩ := last_not (p.dropWhile blankB) h0
  have el2 : trimW p = i ++ [cl] := el
  have hnt : (trimW p).all tokB = false := by
    unfold isL at h
    cases ht : (trimW p).all tokB
    · rfl
    · rw [ht, Bool.and_true] at h
      have : (trimW p).isEmpty = true := by simpa using h
      exact absurd (List.isEmpty_iff.1 this) h0
  obtain ⟨c, t, hct⟩ : ∃ c t, trimW p = c :: t := by
    cases hh : trimW p with
    | nil => exact absurd hh h0
    | cons c t => exact ⟨c, t, rfl⟩
  have hc : blankB c = false := first_not p c (t ++ br) (by rw [e2, hct]; rfl)
  have hpl : p.length = runL blankB p + ((trimW p).length + br.length) := by
    have h1 := drop_runL blankB p
    have h2 := congrArg List.length h1
    rw [List.length_drop, e2, List.length_append] at h2
    have := runL_le blankB p
    omega
  have hdr : (trimW p).dropWhile tokB = (trimW p).drop (runL tokB (trimW p)) := (drop_runL _ _).symm
  have hlt : runL tokB (trimW p) < (trimW p).length := by
    have h1 := runL_le tokB (trimW p)
    rcases Nat.lt_or_ge (runL tokB (trimW p)) (trimW p).length with h2 | h2
    · exact h2
    · have : runL tokB (trimW p) = (trimW p).length := by omega
      rw [(runL_all _ _).1 this] at hnt
      cases hnt
  have hnb : ((trimW p).drop (runL tokB (trimW p))).all blankB = false := by
    cases hx : ((trimW p).drop (runL tokB (trimW p))).all blankB
    · rfl
    · have hm : cl ∈ (trimW p).drop (runL tokB (trimW p)) := by
        rw [el2] at hlt ⊢
        rw [List.drop_append_of_le_length (by simp at hlt; omega)]
        simp
      have := List.all_eq_true.1 hx cl hm
      rw [hcl] at this
      cases this
  have hrest : restP p = (trimW p).drop (runL tokB (trimW p) + runL blankB ((trimW p).drop (runL tokB (trimW p)))) ++ br := by
    unfold restP
    rw [e2, dw_part tokB _ _ hnt, hdr, dw_part blankB _ _ hnb, ← drop_runL, List.drop_drop]
  have hn2 : runL blankB ((trimW p).drop (runL tokB (trimW p))) < ((trimW p).drop (runL tokB (trimW p))).length := by
    have h1 := runL_le blankB ((trimW p).drop (runL tokB (trimW p)))
    rcases Nat.lt_or_ge (runL blankB ((trimW p).drop (runL tokB (trimW p)))) ((trimW p).drop (runL tokB (trimW p))).length with h2 | h2
    · exact h2
    · rw [(runL_all _ _).1 (by omega)] at hnb
      cases hnb
  rw [List.length_drop] at hn2
  have hbad : badN (trimW p) = runL tokB (trimW p) + runL blankB ((trimW p).drop (runL tokB (trimW p))) := by
    unfold badN
    split
    · rename_i hz
      rw [hz, List.drop_zero, hct]
      have : runL blankB (c :: t) = 0 := by
        unfold runL
        rw [List.takeWhile_cons, hc]
        rfl
      rw [this]
    · rfl
  refine ⟨?_, ?_, ?_⟩
  · rw [hrest]
    intro hx
    have := congrArg List.length hx
    simp at this
    omega
  · rw [hrest, List.length_append, List.length_drop, hbad]
    omega
  · have hp : p = p.takeWhile blankB ++ trimW p ++ br := by
      rw [List.append_assoc, ← e2, List.takeWhile_append_dropWhile]
    have := trimIndex_at (p.takeWhile blankB) (trimW p) br List.all_takeWhile c t hct hc
    rw [← hp] at this
    rw [this]
    rfl
theorem part_size (d : UInt8) : ∀ (l : List UInt8) (p : List UInt8), p ∈ splitL d l → p.length ≤ l.length
  | [], p, h => by
    have : p = [] := by simpa [splitL] using h
    rw [this]
    exact Nat.le_refl _
  | c :: t, p, h => by
    rw [splitL] at h
    split at h
    · rcases List.mem_cons.1 h with rfl | h
      · simp
      · have := part_size d t p h
        simp
        omega
    · cases e : splitL d t with
      | nil =>
        rw [e] at h
        have : p = [c] := by simpa using h
        rw [this]
        simp
      | cons q r =>
        rw [e] at h
        rcases List.mem_cons.1 h with rfl | h
        · have := part_size d t q (by rw [e]; simp)
          simp
          omega
        · have := part_size d t p (by rw [e]; simp [h])
          simp
          omega
theorem trim_length (p : List UInt8) : (trimW p).length ≤ p.length := by
  unfold trimW
  rw [List.length_reverse]
  refine Nat.le_trans (List.dropWhile_sublist _).length_le ?_
  rw [List.length_reverse]
  exact (List.dropWhile_sublist _).length_le
end Go.Proofs.YtoblpjknnchlmaaDoor

/- What a challenge is. -/
namespace Go.Proofs.YtoblpjknnchlmaaDoor

abbrev Par := ByteArray × ByteArray
structure Chal where
  scheme : ByteArray
  token : ByteArray
  params : List Par
end Go.Proofs.YtoblpjknnchlmaaDoor

/- A part of a text is no longer than it. -/
namespace Go.Proofs.YtoblpjknnchlmaaDoor

theorem splitL_lens (d : UInt8) : ∀ (l : List UInt8) (p : List UInt8), p ∈ splitL d l → p.length ≤ l.length
  | [], p, h => by
    rw [splitL] at h
    rw [List.mem_singleton.1 h]
    exact Nat.le_refl _
  | c :: t, p, h => by
    have ih := splitL_lens d t
    rw [splitL] at h
    split at h
    · rcases List.mem_cons.1 h with h | h
      · rw [h]; exact Nat.zero_le _
      · have := ih p h
        rw [List.length_cons]
        omega
    · split at h
      · rename_i h2
        rw [List.mem_singleton.1 h]
        simp
      · rename_i q r h2
        rcases List.mem_cons.1 h with h | h
        · rw [h]
          have := ih q (by rw [h2]; exact List.mem_cons_self)
          simp
          omega
        · have := ih p (by rw [h2]; exact List.mem_cons_of_mem _ h)
          rw [List.length_cons]
          omega
end Go.Proofs.YtoblpjknnchlmaaDoor
