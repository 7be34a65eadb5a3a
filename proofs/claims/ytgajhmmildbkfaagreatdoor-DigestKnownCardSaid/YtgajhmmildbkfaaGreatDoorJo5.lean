/- Texts of one claim, joined: each begins with what it proves. -/
import Derived.Test.YtgajhmmildbkfaaGreatDoorJo1
import Derived.Test.YtgajhmmildbkfaaGreatDoorJo4
import Derived.Test.YtgajhmmildbkfaaGreatDoorJo3
import Derived.Deep.Draws
import Derived.Deep.LoopGhost
import Derived.Deep.QuietTactic
import Derived.BigQuiet
import Derived.Lib.Join
import Derived.Shelf.Strings.Search2
/- What a challenge is. -/
namespace Go.Proofs.YtgajhmmildbkfaaGreatDoor

abbrev Par := ByteArray × ByteArray
structure Chal where
  scheme : ByteArray
  token : ByteArray
  params : List Par
end Go.Proofs.YtgajhmmildbkfaaGreatDoor

/- Challenges as the document says them, over lists of bytes. -/
namespace Go.Proofs.YtgajhmmildbkfaaGreatDoor

def gapB (c : UInt8) : Bool := blankB c || c == 44
def eqB (c : UInt8) : Bool := c == 61
/-- A byte of a Token. -/
def tkB (c : UInt8) : Bool := decide (97 ≤ c.toNat ∧ c.toNat ≤ 122) || decide (65 ≤ c.toNat ∧ c.toNat ≤ 90) || decide (48 ≤ c.toNat ∧ c.toNat ≤ 57) || ([45, 46, 95, 126, 43, 47] : List UInt8).contains c
/-- The end or a comma stands there. -/
def stopsL : List UInt8 → Bool
  | [] => true
  | c :: _ => c == 44
/-- The Token there, and what stands behind it and its blanks. -/
def tokenL (r : List UInt8) : Option (ByteArray × List UInt8) :=
  if (r.dropWhile tkB).length < r.length ∧ stopsL (((r.dropWhile tkB).dropWhile eqB).dropWhile blankB) = true then
    some (bs (r.take (r.length - ((r.dropWhile tkB).dropWhile eqB).length)), ((r.dropWhile tkB).dropWhile eqB).dropWhile blankB)
  else none
/-- Behind = . -/
def markL : List UInt8 → Option (List UInt8)
  | [] => none
  | c :: t => if c = 61 then some t else none
/-- A name and = , and what stands behind. -/
def nameL (r : List UInt8) : Option (ByteArray × List UInt8) :=
  if r.takeWhile tokB = [] then none else (markL ((r.dropWhile tokB).dropWhile blankB)).map fun t => (bs (r.takeWhile tokB), t)
/-- Where what is missing of a name should stand. -/
def nameE (r : List UInt8) : List UInt8 := if r.takeWhile tokB = [] then r else (r.dropWhile tokB).dropWhile blankB
def valueL (r : List UInt8) : Option (ByteArray × List UInt8) :=
  if r.takeWhile tokB = [] then (quotedL r).map fun x => (bs x.1, r.drop x.2) else some (bs (r.takeWhile tokB), r.dropWhile tokB)
def toldL (acc : List Par) (n : ByteArray) : Bool := acc.any fun p => sameL p.1.data.toList n.data.toList
/-- A parameter and what stands behind it, or an error and how many bytes are left where it stands. -/
def paramL (acc : List Par) (r : List UInt8) : Except (Nat × Nat) (Par × List UInt8) :=
  match nameL r with
  | none => .error (3, (nameE r).length)
  | some (n, t) => match valueL (t.dropWhile blankB) with
    | none => .error (3, (t.dropWhile blankB).length)
    | some (v, u) => if toldL acc n then .error (9, r.length) else if 16 ≤ acc.length then .error (4, r.length) else .ok ((n, v), u)
def paramsL : Nat → List Par → List UInt8 → Except (Nat × Nat) (List Par × List UInt8)
  | 0, _, r => .error (3, r.length)
  | f + 1, acc, r => match paramL acc r with
    | .error e => .error e
    | .ok (p, u) =>
      if stopsL (u.dropWhile blankB) then
        if (nameL ((u.dropWhile blankB).dropWhile gapB)).isSome then paramsL f (acc ++ [p]) ((u.dropWhile blankB).dropWhile gapB)
        else .ok (acc ++ [p], (u.dropWhile blankB).dropWhile gapB)
      else .error (3, (u.dropWhile blankB).length)
/-- What stands behind a scheme and its blanks. -/
def insideL (w : ByteArray) (r : List UInt8) : Except (Nat × Nat) (Chal × List UInt8) :=
  match tokenL r with
  | some (t, u) => .ok (⟨w, t, []⟩, u)
  | none => (paramsL (r.length + 1) [] r).map fun x => (⟨w, ⟨#[]⟩, x.1⟩, x.2)
def chalL (ahead : Nat) (r : List UInt8) : Except (Nat × Nat) (Chal × List UInt8) :=
  if r.takeWhile tokB = [] then .error (3, r.length)
  else if 8 ≤ ahead then .error (4, r.length)
  else if stopsL ((r.dropWhile tokB).dropWhile blankB) then .ok (⟨bs (r.takeWhile tokB), ⟨#[]⟩, []⟩, (r.dropWhile tokB).dropWhile blankB)
  else if runL blankB (r.dropWhile tokB) = 0 then .error (3, ((r.dropWhile tokB).dropWhile blankB).length)
  else insideL (bs (r.takeWhile tokB)) ((r.dropWhile tokB).dropWhile blankB)
def parseL : Nat → List Chal → List UInt8 → Except (Nat × Nat) (List Chal)
  | 0, _, r => .error (3, r.length)
  | f + 1, acc, r =>
    if r.dropWhile gapB = [] then .ok acc
    else match chalL acc.length (r.dropWhile gapB) with
      | .error e => .error e
      | .ok (x, u) => parseL f (acc ++ [x]) u
/-- A header's challenges (of at most MaxText bytes). -/
def askL (s : List UInt8) : Except (Nat × Nat) (List Chal) := parseL (s.length + 1) [] s

theorem dw_len (f : UInt8 → Bool) (l : List UInt8) : (l.dropWhile f).length ≤ l.length := (List.dropWhile_sublist f).length_le
theorem dw_tw (f : UInt8 → Bool) (l : List UInt8) : (l.dropWhile f).length + (l.takeWhile f).length = l.length := by
  conv => rhs; rw [← List.takeWhile_append_dropWhile (p := f) (l := l), List.length_append]
  omega
theorem dw_lt (f : UInt8 → Bool) (l : List UInt8) (h : l.takeWhile f ≠ []) : (l.dropWhile f).length < l.length := by
  have := dw_tw f l
  have : 0 < (l.takeWhile f).length := List.length_pos_iff.2 h
  omega
theorem markL_len (l t : List UInt8) (h : markL l = some t) : t.length < l.length := by
  cases l with
  | nil => cases h
  | cons c r =>
    rw [markL] at h
    by_cases hc : c = 61
    · rw [if_pos hc] at h
      cases h
      simp
    · rw [if_neg hc] at h
      cases h
theorem nameL_len (r t : List UInt8) (n : ByteArray) (h : nameL r = some (n, t)) : t.length + 2 ≤ r.length := by
  unfold nameL at h
  split at h
  · cases h
  · rename_i h0
    rcases hm : markL ((r.dropWhile tokB).dropWhile blankB) with _ | u
    · rw [hm] at h; cases h
    · rw [hm] at h
      cases h
      have := markL_len _ _ hm
      have := dw_len blankB (r.dropWhile tokB)
      have := dw_lt tokB r h0
      omega
theorem valueL_len (r u : List UInt8) (v : ByteArray) (h : valueL r = some (v, u)) : u.length < r.length := by
  unfold valueL at h
  split at h
  · rcases hq : quotedL r with _ | ⟨t, n⟩
    · rw [hq] at h; cases h
    · rw [hq] at h
      cases h
      have := quoted_size r t n hq
      simp
      omega
  · rename_i h0
    cases h
    exact dw_lt tokB r h0
theorem paramL_len (acc : List Par) (r u : List UInt8) (p : Par) (h : paramL acc r = .ok (p, u)) : u.length + 3 ≤ r.length := by
  unfold paramL at h
  rcases hn : nameL r with _ | ⟨n, t⟩
  · rw [hn] at h; cases h
  · rw [hn] at h
    rcases hv : valueL (t.dropWhile blankB) with _ | ⟨v, u'⟩
    · simp only [hv] at h; cases h
    · simp only [hv] at h
      split at h
      · cases h
      · split at h
        · cases h
        · cases h
          have := nameL_len _ _ _ hn
          have := valueL_len _ _ _ hv
          have := dw_len blankB t
          omega
theorem paramsL_len : ∀ (f : Nat) (acc : List Par) (r : List UInt8) (ps : List Par) (u : List UInt8), paramsL f acc r = .ok (ps, u) → u.length + 3 ≤ r.length
  | 0, acc, r, ps, u, h => by cases h
  | f + 1, acc, r, ps, u, h => by
    unfold paramsL at h
    rcases hp : paramL acc r with e | ⟨p, v⟩
    · rw [hp] at h; cases h
    · rw [hp] at h
      have h1 := paramL_len _ _ _ _ hp
      have h2 := dw_len blankB v
      have h3 := dw_len gapB (v.dropWhile blankB)
      simp only at h
      split at h
      · split at h
        · have := paramsL_len f _ _ _ _ h
          omega
        · cases h
          omega
      · cases h
theorem tokenL_len (r u : List UInt8) (t : ByteArray) (h : tokenL r = some (t, u)) : u.length < r.length := by
  unfold tokenL at h
  split at h
  · rename_i h0
    cases h
    have h1 := dw_len eqB (r.dropWhile tkB)
    have h2 := dw_len blankB ((r.dropWhile tkB).dropWhile eqB)
    omega
  · cases h
theorem chalL_len (a : Nat) (r u : List UInt8) (x : Chal) (h : chalL a r = .ok (x, u)) : u.length < r.length := by
  unfold chalL at h
  split at h
  · cases h
  · rename_i h0
    have h1 := dw_lt tokB r h0
    have h2 := dw_len blankB (r.dropWhile tokB)
    split at h
    · cases h
    · split at h
      · cases h; omega
      · split at h
        · cases h
        · unfold insideL at h
          rcases ht : tokenL ((r.dropWhile tokB).dropWhile blankB) with _ | ⟨t, v⟩
          · rw [ht] at h
            simp only at h
            rcases hp : paramsL (((r.dropWhile tokB).dropWhile blankB).length + 1) [] ((r.dropWhile tokB).dropWhile blankB) with e | ⟨ps, v⟩
            · rw [hp] at h; cases h
            · rw [hp] at h
              cases h
              have := paramsL_len _ _ _ _ _ hp
              show v.length < _
              omega
          · rw [ht] at h
            cases h
            have := tokenL_len _ _ _ ht
            omega
end Go.Proofs.YtgajhmmildbkfaaGreatDoor

/- Rows of parameters that lie somewhere. -/
namespace Go.Proofs.YtgajhmmildbkfaaGreatDoor
open Go.RowKit

/-- A row of parameters that lies somewhere. -/
structure Pars (w : World) (a0 : Option Addr) (len b off : Nat) (ps : List Par) : Prop where
  len_eq : ps.length = len
  lies : 0 < len → a0 = some ⟨b, off, none⟩ ∧ b < w.heap.size
  one : ∀ (j : Nat) (p : Par), ps[j]? = some p → w.cell? ⟨b, off + j * 2, none⟩ = some (.string p.1)
  two : ∀ (j : Nat) (p : Par), ps[j]? = some p → w.cell? ⟨b, off + j * 2 + 1, none⟩ = some (.string p.2)
theorem Pars.grown {w w' : World} {a0 : Option Addr} {len b off : Nat} {ps : List Par} {row : Option Nat} (h : Pars w a0 len b off ps) (hg : w.grownBy w' row) (hr : 0 < len → some b ≠ row) : Pars w' a0 len b off ps := by
  have hpos : ∀ (j : Nat) (p : Par), ps[j]? = some p → 0 < len := fun j p hp => by
    have := (List.getElem?_eq_some_iff.1 hp).1
    have := h.len_eq
    omega
  exact ⟨h.len_eq, fun h0 => ⟨(h.lies h0).1, Nat.lt_of_lt_of_le (h.lies h0).2 hg.size⟩, fun j p hp => hg.cell (h.one j p hp) (hr (hpos j p hp)), fun j p hp => hg.cell (h.two j p hp) (hr (hpos j p hp))⟩
theorem Pars.below {w w' : World} {a0 : Option Addr} {len b off : Nat} {ps : List Par} (h : Pars w a0 len b off ps) (hb : Below w.heap.size w w') : Pars w' a0 len b off ps :=
  h.grown (row := none) ⟨hb.os, hb.tape, hb.output, hb.size, fun i hi _ => hb.block i hi⟩ (fun _ => by simp)
theorem Pars.belowB {w w' : World} {a0 : Option Addr} {len b off : Nat} {ps : List Par} {B : Nat} (h : Pars w a0 len b off ps) (hb : Below B w w') (hB : 0 < len → b < B) : Pars w' a0 len b off ps := by
  have hpos : ∀ (j : Nat) (p : Par), ps[j]? = some p → b < B := fun j p hp => by
    have := (List.getElem?_eq_some_iff.1 hp).1
    have := h.len_eq
    exact hB (by omega)
  exact ⟨h.len_eq, fun h0 => ⟨(h.lies h0).1, Nat.lt_of_lt_of_le (h.lies h0).2 hb.size⟩, fun j p hp => (hb.cell (p := ⟨b, off + j * 2, none⟩) (hpos j p hp)).trans (h.one j p hp), fun j p hp => (hb.cell (p := ⟨b, off + j * 2 + 1, none⟩) (hpos j p hp)).trans (h.two j p hp)⟩
end Go.Proofs.YtgajhmmildbkfaaGreatDoor

/- A challenge, and a row of challenges, that lie somewhere. -/
namespace Go.Proofs.YtgajhmmildbkfaaGreatDoor
open Go.RowKit

/-- A challenge, and where its parameters lie. -/
structure ChV where
  x : Chal
  a : Option Addr
  cap : Nat
  b : Nat
  off : Nat
def ChV.len (c : ChV) : Nat := c.x.params.length
/-- Its parameters lie there. -/
def ChOk (w : World) (c : ChV) : Prop := Pars w c.a c.len c.b c.off c.x.params
/-- A row of challenges that lies somewhere. -/
structure Chals (w : World) (a0 : Option Addr) (len b off : Nat) (cs : List ChV) : Prop where
  len_eq : cs.length = len
  lies : 0 < len → a0 = some ⟨b, off, none⟩ ∧ b < w.heap.size
  one : ∀ (j : Nat) (c : ChV), cs[j]? = some c → w.cell? ⟨b, off + j * 3, none⟩ = some (.string c.x.scheme)
  two : ∀ (j : Nat) (c : ChV), cs[j]? = some c → w.cell? ⟨b, off + j * 3 + 1, none⟩ = some (.string c.x.token)
  three : ∀ (j : Nat) (c : ChV), cs[j]? = some c → w.cell? ⟨b, off + j * 3 + 2, none⟩ = some (.slice c.a c.len c.cap)
  pars : ∀ c ∈ cs, ChOk w c
theorem ChOk.below {w w' : World} {c : ChV} (h : ChOk w c) (hb : Below w.heap.size w w') : ChOk w' c := Pars.below h hb
theorem Chals.below {w w' : World} {a0 : Option Addr} {len b off : Nat} {cs : List ChV} (h : Chals w a0 len b off cs) (hb : Below w.heap.size w w') : Chals w' a0 len b off cs := by
  have hl : ∀ (j : Nat) (c : ChV), cs[j]? = some c → b < w.heap.size := fun j c hc => by
    have := (List.getElem?_eq_some_iff.1 hc).1
    have := h.len_eq
    exact (h.lies (by omega)).2
  exact ⟨h.len_eq, fun h0 => ⟨(h.lies h0).1, Nat.lt_of_lt_of_le (h.lies h0).2 hb.size⟩,
    fun j c hc => (hb.cell (p := ⟨b, off + j * 3, none⟩) (hl j c hc)).trans (h.one j c hc),
    fun j c hc => (hb.cell (p := ⟨b, off + j * 3 + 1, none⟩) (hl j c hc)).trans (h.two j c hc),
    fun j c hc => (hb.cell (p := ⟨b, off + j * 3 + 2, none⟩) (hl j c hc)).trans (h.three j c hc),
    fun c hc => (h.pars c hc).below hb⟩
def xsOf (cs : List ChV) : List Chal := cs.map (·.x)
theorem xsOf_at {cs : List ChV} {k : Nat} {c : ChV} (h : cs[k]? = some c) : (xsOf cs)[k]? = some c.x := by unfold xsOf; rw [List.getElem?_map, h]; rfl
end Go.Proofs.YtgajhmmildbkfaaGreatDoor

/- How heavy challenges are. -/
namespace Go.Proofs.YtgajhmmildbkfaaGreatDoor
open Go.RowKit

def parW : List Par → Nat
  | [] => 0
  | p :: r => p.1.size + p.2.size + parW r
theorem parW_app (a b : List Par) : parW (a ++ b) = parW a + parW b := by
  induction a with
  | nil => simp [parW]
  | cons p r ih => rw [List.cons_append, parW, parW, ih]; omega
theorem parW_snoc (ps : List Par) (k : Nat) (p : Par) (h : ps[k]? = some p) : parW (ps.take (k + 1)) = parW (ps.take k) + (p.1.size + p.2.size) := by
  obtain ⟨hk, e⟩ := List.getElem?_eq_some_iff.1 h
  rw [List.take_succ_eq_append_getElem hk, parW_app, e]
  simp [parW]
theorem parW_le (ps : List Par) (m : Nat) (h : ∀ p ∈ ps, p.1.size ≤ m ∧ p.2.size ≤ m) : parW ps ≤ ps.length * (2 * m) := by
  induction ps with
  | nil => simp [parW]
  | cons p r ih =>
    have h1 := h p (by simp)
    have h2 := ih (fun q hq => h q (by simp [hq]))
    rw [parW, List.length_cons, Nat.succ_mul]
    omega
theorem parW_mem (ps : List Par) (p : Par) (h : p ∈ ps) : p.1.size + p.2.size ≤ parW ps := by
  induction ps with
  | nil => cases h
  | cons q r ih =>
    rw [parW]
    rcases List.mem_cons.1 h with rfl | h'
    · omega
    · have := ih h'
      omega
def chW (c : Chal) : Nat := c.scheme.size + c.token.size + parW c.params
def lightB (c : Chal) : Bool := decide (c.params.length ≤ 20) && decide (chW c ≤ 600)
def lightL (cs : List ChV) : Bool := decide (cs.length ≤ 10) && cs.all (fun c => lightB c.x)
/-- Texts that a machine can hold. -/
def Held (c : Chal) : Prop := c.scheme.size ≤ 140737488355328 ∧ c.token.size ≤ 140737488355328 ∧ ∀ p ∈ c.params, p.1.size ≤ 140737488355328 ∧ p.2.size ≤ 140737488355328
/-- Its row is no longer than its room. -/
def Room (c : ChV) : Prop := c.len ≤ c.cap ∧ c.cap ≤ 9223372036854775807 ∧ c.len ≤ 9223372036854775807
theorem light_few {c : Chal} (h : lightB c = true) : c.params.length ≤ 20 ∧ c.scheme.size ≤ 600 ∧ c.token.size ≤ 600 ∧ ∀ p ∈ c.params, p.1.size ≤ 600 ∧ p.2.size ≤ 600 := by
  unfold lightB at h
  simp only [Bool.and_eq_true, decide_eq_true_eq] at h
  have h2 := h.2
  unfold chW at h2
  refine ⟨h.1, by omega, by omega, fun p hp => ?_⟩
  have := parW_mem _ _ hp
  omega
theorem all_step {cs : List ChV} {k : Nat} {c : ChV} (h : (cs.take k).all (fun c => lightB c.x) = true) (hc : cs[k]? = some c) (hl : lightB c.x = true) : (cs.take (k + 1)).all (fun c => lightB c.x) = true := by
  obtain ⟨hk, e⟩ := List.getElem?_eq_some_iff.1 hc
  rw [List.take_succ_eq_append_getElem hk, List.all_append, h, e]
  simp [hl]
theorem light_no {cs : List ChV} {c : ChV} (hc : c ∈ cs) (hl : lightB c.x = false) : lightL cs = false := by
  unfold lightL
  have : cs.all (fun c => lightB c.x) = false := by
    rw [List.all_eq_false]
    exact ⟨c, hc, by simp [hl]⟩
  rw [this, Bool.and_false]
end Go.Proofs.YtgajhmmildbkfaaGreatDoor

/- Challenges written, as the document says, over lists of bytes. -/
namespace Go.Proofs.YtgajhmmildbkfaaGreatDoor

/-- A parameter, a blank ahead. -/
def parT (p : Par) : Option (List UInt8) := (valueO p.2.data.toList).map fun v => 32 :: (p.1.data.toList ++ 61 :: v)
def sepP (first : Bool) : List UInt8 := if first then [] else [44]
def parsT : Bool → List Par → Option (List UInt8)
  | _, [] => some []
  | first, p :: r => match parT p with
    | none => none
    | some a => (parsT false r).map fun b => sepP first ++ a ++ b
def tokT (t : ByteArray) : List UInt8 := if t.size = 0 then [] else 32 :: t.data.toList
def chalT (x : Chal) : Option (List UInt8) := (parsT true x.params).map fun a => x.scheme.data.toList ++ tokT x.token ++ a
def sepC (i : Nat) : List UInt8 := if i = 0 then [] else [44, 32]
/-- Challenges as a header, or the number of the first one that can't be told. -/
def printL : Nat → List Chal → Except Nat (List UInt8)
  | _, [] => .ok []
  | i, x :: r => match chalT x with
    | none => .error i
    | some a => (printL (i + 1) r).map fun b => sepC i ++ a ++ b
theorem valueO_len (v t : List UInt8) (h : valueO v = some t) : t.length ≤ 2 * v.length + 2 := by
  unfold valueO at h
  split at h
  · cases h; omega
  · unfold quoteO at h
    split at h
    · cases h
      unfold quoteL
      have := escL_length v
      simp
      omega
    · cases h
theorem parT_len (p : Par) (a : List UInt8) (h : parT p = some a) : a.length ≤ 2 * (p.1.size + p.2.size) + 4 := by
  unfold parT at h
  obtain ⟨v, hv, rfl⟩ := Option.map_eq_some_iff.1 h
  have := valueO_len _ _ hv
  have e1 : p.1.data.toList.length = p.1.size := Array.length_toList
  have e2 : p.2.data.toList.length = p.2.size := Array.length_toList
  simp
  omega
theorem parsT_len : ∀ (ps : List Par) (f : Bool) (a : List UInt8), parsT f ps = some a → a.length ≤ 2 * parW ps + 5 * ps.length
  | [], f, a, h => by cases h; simp
  | p :: r, f, a, h => by
    unfold parsT at h
    rcases hp : parT p with _ | q
    · rw [hp] at h; cases h
    · rw [hp] at h
      obtain ⟨b, hb, rfl⟩ := Option.map_eq_some_iff.1 h
      have h1 := parsT_len r false b hb
      have h2 := parT_len p q hp
      have h3 : (sepP f).length ≤ 1 := by cases f <;> simp [sepP]
      rw [parW, List.length_append, List.length_append, List.length_cons]
      omega
theorem chalT_len (x : Chal) (a : List UInt8) (h : chalT x = some a) : a.length ≤ 2 * chW x + 5 * x.params.length + 1 := by
  unfold chalT at h
  obtain ⟨b, hb, rfl⟩ := Option.map_eq_some_iff.1 h
  have h1 := parsT_len _ _ _ hb
  have e1 : x.scheme.data.toList.length = x.scheme.size := Array.length_toList
  have e2 : x.token.data.toList.length = x.token.size := Array.length_toList
  have h2 : (tokT x.token).length ≤ x.token.size + 1 := by unfold tokT; split <;> simp
  unfold chW
  rw [List.length_append, List.length_append]
  omega
/-- What is known of the parameters behind the first k. -/
def ParsAt (ps : List Par) (o : List UInt8) (k : Nat) : Prop := parsT true ps = (parsT (k == 0) (ps.drop k)).map (o ++ ·)
theorem parsAt_start (ps : List Par) : ParsAt ps [] 0 := by
  unfold ParsAt
  rw [List.drop_zero]
  show parsT true ps = (parsT true ps).map _
  generalize parsT true ps = o
  cases o <;> simp
theorem parsAt_end {ps : List Par} {o : List UInt8} {k : Nat} (h : ParsAt ps o k) (hk : ps.length ≤ k) : parsT true ps = some o := by
  unfold ParsAt at h
  rw [h, List.drop_of_length_le hk]
  simp [parsT]
theorem parsAt_bad {ps : List Par} {o : List UInt8} {k : Nat} {p : Par} (h : ParsAt ps o k) (hk : ps[k]? = some p) (hp : parT p = none) : parsT true ps = none := by
  unfold ParsAt at h
  obtain ⟨hk1, e⟩ := List.getElem?_eq_some_iff.1 hk
  rw [h, List.drop_eq_getElem_cons hk1, e, parsT, hp]
  rfl
theorem parsAt_next {ps : List Par} {o a : List UInt8} {k : Nat} {p : Par} (h : ParsAt ps o k) (hk : ps[k]? = some p) (hp : parT p = some a) : ParsAt ps (o ++ (sepP (k == 0) ++ a)) (k + 1) := by
  unfold ParsAt at h ⊢
  obtain ⟨hk1, e⟩ := List.getElem?_eq_some_iff.1 hk
  rw [h, List.drop_eq_getElem_cons hk1, e, parsT, hp]
  simp only [Option.map_map]
  congr 1
  funext b
  simp
/-- What is known of the challenges behind the first k. -/
def PrintAt (xs : List Chal) (o : List UInt8) (k : Nat) : Prop := printL 0 xs = (printL k (xs.drop k)).map (o ++ ·)
theorem printAt_start (xs : List Chal) : PrintAt xs [] 0 := by
  unfold PrintAt
  rw [List.drop_zero]
  cases printL 0 xs <;> simp [Except.map]
theorem printAt_end {xs : List Chal} {o : List UInt8} {k : Nat} (h : PrintAt xs o k) (hk : xs.length ≤ k) : printL 0 xs = .ok o := by
  unfold PrintAt at h
  rw [h, List.drop_of_length_le hk]
  simp [printL, Except.map]
theorem printAt_bad {xs : List Chal} {o : List UInt8} {k : Nat} {x : Chal} (h : PrintAt xs o k) (hk : xs[k]? = some x) (hp : chalT x = none) : printL 0 xs = .error k := by
  unfold PrintAt at h
  obtain ⟨hk1, e⟩ := List.getElem?_eq_some_iff.1 hk
  rw [h, List.drop_eq_getElem_cons hk1, e, printL, hp]
  rfl
theorem printAt_next {xs : List Chal} {o a : List UInt8} {k : Nat} {x : Chal} (h : PrintAt xs o k) (hk : xs[k]? = some x) (hp : chalT x = some a) : PrintAt xs (o ++ (sepC k ++ a)) (k + 1) := by
  unfold PrintAt at h ⊢
  obtain ⟨hk1, e⟩ := List.getElem?_eq_some_iff.1 hk
  rw [h, List.drop_eq_getElem_cons hk1, e, printL, hp]
  cases printL (k + 1) (xs.drop (k + 1)) <;> simp [Except.map]
end Go.Proofs.YtgajhmmildbkfaaGreatDoor

/- Challenges that are written are read as they are, over lists of bytes. -/
namespace Go.Proofs.YtgajhmmildbkfaaGreatDoor

theorem kinds : ∀ c : UInt8, (tokB c = true → c ≠ 61 ∧ c ≠ 44 ∧ c ≠ 34 ∧ blankB c = false ∧ gapB c = false) ∧ (tkB c = true → c ≠ 61 ∧ c ≠ 44 ∧ blankB c = false) := by
  intro c
  have : ∀ n : Fin 256, (tokB (UInt8.ofNat n.1) = true → UInt8.ofNat n.1 ≠ 61 ∧ UInt8.ofNat n.1 ≠ 44 ∧ UInt8.ofNat n.1 ≠ 34 ∧ blankB (UInt8.ofNat n.1) = false ∧ gapB (UInt8.ofNat n.1) = false) ∧ (tkB (UInt8.ofNat n.1) = true → UInt8.ofNat n.1 ≠ 61 ∧ UInt8.ofNat n.1 ≠ 44 ∧ blankB (UInt8.ofNat n.1) = false) := by decide +kernel
  have h := this ⟨c.toNat, c.toNat_lt⟩
  simpa using h
/-- Nothing, or a comma ahead. -/
def Ends (m : List UInt8) : Prop := m = [] ∨ ∃ t, m = 44 :: t
theorem tw_end (f : UInt8 → Bool) (hf : f 44 = false) {m : List UInt8} (h : Ends m) : m.takeWhile f = [] ∧ m.dropWhile f = m := by
  rcases h with rfl | ⟨t, rfl⟩
  · exact ⟨rfl, rfl⟩
  · exact ⟨by rw [List.takeWhile_cons, hf]; rfl, by rw [List.dropWhile_cons, hf]; rfl⟩
theorem stops_end {m : List UInt8} (h : Ends m) : stopsL m = true := by
  rcases h with rfl | ⟨t, rfl⟩
  · rfl
  · rfl
theorem tw_app (f : UInt8 → Bool) {a m : List UInt8} (ha : a.all f = true) (hm : m.takeWhile f = []) : (a ++ m).takeWhile f = a := by
  rw [List.takeWhile_append_of_pos (by simpa [List.all_eq_true] using ha), hm, List.append_nil]
theorem dw_app (f : UInt8 → Bool) {a m : List UInt8} (ha : a.all f = true) (hm : m.dropWhile f = m) : (a ++ m).dropWhile f = m := by
  rw [List.dropWhile_append_of_pos (by simpa [List.all_eq_true] using ha), hm]
theorem dw_first (f : UInt8 → Bool) {c : UInt8} (t : List UInt8) (h : f c = false) : (c :: t).dropWhile f = c :: t ∧ (c :: t).takeWhile f = [] := by
  rw [List.dropWhile_cons, List.takeWhile_cons, h]
  exact ⟨rfl, rfl⟩
theorem isL_cons {l : List UInt8} (h : isL l = true) : ∃ c t, l = c :: t ∧ tokB c = true ∧ l.all tokB = true := by
  unfold isL at h
  rw [Bool.and_eq_true] at h
  cases l with
  | nil => cases h.1
  | cons c t =>
    refine ⟨c, t, rfl, ?_, h.2⟩
    have := h.2
    rw [List.all_cons, Bool.and_eq_true] at this
    exact this.1
/-- A parameter that is not like those ahead. -/
def Unlike : List Par → List Par → Prop
  | _, [] => True
  | acc, p :: r => toldL acc p.1 = false ∧ Unlike (acc ++ [p]) r
/-- A parameter's text, without the blank. -/
def parN (p : Par) (v : List UInt8) : List UInt8 := p.1.data.toList ++ 61 :: v
theorem parT_is {p : Par} {a : List UInt8} (h : parT p = some a) : ∃ v, valueO p.2.data.toList = some v ∧ a = 32 :: parN p v := by
  unfold parT at h
  obtain ⟨v, hv, rfl⟩ := Option.map_eq_some_iff.1 h
  exact ⟨v, hv, rfl⟩
theorem value_first {s v : List UInt8} (h : valueO s = some v) : ∃ c t, v = c :: t ∧ (tokB c = true ∨ c = 34) := by
  unfold valueO at h
  split at h
  · rename_i hs
    cases h
    obtain ⟨c, t, rfl, hc, _⟩ := isL_cons hs
    exact ⟨c, t, rfl, .inl hc⟩
  · unfold quoteO at h
    split at h
    · cases h
      exact ⟨34, _, rfl, .inr rfl⟩
    · cases h
theorem first_kinds {c : UInt8} (h : tokB c = true ∨ c = 34) : c ≠ 61 ∧ c ≠ 44 ∧ blankB c = false ∧ eqB c = false := by
  have : c ≠ 61 ∧ c ≠ 44 ∧ blankB c = false := by
    rcases h with h | rfl
    · exact ⟨((kinds c).1 h).1, ((kinds c).1 h).2.1, ((kinds c).1 h).2.2.2.1⟩
    · decide
  exact ⟨this.1, this.2.1, this.2.2, beq_eq_false_iff_ne.2 this.1⟩
theorem name_is {p : Par} {v R : List UInt8} (hn : isL p.1.data.toList = true) : nameL (parN p v ++ R) = some (p.1, v ++ R) := by
  obtain ⟨c, t, e, hc, ha⟩ := isL_cons hn
  unfold nameL parN
  have h1 : (p.1.data.toList ++ 61 :: v ++ R).takeWhile tokB = p.1.data.toList := by
    rw [List.append_assoc]
    exact tw_app tokB ha (dw_first tokB _ (by decide)).2
  have h2 : (p.1.data.toList ++ 61 :: v ++ R).dropWhile tokB = 61 :: (v ++ R) := by
    rw [List.append_assoc]
    exact dw_app tokB ha (dw_first tokB _ (by decide)).1
  rw [h1, h2, (dw_first blankB _ (by decide)).1, if_neg (by rw [e]; simp)]
  show some (bs p.1.data.toList, v ++ R) = _
  rw [bs_self]
theorem value_is {p : Par} {v R : List UInt8} (hv : valueO p.2.data.toList = some v) (hR : Ends R) : valueL ((v ++ R).dropWhile blankB) = some (p.2, R) := by
  obtain ⟨c, t, e, hc⟩ := value_first hv
  have hb : (v ++ R).dropWhile blankB = v ++ R := by
    rw [e]
    exact (dw_first blankB _ (first_kinds hc).2.2.1).1
  rw [hb]
  have hm : ∀ c t, R = c :: t → tokB c = false := by
    intro c t h
    rcases hR with rfl | ⟨t', rfl⟩
    · cases h
    · cases h; decide
  rcases value_word _ v R hm hv with ⟨hs, rfl, htw⟩ | ⟨hs, htw, hq⟩
  · unfold valueL
    obtain ⟨c', t', e', _, ha⟩ := isL_cons hs
    rw [htw, if_neg (by rw [e']; simp), bs_self]
    congr 2
    exact dw_app tokB ha (tw_end tokB (by decide) hR).2
  · unfold valueL
    rw [if_pos htw, hq]
    show some (bs p.2.data.toList, (v ++ R).drop v.length) = _
    rw [bs_self, List.drop_left]
/-- What stands between two parameters. -/
theorem parsF_is : ∀ {r : List Par} {a : List UInt8}, parsT false r = some a → (r = [] ∧ a = []) ∨ ∃ p r' v b, r = p :: r' ∧ valueO p.2.data.toList = some v ∧ parsT false r' = some b ∧ a = 44 :: 32 :: (parN p v ++ b)
  | [], a, h => by cases h; exact .inl ⟨rfl, rfl⟩
  | p :: r', a, h => by
    rw [parsT] at h
    rcases hp : parT p with _ | q
    · rw [hp] at h; cases h
    · rw [hp] at h
      obtain ⟨b, hb, rfl⟩ := Option.map_eq_some_iff.1 h
      obtain ⟨v, hv, rfl⟩ := parT_is hp
      exact .inr ⟨p, r', v, b, rfl, hv, hb, by simp [sepP]⟩
theorem ends_app {a m : List UInt8} {r : List Par} (h : parsT false r = some a) (hm : Ends m) : Ends (a ++ m) := by
  rcases parsF_is h with ⟨_, rfl⟩ | ⟨p, r', v, b, _, _, _, rfl⟩
  · exact hm
  · exact .inr ⟨_, rfl⟩
theorem params_print : ∀ (r : List Par) (p : Par) (acc : List Par) (f : Nat) (v b m : List UInt8), (∀ q ∈ p :: r, isL q.1.data.toList = true) → Unlike acc (p :: r) → acc.length + (p :: r).length ≤ 16 →
    valueO p.2.data.toList = some v → parsT false r = some b → Ends m → nameL (m.dropWhile gapB) = none → (parN p v ++ b ++ m).length < f →
    paramsL f acc (parN p v ++ b ++ m) = .ok (acc ++ p :: r, m.dropWhile gapB)
  | r, p, acc, 0, v, b, m, _, _, _, _, _, _, _, hf => absurd hf (Nat.not_lt_zero _)
  | r, p, acc, f + 1, v, b, m, hi, hu, hl, hv, hb, hm, hnm, hf => by
    have hE := ends_app hb hm
    have hpar : paramL acc (parN p v ++ b ++ m) = .ok (p, b ++ m) := by
      unfold paramL
      rw [List.append_assoc, name_is (hi p (by simp))]
      simp only [value_is hv hE]
      rw [hu.1, if_neg (by simp), if_neg (by simp at hl; omega)]
    rw [paramsL, hpar]
    simp only [(tw_end blankB (by decide) hE).2, stops_end hE, if_true]
    rcases parsF_is hb with ⟨rfl, rfl⟩ | ⟨q, r', v', b', rfl, hv', hb', rfl⟩
    · rw [List.nil_append, hnm]
      rfl
    · obtain ⟨c, t, e, hc, _⟩ := isL_cons (hi q (by simp))
      have hg : (44 :: 32 :: (parN q v' ++ b') ++ m).dropWhile gapB = parN q v' ++ b' ++ m := by
        rw [List.cons_append, List.cons_append, List.dropWhile_cons_of_pos (by decide), List.dropWhile_cons_of_pos (by decide)]
        unfold parN
        rw [e]
        exact (dw_first gapB _ ((kinds c).1 hc).2.2.2.2).1
      rw [hg, List.append_assoc, name_is (hi q (by simp))]
      simp only [Option.isSome_some, if_true]
      rw [← List.append_assoc, params_print r' q (acc ++ [p]) f v' b' m (fun x hx => hi x (by simp at hx ⊢; exact .inr hx)) hu.2 (by simp at hl ⊢; omega) hv' hb' hm hnm (by simp [parN] at hf ⊢; omega)]
      simp
theorem token_none {p : Par} {v R : List UInt8} (hn : isL p.1.data.toList = true) (hv : valueO p.2.data.toList = some v) : tokenL (parN p v ++ R) = none := by
  obtain ⟨c, t, e, hc⟩ := value_first hv
  obtain ⟨k1, k2, k3, k4⟩ := first_kinds hc
  unfold tokenL
  rw [if_neg]
  rintro ⟨_, hs⟩
  unfold parN at hs
  by_cases ha : p.1.data.toList.all tkB = true
  · rw [List.append_assoc, List.cons_append, dw_app tkB ha (dw_first tkB _ (by decide)).1, List.dropWhile_cons_of_pos (by decide), e, List.cons_append, (dw_first eqB _ k4).1, (dw_first blankB _ k3).1] at hs
    unfold stopsL at hs
    exact k2 (by simpa using hs)
  · obtain ⟨c', t', e', _, hall⟩ := isL_cons hn
    have hdw : ∃ d u, p.1.data.toList.dropWhile tkB = d :: u ∧ d ∈ p.1.data.toList := by
      cases h : p.1.data.toList.dropWhile tkB with
      | nil => exact absurd ((dw_nil _ _).1 h) ha
      | cons d u => exact ⟨d, u, rfl, (List.dropWhile_sublist _).subset (by rw [h]; simp)⟩
    obtain ⟨d, u, hd, hmem⟩ := hdw
    have hdt : tokB d = true := List.all_eq_true.1 hall d hmem
    obtain ⟨j1, j2, _, j3, _⟩ := (kinds d).1 hdt
    have hfull : (p.1.data.toList ++ 61 :: v ++ R).dropWhile tkB = d :: (u ++ 61 :: v ++ R) := by
      rw [List.append_assoc, List.dropWhile_append, hd]
      simp
    rw [hfull, (dw_first eqB _ (beq_eq_false_iff_ne.2 j1)).1, (dw_first blankB _ j3).1] at hs
    unfold stopsL at hs
    exact j2 (by simpa using hs)
/-- A Token as it is read. -/
def TokOk (t : List UInt8) : Prop := ∃ b e, t = b ++ e ∧ b ≠ [] ∧ b.all tkB = true ∧ e.all eqB = true
/-- A challenge that can be told so. -/
def Good (x : Chal) : Prop := isL x.scheme.data.toList = true ∧ (x.token.size = 0 ∨ TokOk x.token.data.toList ∧ x.params = []) ∧ (∀ q ∈ x.params, isL q.1.data.toList = true) ∧ Unlike [] x.params ∧ x.params.length ≤ 16
theorem empty_of {s : ByteArray} (h : s.size = 0) : s = ⟨#[]⟩ := ByteArray.ext (Array.eq_empty_of_size_eq_zero h)
theorem tokOk_first {t : List UInt8} (h : TokOk t) : ∃ c u, t = c :: u ∧ tkB c = true := by
  obtain ⟨b, e, rfl, hb, ha, _⟩ := h
  cases b with
  | nil => exact absurd rfl hb
  | cons c u =>
    rw [List.all_cons, Bool.and_eq_true] at ha
    exact ⟨c, u ++ e, rfl, ha.1⟩
theorem token_is {t m : List UInt8} (h : TokOk t) (hm : Ends m) : tokenL (t ++ m) = some (bs t, m) := by
  obtain ⟨b, e, rfl, hb, ha, he⟩ := h
  have hem : (e ++ m).dropWhile tkB = e ++ m := by
    cases e with
    | nil => exact (tw_end tkB (by decide) hm).2
    | cons c u =>
      rw [List.all_cons, Bool.and_eq_true] at he
      have hc : c = 61 := by simpa [eqB] using he.1
      subst hc
      exact (dw_first tkB _ (by decide)).1
  have h1 : (b ++ e ++ m).dropWhile tkB = e ++ m := by rw [List.append_assoc]; exact dw_app tkB ha hem
  have h2 : (e ++ m).dropWhile eqB = m := dw_app eqB he (tw_end eqB (by decide) hm).2
  unfold tokenL
  rw [h1, h2, (tw_end blankB (by decide) hm).2, if_pos ⟨by have := List.length_pos_iff.2 hb; simp; omega, stops_end hm⟩]
  congr 3
  rw [List.length_append, Nat.add_sub_cancel, List.take_left]
theorem chal_print {x : Chal} {t m : List UInt8} (hg : Good x) (ht : chalT x = some t) (ahead : Nat) (ha : ahead < 8) (hm : Ends m) (hnm : nameL (m.dropWhile gapB) = none) : ∃ u, chalL ahead (t ++ m) = .ok (x, u) ∧ u.dropWhile gapB = m.dropWhile gapB := by
  obtain ⟨h1, h2, h3, h4, h5⟩ := hg
  obtain ⟨c, s', es, hc, hall⟩ := isL_cons h1
  unfold chalT at ht
  obtain ⟨b, hb, rfl⟩ := Option.map_eq_some_iff.1 ht
  have hne : x.scheme.data.toList ≠ [] := by rw [es]; simp
  rcases h2 with h2 | ⟨h2, hp⟩
  · have htk := empty_of h2
    have htt : tokT x.token = [] := by unfold tokT; rw [if_pos h2]
    rw [htt, List.append_nil]
    rcases hps : x.params with _ | ⟨p, r⟩
    · rw [hps] at hb
      cases hb
      rw [List.append_nil]
      refine ⟨m, ?_, rfl⟩
      unfold chalL
      rw [tw_app tokB hall (tw_end tokB (by decide) hm).1, dw_app tokB hall (tw_end tokB (by decide) hm).2, (tw_end blankB (by decide) hm).2, stops_end hm, if_neg hne, if_neg (by omega), if_pos rfl, bs_self]
      rcases x with ⟨a1, a2, a3⟩
      simp only at hps htk
      rw [hps, htk]
    · rw [hps] at hb h3 h4 h5
      rw [parsT] at hb
      rcases hpt : parT p with _ | q
      · rw [hpt] at hb; cases hb
      · rw [hpt] at hb
        obtain ⟨b', hb', rfl⟩ := Option.map_eq_some_iff.1 hb
        obtain ⟨v, hv, rfl⟩ := parT_is hpt
        have e1 : x.scheme.data.toList ++ (sepP true ++ 32 :: parN p v ++ b') ++ m = x.scheme.data.toList ++ 32 :: (parN p v ++ b' ++ m) := by simp [sepP]
        rw [e1]
        obtain ⟨d, u', ed, hd, _⟩ := isL_cons (h3 p (by simp))
        have hb1 : (32 :: (parN p v ++ b' ++ m)).dropWhile blankB = parN p v ++ b' ++ m := by
          rw [List.dropWhile_cons_of_pos (by decide)]
          unfold parN
          rw [ed]
          exact (dw_first blankB _ ((kinds d).1 hd).2.2.2.1).1
        have hst : stopsL (parN p v ++ b' ++ m) = false := by
          unfold parN
          rw [ed]
          exact beq_eq_false_iff_ne.2 ((kinds d).1 hd).2.1
        refine ⟨m.dropWhile gapB, ?_, ?_⟩
        · unfold chalL
          rw [tw_app tokB hall (dw_first tokB _ (by decide)).2, dw_app tokB hall (dw_first tokB _ (by decide)).1, hb1, hst, if_neg hne, if_neg (by omega), if_neg (by simp), if_neg (by unfold runL; rw [List.takeWhile_cons_of_pos (by decide)]; simp), bs_self]
          unfold insideL
          rw [List.append_assoc, token_none (h3 p (by simp)) hv, ← List.append_assoc]
          simp only []
          rw [params_print r p [] _ v b' m h3 h4 (by simpa using h5) hv hb' hm hnm (by omega)]
          rcases x with ⟨a1, a2, a3⟩
          simp only at hps htk
          rw [hps, htk]
          rfl
        · have : ∀ l : List UInt8, (l.dropWhile gapB).dropWhile gapB = l.dropWhile gapB := fun l => by
            induction l with
            | nil => rfl
            | cons c t ih =>
              by_cases h : gapB c = true
              · rw [List.dropWhile_cons_of_pos h, ih]
              · rw [List.dropWhile_cons_of_neg h, List.dropWhile_cons_of_neg h]
          exact this m
  · rw [hp] at hb
    cases hb
    obtain ⟨d, u', ed, hd⟩ := tokOk_first h2
    have hz : x.token.size ≠ 0 := by
      intro h
      have := empty_of h
      rw [this] at ed
      cases ed
    have htt : tokT x.token = 32 :: x.token.data.toList := by unfold tokT; rw [if_neg hz]
    rw [htt, List.append_nil, List.append_assoc, List.cons_append]
    have hb1 : (32 :: (x.token.data.toList ++ m)).dropWhile blankB = x.token.data.toList ++ m := by
      rw [List.dropWhile_cons_of_pos (by decide), ed]
      exact (dw_first blankB _ ((kinds d).2 hd).2.2).1
    have hst : stopsL (x.token.data.toList ++ m) = false := by
      rw [ed]
      exact beq_eq_false_iff_ne.2 ((kinds d).2 hd).2.1
    refine ⟨m, ?_, rfl⟩
    unfold chalL
    rw [tw_app tokB hall (dw_first tokB _ (by decide)).2, dw_app tokB hall (dw_first tokB _ (by decide)).1, hb1, hst, if_neg hne, if_neg (by omega), if_neg (by simp), if_neg (by unfold runL; rw [List.takeWhile_cons_of_pos (by decide)]; simp), bs_self]
    unfold insideL
    rw [token_is h2 hm]
    simp only []
    rcases x with ⟨a1, a2, a3⟩
    simp only at hp
    rw [hp, bs_self]
theorem head_next {x : Chal} {a T : List UInt8} (hg : Good x) (ha : chalT x = some a) (hT : Ends T) : nameL (a ++ T) = none ∧ (a ++ T).dropWhile gapB = a ++ T ∧ a ≠ [] := by
  obtain ⟨h1, h2, h3, h4, h5⟩ := hg
  obtain ⟨c, s', es, hc, hall⟩ := isL_cons h1
  unfold chalT at ha
  obtain ⟨b, hb, rfl⟩ := Option.map_eq_some_iff.1 ha
  have hrest : ∃ R, x.scheme.data.toList ++ tokT x.token ++ b ++ T = x.scheme.data.toList ++ R ∧ (Ends R ∨ ∃ d u, R = 32 :: d :: u ∧ d ≠ 61 ∧ blankB d = false) := by
    refine ⟨tokT x.token ++ b ++ T, by simp, ?_⟩
    rcases h2 with h2 | ⟨h2, hp⟩
    · have htt : tokT x.token = [] := by unfold tokT; rw [if_pos h2]
      rw [htt, List.nil_append]
      rcases hps : x.params with _ | ⟨p, r⟩
      · rw [hps] at hb
        cases hb
        exact .inl hT
      · rw [hps] at hb h3
        rw [parsT] at hb
        rcases hpt : parT p with _ | q
        · rw [hpt] at hb; cases hb
        · rw [hpt] at hb
          obtain ⟨b', hb', rfl⟩ := Option.map_eq_some_iff.1 hb
          obtain ⟨v, hv, rfl⟩ := parT_is hpt
          obtain ⟨d, u', ed, hd, _⟩ := isL_cons (h3 p (by simp))
          refine .inr ⟨d, u' ++ 61 :: v ++ b' ++ T, ?_, ((kinds d).1 hd).1, ((kinds d).1 hd).2.2.2.1⟩
          unfold parN
          rw [ed]
          simp [sepP]
    · rw [hp] at hb
      cases hb
      obtain ⟨d, u', ed, hd⟩ := tokOk_first h2
      have hz : x.token.size ≠ 0 := by
        intro h
        have := empty_of h
        rw [this] at ed
        cases ed
      have htt : tokT x.token = 32 :: x.token.data.toList := by unfold tokT; rw [if_neg hz]
      rw [htt, ed]
      exact .inr ⟨d, u' ++ [] ++ T, by simp, ((kinds d).2 hd).1, ((kinds d).2 hd).2.2⟩
  obtain ⟨R, hR, hcase⟩ := hrest
  refine ⟨?_, ?_, by rw [es]; simp⟩
  · rw [hR]
    unfold nameL
    rcases hcase with hE | ⟨d, u, rfl, hd1, hd2⟩
    · rw [dw_app tokB hall (tw_end tokB (by decide) hE).2, (tw_end blankB (by decide) hE).2]
      split
      · rfl
      · rcases hE with rfl | ⟨t, rfl⟩ <;> rfl
    · rw [dw_app tokB hall (dw_first tokB _ (by decide)).1, List.dropWhile_cons_of_pos (by decide), (dw_first blankB _ hd2).1]
      split
      · rfl
      · show Option.map _ (if d = 61 then some u else none) = none
        rw [if_neg hd1]
        rfl
  · rw [hR, es]
    exact (dw_first gapB _ ((kinds c).1 hc).2.2.2.2).1
theorem parse_gapsL {f : Nat} {acc : List Chal} {u v : List UInt8} (h : u.dropWhile gapB = v.dropWhile gapB) : parseL (f + 1) acc u = parseL (f + 1) acc v := by rw [parseL, parseL, h]
theorem print_ends : ∀ {xs : List Chal} {i : Nat} {T : List UInt8}, printL (i + 1) xs = .ok T → Ends T
  | [], i, T, h => by cases h; exact .inl rfl
  | x :: r, i, T, h => by
    rw [printL] at h
    rcases hc : chalT x with _ | a
    · rw [hc] at h; cases h
    · rw [hc] at h
      rcases hr : printL (i + 1 + 1) r with e | b
      · simp only [hr] at h; cases h
      · simp only [hr] at h
        cases h
        exact .inr ⟨32 :: (a ++ b), by simp [sepC]⟩
theorem parse_print : ∀ (xs : List Chal) (acc : List Chal) (f i : Nat) (T : List UInt8), (∀ x ∈ xs, Good x) → acc.length + xs.length ≤ 8 → printL i xs = .ok T → T.length < f → parseL f acc T = .ok (acc ++ xs)
  | xs, acc, 0, i, T, _, _, _, hf => absurd hf (Nat.not_lt_zero _)
  | [], acc, f + 1, i, T, _, _, h, _ => by
    cases h
    rw [parseL, List.append_nil]
    rfl
  | x :: r, acc, f + 1, i, T, hg, hl, h, hf => by
    rw [printL] at h
    rcases hc : chalT x with _ | a
    · rw [hc] at h; cases h
    · rw [hc] at h
      rcases hr : printL (i + 1) r with e | b
      · simp only [hr] at h; cases h
      · simp only [hr] at h
        cases h
        have hE := print_ends hr
        obtain ⟨n1, n2, n3⟩ := head_next (hg x (by simp)) hc hE
        have hdw : (sepC i ++ a ++ b).dropWhile gapB = a ++ b := by
          unfold sepC
          split
          · rw [List.nil_append]; exact n2
          · rw [List.append_assoc, List.cons_append, List.dropWhile_cons_of_pos (by decide), List.cons_append, List.dropWhile_cons_of_pos (by decide), List.nil_append]
            exact n2
        have hnb : nameL (b.dropWhile gapB) = none := by
          cases r with
          | nil => cases hr; rfl
          | cons y r' =>
            rw [printL] at hr
            rcases hc' : chalT y with _ | a'
            · rw [hc'] at hr; cases hr
            · rw [hc'] at hr
              rcases hr' : printL (i + 1 + 1) r' with e | b'
              · simp only [hr'] at hr; cases hr
              · simp only [hr'] at hr
                cases hr
                have hE' := print_ends hr'
                obtain ⟨k1, k2, _⟩ := head_next (hg y (by simp)) hc' hE'
                have : (sepC (i + 1) ++ a' ++ b').dropWhile gapB = a' ++ b' := by
                  unfold sepC
                  rw [if_neg (by omega), List.append_assoc, List.cons_append, List.dropWhile_cons_of_pos (by decide), List.cons_append, List.dropWhile_cons_of_pos (by decide), List.nil_append]
                  exact k2
                rw [this]
                exact k1
        obtain ⟨u, hu1, hu2⟩ := chal_print (hg x (by simp)) hc acc.length (by simp at hl; omega) hE hnb
        rw [parseL, hdw, if_neg (by intro e; exact n3 (List.append_eq_nil_iff.1 e).1), hu1]
        simp only []
        have hf0 : 0 < f := by
          have := List.length_pos_iff.2 n3
          simp at hf
          omega
        obtain ⟨f', rfl⟩ : ∃ f', f = f' + 1 := ⟨f - 1, by omega⟩
        rw [parse_gapsL hu2, parse_print r (acc ++ [x]) (f' + 1) (i + 1) b (fun y hy => hg y (by simp [hy])) (by simp at hl ⊢; omega) hr (by have := List.length_pos_iff.2 n3; simp at hf; omega)]
        simp
/-- What is written so is read as it is. -/
theorem ask_print {xs : List Chal} {T : List UInt8} (hg : ∀ x ∈ xs, Good x) (hl : xs.length ≤ 8) (h : printL 0 xs = .ok T) : askL T = .ok xs := by
  unfold askL
  rw [parse_print xs [] _ 0 T hg (by simpa using hl) h (by omega)]
  rfl
end Go.Proofs.YtgajhmmildbkfaaGreatDoor

/- A challenge of parameters that are told by words, or between marks, is read as it is, over lists of bytes. -/
namespace Go.Proofs.YtgajhmmildbkfaaGreatDoor

/-- A parameter and how its value is written. -/
structure Told (x : Par × List UInt8) : Prop where
  name : isL x.1.1.data.toList = true
  first : ∃ c t, x.2 = c :: t ∧ (tokB c = true ∨ c = 34)
  reads : ∀ R, Ends R → valueL (x.2 ++ R) = some (x.1.2, R)
theorem told_quote (n v : ByteArray) (q : List UInt8) (hn : isL n.data.toList = true) (hq : quoteO v.data.toList = some q) : Told ((n, v), q) := by
  have e2 : v.data.toList.all textB = true ∧ q = quoteL v.data.toList := by
    unfold quoteO at hq
    split at hq
    · rename_i h
      cases hq
      exact ⟨h, rfl⟩
    · cases hq
  obtain ⟨h0, e⟩ := e2
  refine ⟨hn, ⟨34, _, e, .inr rfl⟩, fun R hR => ?_⟩
  have h1 := quoted_quote v.data.toList R h0
  rw [← e] at h1
  unfold valueL
  show (if (q ++ R).takeWhile tokB = [] then _ else _) = _
  rw [if_pos (by rw [e]; exact (dw_first tokB _ (by decide)).2), h1]
  show some (bs v.data.toList, (q ++ R).drop q.length) = _
  rw [bs_self, List.drop_left]
theorem told_word (n v : ByteArray) (hn : isL n.data.toList = true) (hv : isL v.data.toList = true) : Told ((n, v), v.data.toList) := by
  obtain ⟨c, t, e, hc, ha⟩ := isL_cons hv
  refine ⟨hn, ⟨c, t, e, .inl hc⟩, fun R hR => ?_⟩
  unfold valueL
  show (if (v.data.toList ++ R).takeWhile tokB = [] then _ else _) = _
  rw [tw_app tokB ha (tw_end tokB (by decide) hR).1, if_neg (by rw [e]; simp), bs_self]
  congr 2
  exact dw_app tokB ha (tw_end tokB (by decide) hR).2
def restT : List (Par × List UInt8) → List UInt8
  | [] => []
  | x :: r => 44 :: 32 :: (parN x.1 x.2 ++ restT r)
theorem rest_ends (r : List (Par × List UInt8)) : Ends (restT r) := by
  cases r with
  | nil => exact .inl rfl
  | cons x r => exact .inr ⟨_, rfl⟩
theorem join_rest : ∀ (r : List (Par × List UInt8)) (x : Par × List UInt8), Lib.join ((x :: r).map fun y => parN y.1 y.2) [44, 32] = parN x.1 x.2 ++ restT r
  | [], x => by simp [Lib.join, restT]
  | y :: r, x => by
    have ih := join_rest r y
    have e : Lib.join ((x :: y :: r).map fun y => parN y.1 y.2) [44, 32] = parN x.1 x.2 ++ ([44, 32] ++ Lib.join ((y :: r).map fun y => parN y.1 y.2) [44, 32]) := by simp [Lib.join, List.intercalate]
    rw [e, ih, restT]
    rfl
theorem params_tell : ∀ (r : List (Par × List UInt8)) (x : Par × List UInt8) (acc : List Par) (f : Nat), (∀ q ∈ x :: r, Told q) → Unlike acc ((x :: r).map (·.1)) → acc.length + (x :: r).length ≤ 16 →
    (parN x.1 x.2 ++ restT r).length < f → paramsL f acc (parN x.1 x.2 ++ restT r) = .ok (acc ++ (x :: r).map (·.1), [])
  | r, x, acc, 0, _, _, _, hf => absurd hf (Nat.not_lt_zero _)
  | r, x, acc, f + 1, hi, hu, hl, hf => by
    have hE := rest_ends r
    have hx := hi x (by simp)
    obtain ⟨c0, t0, e0, hc0⟩ := hx.first
    have hb0 : (x.2 ++ restT r).dropWhile blankB = x.2 ++ restT r := by
      rw [e0]
      exact (dw_first blankB _ (first_kinds hc0).2.2.1).1
    have hpar : paramL acc (parN x.1 x.2 ++ restT r) = .ok (x.1, restT r) := by
      unfold paramL
      rw [name_is hx.name]
      simp only [hb0, hx.reads _ hE]
      have h1 := hu.1
      simp only at h1
      rw [h1, if_neg (by simp), if_neg (by simp at hl; omega)]
    rw [paramsL, hpar]
    simp only [(tw_end blankB (by decide) hE).2, stops_end hE, if_true]
    cases r with
    | nil => rfl
    | cons q r =>
      have hq := hi q (by simp)
      obtain ⟨c, t, e, hc, _⟩ := isL_cons hq.name
      have hg : (restT (q :: r)).dropWhile gapB = parN q.1 q.2 ++ restT r := by
        rw [restT, List.dropWhile_cons_of_pos (by decide), List.dropWhile_cons_of_pos (by decide)]
        unfold parN
        rw [e]
        exact (dw_first gapB _ ((kinds c).1 hc).2.2.2.2).1
      rw [hg, name_is hq.name]
      simp only [Option.isSome_some, if_true]
      rw [params_tell r q (acc ++ [x.1]) f (fun y hy => hi y (by simp at hy ⊢; exact .inr hy)) hu.2 (by simp at hl ⊢; omega) (by simp [restT] at hf ⊢; omega)]
      simp
theorem token_no (x : Par × List UInt8) (R : List UInt8) (hx : Told x) : tokenL (parN x.1 x.2 ++ R) = none := by
  obtain ⟨c, t, e, hc⟩ := hx.first
  obtain ⟨k1, k2, k3, k4⟩ := first_kinds hc
  have hn := hx.name
  unfold tokenL
  rw [if_neg]
  rintro ⟨_, hs⟩
  unfold parN at hs
  by_cases ha : x.1.1.data.toList.all tkB = true
  · rw [List.append_assoc, List.cons_append, dw_app tkB ha (dw_first tkB _ (by decide)).1, List.dropWhile_cons_of_pos (by decide), e, List.cons_append, (dw_first eqB _ k4).1, (dw_first blankB _ k3).1] at hs
    unfold stopsL at hs
    exact k2 (by simpa using hs)
  · obtain ⟨c', t', e', _, hall⟩ := isL_cons hn
    have hdw : ∃ d u, x.1.1.data.toList.dropWhile tkB = d :: u ∧ d ∈ x.1.1.data.toList := by
      cases h : x.1.1.data.toList.dropWhile tkB with
      | nil => exact absurd ((dw_nil _ _).1 h) ha
      | cons d u => exact ⟨d, u, rfl, (List.dropWhile_sublist _).subset (by rw [h]; simp)⟩
    obtain ⟨d, u, hd, hmem⟩ := hdw
    have hdt : tokB d = true := List.all_eq_true.1 hall d hmem
    obtain ⟨j1, j2, _, j3, _⟩ := (kinds d).1 hdt
    have hfull : (x.1.1.data.toList ++ 61 :: x.2 ++ R).dropWhile tkB = d :: (u ++ 61 :: x.2 ++ R) := by
      rw [List.append_assoc, List.dropWhile_append, hd]
      simp
    rw [hfull, (dw_first eqB _ (beq_eq_false_iff_ne.2 j1)).1, (dw_first blankB _ j3).1] at hs
    unfold stopsL at hs
    exact j2 (by simpa using hs)
/-- What is told so is read. -/
theorem ask_told (s : List UInt8) (x : Par × List UInt8) (r : List (Par × List UInt8)) (hs : isL s = true) (hi : ∀ q ∈ x :: r, Told q) (hu : Unlike [] ((x :: r).map (·.1))) (hl : (x :: r).length ≤ 16) :
    askL (s ++ 32 :: (parN x.1 x.2 ++ restT r)) = .ok [⟨bs s, ⟨#[]⟩, (x :: r).map (·.1)⟩] := by
  obtain ⟨c, s', es, hc, hall⟩ := isL_cons hs
  obtain ⟨d, u', ed, hd, _⟩ := isL_cons (hi x (by simp)).name
  have hne : s ≠ [] := by rw [es]; simp
  have h0 : (s ++ 32 :: (parN x.1 x.2 ++ restT r)).dropWhile gapB = s ++ 32 :: (parN x.1 x.2 ++ restT r) := by
    rw [es]
    exact (dw_first gapB _ ((kinds c).1 hc).2.2.2.2).1
  have hb1 : (32 :: (parN x.1 x.2 ++ restT r)).dropWhile blankB = parN x.1 x.2 ++ restT r := by
    rw [List.dropWhile_cons_of_pos (by decide)]
    unfold parN
    rw [ed]
    exact (dw_first blankB _ ((kinds d).1 hd).2.2.2.1).1
  have hst : stopsL (parN x.1 x.2 ++ restT r) = false := by
    unfold parN
    rw [ed]
    exact beq_eq_false_iff_ne.2 ((kinds d).1 hd).2.1
  have hch : chalL 0 (s ++ 32 :: (parN x.1 x.2 ++ restT r)) = .ok (⟨bs s, ⟨#[]⟩, (x :: r).map (·.1)⟩, []) := by
    unfold chalL
    rw [tw_app tokB hall (dw_first tokB _ (by decide)).2, dw_app tokB hall (dw_first tokB _ (by decide)).1, hb1, hst, if_neg hne, if_neg (by omega), if_neg (by simp), if_neg (by unfold runL; rw [List.takeWhile_cons_of_pos (by decide)]; simp)]
    unfold insideL
    rw [token_no x _ (hi x (by simp))]
    simp only []
    rw [params_tell r x [] _ hi hu (by simpa using hl) (by omega)]
    rfl
  have hlen : ∃ k, (s ++ 32 :: (parN x.1 x.2 ++ restT r)).length = k + 1 := ⟨s.length + (parN x.1 x.2 ++ restT r).length, by simp; omega⟩
  obtain ⟨k, hk⟩ := hlen
  unfold askL
  rw [hk, parseL, h0, if_neg (by rw [es]; simp)]
  show (match chalL 0 (s ++ 32 :: (parN x.1 x.2 ++ restT r)) with | Except.error e => Except.error e | Except.ok (x, u) => parseL (k + 1) ([] ++ [x]) u) = _
  rw [hch]
  rfl
end Go.Proofs.YtgajhmmildbkfaaGreatDoor

/- The first parameter of a kind, by the library's own function. -/
namespace Go.Proofs.YtgajhmmildbkfaaGreatDoor
open Go.RowKit

theorem find_take {f : Par → Bool} {ps : List Par} {k : Nat} {p : Par} (h : (ps.take k).find? f = none) (hk : ps[k]? = some p) : (f p = false → (ps.take (k + 1)).find? f = none) ∧ (f p = true → ps.find? f = some p) := by
  obtain ⟨hk1, e⟩ := List.getElem?_eq_some_iff.1 hk
  refine ⟨fun hf => ?_, fun hf => ?_⟩
  · rw [List.take_succ_eq_append_getElem hk1, List.find?_append, h, e]
    simp [hf]
  · have e2 : ps = ps.take k ++ p :: ps.drop (k + 1) := by rw [← e, ← List.drop_eq_getElem_cons hk1, List.take_append_drop]
    rw [e2, List.find?_append, h]
    simp [hf]
set_option maxRecDepth 100000 in
set_option maxHeartbeats 2000000 in
theorem indexP_any (K : Nat) (c : Value) (f : Par → Bool) (ps : List Par) (a0 : Option Addr) (len cap b off : Nat) (hlen : len ≤ 1000000) (w : World) (hx : Pars w a0 len b off ps)
    (says : ∀ w', Below w.heap.size w w' → ∀ p ∈ ps, Calls Tryz.prog K #[.agg #[.string p.1, .string p.2], c] w' fun e w'' => e = .returned (.bool (f p)) ∧ Below w'.heap.size w' w'')
    (hen : ∀ (args : Array Value) (w : World), (callFunc K args).run Tryz.prog w = .ok (.enter K args) w) :
    Calls Tryz.prog 63 #[.slice a0 len cap, .func (.func K) #[] #[c]] w fun e w' => (∃ r : Int, e = .returned (.int .i64 r) ∧ Hid (r = -1 ∧ ps.find? f = none ∨ ∃ (k : Nat) (p : Par), r = k ∧ ps[k]? = some p ∧ ps.find? f = some p)) ∧ Below w.heap.size w w' := by
  have HX : Hid (Pars w a0 len b off ps) := hx
  have hl := hx.len_eq
  clear hx
  go_enter Tryz.func63, Tryz.ntmps63
  go_wp2
  go_loopw [8] (fun i wr => ∃ (k : Nat), k ≤ len ∧ i = .int .i64 k ∧ Hid ((ps.take k).find? f = none) ∧ Below w.heap.size w wr) (fun i _ => len - (intOf i).toNat)
  case atStart => exact ⟨0, Nat.zero_le _, rfl, rfl, Below.refl _ _⟩
  case round =>
    obtain ⟨k, hk, rfl, HK, hb⟩ := hrel
    by_cases hlt : k < len
    · obtain ⟨p, hpk⟩ : ∃ p, ps[k]? = some p := ⟨ps[k]'(by omega), List.getElem?_eq_getElem (by omega)⟩
      have HP : Hid (ps[k]? = some p) := hpk
      have hs := says wr hb p (List.mem_of_getElem? hpk)
      obtain ⟨ha0, hbl⟩ := HX.out.lies (by omega)
      subst ha0
      have hc1 : wr.cell? ⟨b, off + k * 2, none⟩ = some (.string p.1) := (hb.cell (p := ⟨b, off + k * 2, none⟩) hbl).trans (HX.out.one k p hpk)
      have hc2 : wr.cell? ⟨b, off + k * 2 + 1, none⟩ = some (.string p.2) := (hb.cell (p := ⟨b, off + k * 2 + 1, none⟩) hbl).trans (HX.out.two k p hpk)
      clear hpk
      obtain ⟨hF, hT⟩ := find_take HK.out HP.out
      have hbs : w.heap.size ≤ wr.heap.size := hb.size
      cases hf : f p
      · have HS : Hid ((ps.take (k + 1)).find? f = none) := hF hf
        clear hF hT
        go_wp2_with fail
        refine hs.mono ?_
        rintro e w2 ⟨rfl, hb2⟩
        rw [hf]
        go_wp2
        go_roundw
        case rel => exact ⟨k + 1, by omega, by go_num, HS, hb.trans (hb2.mono hbs)⟩
        case measure => simp [intOf]; omega
      · have HS : Hid (ps.find? f = some p) := hT hf
        clear hF hT
        go_wp2_with fail
        refine hs.mono ?_
        rintro e w2 ⟨rfl, hb2⟩
        rw [hf]
        go_wp2
        go_ret
        exact ⟨⟨_, rfl, .inr ⟨k, p, rfl, HP, HS⟩⟩, hb.trans (hb2.mono hbs)⟩
    · have HS : Hid (ps.find? f = none) := by
        have := HK.out
        rw [List.take_of_length_le (by omega)] at this
        exact this
      go_wp2
      go_ret
      exact ⟨⟨_, rfl, .inl ⟨rfl, HS⟩⟩, hb⟩
set_option maxHeartbeats 1000000 in
theorem findOne_any (p : Par) (n : ByteArray) (hp : p.1.size ≤ 4000) (hn : n.size ≤ 4000) (c : Nat) (w : World) (hc : w.cell? ⟨c, 0, none⟩ = some (.string n)) :
    Calls Tryz.prog 64 #[.agg #[.string p.1, .string p.2], .pointer (some ⟨c, 0, none⟩)] w fun e w' => e = .returned (.bool (sameL p.1.data.toList n.data.toList)) ∧ Below w.heap.size w w' := by
  have hcl : c < w.heap.size := by
    rcases Nat.lt_or_ge c w.heap.size with h1 | h1
    · exact h1
    · simp [World.cell?, Array.getElem?_eq_none h1] at hc
  go_enter Tryz.func64, Tryz.ntmps64
  go_wp2_with fail
  refine (same_any _ _ hp hn _).mono ?_
  rintro e w2 ⟨rfl, hb2⟩
  go_wp2
  go_ret
  exact ⟨rfl, ((Below.refl _ _).alloc (Nat.le_refl _) _).trans (hb2.mono (by simp))⟩
set_option maxHeartbeats 1000000 in
theorem find_any (ps : List Par) (n : ByteArray) (hps : ∀ p ∈ ps, p.1.size ≤ 4000) (hn : n.size ≤ 4000) (a0 : Option Addr) (len cap b off : Nat) (hlen : len ≤ 1000000) (w : World) (hx : Pars w a0 len b off ps) :
    Calls Tryz.prog 36 #[.slice a0 len cap, .string n] w fun e w' => (∃ r : Int, e = .returned (.int .i64 r) ∧ Hid (r = -1 ∧ ps.find? (fun p => sameL p.1.data.toList n.data.toList) = none ∨ ∃ (k : Nat) (p : Par), r = k ∧ ps[k]? = some p ∧ ps.find? (fun p => sameL p.1.data.toList n.data.toList) = some p)) ∧ Below w.heap.size w w' := by
  have hb1 : Below w.heap.size w (w.alloc (.cells #[.string n] 9)) := (Below.refl _ _).alloc (Nat.le_refl _) _
  have HX : Hid (Pars (w.alloc (.cells #[.string n] 9)) a0 len b off ps) := hx.below hb1
  have hcell : (w.alloc (.cells #[.string n] 9)).cell? ⟨w.heap.size, 0, none⟩ = some (.string n) := World.cell?_alloc_mark _ _ _ _ _
  have HS : Hid (∀ w', Below (w.alloc (.cells #[.string n] 9)).heap.size (w.alloc (.cells #[.string n] 9)) w' → ∀ p ∈ ps, Calls Tryz.prog 64 #[.agg #[.string p.1, .string p.2], .pointer (some ⟨w.heap.size, 0, none⟩)] w' fun e w'' => e = .returned (.bool (sameL p.1.data.toList n.data.toList)) ∧ Below w'.heap.size w' w'') := by
    intro w' hb p hp
    refine findOne_any p n (hps p hp) hn _ w' ?_
    rw [hb.cell (p := ⟨w.heap.size, 0, none⟩) (by simp)]
    exact hcell
  clear hx hcell
  go_enter Tryz.func36, Tryz.ntmps36
  go_wp2_with fail
  refine (indexP_any _ _ _ ps a0 len cap b off hlen _ HX.out HS.out (enters_at Tryz.func64 (by kernel_rfl) rfl)).mono ?_
  rintro e w2 ⟨⟨r, rfl, HR⟩, hb2⟩
  go_wp2
  go_ret
  exact ⟨⟨r, rfl, HR⟩, hb1.trans (hb2.mono (by simp))⟩
end Go.Proofs.YtgajhmmildbkfaaGreatDoor

/- The value of a parameter, by the program. -/
namespace Go.Proofs.YtgajhmmildbkfaaGreatDoor
open Go.RowKit

/-- The value of a parameter. -/
def getL (ps : List Par) (n : List UInt8) : Option ByteArray := (ps.find? fun p => sameL p.1.data.toList n).map (·.2)
/-- Names and values that are not too long. -/
def Few (ps : List Par) : Prop := ps.length ≤ 1000000 ∧ ∀ p ∈ ps, p.1.size ≤ 3000 ∧ p.2.size ≤ 3000
set_option maxHeartbeats 1000000 in
theorem get_none (c : ChV) (n : ByteArray) (hf : Few c.x.params) (hn : n.size ≤ 3000) (w : World) (hx : ChOk w c) (hg : getL c.x.params n.data.toList = none) :
    Calls Tryz.prog 13 #[.agg #[.string c.x.scheme, .string c.x.token, .slice c.a c.len c.cap], .string n] w fun e w' => e = .returned (.tuple #[.string ⟨#[]⟩, .bool false]) ∧ Below w.heap.size w w' := by
  have hb1 : Below w.heap.size w (w.alloc (.cells #[.string c.x.scheme, .string c.x.token, .slice c.a c.len c.cap] 38)) := (Below.refl _ _).alloc (Nat.le_refl _) _
  have HX : Hid (ChOk (w.alloc (.cells #[.string c.x.scheme, .string c.x.token, .slice c.a c.len c.cap] 38)) c) := hx.below hb1
  have HF : Hid (Few c.x.params) := hf
  have HG : Hid (c.x.params.find? (fun p => sameL p.1.data.toList n.data.toList) = none) := by
    have := hg
    unfold getL at this
    exact Option.map_eq_none_iff.1 this
  clear hx hf hg
  go_enter Tryz.func13, Tryz.ntmps13
  go_wp2_with fail
  refine (find_any c.x.params n (fun p hp => Nat.le_trans (HF.out.2 p hp).1 (by omega)) (by omega) c.a c.len c.cap c.b c.off HF.out.1 _ HX.out).mono ?_
  rintro e w2 ⟨⟨r, rfl, HR⟩, hb2⟩
  have hr : r = -1 := by
    rcases HR.out with ⟨h, _⟩ | ⟨k, p, _, _, h⟩
    · exact h
    · rw [HG.out] at h; cases h
  subst hr
  go_wp2
  go_ret2
  exact ⟨rfl, hb1.trans (hb2.mono (by simp))⟩
set_option maxHeartbeats 1000000 in
theorem get_some (c : ChV) (n v : ByteArray) (hf : Few c.x.params) (hn : n.size ≤ 3000) (w : World) (hx : ChOk w c) (hg : getL c.x.params n.data.toList = some v) :
    Calls Tryz.prog 13 #[.agg #[.string c.x.scheme, .string c.x.token, .slice c.a c.len c.cap], .string n] w fun e w' => e = .returned (.tuple #[.string v, .bool true]) ∧ Below w.heap.size w w' := by
  have hb1 : Below w.heap.size w (w.alloc (.cells #[.string c.x.scheme, .string c.x.token, .slice c.a c.len c.cap] 38)) := (Below.refl _ _).alloc (Nat.le_refl _) _
  have HX : Hid (ChOk (w.alloc (.cells #[.string c.x.scheme, .string c.x.token, .slice c.a c.len c.cap] 38)) c) := hx.below hb1
  have HF : Hid (Few c.x.params) := hf
  have HG : Hid (∃ p, c.x.params.find? (fun p => sameL p.1.data.toList n.data.toList) = some p ∧ p.2 = v) := by
    have := hg
    unfold getL at this
    exact Option.map_eq_some_iff.1 this
  clear hx hf hg
  go_enter Tryz.func13, Tryz.ntmps13
  go_wp2_with fail
  refine (find_any c.x.params n (fun p hp => Nat.le_trans (HF.out.2 p hp).1 (by omega)) (by omega) c.a c.len c.cap c.b c.off HF.out.1 _ HX.out).mono ?_
  rintro e w2 ⟨⟨r, rfl, HR⟩, hb2⟩
  obtain ⟨k, hr, hk, hcell, hkl, hvz, hlies⟩ : ∃ k : Nat, r = k ∧ k < c.len ∧ w2.cell? ⟨c.b, c.off + k * 2 + 1, none⟩ = some (.string v) ∧ c.len ≤ 1000000 ∧ v.size ≤ 3000 ∧ c.a = some ⟨c.b, c.off, none⟩ := by
    obtain ⟨q, hq, hqv⟩ := HG.out
    rcases HR.out with ⟨_, h⟩ | ⟨k, p, hr, hk, h⟩
    · rw [hq] at h; cases h
    · rw [hq] at h
      cases h
      have hkl := (List.getElem?_eq_some_iff.1 hk).1
      have h2 := HX.out.below hb2
      refine ⟨k, hr, hkl, ?_, HF.out.1, ?_, ?_⟩
      · rw [← hqv]; exact h2.two k _ hk
      · rw [← hqv]; exact (HF.out.2 _ (List.mem_of_getElem? hk)).2
      · exact (h2.lies (by show 0 < c.len; unfold ChV.len; omega)).1
  subst hr
  have hbx : w2.cell? ⟨w.heap.size, 2, none⟩ = some (.slice c.a c.len c.cap) := (hb2.cell (p := ⟨w.heap.size, 2, none⟩) (by simp)).trans (World.cell?_alloc_mark _ _ _ _ _)
  rw [hlies] at hbx
  have hk0 : (k : Int) < (c.len : Int) := by omega
  have hkn : ¬ (k : Int) < 0 := by omega
  go_wp2_with (go_at_call 37; refine (clone_any v (by omega) _).mono ?_; rintro e w3 ⟨rfl, hb3⟩)
  go_ret2
  exact ⟨rfl, (hb1.trans (hb2.mono (by simp))).trans (hb3.mono (Nat.le_trans (by simp) hb2.size))⟩
theorem getL_none {ps : List Par} {n : List UInt8} (h : ps.find? (fun p => sameL p.1.data.toList n) = none) : getL ps n = none := by unfold getL; rw [h]; rfl
theorem getL_some {ps : List Par} {n : List UInt8} {p : Par} (h : ps.find? (fun p => sameL p.1.data.toList n) = some p) : getL ps n = some p.2 := by unfold getL; rw [h]; rfl
/-- What is answered where a parameter may be there, or not. -/
def optV (o : Option ByteArray) : Value := .tuple #[.string (o.getD ⟨#[]⟩), .bool o.isSome]
theorem get_any (c : ChV) (n : ByteArray) (hf : Few c.x.params) (hn : n.size ≤ 3000) (w : World) (hx : ChOk w c) :
    Calls Tryz.prog 13 #[.agg #[.string c.x.scheme, .string c.x.token, .slice c.a c.len c.cap], .string n] w fun e w' => e = .returned (optV (getL c.x.params n.data.toList)) ∧ Below w.heap.size w w' := by
  rcases h : getL c.x.params n.data.toList with _ | v
  · exact get_none c n hf hn w hx h
  · exact get_some c n v hf hn w hx h
end Go.Proofs.YtgajhmmildbkfaaGreatDoor

/- What a challenge asks for, as the document says, over lists of bytes. -/
namespace Go.Proofs.YtgajhmmildbkfaaGreatDoor

/-- A challenge that can be answered. -/
structure AskV where
  scheme : Nat
  realm : ByteArray
  nonce : ByteArray
  opq : ByteArray
  sess : Bool
  qop : ByteArray
  stale : Bool
  domain : List ByteArray
def zeroA : AskV := ⟨0, ⟨#[]⟩, ⟨#[]⟩, ⟨#[]⟩, false, ⟨#[]⟩, false, []⟩
def kRealm : List UInt8 := [114, 101, 97, 108, 109]
def kBasic : List UInt8 := [98, 97, 115, 105, 99]
def kDigest : List UInt8 := [100, 105, 103, 101, 115, 116]
def kNonce : List UInt8 := [110, 111, 110, 99, 101]
def kOpq : List UInt8 := [111, 112, 97, 113, 117, 101]
def kStale : List UInt8 := [115, 116, 97, 108, 101]
def kTrue : List UInt8 := [116, 114, 117, 101]
def kAlgo : List UInt8 := [97, 108, 103, 111, 114, 105, 116, 104, 109]
def kQop : List UInt8 := [113, 111, 112]
def kDomain : List UInt8 := [100, 111, 109, 97, 105, 110]
def kMd5 : List UInt8 := [77, 68, 53]
def kMd5s : List UInt8 := [77, 68, 53, 45, 115, 101, 115, 115]
def kSha : List UInt8 := [83, 72, 65, 45, 50, 53, 54]
def kShas : List UInt8 := [83, 72, 65, 45, 50, 53, 54, 45, 115, 101, 115, 115]
def kAuth : List UInt8 := [97, 117, 116, 104]
def kAuthI : List UInt8 := [97, 117, 116, 104, 45, 105, 110, 116]
/-- The scheme that sums are of (0: none that is known), and whether a nonce of one's own is summed. -/
def algoL : Option ByteArray → Nat × Bool
  | none => (2, false)
  | some v =>
    if sameL v.data.toList kMd5 then (2, false) else if sameL v.data.toList kMd5s then (2, true)
    else if sameL v.data.toList kSha then (3, false) else if sameL v.data.toList kShas then (3, true) else (0, false)
/-- The qop that is answered. -/
def qopL : Option ByteArray → Option ByteArray
  | none => some ⟨#[]⟩
  | some t => match listP 0 (splitL 44 t.data.toList) with
    | .error _ => none
    | .ok ws => if 40 < ws.length then none else if ws.any (sameL · kAuth) then some (bs kAuth) else if ws.any (sameL · kAuthI) then some (bs kAuthI) else none
def slashB : List UInt8 → Bool
  | [] => false
  | c :: _ => c == 47
/-- The paths of a domain. -/
def domL (t : List UInt8) : List ByteArray := ((splitL 32 t).filter slashB).map fun p => bs (cleanL p)
def digestL (ps : List Par) (realm : ByteArray) : Option AskV :=
  if (algoL (getL ps kAlgo)).1 = 0 then none
  else match getL ps kNonce with
    | none => none
    | some n => match qopL (getL ps kQop) with
      | none => none
      | some q => some ⟨(algoL (getL ps kAlgo)).1, realm, n, (getL ps kOpq).getD ⟨#[]⟩, (algoL (getL ps kAlgo)).2, q, sameL ((getL ps kStale).getD ⟨#[]⟩).data.toList kTrue, domL ((getL ps kDomain).getD ⟨#[]⟩).data.toList⟩
def knownL (x : Chal) : Option AskV :=
  match getL x.params kRealm with
  | none => none
  | some r => if sameL x.scheme.data.toList kBasic then some ⟨1, r, ⟨#[]⟩, ⟨#[]⟩, false, ⟨#[]⟩, false, []⟩ else if sameL x.scheme.data.toList kDigest then digestL x.params r else none
/-- An ask as a value, its paths at dv. -/
def askVal (a : AskV) (dv : Value) : Value := .agg #[.int .i64 (a.scheme : Int), .string a.realm, .string a.nonce, .string a.opq, .bool a.sess, .string a.qop, .bool a.stale, dv]
theorem algo_le (o : Option ByteArray) : (algoL o).1 ≤ 3 := by
  unfold algoL
  split
  · decide
  · split
    · decide
    · split
      · decide
      · split
        · decide
        · split <;> decide
theorem known_le (x : Chal) (a : AskV) (h : knownL x = some a) : 1 ≤ a.scheme ∧ a.scheme ≤ 3 := by
  unfold knownL at h
  split at h
  · cases h
  · split at h
    · cases h; exact ⟨by show 1 ≤ 1; omega, by show 1 ≤ 3; omega⟩
    · split at h
      · unfold digestL at h
        split at h
        · cases h
        · rename_i h0
          split at h
          · cases h
          · split at h
            · cases h
            · cases h
              have := algo_le (getL x.params kAlgo)
              exact ⟨by show 1 ≤ (algoL (getL x.params kAlgo)).1; omega, this⟩
      · cases h
end Go.Proofs.YtgajhmmildbkfaaGreatDoor

/- What a header that proves a request tells, as a challenge is read, over lists of bytes. -/
namespace Go.Proofs.YtgajhmmildbkfaaGreatDoor

def itemP (x : Item) : Par × List UInt8 := ((bs x.1, bs x.2.1), if x.2.2 then quoteL x.2.1 else x.2.1)
theorem itemT_parN (x : Item) : itemT x = parN (itemP x).1 (itemP x).2 := by
  unfold itemT parN itemP
  rw [bs_data]
def parsI (l : List Item) : List Par := l.map fun x => (bs x.1, bs x.2.1)
theorem told_item (x : Item) (hn : isL x.1 = true) (ho : itemOk x = true) (hw : x.2.2 = false → isL x.2.1 = true) : Told (itemP x) := by
  obtain ⟨n, v, q⟩ := x
  cases q
  · have h := told_word (bs n) (bs v) (by rw [bs_data]; exact hn) (by rw [bs_data]; exact hw rfl)
    rw [bs_data] at h
    exact h
  · refine told_quote (bs n) (bs v) (quoteL v) (by rw [bs_data]; exact hn) ?_
    rw [bs_data]
    unfold quoteO
    rw [if_pos (by simpa [itemOk] using ho)]
theorem hexL_word : ∀ (l : List UInt8), (hexL l).all tokB = true
  | [] => rfl
  | c :: r => by
    have hd : ∀ d : Nat, d < 16 → tokB (dig d) = true := by
      intro d hd
      have : ∀ k : Fin 16, tokB (dig k.val) = true := by decide
      exact this ⟨d, hd⟩
    have := c.toNat_lt
    rw [hexL, List.all_cons, List.all_cons, hd _ (by omega), hd _ (by omega), hexL_word r]
    rfl
theorem dig_tok (d : Nat) (hd : d < 16) : tokB (dig d) = true := by
  have : ∀ k : Fin 16, tokB (dig k.val) = true := by decide
  exact this ⟨d, hd⟩
theorem hexF_word : ∀ (f n : Nat), (hexF f n).all tokB = true
  | 0, _ => rfl
  | f + 1, n => by
    unfold hexF
    split
    · rename_i h
      simp [dig_tok n h]
    · rw [List.all_append, hexF_word f]
      simp [dig_tok (n % 16) (Nat.mod_lt _ (by omega))]
theorem countL_word (n : Nat) : isL (countL n) = true := by
  have h1 := hexD_pos n
  unfold isL countL
  rw [List.all_append, Bool.and_eq_true, Bool.and_eq_true]
  refine ⟨?_, ?_, hexF_word 16 n⟩
  · cases h : hexD n with
    | nil => rw [h] at h1; simp at h1
    | cons c t => simp
  · have h48 : tokB 48 = true := by decide
    rw [List.all_eq_true]
    intro c hc
    rw [List.eq_of_mem_replicate hc]
    exact h48
theorem algT_word (a : PfA) : isL (algT a) = true := by
  unfold algT
  split <;> split <;> decide
theorem qop_word (a : PfA) (h : a.qop.data.toList = qAuth ∨ a.qop.data.toList = qInt) : isL a.qop.data.toList = true := by
  rcases h with h | h <;> rw [h] <;> decide
/-- The names of the items, one of eight ways. -/
theorem items_read (a : PfA) (r : PfR) (n : Nat) (hq : a.qop.data.toList = [] ∨ a.qop.data.toList = qAuth ∨ a.qop.data.toList = qInt) (ho : (items a r n).all itemOk = true) :
    askL (digT (items a r n)) = .ok [⟨bs digW, ⟨#[]⟩, parsI (items a r n)⟩] := by
  have hT : ∀ x ∈ items a r n, Told (itemP x) := by
    intro x hx
    have hox := List.all_eq_true.1 ho x hx
    unfold items fiveI qopI cnI opqI at hx
    simp only [List.mem_append, List.mem_cons, List.not_mem_nil, or_false] at hx
    rcases hx with ((((rfl | rfl | rfl | rfl | rfl) | rfl) | hx) | hx) | hx
    · exact told_item _ (show isL nUser = true by decide) hox (fun e => by cases e)
    · exact told_item _ (show isL nRealm = true by decide) hox (fun e => by cases e)
    · exact told_item _ (show isL nNonce = true by decide) hox (fun e => by cases e)
    · exact told_item _ (show isL nUri = true by decide) hox (fun e => by cases e)
    · exact told_item _ (show isL nResp = true by decide) hox (fun e => by cases e)
    · exact told_item _ (show isL nAlgo = true by decide) hox (fun _ => algT_word a)
    · split at hx
      · cases hx
      · rename_i h0
        simp only [List.mem_cons, List.not_mem_nil, or_false] at hx
        rcases hx with rfl | rfl
        · exact told_item _ (show isL nQop = true by decide) hox (fun _ => qop_word a (by rcases hq with h | h | h; exact absurd h h0; exact .inl h; exact .inr h))
        · exact told_item _ (show isL nNc = true by decide) hox (fun _ => countL_word n)
    · split at hx
      · cases hx
      · simp only [List.mem_cons, List.not_mem_nil, or_false] at hx
        subst hx
        exact told_item _ (show isL nCn = true by decide) hox (fun e => by cases e)
    · split at hx
      · cases hx
      · simp only [List.mem_cons, List.not_mem_nil, or_false] at hx
        subst hx
        exact told_item _ (show isL nOpq = true by decide) hox (fun e => by cases e)
  have hU : Unlike [] (parsI (items a r n)) ∧ (items a r n).length ≤ 16 := by
    unfold items fiveI qopI cnI opqI parsI
    split <;> split <;> split <;> exact ⟨by simp only [List.cons_append, List.nil_append, List.append_nil, List.map_cons, List.map_nil, Unlike, toldL, List.any_nil, List.any_cons, bs_data]; try decide, by simp⟩
  have e : items a r n = (nUser, r.user.data.toList, true) :: (items a r n).tail := rfl
  generalize (items a r n).tail = R at e
  rw [e] at hT hU ⊢
  have h := ask_told digW (itemP (nUser, r.user.data.toList, true)) (R.map itemP) (by decide) (by
    intro q hq
    rw [← List.map_cons] at hq
    obtain ⟨x, hx, rfl⟩ := List.mem_map.1 hq
    exact hT x hx) (by rw [← List.map_cons, List.map_map]; exact hU.1) (by rw [← List.map_cons, List.length_map]; exact hU.2)
  have hj := join_rest (R.map itemP) (itemP (nUser, r.user.data.toList, true))
  rw [← List.map_cons, List.map_map] at hj
  have hjt : ((fun y : Par × List UInt8 => parN y.1 y.2) ∘ itemP) = itemT := by funext x; exact (itemT_parN x).symm
  rw [hjt] at hj
  unfold digT
  rw [hj, h, ← List.map_cons, List.map_map]
  rfl
/-- What the parameters of such a header are. -/
structure Gets (a : PfA) (r : PfR) (n : Nat) (ps : List Par) : Prop where
  user : getL ps nUser = some r.user
  realm : getL ps nRealm = some a.realm
  nonce : getL ps nNonce = some a.nonce
  uri : getL ps nUri = some r.target
  resp : getL ps nResp = some (bs (respL a r n))
  algo : getL ps nAlgo = some (bs (algT a))
  qop : getL ps nQop = if a.qop.data.toList = [] then none else some a.qop
  nc : getL ps nNc = if a.qop.data.toList = [] then none else some (bs (countL n))
  cn : a.qop.data.toList ≠ [] → getL ps nCn = some r.cnonce
  opq : getL ps nOpq = if a.opq.data.toList = [] then none else some a.opq
  stale : getL ps kStale = none
  domain : getL ps kDomain = none
theorem gt {x y : ByteArray} {o : Option ByteArray} (h : o = some x) (e : x = y) : o = some y := by rw [h, e]
theorem items_get (a : PfA) (r : PfR) (n : Nat) : Gets a r n (parsI (items a r n)) := by
  have e1 : bs r.user.data.toList = r.user := bs_self _
  have e2 : bs a.realm.data.toList = a.realm := bs_self _
  have e3 : bs a.nonce.data.toList = a.nonce := bs_self _
  have e4 : bs r.target.data.toList = r.target := bs_self _
  have e5 : bs a.qop.data.toList = a.qop := bs_self _
  have e6 : bs r.cnonce.data.toList = r.cnonce := bs_self _
  have e7 : bs a.opq.data.toList = a.opq := bs_self _
  unfold items fiveI qopI cnI opqI parsI
  generalize hR : respL a r n = R
  generalize hA : algT a = A
  generalize hC : countL n = C
  generalize hQ : a.qop.data.toList = Q at e5
  generalize hO : a.opq.data.toList = O at e7
  generalize r.user.data.toList = U at e1
  generalize a.realm.data.toList = L at e2
  generalize a.nonce.data.toList = N at e3
  generalize r.target.data.toList = T at e4
  generalize r.cnonce.data.toList = K at e6
  by_cases h1 : Q = []
  · by_cases h2 : a.sess = false
    · by_cases h3 : O = []
      · rw [if_pos h1, if_pos ⟨h1, h2⟩, if_pos h3]
        exact ⟨gt rfl e1, gt rfl e2, gt rfl e3, gt rfl e4, by rw [hR]; rfl, by rw [hA]; rfl, by rw [hQ, if_pos h1]; rfl, by rw [hQ, if_pos h1]; rfl, fun h => absurd (hQ.trans h1) h, by rw [hO, if_pos h3]; rfl, rfl, rfl⟩
      · rw [if_pos h1, if_pos ⟨h1, h2⟩, if_neg h3]
        exact ⟨gt rfl e1, gt rfl e2, gt rfl e3, gt rfl e4, by rw [hR]; rfl, by rw [hA]; rfl, by rw [hQ, if_pos h1]; rfl, by rw [hQ, if_pos h1]; rfl, fun h => absurd (hQ.trans h1) h, by rw [hO, if_neg h3]; exact gt rfl e7, rfl, rfl⟩
    · by_cases h3 : O = []
      · rw [if_pos h1, if_neg (fun h => h2 h.2), if_pos h3]
        exact ⟨gt rfl e1, gt rfl e2, gt rfl e3, gt rfl e4, by rw [hR]; rfl, by rw [hA]; rfl, by rw [hQ, if_pos h1]; rfl, by rw [hQ, if_pos h1]; rfl, fun h => absurd (hQ.trans h1) h, by rw [hO, if_pos h3]; rfl, rfl, rfl⟩
      · rw [if_pos h1, if_neg (fun h => h2 h.2), if_neg h3]
        exact ⟨gt rfl e1, gt rfl e2, gt rfl e3, gt rfl e4, by rw [hR]; rfl, by rw [hA]; rfl, by rw [hQ, if_pos h1]; rfl, by rw [hQ, if_pos h1]; rfl, fun h => absurd (hQ.trans h1) h, by rw [hO, if_neg h3]; exact gt rfl e7, rfl, rfl⟩
  · by_cases h3 : O = []
    · rw [if_neg h1, if_neg (fun h => h1 h.1), if_pos h3]
      exact ⟨gt rfl e1, gt rfl e2, gt rfl e3, gt rfl e4, by rw [hR]; rfl, by rw [hA]; rfl, by rw [hQ, if_neg h1]; exact gt rfl e5, by rw [hQ, if_neg h1, hC]; rfl, fun _ => gt rfl e6, by rw [hO, if_pos h3]; rfl, rfl, rfl⟩
    · rw [if_neg h1, if_neg (fun h => h1 h.1), if_neg h3]
      exact ⟨gt rfl e1, gt rfl e2, gt rfl e3, gt rfl e4, by rw [hR]; rfl, by rw [hA]; rfl, by rw [hQ, if_neg h1]; exact gt rfl e5, by rw [hQ, if_neg h1, hC]; rfl, fun _ => gt rfl e6, by rw [hO, if_neg h3]; exact gt rfl e7, rfl, rfl⟩
theorem algo_is (a : PfA) (hs : a.scheme = 2 ∨ a.scheme = 3) : algoL (some (bs (algT a))) = (a.scheme.toNat, a.sess) := by
  unfold algT
  rcases hs with h | h <;> rw [h] <;> cases a.sess <;> rfl
theorem empty_list {s : ByteArray} (h : s.data.toList = []) : s = ⟨#[]⟩ := by rw [← bs_self s, h]; rfl
theorem items_known (a : PfA) (r : PfR) (n : Nat) (hs : a.scheme = 2 ∨ a.scheme = 3) (hq : a.qop.data.toList = [] ∨ a.qop.data.toList = qAuth ∨ a.qop.data.toList = qInt) :
    knownL ⟨bs digW, ⟨#[]⟩, parsI (items a r n)⟩ = some ⟨a.scheme.toNat, a.realm, a.nonce, a.opq, a.sess, a.qop, false, []⟩ := by
  have G := items_get a r n
  generalize parsI (items a r n) = ps at G
  have g1 : getL ps kRealm = some a.realm := G.realm
  have g2 : getL ps kNonce = some a.nonce := G.nonce
  have g3 : getL ps kAlgo = some (bs (algT a)) := G.algo
  have g4 : qopL (getL ps kQop) = some a.qop := by
    have h := G.qop
    have hk : getL ps kQop = getL ps nQop := rfl
    rw [hk, h]
    rcases hq with h | h | h
    · rw [if_pos h, empty_list h]; rfl
    · have e : a.qop = bs qAuth := by rw [← h, bs_self]
      rw [if_neg (by rw [h]; decide), e]
      rfl
    · have e : a.qop = bs qInt := by rw [← h, bs_self]
      rw [if_neg (by rw [h]; decide), e]
      rfl
  have g5 : (getL ps kOpq).getD ⟨#[]⟩ = a.opq := by
    have h := G.opq
    have hk : getL ps kOpq = getL ps nOpq := rfl
    rw [hk, h]
    split
    · rename_i h0; exact (empty_list h0).symm
    · rfl
  have s1 : sameL (bs digW).data.toList kBasic = false := by decide
  have s2 : sameL (bs digW).data.toList kDigest = true := by decide
  have s3 : a.scheme.toNat ≠ 0 := by rcases hs with h | h <;> rw [h] <;> decide
  unfold knownL
  simp only [g1, s1, s2]
  unfold digestL
  rw [g3, algo_is a hs, if_neg s3, g2]
  simp only [g4, g5, G.stale, G.domain]
  rfl
end Go.Proofs.YtgajhmmildbkfaaGreatDoor

/- The library's contracts that are leant on, laid at this program's numbers. -/
namespace Go.Proofs.YtgajhmmildbkfaaGreatDoor
open Go.Shelf Go.RowKit
def lays219_ren : Go.Shelf.Ren := ⟨fun | 219 => 100 | 217 => 101 | 225 => 125 | 224 => 126 | 267 => 127 | 266 => 128 | 314 => 139 | n => n, fun | 9 => 9 | 3 => 3 | 4 => 4 | 5 => 5 | 46 => 97 | 146 => 133 | 51 => 114 | n => n, fun | 1 => 5 | n => n⟩
theorem lays219 : Go.Proofs.Lays.n219 Tryz.prog lays219_ren := {
  mixed := by kernel_rfl
  f217 := Tryz.func101.trans (congrArg some (by kernel_rfl))
  f219 := Tryz.func100.trans (congrArg some (by kernel_rfl))
  f224 := Tryz.func126.trans (congrArg some (by kernel_rfl))
  f225 := Tryz.func125.trans (congrArg some (by kernel_rfl))
  f266 := Tryz.func128.trans (congrArg some (by kernel_rfl))
  f267 := Tryz.func127.trans (congrArg some (by kernel_rfl))
  f314 := Tryz.func139.trans (congrArg some (by kernel_rfl))
  t3 := Tryz.underlying3
  a3 := Tryz.isAgg3
  z3 := Tryz.sizeOf3
  v3 := Tryz.zeroValue3
  t4 := Tryz.underlying4
  a4 := Tryz.isAgg4
  z4 := Tryz.sizeOf4
  v4 := Tryz.zeroValue4
  t5 := Tryz.underlying5
  a5 := Tryz.isAgg5
  z5 := Tryz.sizeOf5
  v5 := Tryz.zeroValue5
  t9 := Tryz.underlying9
  a9 := Tryz.isAgg9
  z9 := Tryz.sizeOf9
  v9 := Tryz.zeroValue9
  t46 := Tryz.underlying97
  a46 := Tryz.isAgg97
  z46 := Tryz.sizeOf97
  v46 := Tryz.zeroValue97
  t51 := Tryz.underlying114
  a51 := Tryz.isAgg114
  z51 := Tryz.sizeOf114
  v51 := Tryz.zeroValue114
  t146 := Tryz.underlying133
  a146 := Tryz.isAgg133
  z146 := Tryz.sizeOf133
  v146 := Tryz.zeroValue133
  g1 := by kernel_rfl }
end Go.Proofs.YtgajhmmildbkfaaGreatDoor

/- What stands between a text's marks, by where the next mark stands. -/
namespace Go.Proofs.YtgajhmmildbkfaaGreatDoor
open Go.RowKit

theorem ixOf_first (l : List UInt8) (c : UInt8) : (ixOf l c = -1 ∧ c ∉ l) ∨ ∃ n : Nat, n < l.length ∧ ixOf l c = n ∧ c ∉ l.take n ∧ l = l.take n ++ c :: l.drop (n + 1) := by
  unfold ixOf
  induction l with
  | nil => exact .inl ⟨rfl, by simp⟩
  | cons b r ih =>
    unfold Lib.indexByte
    by_cases hb : b = c
    · subst hb
      exact .inr ⟨0, by simp, by simp, by simp, rfl⟩
    · rw [if_neg (by simpa using hb)]
      rcases ih with ⟨h1, h2⟩ | ⟨n, h1, h2, h3, h4⟩
      · exact .inl ⟨by rw [h1]; rfl, by simp [h2, Ne.symm hb]⟩
      · refine .inr ⟨n + 1, by simpa using h1, ?_, by simp [h3, Ne.symm hb], by simp only [List.take_succ_cons, List.drop_succ_cons, List.cons_append]; rw [← h4]⟩
        rw [h2, if_neg (by simp)]
        simp

theorem extract_data (s : ByteArray) (a b : Nat) : (s.extract a b).data.toList = (s.data.toList.drop a).take (b - a) := by
  rw [ByteArray.data_extract, Array.toList_extract, List.extract_eq_take_drop]
theorem upto_data (s : ByteArray) (b : Nat) : (s.extract 0 b).data.toList = s.data.toList.take b := by rw [extract_data]; simp
theorem from_data (s : ByteArray) (a : Nat) : (s.extract a s.size).data.toList = s.data.toList.drop a := by
  rw [extract_data, List.take_of_length_le]
  simp
theorem bs_of {s : ByteArray} {l : List UInt8} (h : s.data.toList = l) : s = bs l := by rw [← h, bs_self]
/-- The parts of a text, as texts. -/
def partsOf (c : UInt8) (s : ByteArray) : List ByteArray := (splitL c s.data.toList).map bs
theorem partsOf_none (c : UInt8) (s : ByteArray) (h : c ∉ s.data.toList) : partsOf c s = [s] := by
  unfold partsOf
  rw [splitL_part c _ h, List.map_singleton, bs_self]
theorem partsOf_more (c : UInt8) (s : ByteArray) (n : Nat) (_hn : n < s.size) (h1 : c ∉ s.data.toList.take n) (h2 : s.data.toList = s.data.toList.take n ++ c :: s.data.toList.drop (n + 1)) :
    partsOf c s = s.extract 0 n :: partsOf c (s.extract (n + 1) s.size) := by
  unfold partsOf
  rw [h2, splitL_more c _ _ h1, List.map_cons, from_data, ← bs_of (upto_data s n)]
end Go.Proofs.YtgajhmmildbkfaaGreatDoor
