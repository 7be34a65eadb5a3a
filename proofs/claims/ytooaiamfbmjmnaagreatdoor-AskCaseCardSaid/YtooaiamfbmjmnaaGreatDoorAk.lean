/- Challenges as the document says them, over lists of bytes. -/
import Derived.Test.YtooaiamfbmjmnaaGreatDoorTkQ
import Derived.Test.YtooaiamfbmjmnaaGreatDoorSam
import Derived.Test.YtooaiamfbmjmnaaGreatDoorAkD
namespace Go.Proofs.YtooaiamfbmjmnaaGreatDoor

def gapB (c : UInt8) : Bool := blankB c || c == 44
def eqB (c : UInt8) : Bool := c == 61
/-- A byte of a Token. -/
def tkB (c : UInt8) : Bool := decide (97 ≤ c.toNat ∧ c.toNat ≤ 122) || decide (65 ≤ c.toNat ∧ c.toNat ≤ 90) || decide (48 ≤ c.toNat ∧ c.toNat ≤ 57) || ([45, 46, 95, 126, 43, 47] : List UInt8).contains c
/-- The end or a comma stands there. -/
def stopsL : List UInt8 → Bool
  | [] => true
  | c :: _ => c == 44
/-- The Token there, and what stands behind it and its blanks. -/
def tokenL (r : List UInt8) : Option (ByteArray × List UInt8) :=
  if (r.dropWhile tkB).length < r.length ∧ stopsL (((r.dropWhile tkB).dropWhile eqB).dropWhile blankB) = true then
    some (bs (r.take (r.length - ((r.dropWhile tkB).dropWhile eqB).length)), ((r.dropWhile tkB).dropWhile eqB).dropWhile blankB)
  else none
/-- Behind = . -/
def markL : List UInt8 → Option (List UInt8)
  | [] => none
  | c :: t => if c = 61 then some t else none
/-- A name and = , and what stands behind. -/
def nameL (r : List UInt8) : Option (ByteArray × List UInt8) :=
  if r.takeWhile tokB = [] then none else (markL ((r.dropWhile tokB).dropWhile blankB)).map fun t => (bs (r.takeWhile tokB), t)
/-- Where what is missing of a name should stand. -/
def nameE (r : List UInt8) : List UInt8 := if r.takeWhile tokB = [] then r else (r.dropWhile tokB).dropWhile blankB
def valueL (r : List UInt8) : Option (ByteArray × List UInt8) :=
  if r.takeWhile tokB = [] then (quotedL r).map fun x => (bs x.1, r.drop x.2) else some (bs (r.takeWhile tokB), r.dropWhile tokB)
def toldL (acc : List Par) (n : ByteArray) : Bool := acc.any fun p => sameL p.1.data.toList n.data.toList
/-- A parameter and what stands behind it, or an error and how many bytes are left where it stands. -/
def paramL (acc : List Par) (r : List UInt8) : Except (Nat × Nat) (Par × List UInt8) :=
  match nameL r with
  | none => .error (3, (nameE r).length)
  | some (n, t) => match valueL (t.dropWhile blankB) with
    | none => .error (3, (t.dropWhile blankB).length)
    | some (v, u) => if toldL acc n then .error (9, r.length) else if 16 ≤ acc.length then .error (4, r.length) else .ok ((n, v), u)
def paramsL : Nat → List Par → List UInt8 → Except (Nat × Nat) (List Par × List UInt8)
  | 0, _, r => .error (3, r.length)
  | f + 1, acc, r => match paramL acc r with
    | .error e => .error e
    | .ok (p, u) =>
      if stopsL (u.dropWhile blankB) then
        if (nameL ((u.dropWhile blankB).dropWhile gapB)).isSome then paramsL f (acc ++ [p]) ((u.dropWhile blankB).dropWhile gapB)
        else .ok (acc ++ [p], (u.dropWhile blankB).dropWhile gapB)
      else .error (3, (u.dropWhile blankB).length)
/-- What stands behind a scheme and its blanks. -/
def insideL (w : ByteArray) (r : List UInt8) : Except (Nat × Nat) (Chal × List UInt8) :=
  match tokenL r with
  | some (t, u) => .ok (⟨w, t, []⟩, u)
  | none => (paramsL (r.length + 1) [] r).map fun x => (⟨w, ⟨#[]⟩, x.1⟩, x.2)
def chalL (ahead : Nat) (r : List UInt8) : Except (Nat × Nat) (Chal × List UInt8) :=
  if r.takeWhile tokB = [] then .error (3, r.length)
  else if 8 ≤ ahead then .error (4, r.length)
  else if stopsL ((r.dropWhile tokB).dropWhile blankB) then .ok (⟨bs (r.takeWhile tokB), ⟨#[]⟩, []⟩, (r.dropWhile tokB).dropWhile blankB)
  else if runL blankB (r.dropWhile tokB) = 0 then .error (3, ((r.dropWhile tokB).dropWhile blankB).length)
  else insideL (bs (r.takeWhile tokB)) ((r.dropWhile tokB).dropWhile blankB)
def parseL : Nat → List Chal → List UInt8 → Except (Nat × Nat) (List Chal)
  | 0, _, r => .error (3, r.length)
  | f + 1, acc, r =>
    if r.dropWhile gapB = [] then .ok acc
    else match chalL acc.length (r.dropWhile gapB) with
      | .error e => .error e
      | .ok (x, u) => parseL f (acc ++ [x]) u
/-- A header's challenges (of at most MaxText bytes). -/
def askL (s : List UInt8) : Except (Nat × Nat) (List Chal) := parseL (s.length + 1) [] s

theorem dw_len (f : UInt8 → Bool) (l : List UInt8) : (l.dropWhile f).length ≤ l.length := (List.dropWhile_sublist f).length_le
theorem dw_tw (f : UInt8 → Bool) (l : List UInt8) : (l.dropWhile f).length + (l.takeWhile f).length = l.length := by
  conv => rhs; rw [← List.takeWhile_append_dropWhile (p := f) (l := l), List.length_append]
  omega
theorem dw_lt (f : UInt8 → Bool) (l : List UInt8) (h : l.takeWhile f ≠ []) : (l.dropWhile f).length < l.length := by
  have := dw_tw f l
  have : 0 < (l.takeWhile f).length := List.length_pos_iff.2 h
  omega
theorem markL_len (l t : List UInt8) (h : markL l = some t) : t.length < l.length := by
  cases l with
  | nil => cases h
  | cons c r =>
    rw [markL] at h
    by_cases hc : c = 61
    · rw [if_pos hc] at h
      cases h
      simp
    · rw [if_neg hc] at h
      cases h
theorem nameL_len (r t : List UInt8) (n : ByteArray) (h : nameL r = some (n, t)) : t.length + 2 ≤ r.length := by
  unfold nameL at h
  split at h
  · cases h
  · rename_i h0
    rcases hm : markL ((r.dropWhile tokB).dropWhile blankB) with _ | u
    · rw [hm] at h; cases h
    · rw [hm] at h
      cases h
      have := markL_len _ _ hm
      have := dw_len blankB (r.dropWhile tokB)
      have := dw_lt tokB r h0
      omega
theorem valueL_len (r u : List UInt8) (v : ByteArray) (h : valueL r = some (v, u)) : u.length < r.length := by
  unfold valueL at h
  split at h
  · rcases hq : quotedL r with _ | ⟨t, n⟩
    · rw [hq] at h; cases h
    · rw [hq] at h
      cases h
      have := quoted_size r t n hq
      simp
      omega
  · rename_i h0
    cases h
    exact dw_lt tokB r h0
theorem paramL_len (acc : List Par) (r u : List UInt8) (p : Par) (h : paramL acc r = .ok (p, u)) : u.length + 3 ≤ r.length := by
  unfold paramL at h
  rcases hn : nameL r with _ | ⟨n, t⟩
  · rw [hn] at h; cases h
  · rw [hn] at h
    rcases hv : valueL (t.dropWhile blankB) with _ | ⟨v, u'⟩
    · simp only [hv] at h; cases h
    · simp only [hv] at h
      split at h
      · cases h
      · split at h
        · cases h
        · cases h
          have := nameL_len _ _ _ hn
          have := valueL_len _ _ _ hv
          have := dw_len blankB t
          omega
theorem paramsL_len : ∀ (f : Nat) (acc : List Par) (r : List UInt8) (ps : List Par) (u : List UInt8), paramsL f acc r = .ok (ps, u) → u.length + 3 ≤ r.length
  | 0, acc, r, ps, u, h => by cases h
  | f + 1, acc, r, ps, u, h => by
    unfold paramsL at h
    rcases hp : paramL acc r with e | ⟨p, v⟩
    · rw [hp] at h; cases h
    · rw [hp] at h
      have h1 := paramL_len _ _ _ _ hp
      have h2 := dw_len blankB v
      have h3 := dw_len gapB (v.dropWhile blankB)
      simp only at h
      split at h
      · split at h
        · have := paramsL_len f _ _ _ _ h
          omega
        · cases h
          omega
      · cases h
theorem tokenL_len (r u : List UInt8) (t : ByteArray) (h : tokenL r = some (t, u)) : u.length < r.length := by
  unfold tokenL at h
  split at h
  · rename_i h0
    cases h
    have h1 := dw_len eqB (r.dropWhile tkB)
    have h2 := dw_len blankB ((r.dropWhile tkB).dropWhile eqB)
    omega
  · cases h
theorem chalL_len (a : Nat) (r u : List UInt8) (x : Chal) (h : chalL a r = .ok (x, u)) : u.length < r.length := by
  unfold chalL at h
  split at h
  · cases h
  · rename_i h0
    have h1 := dw_lt tokB r h0
    have h2 := dw_len blankB (r.dropWhile tokB)
    split at h
    · cases h
    · split at h
      · cases h; omega
      · split at h
        · cases h
        · unfold insideL at h
          rcases ht : tokenL ((r.dropWhile tokB).dropWhile blankB) with _ | ⟨t, v⟩
          · rw [ht] at h
            simp only at h
            rcases hp : paramsL (((r.dropWhile tokB).dropWhile blankB).length + 1) [] ((r.dropWhile tokB).dropWhile blankB) with e | ⟨ps, v⟩
            · rw [hp] at h; cases h
            · rw [hp] at h
              cases h
              have := paramsL_len _ _ _ _ _ hp
              show v.length < _
              omega
          · rw [ht] at h
            cases h
            have := tokenL_len _ _ _ ht
            omega
end Go.Proofs.YtooaiamfbmjmnaaGreatDoor
