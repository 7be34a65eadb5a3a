/- The lines of an answer. -/
import Derived.Test.YtoblpjknnchlmabGreatDoorCut1
import Derived.Test.YtoblpjknnchlmabGreatDoorTkR
import Derived.Test.YtoblpjknnchlmabGreatDoorAkD
import Derived.Test.YtoblpjknnchlmabGreatDoorWds9D
namespace Go.Proofs.YtoblpjknnchlmabGreatDoor

/-- A line without what ends it. -/
def lineT (l : List UInt8) : List UInt8 := Lib.trimSuffix l [13]
/-- The name and the value of a line. -/
def lineF (l : List UInt8) : Option Par := if (cutL 58 l).2.2 && isL (cutL 58 l).1 then some (bs (cutL 58 l).1, bs (trimW (cutL 58 l).2.1)) else none
/-- What lines tell, from line number i on; or the line that tells none, or that there are too many. -/
def runF : Nat → List Par → List (List UInt8) → Except (Option Nat) (List Par)
  | _, acc, [] => .ok acc
  | i, acc, l :: r => if lineT l = [] then runF (i + 1) acc r else match lineF (lineT l) with
    | none => .error (some i)
    | some x => if acc.length = 40 then .error none else runF (i + 1) (acc ++ [x]) r
def fieldsF (s : List UInt8) : Except (Option Nat) (List Par) := runF 0 [] (splitL 10 s)
theorem runF_skip {i : Nat} {acc : List Par} {l : List UInt8} {r : List (List UInt8)} (h : lineT l = []) : runF i acc (l :: r) = runF (i + 1) acc r := by
  rw [runF, if_pos h]
theorem runF_bad {i : Nat} {acc : List Par} {l : List UInt8} {r : List (List UInt8)} (h : lineT l ≠ []) (hl : lineF (lineT l) = none) : runF i acc (l :: r) = .error (some i) := by
  rw [runF, if_neg h, hl]
theorem runF_many {i : Nat} {acc : List Par} {l : List UInt8} {r : List (List UInt8)} {x : Par} (h : lineT l ≠ []) (hl : lineF (lineT l) = some x) (ha : acc.length = 40) : runF i acc (l :: r) = .error none := by
  rw [runF, if_neg h, hl]
  show (if acc.length = 40 then _ else _) = _
  rw [if_pos ha]
theorem runF_next {i : Nat} {acc : List Par} {l : List UInt8} {r : List (List UInt8)} {x : Par} (h : lineT l ≠ []) (hl : lineF (lineT l) = some x) (ha : acc.length ≠ 40) : runF i acc (l :: r) = runF (i + 1) (acc ++ [x]) r := by
  rw [runF, if_neg h, hl]
  show (if acc.length = 40 then _ else _) = _
  rw [if_neg ha]
theorem lineF_none1 {l a b : List UInt8} (h : cutL 58 l = (a, b, false)) : lineF l = none := by unfold lineF; rw [h]; rfl
theorem lineF_none2 {l a b : List UInt8} (h : cutL 58 l = (a, b, true)) (hi : isL a = false) : lineF l = none := by unfold lineF; rw [h]; simp [hi]
theorem lineF_some {l a b : List UInt8} (h : cutL 58 l = (a, b, true)) (hi : isL a = true) : lineF l = some (bs a, bs (trimW b)) := by unfold lineF; rw [h]; simp [hi]
end Go.Proofs.YtoblpjknnchlmabGreatDoor
