/- Origins and paths as the document says them, over lists of bytes. -/
import Derived.Test.YtoblpjknnchlmabGreatDoorBase
namespace Go.Proofs.YtoblpjknnchlmabGreatDoor

/-- A byte of a host's label: a small letter or a digit. -/
def alnum (c : UInt8) : Bool := decide (97 ≤ c.toNat ∧ c.toNat ≤ 122) || decide (48 ≤ c.toNat ∧ c.toNat ≤ 57)
/-- Whether a byte may stand behind another one in a host (46: a point; ahead of the first byte and behind the last one a point is thought). -/
def hostStep (was c : UInt8) : Bool :=
  !((c == 46 && (was == 46 || was == 45)) || (c == 45 && was == 46) || (c != 46 && c != 45 && !alnum c))
def hostFrom (was : UInt8) : List UInt8 → Bool
  | [] => hostStep was 46
  | c :: t => hostStep was c && hostFrom c t
def hostL (l : List UInt8) : Bool := hostFrom 46 l
def rightL (host : List UInt8) (port : Int) : Bool := decide (host.length ≤ 60) && decide (1 ≤ port ∧ port ≤ 65535) && hostL host
/-- The port that is meant where none is told. -/
def portI (b : Bool) : Int := if b then 443 else 80
/-- A path up to its last slash, with it. -/
def dirL (l : List UInt8) : List UInt8 := (l.reverse.dropWhile (· != 47)).reverse
/-- A byte that may stand in a path or a query. -/
def sendB (c : UInt8) : Bool := decide (97 ≤ c.toNat ∧ c.toNat ≤ 122) || decide (65 ≤ c.toNat ∧ c.toNat ≤ 90) || decide (48 ≤ c.toNat ∧ c.toNat ≤ 57) || [45, 46, 95, 126, 33, 36, 38, 39, 40, 41, 42, 43, 44, 59, 61, 58, 64, 37, 47, 63].contains c
def sendL (l : List UInt8) : Bool := l.all sendB
/-- What stands between slashes. -/
def splitL (d : UInt8) : List UInt8 → List (List UInt8)
  | [] => [[]]
  | c :: t => if c = d then [] :: splitL d t else match splitL d t with
    | [] => [[c]]
    | p :: r => (c :: p) :: r
def joinL (d : UInt8) : List (List UInt8) → List UInt8
  | [] => []
  | [p] => p
  | p :: r => p ++ d :: joinL d r
/-- One part behind others: a point is left out, two take the one ahead away; if it is the last one an empty part stands there. -/
def cleanStep (last : Bool) (acc : List (List UInt8)) (p : List UInt8) : List (List UInt8) :=
  if p = [46] then (if last then acc ++ [[]] else acc)
  else if p = [46, 46] then (if last then acc.dropLast ++ [[]] else acc.dropLast)
  else acc ++ [p]
def cleanParts (acc : List (List UInt8)) : List (List UInt8) → List (List UInt8)
  | [] => acc
  | p :: r => cleanParts (cleanStep r.isEmpty acc p) r
def bodyL (s : List UInt8) : List UInt8 := match s with
  | 47 :: t => t
  | _ => s
def cleanL (s : List UInt8) : List UInt8 := 47 :: joinL 47 (cleanParts [] (splitL 47 (bodyL s)))
theorem clean_one : cleanL [47, 97, 47, 46, 47, 98, 47, 46, 46] = [47, 97, 47] := by decide
theorem clean_two : cleanL [46, 46, 47, 120] = [47, 120] := by decide
theorem clean_empty : cleanL [] = [47] := by decide
theorem host_one : hostL [97, 46, 116, 45, 49] = true := by decide
theorem host_two : hostL [97, 46] = false := by decide
end Go.Proofs.YtoblpjknnchlmabGreatDoor
