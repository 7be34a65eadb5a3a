/- What proves a request, as the document says, over lists of bytes. -/
import Derived.Test.YtooaiamfbmjmnaaFmtHxN
import Derived.Test.YtooaiamfbmjmnaaFmtSm
import Derived.Lib.Join
namespace Go.Proofs.YtooaiamfbmjmnaaFmt

/-- What is asked for, as far as a proof goes. -/
structure PfA where
  scheme : Int
  realm : ByteArray
  nonce : ByteArray
  opq : ByteArray
  sess : Bool
  qop : ByteArray
/-- Who asks, and for what. -/
structure PfR where
  user : ByteArray
  pass : ByteArray
  method : ByteArray
  target : ByteArray
  body : ByteArray
  cnonce : ByteArray
def sumL (sch : Int) (l : List UInt8) : List UInt8 := hexL (if sch = 3 then shaL l else md5L l)
/-- The sum of texts with colons between. -/
def sumT (sch : Int) (l : List (List UInt8)) : List UInt8 := sumL sch (Lib.join l [58])
def qInt : List UInt8 := [97, 117, 116, 104, 45, 105, 110, 116]
def qAuth : List UInt8 := [97, 117, 116, 104]
def whoL (a : PfA) (r : PfR) : List UInt8 := sumT a.scheme [r.user.data.toList, a.realm.data.toList, r.pass.data.toList]
def oneL (a : PfA) (r : PfR) : List UInt8 := if a.sess then sumT a.scheme [whoL a r, a.nonce.data.toList, r.cnonce.data.toList] else whoL a r
def twoL (a : PfA) (r : PfR) : List UInt8 :=
  if a.qop.data.toList = qInt then sumT a.scheme [r.method.data.toList, r.target.data.toList, sumT a.scheme [r.body.data.toList]] else sumT a.scheme [r.method.data.toList, r.target.data.toList]
def respL (a : PfA) (r : PfR) (n : Nat) : List UInt8 :=
  if a.qop.data.toList = [] then sumT a.scheme [oneL a r, a.nonce.data.toList, twoL a r]
  else sumT a.scheme [oneL a r, a.nonce.data.toList, countL n, r.cnonce.data.toList, a.qop.data.toList, twoL a r]
theorem join_one (a s : List UInt8) : Lib.join [a] s = a := by simp [Lib.join]
theorem join_cons (a b : List UInt8) (r : List (List UInt8)) (s : List UInt8) : Lib.join (a :: b :: r) s = a ++ (s ++ Lib.join (b :: r) s) := by simp [Lib.join, List.intercalate]
theorem join_len (m : Nat) : ∀ (l : List (List UInt8)), (∀ x ∈ l, x.length ≤ m) → (Lib.join l [58]).length ≤ l.length * (m + 1)
  | [], _ => by simp [Lib.join]
  | [a], h => by have := h a (by simp); rw [join_one]; simp; omega
  | a :: b :: r, h => by
    have h1 := h a (by simp)
    have h2 := join_len m (b :: r) (fun x hx => h x (by simp at hx ⊢; exact .inr hx))
    have e : (a :: b :: r).length * (m + 1) = (b :: r).length * (m + 1) + (m + 1) := by rw [List.length_cons, Nat.succ_mul]
    rw [join_cons, List.length_append, List.length_append, e]
    show a.length + (1 + _) ≤ _
    omega
end Go.Proofs.YtooaiamfbmjmnaaFmt
