/- What a challenge asks for, as the document says, over lists of bytes. -/
import Derived.Test.YtooaiamfbmjmnaaGreatDoorChl
import Derived.Test.YtooaiamfbmjmnaaGreatDoorTkQ
namespace Go.Proofs.YtooaiamfbmjmnaaGreatDoor

/-- A challenge that can be answered. -/
structure AskV where
  scheme : Nat
  realm : ByteArray
  nonce : ByteArray
  opq : ByteArray
  sess : Bool
  qop : ByteArray
  stale : Bool
  domain : List ByteArray
def zeroA : AskV := ⟨0, ⟨#[]⟩, ⟨#[]⟩, ⟨#[]⟩, false, ⟨#[]⟩, false, []⟩
def kRealm : List UInt8 := [114, 101, 97, 108, 109]
def kBasic : List UInt8 := [98, 97, 115, 105, 99]
def kDigest : List UInt8 := [100, 105, 103, 101, 115, 116]
def kNonce : List UInt8 := [110, 111, 110, 99, 101]
def kOpq : List UInt8 := [111, 112, 97, 113, 117, 101]
def kStale : List UInt8 := [115, 116, 97, 108, 101]
def kTrue : List UInt8 := [116, 114, 117, 101]
def kAlgo : List UInt8 := [97, 108, 103, 111, 114, 105, 116, 104, 109]
def kQop : List UInt8 := [113, 111, 112]
def kDomain : List UInt8 := [100, 111, 109, 97, 105, 110]
def kMd5 : List UInt8 := [77, 68, 53]
def kMd5s : List UInt8 := [77, 68, 53, 45, 115, 101, 115, 115]
def kSha : List UInt8 := [83, 72, 65, 45, 50, 53, 54]
def kShas : List UInt8 := [83, 72, 65, 45, 50, 53, 54, 45, 115, 101, 115, 115]
def kAuth : List UInt8 := [97, 117, 116, 104]
def kAuthI : List UInt8 := [97, 117, 116, 104, 45, 105, 110, 116]
/-- The scheme that sums are of (0: none that is known), and whether a nonce of one's own is summed. -/
def algoL : Option ByteArray → Nat × Bool
  | none => (2, false)
  | some v =>
    if sameL v.data.toList kMd5 then (2, false) else if sameL v.data.toList kMd5s then (2, true)
    else if sameL v.data.toList kSha then (3, false) else if sameL v.data.toList kShas then (3, true) else (0, false)
/-- The qop that is answered. -/
def qopL : Option ByteArray → Option ByteArray
  | none => some ⟨#[]⟩
  | some t => match listP 0 (splitL 44 t.data.toList) with
    | .error _ => none
    | .ok ws => if 40 < ws.length then none else if ws.any (sameL · kAuth) then some (bs kAuth) else if ws.any (sameL · kAuthI) then some (bs kAuthI) else none
def slashB : List UInt8 → Bool
  | [] => false
  | c :: _ => c == 47
/-- The paths of a domain. -/
def domL (t : List UInt8) : List ByteArray := ((splitL 32 t).filter slashB).map fun p => bs (cleanL p)
def digestL (ps : List Par) (realm : ByteArray) : Option AskV :=
  if (algoL (getL ps kAlgo)).1 = 0 then none
  else match getL ps kNonce with
    | none => none
    | some n => match qopL (getL ps kQop) with
      | none => none
      | some q => some ⟨(algoL (getL ps kAlgo)).1, realm, n, (getL ps kOpq).getD ⟨#[]⟩, (algoL (getL ps kAlgo)).2, q, sameL ((getL ps kStale).getD ⟨#[]⟩).data.toList kTrue, domL ((getL ps kDomain).getD ⟨#[]⟩).data.toList⟩
def knownL (x : Chal) : Option AskV :=
  match getL x.params kRealm with
  | none => none
  | some r => if sameL x.scheme.data.toList kBasic then some ⟨1, r, ⟨#[]⟩, ⟨#[]⟩, false, ⟨#[]⟩, false, []⟩ else if sameL x.scheme.data.toList kDigest then digestL x.params r else none
/-- An ask as a value, its paths at dv. -/
def askVal (a : AskV) (dv : Value) : Value := .agg #[.int .i64 (a.scheme : Int), .string a.realm, .string a.nonce, .string a.opq, .bool a.sess, .string a.qop, .bool a.stale, dv]
theorem algo_le (o : Option ByteArray) : (algoL o).1 ≤ 3 := by
  unfold algoL
  split
  · decide
  · split
    · decide
    · split
      · decide
      · split
        · decide
        · split <;> decide
theorem known_le (x : Chal) (a : AskV) (h : knownL x = some a) : 1 ≤ a.scheme ∧ a.scheme ≤ 3 := by
  unfold knownL at h
  split at h
  · cases h
  · split at h
    · cases h; exact ⟨by show 1 ≤ 1; omega, by show 1 ≤ 3; omega⟩
    · split at h
      · unfold digestL at h
        split at h
        · cases h
        · rename_i h0
          split at h
          · cases h
          · split at h
            · cases h
            · cases h
              have := algo_le (getL x.params kAlgo)
              exact ⟨by show 1 ≤ (algoL (getL x.params kAlgo)).1; omega, this⟩
      · cases h
end Go.Proofs.YtooaiamfbmjmnaaGreatDoor
