/- A challenge, and a row of challenges, that lie somewhere. -/
import Derived.Test.YtooaiamfbmjmnaaGreatDoorPrmA
import Derived.Deep.QuietTactic
import Derived.BigQuiet
namespace Go.Proofs.YtooaiamfbmjmnaaGreatDoor
open Go.RowKit

/-- A challenge, and where its parameters lie. -/
structure ChV where
  x : Chal
  a : Option Addr
  cap : Nat
  b : Nat
  off : Nat
def ChV.len (c : ChV) : Nat := c.x.params.length
/-- Its parameters lie there. -/
def ChOk (w : World) (c : ChV) : Prop := Pars w c.a c.len c.b c.off c.x.params
/-- A row of challenges that lies somewhere. -/
structure Chals (w : World) (a0 : Option Addr) (len b off : Nat) (cs : List ChV) : Prop where
  len_eq : cs.length = len
  lies : 0 < len → a0 = some ⟨b, off, none⟩ ∧ b < w.heap.size
  one : ∀ (j : Nat) (c : ChV), cs[j]? = some c → w.cell? ⟨b, off + j * 3, none⟩ = some (.string c.x.scheme)
  two : ∀ (j : Nat) (c : ChV), cs[j]? = some c → w.cell? ⟨b, off + j * 3 + 1, none⟩ = some (.string c.x.token)
  three : ∀ (j : Nat) (c : ChV), cs[j]? = some c → w.cell? ⟨b, off + j * 3 + 2, none⟩ = some (.slice c.a c.len c.cap)
  pars : ∀ c ∈ cs, ChOk w c
theorem ChOk.below {w w' : World} {c : ChV} (h : ChOk w c) (hb : Below w.heap.size w w') : ChOk w' c := Pars.below h hb
theorem Chals.below {w w' : World} {a0 : Option Addr} {len b off : Nat} {cs : List ChV} (h : Chals w a0 len b off cs) (hb : Below w.heap.size w w') : Chals w' a0 len b off cs := by
  have hl : ∀ (j : Nat) (c : ChV), cs[j]? = some c → b < w.heap.size := fun j c hc => by
    have := (List.getElem?_eq_some_iff.1 hc).1
    have := h.len_eq
    exact (h.lies (by omega)).2
  exact ⟨h.len_eq, fun h0 => ⟨(h.lies h0).1, Nat.lt_of_lt_of_le (h.lies h0).2 hb.size⟩,
    fun j c hc => (hb.cell (p := ⟨b, off + j * 3, none⟩) (hl j c hc)).trans (h.one j c hc),
    fun j c hc => (hb.cell (p := ⟨b, off + j * 3 + 1, none⟩) (hl j c hc)).trans (h.two j c hc),
    fun j c hc => (hb.cell (p := ⟨b, off + j * 3 + 2, none⟩) (hl j c hc)).trans (h.three j c hc),
    fun c hc => (h.pars c hc).below hb⟩
def xsOf (cs : List ChV) : List Chal := cs.map (·.x)
theorem xsOf_at {cs : List ChV} {k : Nat} {c : ChV} (h : cs[k]? = some c) : (xsOf cs)[k]? = some c.x := by unfold xsOf; rw [List.getElem?_map, h]; rfl
end Go.Proofs.YtooaiamfbmjmnaaGreatDoor
