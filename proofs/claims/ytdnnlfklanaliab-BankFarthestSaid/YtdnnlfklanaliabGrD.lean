/- What a grant is, and what was asked for, and where their lists lie. -/
import Derived.Test.YtdnnlfklanaliabRk
import Derived.Test.YtdnnlfklanaliabAppS
namespace Go.Proofs.Ytdnnlfklanaliab
open Go.RowKit
set_option linter.unusedVariables false

/-- An origin. -/
structure OrgV where
  sec : Bool
  host : ByteArray
  port : Int
/-- What is asked for. -/
structure AskP where
  sch : Int
  realm : ByteArray
  nonce : ByteArray
  opq : ByteArray
  sess : Bool
  qop : ByteArray
  stale : Bool
  dom : List ByteArray
structure GrP where
  org : OrgV
  proxy : Bool
  user : ByteArray
  pass : ByteArray
  ask : AskP
  count : Int
  paths : List ByteArray
structure WtP where
  org : OrgV
  proxy : Bool
  path : ByteArray
  ask : AskP
def orgCells (o : OrgV) : List Value := [.bool o.sec, .string o.host, .int .i64 o.port]
def askCells (a : AskP) (dv : Value) : List Value := [.int .i64 a.sch, .string a.realm, .string a.nonce, .string a.opq, .bool a.sess, .string a.qop, .bool a.stale, dv]
/-- A grant, and the values of its two lists. -/
structure GrV where
  g : GrP
  dv : Value
  pv : Value
structure WtV where
  g : WtP
  dv : Value
def grCells (v : GrV) : List Value := [.bool v.g.org.sec, .string v.g.org.host, .int .i64 v.g.org.port, .bool v.g.proxy, .string v.g.user, .string v.g.pass, .int .i64 v.g.ask.sch, .string v.g.ask.realm, .string v.g.ask.nonce, .string v.g.ask.opq, .bool v.g.ask.sess, .string v.g.ask.qop, .bool v.g.ask.stale, v.dv, .int .i64 v.g.count, v.pv]
def wtCells (v : WtV) : List Value := [.bool v.g.org.sec, .string v.g.org.host, .int .i64 v.g.org.port, .bool v.g.proxy, .string v.g.path, .int .i64 v.g.ask.sch, .string v.g.ask.realm, .string v.g.ask.nonce, .string v.g.ask.opq, .bool v.g.ask.sess, .string v.g.ask.qop, .bool v.g.ask.stale, v.dv]
theorem grCells_len (v : GrV) : (grCells v).length = 16 := rfl
theorem wtCells_len (v : WtV) : (wtCells v).length = 13 := rfl
/-- Its lists are a call's own, among the blocks from B on. -/
structure GrOwn (w : World) (B : Nat) (v : GrV) : Prop where
  dom : OwnS w B v.dv v.g.ask.dom
  paths : OwnS w B v.pv v.g.paths
def WtOwn (w : World) (B : Nat) (v : WtV) : Prop := OwnS w B v.dv v.g.ask.dom
theorem ownS_mono {w : World} {B B' : Nat} {v : Value} {xs : List ByteArray} (h : OwnS w B v xs) (hb : B' ≤ B) : OwnS w B' v xs := World.ownsRow.mono h hb
theorem ownS_one {w : World} {B : Nat} {v : Value} {xs : List ByteArray} (h : OwnS w B v xs) : v.oneCell' = true := by
  rcases h.2 with ⟨rfl, _⟩ | ⟨g, cap, cur, rfl, _⟩ <;> rfl
theorem GrOwn.one {w : World} {B : Nat} {v : GrV} (h : GrOwn w B v) : ∀ u ∈ grCells v, u.oneCell' = true := by
  have h1 := ownS_one h.dom
  have h2 := ownS_one h.paths
  intro u hu
  simp only [grCells, List.mem_cons, List.not_mem_nil, or_false] at hu
  rcases hu with rfl | rfl | rfl | rfl | rfl | rfl | rfl | rfl | rfl | rfl | rfl | rfl | rfl | rfl | rfl | rfl <;> first | rfl | assumption
theorem wtOwn_one {w : World} {B : Nat} {v : WtV} (h : WtOwn w B v) : ∀ u ∈ wtCells v, u.oneCell' = true := by
  have h1 := ownS_one h
  intro u hu
  simp only [wtCells, List.mem_cons, List.not_mem_nil, or_false] at hu
  rcases hu with rfl | rfl | rfl | rfl | rfl | rfl | rfl | rfl | rfl | rfl | rfl | rfl | rfl <;> first | rfl | assumption
theorem GrOwn.below {w w' : World} {B : Nat} {v : GrV} (h : GrOwn w B v) (hb : Below w.heap.size w w') : GrOwn w' B v := ⟨h.dom.below hb, h.paths.below hb⟩
theorem GrOwn.mono {w : World} {B B' : Nat} {v : GrV} (h : GrOwn w B v) (hb : B' ≤ B) : GrOwn w B' v := ⟨ownS_mono h.dom hb, ownS_mono h.paths hb⟩
/-- A block of cells of another type than texts is none of a list's own. -/
theorem ownS_apart {w : World} {B b : Nat} {v : Value} {xs : List ByteArray} {cs : Array Value} {t : TypeId} (h : OwnS w B v xs) (hb : w.heap[b]? = some (.cells cs t (0, 0))) (ht : t ≠ 9) : v.ownBlock = none ∨ v.ownBlock ≠ some b := by
  rcases h.2 with ⟨rfl, _⟩ | ⟨g, cap, cur, rfl, _, hh, _⟩
  · exact .inl rfl
  · refine .inr fun e => ?_
    have e2 : g = b := by simpa [Value.ownBlock] using e
    subst e2
    rw [hh] at hb
    injection hb with hb
    injection hb with _ h3
    exact ht h3.symm
theorem ownS_grownB {w w' : World} {B b : Nat} {v : Value} {xs : List ByteArray} {cs : Array Value} {t : TypeId} (h : OwnS w B v xs) (hb : w.heap[b]? = some (.cells cs t (0, 0))) (ht : t ≠ 9) (hg : w.grownBy w' (some b)) : OwnS w' B v xs :=
  World.ownsRow.kept h hg (ownS_apart h hb ht)
theorem GrOwn.grownB {w w' : World} {B b : Nat} {v : GrV} {cs : Array Value} {t : TypeId} (h : GrOwn w B v) (hb : w.heap[b]? = some (.cells cs t (0, 0))) (ht : t ≠ 9) (hg : w.grownBy w' (some b)) : GrOwn w' B v :=
  ⟨ownS_grownB h.dom hb ht hg, ownS_grownB h.paths hb ht hg⟩
/-- What a row that is owned lies in. -/
theorem OwnK.block {k n cap g B : Nat} {t : TypeId} {w : World} {xs : List (List Value)} (h : OwnK k t w B (.slice (some ⟨g, 0, none⟩) n cap) xs) : ∃ cs, w.heap[g]? = some (.cells cs t (0, 0)) := by
  rcases h.row.2 with ⟨e, _⟩ | ⟨g', cap', cur, e, _, hh, _⟩
  · cases e
  · injection e with e1 _ _
    injection e1 with e1
    injection e1 with e1
    subst e1
    exact ⟨cur, hh⟩
end Go.Proofs.Ytdnnlfklanaliab
