/- A bank: what it has, where it lies, and what may turn. -/
import Derived.Test.YtdnnlfklanaliabRenG
import Derived.Test.YtdnnlfklanaliabBkC
import Derived.Test.YtdnnlfklanaliabFshG
namespace Go.Proofs.Ytdnnlfklanaliab
open Go.RowKit
set_option linter.unusedVariables false

/-- A bank lies in block b; its rows hold these. -/
structure BankW (w : World) (B b : Nat) (gv wv : Value) (G : List GrV) (V : List WtV) : Prop where
  blk : w.heap[b]? = some (.cells #[gv, wv] 54 (0, 0))
  low : B ≤ b
  gs : OwnK 16 36 w B gv (G.map grCells)
  ws : OwnK 13 44 w B wv (V.map wtCells)
  go : ∀ v ∈ G, GrOwn w B v
  wo : ∀ v ∈ V, WtOwn w B v
  gf : ∀ v ∈ G, GrFit v.g
  glen : G.length ≤ 8
  vlen : V.length ≤ 8
/-- What an operation of the bank may turn: its block, and its rows'; what these are then is new, or was theirs. -/
structure BankStep (b : Nat) (gv wv : Value) (w w' : World) (gv' wv' : Value) : Prop where
  os : w'.os = w.os
  tape : w'.tape = w.tape
  output : w'.output = w.output
  size : w.heap.size ≤ w'.heap.size
  keep : ∀ x, x < w.heap.size → x ≠ b → gv.ownBlock ≠ some x → wv.ownBlock ≠ some x → w'.heap[x]? = w.heap[x]? ∧ gv'.ownBlock ≠ some x ∧ wv'.ownBlock ≠ some x
theorem BankStep.trans {b : Nat} {gv wv gv' wv' gv2 wv2 : Value} {w w' w2 : World} (h : BankStep b gv wv w w' gv' wv') (k : BankStep b gv' wv' w' w2 gv2 wv2) : BankStep b gv wv w w2 gv2 wv2 :=
  ⟨k.os.trans h.os, k.tape.trans h.tape, k.output.trans h.output, Nat.le_trans h.size k.size, fun x hx h1 h2 h3 => by
    obtain ⟨e1, e2, e3⟩ := h.keep x hx h1 h2 h3
    obtain ⟨f1, f2, f3⟩ := k.keep x (Nat.lt_of_lt_of_le hx h.size) h1 e2 e3
    exact ⟨f1.trans e1, f2, f3⟩⟩
theorem BankStep.of_below {b : Nat} {gv wv : Value} {w w' : World} (hb : Below w.heap.size w w') : BankStep b gv wv w w' gv wv :=
  ⟨hb.os, hb.tape, hb.output, hb.size, fun x hx _ h2 h3 => ⟨hb.block x hx, h2, h3⟩⟩
/-- Of what lay below the bank nothing turns. -/
theorem BankStep.below {b B : Nat} {gv wv gv' wv' : Value} {w w' : World} (h : BankStep b gv wv w w' gv' wv') (hb : B ≤ b) (hg : ∀ x, gv.ownBlock = some x → B ≤ x) (hw : ∀ x, wv.ownBlock = some x → B ≤ x) (hB : B ≤ w.heap.size) : Below B w w' :=
  ⟨h.os, h.tape, h.output, h.size, fun x hx => (h.keep x (by omega) (by omega) (fun e => by have := hg x e; omega) (fun e => by have := hw x e; omega)).1⟩
theorem BankW.below {w w' : World} {B b : Nat} {gv wv : Value} {G : List GrV} {V : List WtV} (h : BankW w B b gv wv G V) (hb : Below w.heap.size w w') : BankW w' B b gv wv G V :=
  ⟨(hb.block b (Array.getElem?_eq_some_iff.1 h.blk).1).trans h.blk, h.low, h.gs.below hb, h.ws.below hb, fun v hv => (h.go v hv).below hb, fun v hv => OwnS.below (h.wo v hv) hb, h.gf, h.glen, h.vlen⟩
def realmP (g x : GrP) : Bool := realmB g.org g.proxy g.ask.realm x
/-- A grant kept, in the place of one of its realm. -/
def putL (l : List GrP) (g : GrP) : List GrP := last8 (l.filter (fun x => !realmP g x) ++ [g])
theorem step_trans' {w w' : World} {row : Option Nat} {b : Nat} {gv wv : Value} (hg : w.grownBy w' row) (hr : ∀ x, row = some x → gv.ownBlock = some x ∨ wv.ownBlock = some x ∨ x = b) : BankStep b gv wv w w' gv wv :=
  ⟨hg.os, hg.tape, hg.output, hg.size, fun x hx h1 h2 h3 => ⟨hg.block x hx (fun e => by
    rcases hr x e.symm with h | h | h
    · exact h2 h
    · exact h3 h
    · exact h1 h), h2, h3⟩⟩
/-- What is written into is of another type. -/
def Typed (w : World) (row : Option Nat) (t : TypeId) : Prop := ∀ b, row = some b → ∃ cs, w.heap[b]? = some (.cells cs t (0, 0))
theorem OwnK.typed {k B : Nat} {t : TypeId} {w : World} {v : Value} {xs : List (List Value)} (h : OwnK k t w B v xs) : Typed w v.ownBlock t := ownK_typed h
theorem OwnK.other {k B : Nat} {t u : TypeId} {w w' : World} {v : Value} {xs : List (List Value)} {row : Option Nat} (h : OwnK k t w B v xs) (hg : w.grownBy w' row) (ht : Typed w row u) (hne : u ≠ t) : OwnK k t w' B v xs := by
  refine h.kept hg ?_
  cases hv : v.ownBlock with
  | none => exact .inl rfl
  | some x =>
    refine .inr fun e => ?_
    obtain ⟨c1, h1⟩ := h.typed x hv
    obtain ⟨c2, h2⟩ := ht x e.symm
    rw [h1] at h2
    injection h2 with h2
    injection h2 with _ h3
    exact hne h3.symm
theorem OwnS.other {B : Nat} {u : TypeId} {w w' : World} {v : Value} {xs : List ByteArray} {row : Option Nat} (h : OwnS w B v xs) (hg : w.grownBy w' row) (ht : Typed w row u) (hne : u ≠ 9) : OwnS w' B v xs := by
  cases hr : row with
  | none =>
    subst hr
    refine World.ownsRow.kept h hg ?_
    cases v.ownBlock with
    | none => exact .inl rfl
    | some x => exact .inr (by simp)
  | some x =>
    subst hr
    obtain ⟨cs, hc⟩ := ht x rfl
    exact ownS_grownB h hc hne hg
theorem GrOwn.other {B : Nat} {u : TypeId} {w w' : World} {v : GrV} {row : Option Nat} (h : GrOwn w B v) (hg : w.grownBy w' row) (ht : Typed w row u) (hne : u ≠ 9) : GrOwn w' B v := ⟨h.dom.other hg ht hne, h.paths.other hg ht hne⟩
theorem block_other {w w' : World} {row : Option Nat} {t u : TypeId} {b : Nat} {cs : Array Value} (h : w.heap[b]? = some (.cells cs t (0, 0))) (hg : w.grownBy w' row) (ht : Typed w row u) (hne : u ≠ t) : w'.heap[b]? = some (.cells cs t (0, 0)) := by
  refine (hg.block b (Array.getElem?_eq_some_iff.1 h).1 (fun e => ?_)).trans h
  obtain ⟨c2, h2⟩ := ht b e.symm
  rw [h] at h2
  injection h2 with h2
  injection h2 with _ h3
  exact hne h3.symm
theorem apart_of {w : World} {k B b : Nat} {t u : TypeId} {v : Value} {xs : List (List Value)} {cs : Array Value} (h : OwnK k t w B v xs) (hb : w.heap[b]? = some (.cells cs u (0, 0))) (hne : u ≠ t) : v.ownBlock ≠ some b := fun e => by
  obtain ⟨c2, h2⟩ := h.typed b e
  rw [hb] at h2
  injection h2 with h2
  injection h2 with _ h3
  exact hne h3
theorem Typed.block {w : World} {b : Nat} {t : TypeId} {cs : Array Value} (h : w.heap[b]? = some (.cells cs t (0, 0))) : Typed w (some b) t := fun x hx => by
  injection hx with hx
  subst hx
  exact ⟨cs, h⟩
/-- The bank's row of grants anew. -/
theorem bank_grants {w w2 w3 : World} {B b : Nat} {gv wv gv' : Value} {G G' : List GrV} {V : List WtV} (h : BankW w B b gv wv G V) (hb : Below w.heap.size w w2) (hg : w2.grownBy w3 gv.ownBlock) (hown : OwnK 16 36 w3 B gv' (G'.map grCells))
    (hnew : ∀ k, gv'.ownBlock = some k → gv.ownBlock = some k ∨ w2.heap.size ≤ k) (hG : ∀ v ∈ G', (v ∈ G ∨ GrOwn w2 B v) ∧ GrFit v.g) (hl : G'.length ≤ 8) :
    BankW (w3.setCell ⟨b, 0, none⟩ gv') B b gv' wv G' V ∧ BankStep b gv wv w (w3.setCell ⟨b, 0, none⟩ gv') gv' wv := by
  have h2 := h.below hb
  have t2 := h2.gs.typed
  have hb3 := block_other h2.blk hg t2 (by decide)
  have hw3 := h2.ws.other hg t2 (by decide)
  have hb4 : (w3.setCell ⟨b, 0, none⟩ gv').heap[b]? = some (.cells #[gv', wv] 54 (0, 0)) := heap_setCell_same w3 b 0 _ _ gv' hb3
  have g34 : w3.grownBy (w3.setCell ⟨b, 0, none⟩ gv') (some b) := grown_setCells w3 b 0 [gv']
  have t3 := Typed.block hb3
  refine ⟨⟨hb4, h.low, hown.other g34 t3 (by decide), hw3.other g34 t3 (by decide), fun v hv => ?_, fun v hv => OwnS.other (OwnS.other (h2.wo v hv) hg t2 (by decide)) g34 t3 (by decide), fun v hv => (hG v hv).2, hl, h.vlen⟩, ?_⟩
  · rcases (hG v hv).1 with h1 | h1
    · exact ((h2.go v h1).other hg t2 (by decide)).other g34 t3 (by decide)
    · exact (h1.other hg t2 (by decide)).other g34 t3 (by decide)
  · refine ⟨g34.os.trans (hg.os.trans hb.os), g34.tape.trans (hg.tape.trans hb.tape), g34.output.trans (hg.output.trans hb.output), Nat.le_trans hb.size (Nat.le_trans hg.size g34.size), fun x hx h1 h2' h3 => ⟨?_, fun e => ?_, h3⟩⟩
    · have hx2 := Nat.lt_of_lt_of_le hx hb.size
      rw [g34.block x (Nat.lt_of_lt_of_le hx2 hg.size) (fun e => h1 (by injection e)), hg.block x hx2 (fun e => h2' e.symm), hb.block x hx]
    · rcases hnew x e with h4 | h4
      · exact h2' h4
      · have := hb.size
        omega
end Go.Proofs.Ytdnnlfklanaliab
