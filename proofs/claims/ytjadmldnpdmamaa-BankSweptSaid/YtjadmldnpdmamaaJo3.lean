/- Texts of one claim, joined: each begins with what it proves. -/
import Derived.Test.YtjadmldnpdmamaaJo2
import Derived.Test.YtjadmldnpdmamaaJo1
import Derived.Deep.QuietTactic
import Derived.BigQuiet
import Derived.Deep.RegionHeld3
import Derived.Deep.LoopGhost
/- A bank: what it has, where it lies, and what may turn. -/
namespace Go.Proofs.Ytjadmldnpdmamaa
open Go.RowKit
set_option linter.unusedVariables false

/-- A bank lies in block b; its rows hold these. -/
structure BankW (w : World) (B b : Nat) (gv wv : Value) (G : List GrV) (V : List WtV) : Prop where
  blk : w.heap[b]? = some (.cells #[gv, wv] 52 (0, 0))
  low : B ≤ b
  gs : OwnK 16 36 w B gv (G.map grCells)
  ws : OwnK 13 38 w B wv (V.map wtCells)
  go : ∀ v ∈ G, GrOwn w B v
  wo : ∀ v ∈ V, WtOwn w B v
  gf : ∀ v ∈ G, GrFit v.g
  glen : G.length ≤ 8
  vlen : V.length ≤ 8
/-- What an operation of the bank may turn: its block, and its rows'; what these are then is new, or was theirs. -/
structure BankStep (b : Nat) (gv wv : Value) (w w' : World) (gv' wv' : Value) : Prop where
  os : w'.os = w.os
  tape : w'.tape = w.tape
  output : w'.output = w.output
  size : w.heap.size ≤ w'.heap.size
  keep : ∀ x, x < w.heap.size → x ≠ b → gv.ownBlock ≠ some x → wv.ownBlock ≠ some x → w'.heap[x]? = w.heap[x]? ∧ gv'.ownBlock ≠ some x ∧ wv'.ownBlock ≠ some x
theorem BankStep.trans {b : Nat} {gv wv gv' wv' gv2 wv2 : Value} {w w' w2 : World} (h : BankStep b gv wv w w' gv' wv') (k : BankStep b gv' wv' w' w2 gv2 wv2) : BankStep b gv wv w w2 gv2 wv2 :=
  ⟨k.os.trans h.os, k.tape.trans h.tape, k.output.trans h.output, Nat.le_trans h.size k.size, fun x hx h1 h2 h3 => by
    obtain ⟨e1, e2, e3⟩ := h.keep x hx h1 h2 h3
    obtain ⟨f1, f2, f3⟩ := k.keep x (Nat.lt_of_lt_of_le hx h.size) h1 e2 e3
    exact ⟨f1.trans e1, f2, f3⟩⟩
theorem BankStep.of_below {b : Nat} {gv wv : Value} {w w' : World} (hb : Below w.heap.size w w') : BankStep b gv wv w w' gv wv :=
  ⟨hb.os, hb.tape, hb.output, hb.size, fun x hx _ h2 h3 => ⟨hb.block x hx, h2, h3⟩⟩
/-- Of what lay below the bank nothing turns. -/
theorem BankStep.below {b B : Nat} {gv wv gv' wv' : Value} {w w' : World} (h : BankStep b gv wv w w' gv' wv') (hb : B ≤ b) (hg : ∀ x, gv.ownBlock = some x → B ≤ x) (hw : ∀ x, wv.ownBlock = some x → B ≤ x) (hB : B ≤ w.heap.size) : Below B w w' :=
  ⟨h.os, h.tape, h.output, h.size, fun x hx => (h.keep x (by omega) (by omega) (fun e => by have := hg x e; omega) (fun e => by have := hw x e; omega)).1⟩
theorem BankW.below {w w' : World} {B b : Nat} {gv wv : Value} {G : List GrV} {V : List WtV} (h : BankW w B b gv wv G V) (hb : Below w.heap.size w w') : BankW w' B b gv wv G V :=
  ⟨(hb.block b (Array.getElem?_eq_some_iff.1 h.blk).1).trans h.blk, h.low, h.gs.below hb, h.ws.below hb, fun v hv => (h.go v hv).below hb, fun v hv => OwnS.below (h.wo v hv) hb, h.gf, h.glen, h.vlen⟩
def realmP (g x : GrP) : Bool := realmB g.org g.proxy g.ask.realm x
/-- A grant kept, in the place of one of its realm. -/
def putL (l : List GrP) (g : GrP) : List GrP := last8 (l.filter (fun x => !realmP g x) ++ [g])
theorem step_trans' {w w' : World} {row : Option Nat} {b : Nat} {gv wv : Value} (hg : w.grownBy w' row) (hr : ∀ x, row = some x → gv.ownBlock = some x ∨ wv.ownBlock = some x ∨ x = b) : BankStep b gv wv w w' gv wv :=
  ⟨hg.os, hg.tape, hg.output, hg.size, fun x hx h1 h2 h3 => ⟨hg.block x hx (fun e => by
    rcases hr x e.symm with h | h | h
    · exact h2 h
    · exact h3 h
    · exact h1 h), h2, h3⟩⟩
/-- What is written into is of another type. -/
def Typed (w : World) (row : Option Nat) (t : TypeId) : Prop := ∀ b, row = some b → ∃ cs, w.heap[b]? = some (.cells cs t (0, 0))
theorem OwnK.typed {k B : Nat} {t : TypeId} {w : World} {v : Value} {xs : List (List Value)} (h : OwnK k t w B v xs) : Typed w v.ownBlock t := ownK_typed h
theorem OwnK.other {k B : Nat} {t u : TypeId} {w w' : World} {v : Value} {xs : List (List Value)} {row : Option Nat} (h : OwnK k t w B v xs) (hg : w.grownBy w' row) (ht : Typed w row u) (hne : u ≠ t) : OwnK k t w' B v xs := by
  refine h.kept hg ?_
  cases hv : v.ownBlock with
  | none => exact .inl rfl
  | some x =>
    refine .inr fun e => ?_
    obtain ⟨c1, h1⟩ := h.typed x hv
    obtain ⟨c2, h2⟩ := ht x e.symm
    rw [h1] at h2
    injection h2 with h2
    injection h2 with _ h3
    exact hne h3.symm
theorem OwnS.other {B : Nat} {u : TypeId} {w w' : World} {v : Value} {xs : List ByteArray} {row : Option Nat} (h : OwnS w B v xs) (hg : w.grownBy w' row) (ht : Typed w row u) (hne : u ≠ 9) : OwnS w' B v xs := by
  cases hr : row with
  | none =>
    subst hr
    refine World.ownsRow.kept h hg ?_
    cases v.ownBlock with
    | none => exact .inl rfl
    | some x => exact .inr (by simp)
  | some x =>
    subst hr
    obtain ⟨cs, hc⟩ := ht x rfl
    exact ownS_grownB h hc hne hg
theorem GrOwn.other {B : Nat} {u : TypeId} {w w' : World} {v : GrV} {row : Option Nat} (h : GrOwn w B v) (hg : w.grownBy w' row) (ht : Typed w row u) (hne : u ≠ 9) : GrOwn w' B v := ⟨h.dom.other hg ht hne, h.paths.other hg ht hne⟩
theorem block_other {w w' : World} {row : Option Nat} {t u : TypeId} {b : Nat} {cs : Array Value} (h : w.heap[b]? = some (.cells cs t (0, 0))) (hg : w.grownBy w' row) (ht : Typed w row u) (hne : u ≠ t) : w'.heap[b]? = some (.cells cs t (0, 0)) := by
  refine (hg.block b (Array.getElem?_eq_some_iff.1 h).1 (fun e => ?_)).trans h
  obtain ⟨c2, h2⟩ := ht b e.symm
  rw [h] at h2
  injection h2 with h2
  injection h2 with _ h3
  exact hne h3.symm
theorem apart_of {w : World} {k B b : Nat} {t u : TypeId} {v : Value} {xs : List (List Value)} {cs : Array Value} (h : OwnK k t w B v xs) (hb : w.heap[b]? = some (.cells cs u (0, 0))) (hne : u ≠ t) : v.ownBlock ≠ some b := fun e => by
  obtain ⟨c2, h2⟩ := h.typed b e
  rw [hb] at h2
  injection h2 with h2
  injection h2 with _ h3
  exact hne h3
theorem Typed.block {w : World} {b : Nat} {t : TypeId} {cs : Array Value} (h : w.heap[b]? = some (.cells cs t (0, 0))) : Typed w (some b) t := fun x hx => by
  injection hx with hx
  subst hx
  exact ⟨cs, h⟩
/-- The bank's row of grants anew. -/
theorem bank_grants {w w2 w3 : World} {B b : Nat} {gv wv gv' : Value} {G G' : List GrV} {V : List WtV} (h : BankW w B b gv wv G V) (hb : Below w.heap.size w w2) (hg : w2.grownBy w3 gv.ownBlock) (hown : OwnK 16 36 w3 B gv' (G'.map grCells))
    (hnew : ∀ k, gv'.ownBlock = some k → gv.ownBlock = some k ∨ w2.heap.size ≤ k) (hG : ∀ v ∈ G', (v ∈ G ∨ GrOwn w2 B v) ∧ GrFit v.g) (hl : G'.length ≤ 8) :
    BankW (w3.setCell ⟨b, 0, none⟩ gv') B b gv' wv G' V ∧ BankStep b gv wv w (w3.setCell ⟨b, 0, none⟩ gv') gv' wv := by
  have h2 := h.below hb
  have t2 := h2.gs.typed
  have hb3 := block_other h2.blk hg t2 (by decide)
  have hw3 := h2.ws.other hg t2 (by decide)
  have hb4 : (w3.setCell ⟨b, 0, none⟩ gv').heap[b]? = some (.cells #[gv', wv] 52 (0, 0)) := heap_setCell_same w3 b 0 _ _ gv' hb3
  have g34 : w3.grownBy (w3.setCell ⟨b, 0, none⟩ gv') (some b) := grown_setCells w3 b 0 [gv']
  have t3 := Typed.block hb3
  refine ⟨⟨hb4, h.low, hown.other g34 t3 (by decide), hw3.other g34 t3 (by decide), fun v hv => ?_, fun v hv => OwnS.other (OwnS.other (h2.wo v hv) hg t2 (by decide)) g34 t3 (by decide), fun v hv => (hG v hv).2, hl, h.vlen⟩, ?_⟩
  · rcases (hG v hv).1 with h1 | h1
    · exact ((h2.go v h1).other hg t2 (by decide)).other g34 t3 (by decide)
    · exact (h1.other hg t2 (by decide)).other g34 t3 (by decide)
  · refine ⟨g34.os.trans (hg.os.trans hb.os), g34.tape.trans (hg.tape.trans hb.tape), g34.output.trans (hg.output.trans hb.output), Nat.le_trans hb.size (Nat.le_trans hg.size g34.size), fun x hx h1 h2' h3 => ⟨?_, fun e => ?_, h3⟩⟩
    · have hx2 := Nat.lt_of_lt_of_le hx hb.size
      rw [g34.block x (Nat.lt_of_lt_of_le hx2 hg.size) (fun e => h1 (by injection e)), hg.block x hx2 (fun e => h2' e.symm), hb.block x hx]
    · rcases hnew x e with h4 | h4
      · exact h2' h4
      · have := hb.size
        omega
end Go.Proofs.Ytjadmldnpdmamaa

/- A bank whose row of waits was written anew. -/
namespace Go.Proofs.Ytjadmldnpdmamaa
open Go.RowKit
set_option linter.unusedVariables false

/-- What is written into the row of waits: another row of the bank's. -/
theorem bank_waits {w w2 w3 : World} {B b : Nat} {gv wv wv' : Value} {G : List GrV} {V V' : List WtV} (h : BankW w B b gv wv G V) (hb : Below w.heap.size w w2) (hg : w2.grownBy w3 wv.ownBlock) (hown : OwnK 13 38 w3 B wv' (V'.map wtCells))
    (hnew : ∀ k, wv'.ownBlock = some k → wv.ownBlock = some k ∨ w2.heap.size ≤ k) (hV : ∀ v ∈ V', v ∈ V ∨ WtOwn w2 B v) (hl : V'.length ≤ 8) :
    BankW (w3.setCell ⟨b, 1, none⟩ wv') B b gv wv' G V' ∧ BankStep b gv wv w (w3.setCell ⟨b, 1, none⟩ wv') gv wv' := by
  have h2 := h.below hb
  have t2 := h2.ws.typed
  have hb3 := block_other h2.blk hg t2 (by decide)
  have hg3 := h2.gs.other hg t2 (by decide)
  have hb4 : (w3.setCell ⟨b, 1, none⟩ wv').heap[b]? = some (.cells #[gv, wv'] 52 (0, 0)) := heap_setCell_same w3 b 1 _ _ wv' hb3
  have g34 : w3.grownBy (w3.setCell ⟨b, 1, none⟩ wv') (some b) := grown_setCells w3 b 1 [wv']
  have t3 := Typed.block hb3
  refine ⟨⟨hb4, h.low, hg3.other g34 t3 (by decide), hown.other g34 t3 (by decide), fun v hv => ((h2.go v hv).other hg t2 (by decide)).other g34 t3 (by decide), fun v hv => ?_, h.gf, h.glen, hl⟩, ?_⟩
  · rcases hV v hv with h1 | h1
    · exact OwnS.other (OwnS.other (h2.wo v h1) hg t2 (by decide)) g34 t3 (by decide)
    · exact OwnS.other (OwnS.other h1 hg t2 (by decide)) g34 t3 (by decide)
  · refine ⟨g34.os.trans (hg.os.trans hb.os), g34.tape.trans (hg.tape.trans hb.tape), g34.output.trans (hg.output.trans hb.output), Nat.le_trans hb.size (Nat.le_trans hg.size g34.size), fun x hx h1 h2' h3 => ⟨?_, h2', fun e => ?_⟩⟩
    · have hx2 := Nat.lt_of_lt_of_le hx hb.size
      rw [g34.block x (Nat.lt_of_lt_of_le hx2 hg.size) (fun e => h1 (by injection e)), hg.block x hx2 (fun e => h3 e.symm), hb.block x hx]
    · rcases hnew x e with h4 | h4
      · exact h3 h4
      · have := hb.size
        omega
end Go.Proofs.Ytjadmldnpdmamaa

/- A region driven by hand: an operation taken first. -/
namespace Go.Proofs.Ytjadmldnpdmamaa
open Go.RowKit

section
variable {P : Program} {ops : Array Oper} {Q : Exit → Act → World → Prop} {md : Region.Mode} {S : World → Prop}
theorem takeH {i : Nat} {oi : Oper} {d : Option Tmp} {v : Value} {fuel : Nat} {listed : Array Bool} {a : Act} {w : World} (hi : ops[i]? = some oi) (hd : oi.dst = d)
    (hs : Region.noSelect ops = true) (hf : Region.free md ops listed i = true) (hr : (Region.ready md ops listed).contains i = true)
    (hQ : ∀ c a w, Q (.panic c) (a.put oi.dst v) w → Q (.panic c) a w) (hw : Region.wanted oi (yielded ops a.tmps) = true) (hy : ∀ w, S w → (execOp a.eval oi).run P w = .ok (.value v) w) (hS : S w)
    (h : wpAnyH P md ops Q S fuel (listed.setIfInBounds i true) (a.put d v) w) : wpAnyH P md ops Q S (fuel + 1) listed a w := by
  subst hd
  exact wpAnyH_take hi hs hf hr hQ (Or.inl ⟨hw, hy⟩) hS h
theorem skipH {i : Nat} {oi : Oper} {d : Option Tmp} {fuel : Nat} {listed : Array Bool} {a : Act} {w : World} (hi : ops[i]? = some oi) (hd : oi.dst = d)
    (hs : Region.noSelect ops = true) (hf : Region.free md ops listed i = true) (hr : (Region.ready md ops listed).contains i = true)
    (hQ : ∀ c a w, Q (.panic c) (a.put oi.dst undef) w → Q (.panic c) a w) (hw : Region.wanted oi (yielded ops a.tmps) = false) (hS : S w)
    (h : wpAnyH P md ops Q S fuel (listed.setIfInBounds i true) (a.put d undef) w) : wpAnyH P md ops Q S (fuel + 1) listed a w := by
  subst hd
  exact wpAnyH_take hi hs hf hr hQ (Or.inr ⟨hw, rfl⟩) hS h
end
end Go.Proofs.Ytjadmldnpdmamaa

/- A bank keeps a grant. -/
namespace Go.Proofs.Ytjadmldnpdmamaa
open Go.RowKit
set_option linter.unusedVariables false


theorem facts16 {W : World} {b : Nat} {g : GrP} {da pa : Option Addr} {dl dc pl pc : Nat} (h : W.heap[b]? = some (.cells #[.bool g.org.sec, .string g.org.host, .int .i64 g.org.port, .bool g.proxy, .string g.user, .string g.pass, .int .i64 g.ask.sch, .string g.ask.realm, .string g.ask.nonce, .string g.ask.opq, .bool g.ask.sess, .string g.ask.qop, .bool g.ask.stale, .slice da dl dc, .int .i64 g.count, .slice pa pl pc] 36 (0, 0))) :
    W.cell? ⟨b, 0, none⟩ = some (.bool g.org.sec) ∧ W.cell? ⟨b, 1, none⟩ = some (.string g.org.host) ∧ W.cell? ⟨b, 2, none⟩ = some (.int .i64 g.org.port) ∧ W.cell? ⟨b, 3, none⟩ = some (.bool g.proxy) ∧ W.cell? ⟨b, 4, none⟩ = some (.string g.user) ∧ W.cell? ⟨b, 5, none⟩ = some (.string g.pass) ∧ W.cell? ⟨b, 6, none⟩ = some (.int .i64 g.ask.sch) ∧ W.cell? ⟨b, 7, none⟩ = some (.string g.ask.realm) ∧ W.cell? ⟨b, 8, none⟩ = some (.string g.ask.nonce) ∧ W.cell? ⟨b, 9, none⟩ = some (.string g.ask.opq) ∧ W.cell? ⟨b, 10, none⟩ = some (.bool g.ask.sess) ∧ W.cell? ⟨b, 11, none⟩ = some (.string g.ask.qop) ∧ W.cell? ⟨b, 12, none⟩ = some (.bool g.ask.stale) ∧ W.cell? ⟨b, 13, none⟩ = some (.slice da dl dc) ∧ W.cell? ⟨b, 14, none⟩ = some (.int .i64 g.count) ∧ W.cell? ⟨b, 15, none⟩ = some (.slice pa pl pc) := ⟨(cell_of (i := 0) h).trans rfl, (cell_of (i := 1) h).trans rfl, (cell_of (i := 2) h).trans rfl, (cell_of (i := 3) h).trans rfl, (cell_of (i := 4) h).trans rfl, (cell_of (i := 5) h).trans rfl, (cell_of (i := 6) h).trans rfl, (cell_of (i := 7) h).trans rfl, (cell_of (i := 8) h).trans rfl, (cell_of (i := 9) h).trans rfl, (cell_of (i := 10) h).trans rfl, (cell_of (i := 11) h).trans rfl, (cell_of (i := 12) h).trans rfl, (cell_of (i := 13) h).trans rfl, (cell_of (i := 14) h).trans rfl, (cell_of (i := 15) h).trans rfl⟩
/-- Where a grant was cloned. -/
structure PutA (w w0 w1 : World) (B b : Nat) (gv wv : Value) (G : List GrV) (V : List WtV) (g : GrP) (v u : Value) (box : Array Value) : Prop where
  bank : BankW w1 B b gv wv G V
  old : BankW w B b gv wv G V
  bel : Below w.heap.size w w1
  own : GrOwn w1 w.heap.size ⟨g, v, u⟩
  box : w1.heap[w.heap.size]? = some (.cells box 36 (0, 0))
  low : B ≤ w.heap.size
theorem putA_of {w w0 w1 : World} {B b : Nat} {gv wv : Value} {G : List GrV} {V : List WtV} {g : GrP} {v u : Value} {box : Array Value} (h : BankW w B b gv wv G V ∧ B ≤ w.heap.size) (hb0 : Below w.heap.size w w0) (hx : w0.heap[w.heap.size]? = some (.cells box 36 (0, 0))) (hb1 : Below w0.heap.size w0 w1) (hv : OwnS w1 w0.heap.size v g.ask.dom) (hu : OwnS w1 w0.heap.size u g.paths) : PutA w w0 w1 B b gv wv G V g v u box :=
  have hb := hb0.trans (hb1.mono hb0.size)
  ⟨h.1.below hb, h.1, hb, ⟨ownS_mono hv hb0.size, ownS_mono hu hb0.size⟩, (hb1.block _ (Array.getElem?_eq_some_iff.1 hx).1).trans hx, h.2⟩
theorem putA_below {w w0 w1 w2 : World} {B b : Nat} {gv wv : Value} {G : List GrV} {V : List WtV} {g : GrP} {v u : Value} {box : Array Value} (h : PutA w w0 w1 B b gv wv G V g v u box) (hb : Below w1.heap.size w1 w2) : PutA w w0 w2 B b gv wv G V g v u box :=
  ⟨h.bank.below hb, h.old, h.bel.trans (hb.mono h.bel.size), h.own.below hb, (hb.block _ (Array.getElem?_eq_some_iff.1 h.box).1).trans h.box, h.low⟩
theorem realm_pred {w : World} {val : Value} {G : List GrV} {B a b c : Nat} {o : OrgV} {p : Bool} {r : ByteArray} (hown : OwnK 16 36 w B val (G.map grCells)) (h3 : Box3 w a b c o p r) :
    PredK Try.prog 64 #[.pointer (some ⟨a, 0, none⟩), .pointer (some ⟨b, 0, none⟩), .pointer (some ⟨c, 0, none⟩)] (onG (fun o' p' r' => orgB o' o && (p' == p && r'.toList == r.toList))) (G.map grCells) w val.ownBlock := by
  intro W x hx hg
  obtain ⟨v, hv, rfl⟩ := List.mem_map.1 hx
  have ht := hown.typed
  exact grantIs_any v (hown.one _ hx) o p r a b c W ⟨block_other h3.org hg ht (by decide), block_other h3.prx hg ht (by decide), block_other h3.txt hg ht (by decide)⟩
theorem filt_map (q : OrgV → Bool → ByteArray → Bool) (G : List GrV) : (G.map grCells).filter (fun y => !onG q y) = (G.filter (fun v => !q v.g.org v.g.proxy v.g.ask.realm)).map grCells := by
  rw [List.filter_map]
  rfl
theorem last8_mem {α : Type} {l : List α} {x : α} (h : x ∈ last8 l) : x ∈ l := List.mem_of_mem_drop h
theorem last8_len {α : Type} (l : List α) : (last8 l).length ≤ 8 := by unfold last8; rw [List.length_drop]; omega
theorem last8_pos {α : Type} (l : List α) (h : 0 < l.length) : 0 < (last8 l).length := by unfold last8; rw [List.length_drop]; omega
/-- The grant among the others. -/
theorem put_ren {w w0 w2 : World} {B b a1 b1 c1 : Nat} {gv wv : Value} {G : List GrV} {V : List WtV} (g : GrP) (hg : GrFit g) (v u : Value) {box : Array Value} (h : PutA w w0 w2 B b gv wv G V g v u box) (h3 : Box3 w2 a1 b1 c1 g.org g.proxy g.ask.realm) :
    Calls Try.prog 52 #[gv, .agg #[.bool g.org.sec, .string g.org.host, .int .i64 g.org.port, .bool g.proxy, .string g.user, .string g.pass, .int .i64 g.ask.sch, .string g.ask.realm, .string g.ask.nonce, .string g.ask.opq, .bool g.ask.sess, .string g.ask.qop, .bool g.ask.stale, v, .int .i64 g.count, u], .func (.func 64) #[] #[.pointer (some ⟨a1, 0, none⟩), .pointer (some ⟨b1, 0, none⟩), .pointer (some ⟨c1, 0, none⟩)]] w2 fun e w3 => ∃ g3 n3 c3, e = .returned (.slice (some ⟨g3, 0, none⟩) n3 c3) ∧ Hid (0 < n3 ∧ w3.heap[w.heap.size]? = some (.cells box 36 (0, 0)) ∧ w3.heap[b]? = some (.cells #[gv, wv] 52 (0, 0)) ∧ (w3.setCell ⟨b, 0, none⟩ (.slice (some ⟨g3, 0, none⟩) n3 c3)).heap[w.heap.size]? = some (.cells box 36 (0, 0)) ∧
      ∃ gv' G', Hid (BankW (w3.setCell ⟨b, 0, none⟩ (.slice (some ⟨g3, 0, none⟩) n3 c3)) B b gv' wv G' V ∧ G'.map (·.g) = putL (G.map (·.g)) g ∧ BankStep b gv wv w (w3.setCell ⟨b, 0, none⟩ (.slice (some ⟨g3, 0, none⟩) n3 c3)) gv' wv)) := by
  have hlow := h.low
  have hbs := h.bel.size
  refine (renG_any gv (G.map grCells) B (by rw [List.length_map]; have := h.bank.glen; omega) w2 (by omega) h.bank.gs ⟨g, v, u⟩ h.own.one _ _ _ (enters_at Try.func64 (by kernel_rfl) rfl) (realm_pred h.bank.gs h3)).mono ?_
  rintro e w3 ⟨u3, rfl, H⟩
  obtain ⟨hown, hgr, hnew⟩ := H.out
  rw [filt_map, show [grCells ⟨g, v, u⟩] = [(⟨g, v, u⟩ : GrV)].map grCells from rfl, ← List.map_append, ← last8_map] at hown
  have hbox : w3.heap[w.heap.size]? = some (.cells box 36 (0, 0)) := by
    refine (hgr.block _ (Array.getElem?_eq_some_iff.1 h.box).1 (fun e => ?_)).trans h.box
    have := (h.old.gs.lt _ e.symm).2
    omega
  have hblk := block_other h.bank.blk hgr h.bank.gs.typed (by decide)
  have hne : w.heap.size ≠ b := fun e => by
    have h1 := h.old.blk
    rw [← e, Array.getElem?_eq_none (Nat.le_refl _)] at h1
    cases h1
  rcases hown.forms with ⟨_, e2⟩ | ⟨g3, c3, rfl, _, _, _, _⟩
  · exfalso
    have := congrArg List.length e2
    rw [List.length_map, List.length_nil] at this
    have h8 := last8_pos (G.filter (fun v => !(orgB v.g.org g.org && (v.g.proxy == g.proxy && v.g.ask.realm.toList == g.ask.realm.toList))) ++ [(⟨g, v, u⟩ : GrV)]) (by simp)
    omega
  · obtain ⟨hW, hS⟩ := bank_grants h.old h.bel hgr hown (fun k hk => (hnew k hk).imp id (fun h => h)) (fun x hx => by
      rcases List.mem_append.1 (last8_mem hx) with hx | hx
      · have := (List.mem_filter.1 hx).1
        exact ⟨.inl this, h.old.gf x this⟩
      · rw [List.mem_singleton.1 hx]
        exact ⟨.inr (h.own.mono hlow), hg⟩) (last8_len _)
    refine ⟨g3, _, c3, rfl, ⟨?_, hbox, hblk, ?_, _, _, ⟨hW, ?_, hS⟩⟩⟩
    · rw [List.length_map]
      exact last8_pos _ (by simp)
    · exact (Below.heap_setCell w3 ⟨b, 0, none⟩ _ w.heap.size hne).trans hbox
    · unfold putL
      rw [last8_map, List.map_append, List.filter_map]
      rfl

set_option maxRecDepth 100000 in
set_option maxHeartbeats 4000000 in
theorem put_at (g : GrP) (hg : GrFit g) (da pa : Option Addr) (dl dc pl pc db doff pb poff : Nat) (w : World) (hd : Strs w da dl db doff g.ask.dom) (hp : Strs w pa pl pb poff g.paths)
    (B b : Nat) (gv wv : Value) (G : List GrV) (V : List WtV) (hB : BankW w B b gv wv G V) (hB2 : B ≤ w.heap.size) :
    Calls Try.prog 25 #[.pointer (some ⟨b, 0, none⟩), .agg #[.bool g.org.sec, .string g.org.host, .int .i64 g.org.port, .bool g.proxy, .string g.user, .string g.pass, .int .i64 g.ask.sch, .string g.ask.realm, .string g.ask.nonce, .string g.ask.opq, .bool g.ask.sess, .string g.ask.qop, .bool g.ask.stale, .slice da dl dc, .int .i64 g.count, .slice pa pl pc]] w fun e w' => e = .returned (.tuple #[]) ∧ ∃ gv' G', Hid (BankW w' B b gv' wv G' V ∧ G'.map (·.g) = putL (G.map (·.g)) g ∧ BankStep b gv wv w w' gv' wv) := by
  have HD : Hid (Strs w da dl db doff g.ask.dom ∧ Strs w pa pl pb poff g.paths ∧ GrFit g) := ⟨hd, hp, hg⟩
  have HK : Hid (BankW w B b gv wv G V ∧ B ≤ w.heap.size) := ⟨hB, hB2⟩
  have hb0 : Below w.heap.size w (w.alloc (.cells #[.bool g.org.sec, .string g.org.host, .int .i64 g.org.port, .bool g.proxy, .string g.user, .string g.pass, .int .i64 g.ask.sch, .string g.ask.realm, .string g.ask.nonce, .string g.ask.opq, .bool g.ask.sess, .string g.ask.qop, .bool g.ask.stale, .slice da dl dc, .int .i64 g.count, .slice pa pl pc] 36)) := (Below.refl _ _).alloc (Nat.le_refl _) _
  have hn0 := heap_alloc_new w (.cells #[.bool g.org.sec, .string g.org.host, .int .i64 g.org.port, .bool g.proxy, .string g.user, .string g.pass, .int .i64 g.ask.sch, .string g.ask.realm, .string g.ask.nonce, .string g.ask.opq, .bool g.ask.sess, .string g.ask.qop, .bool g.ask.stale, .slice da dl dc, .int .i64 g.count, .slice pa pl pc] 36)
  have HB0 : Hid (Below w.heap.size w (w.alloc (.cells #[.bool g.org.sec, .string g.org.host, .int .i64 g.org.port, .bool g.proxy, .string g.user, .string g.pass, .int .i64 g.ask.sch, .string g.ask.realm, .string g.ask.nonce, .string g.ask.opq, .bool g.ask.sess, .string g.ask.qop, .bool g.ask.stale, .slice da dl dc, .int .i64 g.count, .slice pa pl pc] 36)).drew ∧ (w.alloc (.cells #[.bool g.org.sec, .string g.org.host, .int .i64 g.org.port, .bool g.proxy, .string g.user, .string g.pass, .int .i64 g.ask.sch, .string g.ask.realm, .string g.ask.nonce, .string g.ask.opq, .bool g.ask.sess, .string g.ask.qop, .bool g.ask.stale, .slice da dl dc, .int .i64 g.count, .slice pa pl pc] 36)).drew.heap[w.heap.size]? = some (.cells #[.bool g.org.sec, .string g.org.host, .int .i64 g.org.port, .bool g.proxy, .string g.user, .string g.pass, .int .i64 g.ask.sch, .string g.ask.realm, .string g.ask.nonce, .string g.ask.opq, .bool g.ask.sess, .string g.ask.qop, .bool g.ask.stale, .slice da dl dc, .int .i64 g.count, .slice pa pl pc] 36 (0, 0))) := ⟨hb0.drew, hn0⟩
  clear hd hp hg hB hB2 hb0 hn0
  go_enter Try.func25, Try.ntmps25
  go_wp2_with fail
  refine wp_region_held_drew (S := fun W => W.cell? ⟨w.heap.size, 0, none⟩ = some (.bool g.org.sec) ∧ W.cell? ⟨w.heap.size, 1, none⟩ = some (.string g.org.host) ∧ W.cell? ⟨w.heap.size, 2, none⟩ = some (.int .i64 g.org.port) ∧ W.cell? ⟨w.heap.size, 3, none⟩ = some (.bool g.proxy) ∧ W.cell? ⟨w.heap.size, 4, none⟩ = some (.string g.user) ∧ W.cell? ⟨w.heap.size, 5, none⟩ = some (.string g.pass) ∧ W.cell? ⟨w.heap.size, 6, none⟩ = some (.int .i64 g.ask.sch) ∧ W.cell? ⟨w.heap.size, 7, none⟩ = some (.string g.ask.realm) ∧ W.cell? ⟨w.heap.size, 8, none⟩ = some (.string g.ask.nonce) ∧ W.cell? ⟨w.heap.size, 9, none⟩ = some (.string g.ask.opq) ∧ W.cell? ⟨w.heap.size, 10, none⟩ = some (.bool g.ask.sess) ∧ W.cell? ⟨w.heap.size, 11, none⟩ = some (.string g.ask.qop) ∧ W.cell? ⟨w.heap.size, 12, none⟩ = some (.bool g.ask.stale) ∧ W.cell? ⟨w.heap.size, 13, none⟩ = some (.slice da dl dc) ∧ W.cell? ⟨w.heap.size, 14, none⟩ = some (.int .i64 g.count) ∧ W.cell? ⟨w.heap.size, 15, none⟩ = some (.slice pa pl pc)) (by kernel_rfl) (facts16 HB0.out.2) (fun hHeld => ?_)
  refine takeH (i := 0) (d := some 4) (v := ?_) rfl rfl (by kernel_rfl) (by kernel_rfl) (by kernel_rfl) (fun _ _ _ h => h) (by rfl) ?_ (by assumption) ?_
  rotate_left
  · intro w hSw; (try dsimp only at hSw); go_simp; with_reducible rfl
  try simp only [Act.put, List.setIfInBounds_toArray, List.set_cons_zero, List.set_cons_succ]
  refine takeH (i := 1) (d := some 5) (v := ?_) rfl rfl (by kernel_rfl) (by kernel_rfl) (by kernel_rfl) (fun _ _ _ h => h) (by rfl) ?_ (by assumption) ?_
  rotate_left
  · intro w hSw; (try dsimp only at hSw); go_simp; with_reducible rfl
  try simp only [Act.put, List.setIfInBounds_toArray, List.set_cons_zero, List.set_cons_succ]
  refine takeH (i := 2) (d := some 6) (v := ?_) rfl rfl (by kernel_rfl) (by kernel_rfl) (by kernel_rfl) (fun _ _ _ h => h) (by rfl) ?_ (by assumption) ?_
  rotate_left
  · intro w hSw; (try dsimp only at hSw); go_simp; with_reducible rfl
  try simp only [Act.put, List.setIfInBounds_toArray, List.set_cons_zero, List.set_cons_succ]
  refine takeH (i := 3) (d := some 7) (v := ?_) rfl rfl (by kernel_rfl) (by kernel_rfl) (by kernel_rfl) (fun _ _ _ h => h) (by rfl) ?_ (by assumption) ?_
  rotate_left
  · intro w hSw; (try dsimp only at hSw); go_simp; with_reducible rfl
  try simp only [Act.put, List.setIfInBounds_toArray, List.set_cons_zero, List.set_cons_succ]
  refine takeH (i := 5) (d := some 9) (v := ?_) rfl rfl (by kernel_rfl) (by kernel_rfl) (by kernel_rfl) (fun _ _ _ h => h) (by rfl) ?_ (by assumption) ?_
  rotate_left
  · intro w hSw; (try dsimp only at hSw); go_simp; with_reducible rfl
  try simp only [Act.put, List.setIfInBounds_toArray, List.set_cons_zero, List.set_cons_succ]
  refine takeH (i := 7) (d := some 11) (v := ?_) rfl rfl (by kernel_rfl) (by kernel_rfl) (by kernel_rfl) (fun _ _ _ h => h) (by rfl) ?_ (by assumption) ?_
  rotate_left
  · intro w hSw; (try dsimp only at hSw); go_simp; with_reducible rfl
  try simp only [Act.put, List.setIfInBounds_toArray, List.set_cons_zero, List.set_cons_succ]
  refine takeH (i := 8) (d := some 12) (v := ?_) rfl rfl (by kernel_rfl) (by kernel_rfl) (by kernel_rfl) (fun _ _ _ h => h) (by rfl) ?_ (by assumption) ?_
  rotate_left
  · intro w hSw; (try dsimp only at hSw); go_simp; with_reducible rfl
  try simp only [Act.put, List.setIfInBounds_toArray, List.set_cons_zero, List.set_cons_succ]
  refine takeH (i := 9) (d := some 13) (v := ?_) rfl rfl (by kernel_rfl) (by kernel_rfl) (by kernel_rfl) (fun _ _ _ h => h) (by rfl) ?_ (by assumption) ?_
  rotate_left
  · intro w hSw; (try dsimp only at hSw); go_simp; with_reducible rfl
  try simp only [Act.put, List.setIfInBounds_toArray, List.set_cons_zero, List.set_cons_succ]
  refine takeH (i := 10) (d := some 14) (v := ?_) rfl rfl (by kernel_rfl) (by kernel_rfl) (by kernel_rfl) (fun _ _ _ h => h) (by rfl) ?_ (by assumption) ?_
  rotate_left
  · intro w hSw; (try dsimp only at hSw); go_simp; with_reducible rfl
  try simp only [Act.put, List.setIfInBounds_toArray, List.set_cons_zero, List.set_cons_succ]
  refine takeH (i := 11) (d := some 15) (v := ?_) rfl rfl (by kernel_rfl) (by kernel_rfl) (by kernel_rfl) (fun _ _ _ h => h) (by rfl) ?_ (by assumption) ?_
  rotate_left
  · intro w hSw; (try dsimp only at hSw); go_simp; with_reducible rfl
  try simp only [Act.put, List.setIfInBounds_toArray, List.set_cons_zero, List.set_cons_succ]
  refine takeH (i := 12) (d := some 16) (v := ?_) rfl rfl (by kernel_rfl) (by kernel_rfl) (by kernel_rfl) (fun _ _ _ h => h) (by rfl) ?_ (by assumption) ?_
  rotate_left
  · intro w hSw; (try dsimp only at hSw); go_simp; with_reducible rfl
  try simp only [Act.put, List.setIfInBounds_toArray, List.set_cons_zero, List.set_cons_succ]
  refine takeH (i := 13) (d := some 17) (v := ?_) rfl rfl (by kernel_rfl) (by kernel_rfl) (by kernel_rfl) (fun _ _ _ h => h) (by rfl) ?_ (by assumption) ?_
  rotate_left
  · intro w hSw; (try dsimp only at hSw); go_simp; with_reducible rfl
  try simp only [Act.put, List.setIfInBounds_toArray, List.set_cons_zero, List.set_cons_succ]
  refine wpAnyH_ready (rs := [4, 6]) (by kernel_rfl) (by simp) ?_
  refine AllReadyH.cons (by rfl) (fun K hKK => ?_) (AllReadyH.cons (by rfl) (fun K hKK => ?_) AllReadyH.nil)
  · skip
    have hcb := cell_of (i := 0) (show BankW (w.alloc (.cells #[.bool g.org.sec, .string g.org.host, .int .i64 g.org.port, .bool g.proxy, .string g.user, .string g.pass, .int .i64 g.ask.sch, .string g.ask.realm, .string g.ask.nonce, .string g.ask.opq, .bool g.ask.sess, .string g.ask.qop, .bool g.ask.stale, .slice da dl dc, .int .i64 g.count, .slice pa pl pc] 36)).drew B b gv wv G V from (show BankW _ B b gv wv G V from HK.out.1.below HB0.out.1)).blk
    simp only [List.getElem?_toArray, List.getElem?_cons_zero] at hcb
    go_simp
    refine hKK.out _ _ hHeld (fun hHeld => ?_)
    clear hKK K hcb
    try simp only [Act.put, List.setIfInBounds_toArray, List.set_cons_zero, List.set_cons_succ]
    refine wpAnyH_ready (rs := [6]) (by kernel_rfl) (by simp) ?_
    refine AllReadyH.cons (by rfl) (fun K hKK => ?_) AllReadyH.nil
    go_simp
    refine (freshG_at g HD.out.2.2 da pa dl dc pl pc db doff pb poff _ (HD.out.1.below HB0.out.1) (HD.out.2.1.below HB0.out.1)).mono ?_
    rintro e w1 ⟨⟨v, u, rfl, hv, hu⟩, hb1⟩
    have H1 : Hid (PutA w (w.alloc (.cells #[.bool g.org.sec, .string g.org.host, .int .i64 g.org.port, .bool g.proxy, .string g.user, .string g.pass, .int .i64 g.ask.sch, .string g.ask.realm, .string g.ask.nonce, .string g.ask.opq, .bool g.ask.sess, .string g.ask.qop, .bool g.ask.stale, .slice da dl dc, .int .i64 g.count, .slice pa pl pc] 36)).drew w1 B b gv wv G V g v u #[.bool g.org.sec, .string g.org.host, .int .i64 g.org.port, .bool g.proxy, .string g.user, .string g.pass, .int .i64 g.ask.sch, .string g.ask.realm, .string g.ask.nonce, .string g.ask.opq, .bool g.ask.sess, .string g.ask.qop, .bool g.ask.stale, .slice da dl dc, .int .i64 g.count, .slice pa pl pc]) := putA_of HK.out HB0.out.1 HB0.out.2 hb1 hv hu
    clear hv hu hb1
    go_wp2_with fail
    refine hKK.out _ _ (facts16 H1.out.box) (fun hHeld => ?_)
    clear hKK K
    try simp only [Act.put, List.setIfInBounds_toArray, List.set_cons_zero, List.set_cons_succ]
    refine wpAnyH_ready (rs := [14]) (by kernel_rfl) (by simp) ?_
    refine AllReadyH.cons (by rfl) (fun K hKK => ?_) AllReadyH.nil
    go_simp
    refine (grantOf_any g.org g.proxy g.ask.realm _).mono ?_
    rintro e w2 ⟨⟨xa, xb, xc, rfl, H3⟩, hb2⟩
    have H2 : Hid (PutA w (w.alloc (.cells #[.bool g.org.sec, .string g.org.host, .int .i64 g.org.port, .bool g.proxy, .string g.user, .string g.pass, .int .i64 g.ask.sch, .string g.ask.realm, .string g.ask.nonce, .string g.ask.opq, .bool g.ask.sess, .string g.ask.qop, .bool g.ask.stale, .slice da dl dc, .int .i64 g.count, .slice pa pl pc] 36)).drew w2 B b gv wv G V g v u #[.bool g.org.sec, .string g.org.host, .int .i64 g.org.port, .bool g.proxy, .string g.user, .string g.pass, .int .i64 g.ask.sch, .string g.ask.realm, .string g.ask.nonce, .string g.ask.opq, .bool g.ask.sess, .string g.ask.qop, .bool g.ask.stale, .slice da dl dc, .int .i64 g.count, .slice pa pl pc]) := putA_below H1.out hb2
    clear hb2
    go_wp2_with fail
    refine hKK.out _ _ (facts16 H2.out.box) (fun hHeld => ?_)
    clear hKK K
    try simp only [Act.put, List.setIfInBounds_toArray, List.set_cons_zero, List.set_cons_succ]
    refine wpAnyH_ready (rs := [15]) (by kernel_rfl) (by simp) ?_
    refine AllReadyH.cons (by rfl) (fun K hKK => ?_) AllReadyH.nil
    go_simp
    refine (put_ren g HD.out.2.2 v u H2.out H3.out).mono ?_
    rintro e w3 ⟨g3, n3, c3, rfl, H4⟩
    go_wp2_with fail
    refine hKK.out _ _ (facts16 H4.out.2.1) (fun hHeld => ?_)
    clear hKK K
    try simp only [Act.put, List.setIfInBounds_toArray, List.set_cons_zero, List.set_cons_succ]
    refine takeH (i := 16) (d := some 20) (v := ?_) rfl rfl (by kernel_rfl) (by kernel_rfl) (by kernel_rfl) (fun _ _ _ h => h) (by rfl) ?_ (by assumption) ?_
    rotate_left
    · intro w hSw; (try dsimp only at hSw); go_simp; with_reducible rfl
    try simp only [Act.put, List.setIfInBounds_toArray, List.set_cons_zero, List.set_cons_succ]
    refine takeH (i := 17) (d := some 21) (v := ?_) rfl rfl (by kernel_rfl) (by kernel_rfl) (by kernel_rfl) (fun _ _ _ h => h) (by rfl) ?_ (by assumption) ?_
    rotate_left
    · intro w hSw; (try dsimp only at hSw); go_simp; with_reducible rfl
    try simp only [Act.put, List.setIfInBounds_toArray, List.set_cons_zero, List.set_cons_succ]
    refine wpAnyH_ready (rs := [18]) (by kernel_rfl) (by simp) ?_
    refine AllReadyH.cons (by rfl) (fun K hKK => ?_) AllReadyH.nil
    have hcb := (cell_of (i := 0) H4.out.2.2.1)
    simp only [List.getElem?_toArray, List.getElem?_cons_zero] at hcb
    have hfr := free_of H4.out.2.2.1
    go_simp
    refine hKK.out _ _ (facts16 H4.out.2.2.2.1) (fun hHeld => ?_)
    clear hKK K hcb hfr
    try simp only [Act.put, List.setIfInBounds_toArray, List.set_cons_zero, List.set_cons_succ]
    refine wpAnyH_done (by kernel_rfl) ?_ _
    go_wp2
    go_end0
    exact ⟨rfl, H4.out.2.2.2.2⟩
  · skip
    go_simp
    refine (freshG_at g HD.out.2.2 da pa dl dc pl pc db doff pb poff _ (HD.out.1.below HB0.out.1) (HD.out.2.1.below HB0.out.1)).mono ?_
    rintro e w1 ⟨⟨v, u, rfl, hv, hu⟩, hb1⟩
    have H1 : Hid (PutA w (w.alloc (.cells #[.bool g.org.sec, .string g.org.host, .int .i64 g.org.port, .bool g.proxy, .string g.user, .string g.pass, .int .i64 g.ask.sch, .string g.ask.realm, .string g.ask.nonce, .string g.ask.opq, .bool g.ask.sess, .string g.ask.qop, .bool g.ask.stale, .slice da dl dc, .int .i64 g.count, .slice pa pl pc] 36)).drew w1 B b gv wv G V g v u #[.bool g.org.sec, .string g.org.host, .int .i64 g.org.port, .bool g.proxy, .string g.user, .string g.pass, .int .i64 g.ask.sch, .string g.ask.realm, .string g.ask.nonce, .string g.ask.opq, .bool g.ask.sess, .string g.ask.qop, .bool g.ask.stale, .slice da dl dc, .int .i64 g.count, .slice pa pl pc]) := putA_of HK.out HB0.out.1 HB0.out.2 hb1 hv hu
    clear hv hu hb1
    go_wp2_with fail
    refine hKK.out _ _ (facts16 H1.out.box) (fun hHeld => ?_)
    clear hKK K
    try simp only [Act.put, List.setIfInBounds_toArray, List.set_cons_zero, List.set_cons_succ]
    refine wpAnyH_ready (rs := [4, 14]) (by kernel_rfl) (by simp) ?_
    refine AllReadyH.cons (by rfl) (fun K hKK => ?_) (AllReadyH.cons (by rfl) (fun K hKK => ?_) AllReadyH.nil)
    · skip
      have hcb := cell_of (i := 0) (show BankW w1 B b gv wv G V from H1.out.bank).blk
      simp only [List.getElem?_toArray, List.getElem?_cons_zero] at hcb
      go_simp
      refine hKK.out _ _ hHeld (fun hHeld => ?_)
      clear hKK K hcb
      try simp only [Act.put, List.setIfInBounds_toArray, List.set_cons_zero, List.set_cons_succ]
      refine wpAnyH_ready (rs := [14]) (by kernel_rfl) (by simp) ?_
      refine AllReadyH.cons (by rfl) (fun K hKK => ?_) AllReadyH.nil
      go_simp
      refine (grantOf_any g.org g.proxy g.ask.realm _).mono ?_
      rintro e w2 ⟨⟨xa, xb, xc, rfl, H3⟩, hb2⟩
      have H2 : Hid (PutA w (w.alloc (.cells #[.bool g.org.sec, .string g.org.host, .int .i64 g.org.port, .bool g.proxy, .string g.user, .string g.pass, .int .i64 g.ask.sch, .string g.ask.realm, .string g.ask.nonce, .string g.ask.opq, .bool g.ask.sess, .string g.ask.qop, .bool g.ask.stale, .slice da dl dc, .int .i64 g.count, .slice pa pl pc] 36)).drew w2 B b gv wv G V g v u #[.bool g.org.sec, .string g.org.host, .int .i64 g.org.port, .bool g.proxy, .string g.user, .string g.pass, .int .i64 g.ask.sch, .string g.ask.realm, .string g.ask.nonce, .string g.ask.opq, .bool g.ask.sess, .string g.ask.qop, .bool g.ask.stale, .slice da dl dc, .int .i64 g.count, .slice pa pl pc]) := putA_below H1.out hb2
      clear hb2
      go_wp2_with fail
      refine hKK.out _ _ (facts16 H2.out.box) (fun hHeld => ?_)
      clear hKK K
      try simp only [Act.put, List.setIfInBounds_toArray, List.set_cons_zero, List.set_cons_succ]
      refine wpAnyH_ready (rs := [15]) (by kernel_rfl) (by simp) ?_
      refine AllReadyH.cons (by rfl) (fun K hKK => ?_) AllReadyH.nil
      go_simp
      refine (put_ren g HD.out.2.2 v u H2.out H3.out).mono ?_
      rintro e w3 ⟨g3, n3, c3, rfl, H4⟩
      go_wp2_with fail
      refine hKK.out _ _ (facts16 H4.out.2.1) (fun hHeld => ?_)
      clear hKK K
      try simp only [Act.put, List.setIfInBounds_toArray, List.set_cons_zero, List.set_cons_succ]
      refine takeH (i := 16) (d := some 20) (v := ?_) rfl rfl (by kernel_rfl) (by kernel_rfl) (by kernel_rfl) (fun _ _ _ h => h) (by rfl) ?_ (by assumption) ?_
      rotate_left
      · intro w hSw; (try dsimp only at hSw); go_simp; with_reducible rfl
      try simp only [Act.put, List.setIfInBounds_toArray, List.set_cons_zero, List.set_cons_succ]
      refine takeH (i := 17) (d := some 21) (v := ?_) rfl rfl (by kernel_rfl) (by kernel_rfl) (by kernel_rfl) (fun _ _ _ h => h) (by rfl) ?_ (by assumption) ?_
      rotate_left
      · intro w hSw; (try dsimp only at hSw); go_simp; with_reducible rfl
      try simp only [Act.put, List.setIfInBounds_toArray, List.set_cons_zero, List.set_cons_succ]
      refine wpAnyH_ready (rs := [18]) (by kernel_rfl) (by simp) ?_
      refine AllReadyH.cons (by rfl) (fun K hKK => ?_) AllReadyH.nil
      have hcb := (cell_of (i := 0) H4.out.2.2.1)
      simp only [List.getElem?_toArray, List.getElem?_cons_zero] at hcb
      have hfr := free_of H4.out.2.2.1
      go_simp
      refine hKK.out _ _ (facts16 H4.out.2.2.2.1) (fun hHeld => ?_)
      clear hKK K hcb hfr
      try simp only [Act.put, List.setIfInBounds_toArray, List.set_cons_zero, List.set_cons_succ]
      refine wpAnyH_done (by kernel_rfl) ?_ _
      go_wp2
      go_end0
      exact ⟨rfl, H4.out.2.2.2.2⟩
    · skip
      go_simp
      refine (grantOf_any g.org g.proxy g.ask.realm _).mono ?_
      rintro e w2 ⟨⟨xa, xb, xc, rfl, H3⟩, hb2⟩
      have H2 : Hid (PutA w (w.alloc (.cells #[.bool g.org.sec, .string g.org.host, .int .i64 g.org.port, .bool g.proxy, .string g.user, .string g.pass, .int .i64 g.ask.sch, .string g.ask.realm, .string g.ask.nonce, .string g.ask.opq, .bool g.ask.sess, .string g.ask.qop, .bool g.ask.stale, .slice da dl dc, .int .i64 g.count, .slice pa pl pc] 36)).drew w2 B b gv wv G V g v u #[.bool g.org.sec, .string g.org.host, .int .i64 g.org.port, .bool g.proxy, .string g.user, .string g.pass, .int .i64 g.ask.sch, .string g.ask.realm, .string g.ask.nonce, .string g.ask.opq, .bool g.ask.sess, .string g.ask.qop, .bool g.ask.stale, .slice da dl dc, .int .i64 g.count, .slice pa pl pc]) := putA_below H1.out hb2
      clear hb2
      go_wp2_with fail
      refine hKK.out _ _ (facts16 H2.out.box) (fun hHeld => ?_)
      clear hKK K
      try simp only [Act.put, List.setIfInBounds_toArray, List.set_cons_zero, List.set_cons_succ]
      refine wpAnyH_ready (rs := [4]) (by kernel_rfl) (by simp) ?_
      refine AllReadyH.cons (by rfl) (fun K hKK => ?_) AllReadyH.nil
      have hcb := cell_of (i := 0) (show BankW w2 B b gv wv G V from H2.out.bank).blk
      simp only [List.getElem?_toArray, List.getElem?_cons_zero] at hcb
      go_simp
      refine hKK.out _ _ hHeld (fun hHeld => ?_)
      clear hKK K hcb
      try simp only [Act.put, List.setIfInBounds_toArray, List.set_cons_zero, List.set_cons_succ]
      refine wpAnyH_ready (rs := [15]) (by kernel_rfl) (by simp) ?_
      refine AllReadyH.cons (by rfl) (fun K hKK => ?_) AllReadyH.nil
      go_simp
      refine (put_ren g HD.out.2.2 v u H2.out H3.out).mono ?_
      rintro e w3 ⟨g3, n3, c3, rfl, H4⟩
      go_wp2_with fail
      refine hKK.out _ _ (facts16 H4.out.2.1) (fun hHeld => ?_)
      clear hKK K
      try simp only [Act.put, List.setIfInBounds_toArray, List.set_cons_zero, List.set_cons_succ]
      refine takeH (i := 16) (d := some 20) (v := ?_) rfl rfl (by kernel_rfl) (by kernel_rfl) (by kernel_rfl) (fun _ _ _ h => h) (by rfl) ?_ (by assumption) ?_
      rotate_left
      · intro w hSw; (try dsimp only at hSw); go_simp; with_reducible rfl
      try simp only [Act.put, List.setIfInBounds_toArray, List.set_cons_zero, List.set_cons_succ]
      refine takeH (i := 17) (d := some 21) (v := ?_) rfl rfl (by kernel_rfl) (by kernel_rfl) (by kernel_rfl) (fun _ _ _ h => h) (by rfl) ?_ (by assumption) ?_
      rotate_left
      · intro w hSw; (try dsimp only at hSw); go_simp; with_reducible rfl
      try simp only [Act.put, List.setIfInBounds_toArray, List.set_cons_zero, List.set_cons_succ]
      refine wpAnyH_ready (rs := [18]) (by kernel_rfl) (by simp) ?_
      refine AllReadyH.cons (by rfl) (fun K hKK => ?_) AllReadyH.nil
      have hcb := (cell_of (i := 0) H4.out.2.2.1)
      simp only [List.getElem?_toArray, List.getElem?_cons_zero] at hcb
      have hfr := free_of H4.out.2.2.1
      go_simp
      refine hKK.out _ _ (facts16 H4.out.2.2.2.1) (fun hHeld => ?_)
      clear hKK K hcb hfr
      try simp only [Act.put, List.setIfInBounds_toArray, List.set_cons_zero, List.set_cons_succ]
      refine wpAnyH_done (by kernel_rfl) ?_ _
      go_wp2
      go_end0
      exact ⟨rfl, H4.out.2.2.2.2⟩
end Go.Proofs.Ytjadmldnpdmamaa

/- A bank keeps what an origin asked for. -/
namespace Go.Proofs.Ytjadmldnpdmamaa
open Go.RowKit
set_option linter.unusedVariables false

theorem facts13 {W : World} {b : Nat} {g : WtP} {da : Option Addr} {dl dc : Nat} (h : W.heap[b]? = some (.cells #[.bool g.org.sec, .string g.org.host, .int .i64 g.org.port, .bool g.proxy, .string g.path, .int .i64 g.ask.sch, .string g.ask.realm, .string g.ask.nonce, .string g.ask.opq, .bool g.ask.sess, .string g.ask.qop, .bool g.ask.stale, .slice da dl dc] 38 (0, 0))) :
    W.cell? ⟨b, 0, none⟩ = some (.bool g.org.sec) ∧ W.cell? ⟨b, 1, none⟩ = some (.string g.org.host) ∧ W.cell? ⟨b, 2, none⟩ = some (.int .i64 g.org.port) ∧ W.cell? ⟨b, 3, none⟩ = some (.bool g.proxy) ∧ W.cell? ⟨b, 4, none⟩ = some (.string g.path) ∧ W.cell? ⟨b, 5, none⟩ = some (.int .i64 g.ask.sch) ∧ W.cell? ⟨b, 6, none⟩ = some (.string g.ask.realm) ∧ W.cell? ⟨b, 7, none⟩ = some (.string g.ask.nonce) ∧ W.cell? ⟨b, 8, none⟩ = some (.string g.ask.opq) ∧ W.cell? ⟨b, 9, none⟩ = some (.bool g.ask.sess) ∧ W.cell? ⟨b, 10, none⟩ = some (.string g.ask.qop) ∧ W.cell? ⟨b, 11, none⟩ = some (.bool g.ask.stale) ∧ W.cell? ⟨b, 12, none⟩ = some (.slice da dl dc) := ⟨(cell_of (i := 0) h).trans rfl, (cell_of (i := 1) h).trans rfl, (cell_of (i := 2) h).trans rfl, (cell_of (i := 3) h).trans rfl, (cell_of (i := 4) h).trans rfl, (cell_of (i := 5) h).trans rfl, (cell_of (i := 6) h).trans rfl, (cell_of (i := 7) h).trans rfl, (cell_of (i := 8) h).trans rfl, (cell_of (i := 9) h).trans rfl, (cell_of (i := 10) h).trans rfl, (cell_of (i := 11) h).trans rfl, (cell_of (i := 12) h).trans rfl⟩
def waitP (v x : WtP) : Bool := waitB v.org v.proxy x
/-- What is asked for, in the place of what that origin asked for. -/
def askWL (l : List WtP) (v : WtP) : List WtP := last8 (l.filter (fun x => !waitP v x) ++ [v])
/-- Where a wait was cloned. -/
structure AskA (w w0 w1 : World) (B b : Nat) (gv wv : Value) (G : List GrV) (V : List WtV) (g : WtP) (v : Value) (box : Array Value) : Prop where
  bank : BankW w1 B b gv wv G V
  old : BankW w B b gv wv G V
  bel : Below w.heap.size w w1
  own : WtOwn w1 w.heap.size ⟨g, v⟩
  box : w1.heap[w.heap.size]? = some (.cells box 38 (0, 0))
  low : B ≤ w.heap.size
theorem askA_of {w w0 w1 : World} {B b : Nat} {gv wv : Value} {G : List GrV} {V : List WtV} {g : WtP} {v : Value} {box : Array Value} (h : BankW w B b gv wv G V ∧ B ≤ w.heap.size) (hb0 : Below w.heap.size w w0) (hx : w0.heap[w.heap.size]? = some (.cells box 38 (0, 0))) (hb1 : Below w0.heap.size w0 w1) (hv : OwnS w1 w0.heap.size v g.ask.dom) : AskA w w0 w1 B b gv wv G V g v box :=
  have hb := hb0.trans (hb1.mono hb0.size)
  ⟨h.1.below hb, h.1, hb, ownS_mono hv hb0.size, (hb1.block _ (Array.getElem?_eq_some_iff.1 hx).1).trans hx, h.2⟩
theorem askA_below {w w0 w1 w2 : World} {B b : Nat} {gv wv : Value} {G : List GrV} {V : List WtV} {g : WtP} {v : Value} {box : Array Value} (h : AskA w w0 w1 B b gv wv G V g v box) (hb : Below w1.heap.size w1 w2) : AskA w w0 w2 B b gv wv G V g v box :=
  ⟨h.bank.below hb, h.old, h.bel.trans (hb.mono h.bel.size), OwnS.below h.own hb, (hb.block _ (Array.getElem?_eq_some_iff.1 h.box).1).trans h.box, h.low⟩
theorem wait_pred {w : World} {val : Value} {V : List WtV} {B a b : Nat} {o : OrgV} {p : Bool} (hown : OwnK 13 38 w B val (V.map wtCells)) (h2 : Box2 w a b o p) :
    PredK Try.prog 62 #[.pointer (some ⟨a, 0, none⟩), .pointer (some ⟨b, 0, none⟩)] (onW (fun o' p' => orgB o' o && p' == p)) (V.map wtCells) w val.ownBlock := by
  intro W x hx hg
  obtain ⟨v, hv, rfl⟩ := List.mem_map.1 hx
  have ht := hown.typed
  exact waitIs_any v o p a b W ⟨block_other h2.org hg ht (by decide), block_other h2.prx hg ht (by decide)⟩
theorem filt_mapW (q : OrgV → Bool → Bool) (V : List WtV) : (V.map wtCells).filter (fun y => !onW q y) = (V.filter (fun v => !q v.g.org v.g.proxy)).map wtCells := by
  rw [List.filter_map]
  rfl
theorem ask_ren {w w0 w2 : World} {B b a1 b1 : Nat} {gv wv : Value} {G : List GrV} {V : List WtV} (g : WtP) (v : Value) {box : Array Value} (h : AskA w w0 w2 B b gv wv G V g v box) (h3 : Box2 w2 a1 b1 g.org g.proxy) :
    Calls Try.prog 36 #[wv, .agg #[.bool g.org.sec, .string g.org.host, .int .i64 g.org.port, .bool g.proxy, .string g.path, .int .i64 g.ask.sch, .string g.ask.realm, .string g.ask.nonce, .string g.ask.opq, .bool g.ask.sess, .string g.ask.qop, .bool g.ask.stale, v], .func (.func 62) #[] #[.pointer (some ⟨a1, 0, none⟩), .pointer (some ⟨b1, 0, none⟩)]] w2 fun e w3 => ∃ g3 n3 c3, e = .returned (.slice (some ⟨g3, 0, none⟩) n3 c3) ∧ Hid (0 < n3 ∧ w3.heap[w.heap.size]? = some (.cells box 38 (0, 0)) ∧ w3.heap[b]? = some (.cells #[gv, wv] 52 (0, 0)) ∧ (w3.setCell ⟨b, 1, none⟩ (.slice (some ⟨g3, 0, none⟩) n3 c3)).heap[w.heap.size]? = some (.cells box 38 (0, 0)) ∧
      ∃ wv' V', Hid (BankW (w3.setCell ⟨b, 1, none⟩ (.slice (some ⟨g3, 0, none⟩) n3 c3)) B b gv wv' G V' ∧ V'.map (·.g) = askWL (V.map (·.g)) g ∧ BankStep b gv wv w (w3.setCell ⟨b, 1, none⟩ (.slice (some ⟨g3, 0, none⟩) n3 c3)) gv wv')) := by
  have hlow := h.low
  have hbs := h.bel.size
  refine (renW_any wv (V.map wtCells) B (by rw [List.length_map]; have := h.bank.vlen; omega) w2 (by omega) h.bank.ws ⟨g, v⟩ (wtOwn_one h.own) _ _ _ (enters_at Try.func62 (by kernel_rfl) rfl) (wait_pred h.bank.ws h3)).mono ?_
  rintro e w3 ⟨u3, rfl, H⟩
  obtain ⟨hown, hgr, hnew⟩ := H.out
  rw [filt_mapW, show [wtCells ⟨g, v⟩] = [(⟨g, v⟩ : WtV)].map wtCells from rfl, ← List.map_append, ← last8_map] at hown
  have hbox : w3.heap[w.heap.size]? = some (.cells box 38 (0, 0)) := by
    refine (hgr.block _ (Array.getElem?_eq_some_iff.1 h.box).1 (fun e => ?_)).trans h.box
    have := (h.old.ws.lt _ e.symm).2
    omega
  have hblk := block_other h.bank.blk hgr h.bank.ws.typed (by decide)
  have hne : w.heap.size ≠ b := fun e => by
    have h1 := h.old.blk
    rw [← e, Array.getElem?_eq_none (Nat.le_refl _)] at h1
    cases h1
  rcases hown.forms with ⟨_, e2⟩ | ⟨g3, c3, rfl, _, _, _, _⟩
  · exfalso
    have := congrArg List.length e2
    rw [List.length_map, List.length_nil] at this
    have h8 := last8_pos (V.filter (fun v => !(orgB v.g.org g.org && v.g.proxy == g.proxy)) ++ [(⟨g, v⟩ : WtV)]) (by simp)
    omega
  · obtain ⟨hW, hS⟩ := bank_waits h.old h.bel hgr hown (fun k hk => (hnew k hk).imp id (fun h => h)) (fun x hx => by
      rcases List.mem_append.1 (last8_mem hx) with hx | hx
      · exact .inl (List.mem_filter.1 hx).1
      · rw [List.mem_singleton.1 hx]
        exact .inr (ownS_mono h.own hlow)) (last8_len _)
    refine ⟨g3, _, c3, rfl, ⟨?_, hbox, hblk, ?_, _, _, ⟨hW, ?_, hS⟩⟩⟩
    · rw [List.length_map]
      exact last8_pos _ (by simp)
    · exact (Below.heap_setCell w3 ⟨b, 1, none⟩ _ w.heap.size hne).trans hbox
    · unfold askWL
      rw [last8_map, List.map_append, List.filter_map]
      rfl

set_option maxRecDepth 100000 in
set_option maxHeartbeats 4000000 in
theorem asked_at (g : WtP) (hg : WtFit g) (da : Option Addr) (dl dc db doff : Nat) (w : World) (hd : Strs w da dl db doff g.ask.dom)
    (B b : Nat) (gv wv : Value) (G : List GrV) (V : List WtV) (hB : BankW w B b gv wv G V) (hB2 : B ≤ w.heap.size) :
    Calls Try.prog 12 #[.pointer (some ⟨b, 0, none⟩), .agg #[.bool g.org.sec, .string g.org.host, .int .i64 g.org.port, .bool g.proxy, .string g.path, .int .i64 g.ask.sch, .string g.ask.realm, .string g.ask.nonce, .string g.ask.opq, .bool g.ask.sess, .string g.ask.qop, .bool g.ask.stale, .slice da dl dc]] w fun e w' => e = .returned (.tuple #[]) ∧ ∃ wv' V', Hid (BankW w' B b gv wv' G V' ∧ V'.map (·.g) = askWL (V.map (·.g)) g ∧ BankStep b gv wv w w' gv wv') := by
  have HD : Hid (Strs w da dl db doff g.ask.dom ∧ WtFit g) := ⟨hd, hg⟩
  have HK : Hid (BankW w B b gv wv G V ∧ B ≤ w.heap.size) := ⟨hB, hB2⟩
  have hb0 : Below w.heap.size w (w.alloc (.cells #[.bool g.org.sec, .string g.org.host, .int .i64 g.org.port, .bool g.proxy, .string g.path, .int .i64 g.ask.sch, .string g.ask.realm, .string g.ask.nonce, .string g.ask.opq, .bool g.ask.sess, .string g.ask.qop, .bool g.ask.stale, .slice da dl dc] 38)) := (Below.refl _ _).alloc (Nat.le_refl _) _
  have hn0 := heap_alloc_new w (.cells #[.bool g.org.sec, .string g.org.host, .int .i64 g.org.port, .bool g.proxy, .string g.path, .int .i64 g.ask.sch, .string g.ask.realm, .string g.ask.nonce, .string g.ask.opq, .bool g.ask.sess, .string g.ask.qop, .bool g.ask.stale, .slice da dl dc] 38)
  have HB0 : Hid (Below w.heap.size w (w.alloc (.cells #[.bool g.org.sec, .string g.org.host, .int .i64 g.org.port, .bool g.proxy, .string g.path, .int .i64 g.ask.sch, .string g.ask.realm, .string g.ask.nonce, .string g.ask.opq, .bool g.ask.sess, .string g.ask.qop, .bool g.ask.stale, .slice da dl dc] 38)).drew ∧ (w.alloc (.cells #[.bool g.org.sec, .string g.org.host, .int .i64 g.org.port, .bool g.proxy, .string g.path, .int .i64 g.ask.sch, .string g.ask.realm, .string g.ask.nonce, .string g.ask.opq, .bool g.ask.sess, .string g.ask.qop, .bool g.ask.stale, .slice da dl dc] 38)).drew.heap[w.heap.size]? = some (.cells #[.bool g.org.sec, .string g.org.host, .int .i64 g.org.port, .bool g.proxy, .string g.path, .int .i64 g.ask.sch, .string g.ask.realm, .string g.ask.nonce, .string g.ask.opq, .bool g.ask.sess, .string g.ask.qop, .bool g.ask.stale, .slice da dl dc] 38 (0, 0))) := ⟨hb0.drew, hn0⟩
  clear hd hg hB hB2 hb0 hn0
  go_enter Try.func12, Try.ntmps12
  go_wp2_with fail
  refine wp_region_held_drew (S := fun W => W.cell? ⟨w.heap.size, 0, none⟩ = some (.bool g.org.sec) ∧ W.cell? ⟨w.heap.size, 1, none⟩ = some (.string g.org.host) ∧ W.cell? ⟨w.heap.size, 2, none⟩ = some (.int .i64 g.org.port) ∧ W.cell? ⟨w.heap.size, 3, none⟩ = some (.bool g.proxy) ∧ W.cell? ⟨w.heap.size, 4, none⟩ = some (.string g.path) ∧ W.cell? ⟨w.heap.size, 5, none⟩ = some (.int .i64 g.ask.sch) ∧ W.cell? ⟨w.heap.size, 6, none⟩ = some (.string g.ask.realm) ∧ W.cell? ⟨w.heap.size, 7, none⟩ = some (.string g.ask.nonce) ∧ W.cell? ⟨w.heap.size, 8, none⟩ = some (.string g.ask.opq) ∧ W.cell? ⟨w.heap.size, 9, none⟩ = some (.bool g.ask.sess) ∧ W.cell? ⟨w.heap.size, 10, none⟩ = some (.string g.ask.qop) ∧ W.cell? ⟨w.heap.size, 11, none⟩ = some (.bool g.ask.stale) ∧ W.cell? ⟨w.heap.size, 12, none⟩ = some (.slice da dl dc)) (by kernel_rfl) (facts13 HB0.out.2) (fun hHeld => ?_)
  refine takeH (i := 0) (d := some 4) (v := ?_) rfl rfl (by kernel_rfl) (by kernel_rfl) (by kernel_rfl) (fun _ _ _ h => h) (by rfl) ?_ (by assumption) ?_
  rotate_left
  · intro w hSw; (try dsimp only at hSw); go_simp; with_reducible rfl
  try simp only [Act.put, List.setIfInBounds_toArray, List.set_cons_zero, List.set_cons_succ]
  refine takeH (i := 1) (d := some 5) (v := ?_) rfl rfl (by kernel_rfl) (by kernel_rfl) (by kernel_rfl) (fun _ _ _ h => h) (by rfl) ?_ (by assumption) ?_
  rotate_left
  · intro w hSw; (try dsimp only at hSw); go_simp; with_reducible rfl
  try simp only [Act.put, List.setIfInBounds_toArray, List.set_cons_zero, List.set_cons_succ]
  refine takeH (i := 2) (d := some 6) (v := ?_) rfl rfl (by kernel_rfl) (by kernel_rfl) (by kernel_rfl) (fun _ _ _ h => h) (by rfl) ?_ (by assumption) ?_
  rotate_left
  · intro w hSw; (try dsimp only at hSw); go_simp; with_reducible rfl
  try simp only [Act.put, List.setIfInBounds_toArray, List.set_cons_zero, List.set_cons_succ]
  refine takeH (i := 3) (d := some 7) (v := ?_) rfl rfl (by kernel_rfl) (by kernel_rfl) (by kernel_rfl) (fun _ _ _ h => h) (by rfl) ?_ (by assumption) ?_
  rotate_left
  · intro w hSw; (try dsimp only at hSw); go_simp; with_reducible rfl
  try simp only [Act.put, List.setIfInBounds_toArray, List.set_cons_zero, List.set_cons_succ]
  refine takeH (i := 5) (d := some 9) (v := ?_) rfl rfl (by kernel_rfl) (by kernel_rfl) (by kernel_rfl) (fun _ _ _ h => h) (by rfl) ?_ (by assumption) ?_
  rotate_left
  · intro w hSw; (try dsimp only at hSw); go_simp; with_reducible rfl
  try simp only [Act.put, List.setIfInBounds_toArray, List.set_cons_zero, List.set_cons_succ]
  refine takeH (i := 7) (d := some 11) (v := ?_) rfl rfl (by kernel_rfl) (by kernel_rfl) (by kernel_rfl) (fun _ _ _ h => h) (by rfl) ?_ (by assumption) ?_
  rotate_left
  · intro w hSw; (try dsimp only at hSw); go_simp; with_reducible rfl
  try simp only [Act.put, List.setIfInBounds_toArray, List.set_cons_zero, List.set_cons_succ]
  refine takeH (i := 8) (d := some 12) (v := ?_) rfl rfl (by kernel_rfl) (by kernel_rfl) (by kernel_rfl) (fun _ _ _ h => h) (by rfl) ?_ (by assumption) ?_
  rotate_left
  · intro w hSw; (try dsimp only at hSw); go_simp; with_reducible rfl
  try simp only [Act.put, List.setIfInBounds_toArray, List.set_cons_zero, List.set_cons_succ]
  refine takeH (i := 9) (d := some 13) (v := ?_) rfl rfl (by kernel_rfl) (by kernel_rfl) (by kernel_rfl) (fun _ _ _ h => h) (by rfl) ?_ (by assumption) ?_
  rotate_left
  · intro w hSw; (try dsimp only at hSw); go_simp; with_reducible rfl
  try simp only [Act.put, List.setIfInBounds_toArray, List.set_cons_zero, List.set_cons_succ]
  refine takeH (i := 10) (d := some 14) (v := ?_) rfl rfl (by kernel_rfl) (by kernel_rfl) (by kernel_rfl) (fun _ _ _ h => h) (by rfl) ?_ (by assumption) ?_
  rotate_left
  · intro w hSw; (try dsimp only at hSw); go_simp; with_reducible rfl
  try simp only [Act.put, List.setIfInBounds_toArray, List.set_cons_zero, List.set_cons_succ]
  refine wpAnyH_ready (rs := [4, 6]) (by kernel_rfl) (by simp) ?_
  refine AllReadyH.cons (by rfl) (fun K hKK => ?_) (AllReadyH.cons (by rfl) (fun K hKK => ?_) AllReadyH.nil)
  · skip
    have hcb := cell_of (i := 1) (show BankW (w.alloc (.cells #[.bool g.org.sec, .string g.org.host, .int .i64 g.org.port, .bool g.proxy, .string g.path, .int .i64 g.ask.sch, .string g.ask.realm, .string g.ask.nonce, .string g.ask.opq, .bool g.ask.sess, .string g.ask.qop, .bool g.ask.stale, .slice da dl dc] 38)).drew B b gv wv G V from (show BankW _ B b gv wv G V from HK.out.1.below HB0.out.1)).blk
    simp only [List.getElem?_toArray, List.getElem?_cons_zero, List.getElem?_cons_succ] at hcb
    go_simp
    refine hKK.out _ _ hHeld (fun hHeld => ?_)
    clear hKK K hcb
    try simp only [Act.put, List.setIfInBounds_toArray, List.set_cons_zero, List.set_cons_succ]
    refine wpAnyH_ready (rs := [6]) (by kernel_rfl) (by simp) ?_
    refine AllReadyH.cons (by rfl) (fun K hKK => ?_) AllReadyH.nil
    go_simp
    refine (freshW_at g HD.out.2 da dl dc db doff _ (HD.out.1.below HB0.out.1)).mono ?_
    rintro e w1 ⟨⟨v, rfl, hv⟩, hb1⟩
    have H1 : Hid (AskA w (w.alloc (.cells #[.bool g.org.sec, .string g.org.host, .int .i64 g.org.port, .bool g.proxy, .string g.path, .int .i64 g.ask.sch, .string g.ask.realm, .string g.ask.nonce, .string g.ask.opq, .bool g.ask.sess, .string g.ask.qop, .bool g.ask.stale, .slice da dl dc] 38)).drew w1 B b gv wv G V g v #[.bool g.org.sec, .string g.org.host, .int .i64 g.org.port, .bool g.proxy, .string g.path, .int .i64 g.ask.sch, .string g.ask.realm, .string g.ask.nonce, .string g.ask.opq, .bool g.ask.sess, .string g.ask.qop, .bool g.ask.stale, .slice da dl dc]) := askA_of HK.out HB0.out.1 HB0.out.2 hb1 hv
    clear hv hb1
    go_wp2_with fail
    refine hKK.out _ _ (facts13 H1.out.box) (fun hHeld => ?_)
    clear hKK K
    try simp only [Act.put, List.setIfInBounds_toArray, List.set_cons_zero, List.set_cons_succ]
    refine wpAnyH_ready (rs := [11]) (by kernel_rfl) (by simp) ?_
    refine AllReadyH.cons (by rfl) (fun K hKK => ?_) AllReadyH.nil
    go_simp
    refine (waitOf_any g.org g.proxy _).mono ?_
    rintro e w2 ⟨⟨xa, xb, rfl, H3⟩, hb2⟩
    have H2 : Hid (AskA w (w.alloc (.cells #[.bool g.org.sec, .string g.org.host, .int .i64 g.org.port, .bool g.proxy, .string g.path, .int .i64 g.ask.sch, .string g.ask.realm, .string g.ask.nonce, .string g.ask.opq, .bool g.ask.sess, .string g.ask.qop, .bool g.ask.stale, .slice da dl dc] 38)).drew w2 B b gv wv G V g v #[.bool g.org.sec, .string g.org.host, .int .i64 g.org.port, .bool g.proxy, .string g.path, .int .i64 g.ask.sch, .string g.ask.realm, .string g.ask.nonce, .string g.ask.opq, .bool g.ask.sess, .string g.ask.qop, .bool g.ask.stale, .slice da dl dc]) := askA_below H1.out hb2
    clear hb2
    go_wp2_with fail
    refine hKK.out _ _ (facts13 H2.out.box) (fun hHeld => ?_)
    clear hKK K
    try simp only [Act.put, List.setIfInBounds_toArray, List.set_cons_zero, List.set_cons_succ]
    refine wpAnyH_ready (rs := [12]) (by kernel_rfl) (by simp) ?_
    refine AllReadyH.cons (by rfl) (fun K hKK => ?_) AllReadyH.nil
    go_simp
    refine (ask_ren g v H2.out H3.out).mono ?_
    rintro e w3 ⟨g3, n3, c3, rfl, H4⟩
    go_wp2_with fail
    refine hKK.out _ _ (facts13 H4.out.2.1) (fun hHeld => ?_)
    clear hKK K
    try simp only [Act.put, List.setIfInBounds_toArray, List.set_cons_zero, List.set_cons_succ]
    refine takeH (i := 13) (d := some 17) (v := ?_) rfl rfl (by kernel_rfl) (by kernel_rfl) (by kernel_rfl) (fun _ _ _ h => h) (by rfl) ?_ (by assumption) ?_
    rotate_left
    · intro w hSw; (try dsimp only at hSw); go_simp; with_reducible rfl
    try simp only [Act.put, List.setIfInBounds_toArray, List.set_cons_zero, List.set_cons_succ]
    refine takeH (i := 14) (d := some 18) (v := ?_) rfl rfl (by kernel_rfl) (by kernel_rfl) (by kernel_rfl) (fun _ _ _ h => h) (by rfl) ?_ (by assumption) ?_
    rotate_left
    · intro w hSw; (try dsimp only at hSw); go_simp; with_reducible rfl
    try simp only [Act.put, List.setIfInBounds_toArray, List.set_cons_zero, List.set_cons_succ]
    refine wpAnyH_ready (rs := [15]) (by kernel_rfl) (by simp) ?_
    refine AllReadyH.cons (by rfl) (fun K hKK => ?_) AllReadyH.nil
    have hcb := (cell_of (i := 1) H4.out.2.2.1)
    simp only [List.getElem?_toArray, List.getElem?_cons_zero, List.getElem?_cons_succ] at hcb
    have hfr := free_of H4.out.2.2.1
    go_simp
    refine hKK.out _ _ (facts13 H4.out.2.2.2.1) (fun hHeld => ?_)
    clear hKK K hcb hfr
    try simp only [Act.put, List.setIfInBounds_toArray, List.set_cons_zero, List.set_cons_succ]
    refine wpAnyH_done (by kernel_rfl) ?_ _
    go_wp2
    go_end0
    exact ⟨rfl, H4.out.2.2.2.2⟩
  · skip
    go_simp
    refine (freshW_at g HD.out.2 da dl dc db doff _ (HD.out.1.below HB0.out.1)).mono ?_
    rintro e w1 ⟨⟨v, rfl, hv⟩, hb1⟩
    have H1 : Hid (AskA w (w.alloc (.cells #[.bool g.org.sec, .string g.org.host, .int .i64 g.org.port, .bool g.proxy, .string g.path, .int .i64 g.ask.sch, .string g.ask.realm, .string g.ask.nonce, .string g.ask.opq, .bool g.ask.sess, .string g.ask.qop, .bool g.ask.stale, .slice da dl dc] 38)).drew w1 B b gv wv G V g v #[.bool g.org.sec, .string g.org.host, .int .i64 g.org.port, .bool g.proxy, .string g.path, .int .i64 g.ask.sch, .string g.ask.realm, .string g.ask.nonce, .string g.ask.opq, .bool g.ask.sess, .string g.ask.qop, .bool g.ask.stale, .slice da dl dc]) := askA_of HK.out HB0.out.1 HB0.out.2 hb1 hv
    clear hv hb1
    go_wp2_with fail
    refine hKK.out _ _ (facts13 H1.out.box) (fun hHeld => ?_)
    clear hKK K
    try simp only [Act.put, List.setIfInBounds_toArray, List.set_cons_zero, List.set_cons_succ]
    refine wpAnyH_ready (rs := [4, 11]) (by kernel_rfl) (by simp) ?_
    refine AllReadyH.cons (by rfl) (fun K hKK => ?_) (AllReadyH.cons (by rfl) (fun K hKK => ?_) AllReadyH.nil)
    · skip
      have hcb := cell_of (i := 1) (show BankW w1 B b gv wv G V from H1.out.bank).blk
      simp only [List.getElem?_toArray, List.getElem?_cons_zero, List.getElem?_cons_succ] at hcb
      go_simp
      refine hKK.out _ _ hHeld (fun hHeld => ?_)
      clear hKK K hcb
      try simp only [Act.put, List.setIfInBounds_toArray, List.set_cons_zero, List.set_cons_succ]
      refine wpAnyH_ready (rs := [11]) (by kernel_rfl) (by simp) ?_
      refine AllReadyH.cons (by rfl) (fun K hKK => ?_) AllReadyH.nil
      go_simp
      refine (waitOf_any g.org g.proxy _).mono ?_
      rintro e w2 ⟨⟨xa, xb, rfl, H3⟩, hb2⟩
      have H2 : Hid (AskA w (w.alloc (.cells #[.bool g.org.sec, .string g.org.host, .int .i64 g.org.port, .bool g.proxy, .string g.path, .int .i64 g.ask.sch, .string g.ask.realm, .string g.ask.nonce, .string g.ask.opq, .bool g.ask.sess, .string g.ask.qop, .bool g.ask.stale, .slice da dl dc] 38)).drew w2 B b gv wv G V g v #[.bool g.org.sec, .string g.org.host, .int .i64 g.org.port, .bool g.proxy, .string g.path, .int .i64 g.ask.sch, .string g.ask.realm, .string g.ask.nonce, .string g.ask.opq, .bool g.ask.sess, .string g.ask.qop, .bool g.ask.stale, .slice da dl dc]) := askA_below H1.out hb2
      clear hb2
      go_wp2_with fail
      refine hKK.out _ _ (facts13 H2.out.box) (fun hHeld => ?_)
      clear hKK K
      try simp only [Act.put, List.setIfInBounds_toArray, List.set_cons_zero, List.set_cons_succ]
      refine wpAnyH_ready (rs := [12]) (by kernel_rfl) (by simp) ?_
      refine AllReadyH.cons (by rfl) (fun K hKK => ?_) AllReadyH.nil
      go_simp
      refine (ask_ren g v H2.out H3.out).mono ?_
      rintro e w3 ⟨g3, n3, c3, rfl, H4⟩
      go_wp2_with fail
      refine hKK.out _ _ (facts13 H4.out.2.1) (fun hHeld => ?_)
      clear hKK K
      try simp only [Act.put, List.setIfInBounds_toArray, List.set_cons_zero, List.set_cons_succ]
      refine takeH (i := 13) (d := some 17) (v := ?_) rfl rfl (by kernel_rfl) (by kernel_rfl) (by kernel_rfl) (fun _ _ _ h => h) (by rfl) ?_ (by assumption) ?_
      rotate_left
      · intro w hSw; (try dsimp only at hSw); go_simp; with_reducible rfl
      try simp only [Act.put, List.setIfInBounds_toArray, List.set_cons_zero, List.set_cons_succ]
      refine takeH (i := 14) (d := some 18) (v := ?_) rfl rfl (by kernel_rfl) (by kernel_rfl) (by kernel_rfl) (fun _ _ _ h => h) (by rfl) ?_ (by assumption) ?_
      rotate_left
      · intro w hSw; (try dsimp only at hSw); go_simp; with_reducible rfl
      try simp only [Act.put, List.setIfInBounds_toArray, List.set_cons_zero, List.set_cons_succ]
      refine wpAnyH_ready (rs := [15]) (by kernel_rfl) (by simp) ?_
      refine AllReadyH.cons (by rfl) (fun K hKK => ?_) AllReadyH.nil
      have hcb := (cell_of (i := 1) H4.out.2.2.1)
      simp only [List.getElem?_toArray, List.getElem?_cons_zero, List.getElem?_cons_succ] at hcb
      have hfr := free_of H4.out.2.2.1
      go_simp
      refine hKK.out _ _ (facts13 H4.out.2.2.2.1) (fun hHeld => ?_)
      clear hKK K hcb hfr
      try simp only [Act.put, List.setIfInBounds_toArray, List.set_cons_zero, List.set_cons_succ]
      refine wpAnyH_done (by kernel_rfl) ?_ _
      go_wp2
      go_end0
      exact ⟨rfl, H4.out.2.2.2.2⟩
    · skip
      go_simp
      refine (waitOf_any g.org g.proxy _).mono ?_
      rintro e w2 ⟨⟨xa, xb, rfl, H3⟩, hb2⟩
      have H2 : Hid (AskA w (w.alloc (.cells #[.bool g.org.sec, .string g.org.host, .int .i64 g.org.port, .bool g.proxy, .string g.path, .int .i64 g.ask.sch, .string g.ask.realm, .string g.ask.nonce, .string g.ask.opq, .bool g.ask.sess, .string g.ask.qop, .bool g.ask.stale, .slice da dl dc] 38)).drew w2 B b gv wv G V g v #[.bool g.org.sec, .string g.org.host, .int .i64 g.org.port, .bool g.proxy, .string g.path, .int .i64 g.ask.sch, .string g.ask.realm, .string g.ask.nonce, .string g.ask.opq, .bool g.ask.sess, .string g.ask.qop, .bool g.ask.stale, .slice da dl dc]) := askA_below H1.out hb2
      clear hb2
      go_wp2_with fail
      refine hKK.out _ _ (facts13 H2.out.box) (fun hHeld => ?_)
      clear hKK K
      try simp only [Act.put, List.setIfInBounds_toArray, List.set_cons_zero, List.set_cons_succ]
      refine wpAnyH_ready (rs := [4]) (by kernel_rfl) (by simp) ?_
      refine AllReadyH.cons (by rfl) (fun K hKK => ?_) AllReadyH.nil
      have hcb := cell_of (i := 1) (show BankW w2 B b gv wv G V from H2.out.bank).blk
      simp only [List.getElem?_toArray, List.getElem?_cons_zero, List.getElem?_cons_succ] at hcb
      go_simp
      refine hKK.out _ _ hHeld (fun hHeld => ?_)
      clear hKK K hcb
      try simp only [Act.put, List.setIfInBounds_toArray, List.set_cons_zero, List.set_cons_succ]
      refine wpAnyH_ready (rs := [12]) (by kernel_rfl) (by simp) ?_
      refine AllReadyH.cons (by rfl) (fun K hKK => ?_) AllReadyH.nil
      go_simp
      refine (ask_ren g v H2.out H3.out).mono ?_
      rintro e w3 ⟨g3, n3, c3, rfl, H4⟩
      go_wp2_with fail
      refine hKK.out _ _ (facts13 H4.out.2.1) (fun hHeld => ?_)
      clear hKK K
      try simp only [Act.put, List.setIfInBounds_toArray, List.set_cons_zero, List.set_cons_succ]
      refine takeH (i := 13) (d := some 17) (v := ?_) rfl rfl (by kernel_rfl) (by kernel_rfl) (by kernel_rfl) (fun _ _ _ h => h) (by rfl) ?_ (by assumption) ?_
      rotate_left
      · intro w hSw; (try dsimp only at hSw); go_simp; with_reducible rfl
      try simp only [Act.put, List.setIfInBounds_toArray, List.set_cons_zero, List.set_cons_succ]
      refine takeH (i := 14) (d := some 18) (v := ?_) rfl rfl (by kernel_rfl) (by kernel_rfl) (by kernel_rfl) (fun _ _ _ h => h) (by rfl) ?_ (by assumption) ?_
      rotate_left
      · intro w hSw; (try dsimp only at hSw); go_simp; with_reducible rfl
      try simp only [Act.put, List.setIfInBounds_toArray, List.set_cons_zero, List.set_cons_succ]
      refine wpAnyH_ready (rs := [15]) (by kernel_rfl) (by simp) ?_
      refine AllReadyH.cons (by rfl) (fun K hKK => ?_) AllReadyH.nil
      have hcb := (cell_of (i := 1) H4.out.2.2.1)
      simp only [List.getElem?_toArray, List.getElem?_cons_zero, List.getElem?_cons_succ] at hcb
      have hfr := free_of H4.out.2.2.1
      go_simp
      refine hKK.out _ _ (facts13 H4.out.2.2.2.1) (fun hHeld => ?_)
      clear hKK K hcb hfr
      try simp only [Act.put, List.setIfInBounds_toArray, List.set_cons_zero, List.set_cons_succ]
      refine wpAnyH_done (by kernel_rfl) ?_ _
      go_wp2
      go_end0
      exact ⟨rfl, H4.out.2.2.2.2⟩
end Go.Proofs.Ytjadmldnpdmamaa

/- What was asked for is taken. -/
namespace Go.Proofs.Ytjadmldnpdmamaa
open Go.RowKit
set_option linter.unusedVariables false

def zeroWP : WtP := ⟨⟨false, ⟨#[]⟩, 0⟩, false, ⟨#[]⟩, ⟨0, ⟨#[]⟩, ⟨#[]⟩, ⟨#[]⟩, false, ⟨#[]⟩, false, []⟩⟩
def zeroWV : WtV := ⟨zeroWP, .slice none 0 0⟩
/-- Which wait is an origin's; below 0: none. -/
def takeI (l : List WtP) (o : OrgV) (p : Bool) : Int := match l.findIdx? (waitB o p) with
  | some k => k
  | none => -1
theorem takeI_range (l : List WtP) (o : OrgV) (p : Bool) : takeI l o p = -1 ∨ ∃ k : Nat, takeI l o p = k ∧ k < l.length := by
  unfold takeI
  cases h : l.findIdx? (waitB o p) with
  | none => exact .inl rfl
  | some k => exact .inr ⟨k, rfl, (List.findIdx?_eq_some_iff_getElem.1 h).1⟩
/-- The waits behind a take, and what was taken. -/
def takeL (l : List WtP) (i : Int) : List WtP × WtP := if i < 0 then (l, zeroWP) else (l.eraseIdx i.toNat, (l[i.toNat]?).getD zeroWP)
theorem takeI_fidx (V : List WtV) (o : OrgV) (p : Bool) : fidx (onW (fun o' p' => orgB o' o && p' == p)) (V.map wtCells) = takeI (V.map (·.g)) o p := by
  unfold fidx takeI
  rw [List.findIdx?_map, List.findIdx?_map, show (onW (fun o' p' => orgB o' o && p' == p)) ∘ wtCells = waitB o p ∘ (fun x : WtV => x.g) from rfl]
  cases List.findIdx? (waitB o p ∘ fun x : WtV => x.g) V <;> rfl
/-- What Take answers, and leaves. -/
def TakAns (w : World) (B b : Nat) (gv wv : Value) (G : List GrV) (l : List WtP) (i : Int) (e : Ending) (w' : World) : Prop :=
  (∃ x : WtV, e = .returned (.tuple #[.agg (wtCells x).toArray, .bool (decide (0 ≤ i))]) ∧ x.g = (takeL l i).2 ∧ WtOwn w' B x) ∧ ∃ wv' V', Hid (BankW w' B b gv wv' G V' ∧ V'.map (·.g) = (takeL l i).1 ∧ BankStep b gv wv w w' gv wv')
/-- What is kept by Take's calls: the bank, the box of the origin, the block of the result. -/
structure TkF (w w1 : World) (B b : Nat) (gv wv : Value) (G : List GrV) (V : List WtV) (o : OrgV) (Z : Array Value) : Prop where
  bel : Below w.heap.size w w1
  bank : BankW w1 B b gv wv G V
  box : w1.heap[w.heap.size]? = some (.cells #[.bool o.sec, .string o.host, .int .i64 o.port] 24 (0, 0))
  res : w1.heap[w.heap.size + 1]? = some (.cells Z 38 (0, 0))
theorem TkF.below {w w1 w2 : World} {B b : Nat} {gv wv : Value} {G : List GrV} {V : List WtV} {o : OrgV} {Z : Array Value} (h : TkF w w1 B b gv wv G V o Z) (hb : Below w1.heap.size w1 w2) : TkF w w2 B b gv wv G V o Z :=
  ⟨h.bel.trans (hb.mono h.bel.size), h.bank.below hb, (hb.block _ (Array.getElem?_eq_some_iff.1 h.box).1).trans h.box, (hb.block _ (Array.getElem?_eq_some_iff.1 h.res).1).trans h.res⟩
theorem TkF.facts {w w1 : World} {B b : Nat} {gv wv : Value} {G : List GrV} {V : List WtV} {o : OrgV} {Z : Array Value} (h : TkF w w1 B b gv wv G V o Z) : w1.cell? ⟨b, 1, none⟩ = some wv ∧ w1.cell? ⟨w.heap.size, 0, none⟩ = some (.bool o.sec) ∧ w1.cell? ⟨w.heap.size, 1, none⟩ = some (.string o.host) ∧ w1.cell? ⟨w.heap.size, 2, none⟩ = some (.int .i64 o.port) :=
  ⟨(cell_of (i := 1) h.bank.blk).trans rfl, (cell_of (i := 0) h.box).trans rfl, (cell_of (i := 1) h.box).trans rfl, (cell_of (i := 2) h.box).trans rfl⟩
theorem tk_start (w : World) {B b : Nat} {gv wv : Value} {G : List GrV} {V : List WtV} (h : BankW w B b gv wv G V) (o : OrgV) (Z : Array Value) : TkF w ((w.alloc (.cells #[.bool o.sec, .string o.host, .int .i64 o.port] 24)).alloc (.cells Z 38)).drew B b gv wv G V o Z := by
  have h1 := (Below.refl w.heap.size w).alloc (Nat.le_refl _) (.cells #[.bool o.sec, .string o.host, .int .i64 o.port] 24)
  have h2 := h1.alloc (by simp) (.cells Z 38)
  have e1 := heap_alloc_new w (.cells #[.bool o.sec, .string o.host, .int .i64 o.port] 24)
  have e2 := heap_alloc_new (w.alloc (.cells #[.bool o.sec, .string o.host, .int .i64 o.port] 24)) (.cells Z 38)
  simp only [World.size_alloc] at e2
  refine ⟨h2.drew, (h.below h2).below (Below.refl _ _).drew, ?_, e2⟩
  show ((w.alloc _).alloc _).heap[w.heap.size]? = _
  rw [heap_alloc_old _ _ (by simp)]
  exact e1
/-- A block of a wait that is no row of the bank's may be written. -/
theorem bank_offW {w w' : World} {B b R : Nat} {gv wv : Value} {G : List GrV} {V : List WtV} {Z : Array Value} (h : BankW w B b gv wv G V) (hR : w.heap[R]? = some (.cells Z 38 (0, 0))) (hne : wv.ownBlock ≠ some R) (hg : w.grownBy w' (some R)) : BankW w' B b gv wv G V :=
  have t := Typed.block hR
  ⟨block_other h.blk hg t (by decide), h.low, h.gs.other hg t (by decide), h.ws.kept hg (.inr hne), fun v hv => (h.go v hv).other hg t (by decide), fun v hv => OwnS.other (h.wo v hv) hg t (by decide), h.gf, h.glen, h.vlen⟩
theorem step_offW {w w1 w' : World} {b R : Nat} {gv wv gv' wv' : Value} (h : BankStep b gv wv w w1 gv' wv') (hg : w1.grownBy w' (some R)) (hR : w.heap.size ≤ R) : BankStep b gv wv w w' gv' wv' :=
  ⟨hg.os.trans h.os, hg.tape.trans h.tape, hg.output.trans h.output, Nat.le_trans h.size hg.size, fun x hx h1 h2 h3 => by
    obtain ⟨e1, e2, e3⟩ := h.keep x hx h1 h2 h3
    exact ⟨(hg.block x (Nat.lt_of_lt_of_le hx h.size) (fun e => by injection e with e; omega)).trans e1, e2, e3⟩⟩
theorem row13 {w : World} {B g n cap i : Nat} {V : List WtV} {v : WtV} {da : Option Addr} {dn dc : Nat} (h : OwnK 13 38 w B (.slice (some ⟨g, 0, none⟩) n cap) (V.map wtCells)) (hi : V[i]? = some v) (hd : v.dv = .slice da dn dc) :
    w.cell? ⟨g, i * 13, none⟩ = some (.bool v.g.org.sec) ∧ w.cell? ⟨g, i * 13 + 1, none⟩ = some (.string v.g.org.host) ∧ w.cell? ⟨g, i * 13 + 2, none⟩ = some (.int .i64 v.g.org.port) ∧ w.cell? ⟨g, i * 13 + 3, none⟩ = some (.bool v.g.proxy) ∧ w.cell? ⟨g, i * 13 + 4, none⟩ = some (.string v.g.path) ∧ w.cell? ⟨g, i * 13 + 5, none⟩ = some (.int .i64 v.g.ask.sch) ∧ w.cell? ⟨g, i * 13 + 6, none⟩ = some (.string v.g.ask.realm) ∧ w.cell? ⟨g, i * 13 + 7, none⟩ = some (.string v.g.ask.nonce) ∧ w.cell? ⟨g, i * 13 + 8, none⟩ = some (.string v.g.ask.opq) ∧ w.cell? ⟨g, i * 13 + 9, none⟩ = some (.bool v.g.ask.sess) ∧ w.cell? ⟨g, i * 13 + 10, none⟩ = some (.string v.g.ask.qop) ∧ w.cell? ⟨g, i * 13 + 11, none⟩ = some (.bool v.g.ask.stale) ∧ w.cell? ⟨g, i * 13 + 12, none⟩ = some (.slice da dn dc) := by
  have hx : (V.map wtCells)[i]? = some [.bool v.g.org.sec, .string v.g.org.host, .int .i64 v.g.org.port, .bool v.g.proxy, .string v.g.path, .int .i64 v.g.ask.sch, .string v.g.ask.realm, .string v.g.ask.nonce, .string v.g.ask.opq, .bool v.g.ask.sess, .string v.g.ask.qop, .bool v.g.ask.stale, .slice da dn dc] := by rw [List.getElem?_map, hi]; show some (wtCells v) = _; unfold wtCells; rw [hd]
  exact ⟨h.cell (i := 0) hx rfl, h.cell (i := 1) hx rfl, h.cell (i := 2) hx rfl, h.cell (i := 3) hx rfl, h.cell (i := 4) hx rfl, h.cell (i := 5) hx rfl, h.cell (i := 6) hx rfl, h.cell (i := 7) hx rfl, h.cell (i := 8) hx rfl, h.cell (i := 9) hx rfl, h.cell (i := 10) hx rfl, h.cell (i := 11) hx rfl, h.cell (i := 12) hx rfl⟩
theorem resW_tmp {P : Program} {fn : Func} {tmps : Array Value} {W : World} {a b : Tmp} {t u : TypeId} {g : Nat} {vs : List Value} {k : Nat} {r : Value} (hf : fn.results = #[.cell a t, .tmp b]) (hp : tmps.getD a undef = .pointer (some ⟨g, 0, none⟩)) (hr : tmps.getD b undef = r) (ha : ∀ w, (isAgg t).run P w = .ok true w) (hs : ∀ w, (Go.sizeOf t).run P w = .ok k w) (hk : vs.length = k) (h : W.heap[g]? = some (.cells vs.toArray u (0, 0))) :
    (results fn tmps).run P W = .ok (.tuple #[.agg vs.toArray, r]) W := by
  have hl := run_loadCellsFrom_list P W ⟨g, 0, none⟩ vs k hk (fun i v hi => by
    rw [Addr.add_lit, Nat.zero_add, cell_of h]
    simpa using hi)
  simp only [Array.getD_eq_getD_getElem?] at hp hr
  unfold results
  rw [hf]
  simp [hp, hr, loadVar, ha, hs, asAddr, loadCells, hl]
/-- Which one, by the library's function. -/
theorem idx_waits {w : World} {B b x y : Nat} {gv wv : Value} {G : List GrV} {V : List WtV} (h : BankW w B b gv wv G V) {o : OrgV} {p : Bool} (h2 : Box2 w x y o p) :
    Calls Try.prog 47 #[wv, .func (.func 62) #[] #[.pointer (some ⟨x, 0, none⟩), .pointer (some ⟨y, 0, none⟩)]] w fun e w' => e = .returned (.int .i64 (takeI (V.map (·.g)) o p)) ∧ Below w.heap.size w w' := by
  rcases h.ws.forms with ⟨rfl, e2⟩ | ⟨g, cap, rfl, _, _, _, _⟩
  · refine (idxW_none w _).mono ?_
    rintro e w' ⟨rfl, rfl⟩
    rw [List.map_eq_nil_iff.1 e2]
    exact ⟨rfl, Below.refl _ _⟩
  · have hv8 := h.vlen
    have hi := idxW_any g _ cap B (V.map wtCells) rfl (by rw [List.length_map]; omega) w h.ws (onW (fun o' p' => orgB o' o && p' == p)) 62 #[.pointer (some ⟨x, 0, none⟩), .pointer (some ⟨y, 0, none⟩)] (enters_at Try.func62 (by kernel_rfl) rfl) (wait_pred h.ws h2)
    rw [takeI_fidx] at hi
    exact hi
theorem tk_store {w4 : World} {R : Nat} {Z : Array Value} {t : TypeId} (h : w4.heap[R]? = some (.cells Z t (0, 0))) (x : List Value) (hz : Z.size = x.length) (h1 : ∀ u ∈ x, u.oneCell' = true) :
    Sem.run Try.prog (storeCells ⟨R, 0, none⟩ x 0) w4 = .ok () (w4.setCells R 0 x) ∧ Hid ((w4.setCells R 0 x).heap[R]? = some (.cells x.toArray t (0, 0)) ∧ w4.grownBy (w4.setCells R 0 x) (some R)) := by
  have hr := run_storeCells_cells (P := Try.prog) R 0 x 0 w4 (fun j hj => by
    rw [Nat.add_zero, Nat.zero_add, cell_of h, Array.getElem?_eq_getElem (by omega)]
    rfl) (fun j _ => free_of h _) h1
  rw [Nat.add_zero] at hr
  exact ⟨hr, setAll x h hz⟩
theorem eraseW {α : Type} (l : List α) (k : Nat) : l.take k ++ l.drop (k + 1) = l.eraseIdx k := (List.eraseIdx_eq_take_drop_succ l k).symm
/-- The row without the wait that is taken. -/
theorem tak_del {w w2 w3 : World} {B b g n cap k : Nat} {gv : Value} {G : List GrV} {V : List WtV} {v : WtV} (h : BankW w B b gv (.slice (some ⟨g, 0, none⟩) n cap) G V) (h2 : BankW w2 B b gv (.slice (some ⟨g, 0, none⟩) n cap) G V) (hb2 : Below w.heap.size w w2) (hn : V.length = n) (hv : V[k]? = some v) (hb : Below w2.heap.size w2 w3) :
    Calls Try.prog 48 #[.slice (some ⟨g, 0, none⟩) n cap, .int .i64 (k : Int), .int .i64 ((k : Int) + 1)] w3 fun e w4 => ∃ m, e = .returned (.slice (some ⟨g, 0, none⟩) m cap) ∧ Hid (w3.grownBy w4 (some g) ∧ BankW (w4.setCell ⟨b, 1, none⟩ (.slice (some ⟨g, 0, none⟩) m cap)) B b gv (.slice (some ⟨g, 0, none⟩) m cap) G (V.eraseIdx k) ∧ BankStep b gv (.slice (some ⟨g, 0, none⟩) n cap) w (w4.setCell ⟨b, 1, none⟩ (.slice (some ⟨g, 0, none⟩) m cap)) gv (.slice (some ⟨g, 0, none⟩) m cap) ∧ w4.heap[b]? = some (.cells #[gv, .slice (some ⟨g, 0, none⟩) n cap] 52 (0, 0))) := by
  have hk : k < n := by rw [← hn]; exact (List.getElem?_eq_some_iff.1 hv).1
  have hcap : cap ≤ 9223372036854775807 := by
    rcases h2.ws.forms with ⟨e, _⟩ | ⟨g', cap', e, _, _, _, hm⟩
    · cases e
    · injection e with _ _ e3
      rw [e3]
      unfold maxLen at hm
      omega
  have h3 := h2.below hb
  have hd := dltW_any g n cap B (V.map wtCells) (by rw [List.length_map]; exact hn) hcap w3 h3.ws k (k + 1) (by omega) (by omega)
  rw [show ((k + 1 : Nat) : Int) = (k : Int) + 1 by push_cast; rfl] at hd
  refine hd.mono ?_
  rintro e w4 ⟨rfl, H⟩
  obtain ⟨hown, hg⟩ := H.out
  have e1 : (V.map wtCells).take k ++ (V.map wtCells).drop (k + 1) = (V.eraseIdx k).map wtCells := by rw [← List.map_take, ← List.map_drop, ← List.map_append, eraseW]
  rw [e1] at hown
  have hb3 : Below w.heap.size w w3 := hb2.trans (hb.mono hb2.size)
  obtain ⟨h5, h6⟩ := bank_waits h hb3 hg hown (fun j hj => .inl hj) (fun x hx => .inl (List.mem_of_mem_eraseIdx hx)) (Nat.le_trans (List.length_eraseIdx_le _ _) h.vlen)
  exact ⟨_, rfl, ⟨hg, h5, h6, block_other h3.blk hg h3.ws.typed (by decide)⟩⟩
set_option maxRecDepth 100000 in
set_option maxHeartbeats 8000000 in
theorem take_any {B b : Nat} {gv wv : Value} {G : List GrV} {V : List WtV} (w : World) (h : BankW w B b gv wv G V) (hB : B ≤ w.heap.size) (o : OrgV) (p : Bool) :
    Calls Try.prog 16 #[.pointer (some ⟨b, 0, none⟩), .agg #[.bool o.sec, .string o.host, .int .i64 o.port], .bool p] w fun e w' => TakAns w B b gv wv G (V.map (·.g)) (takeI (V.map (·.g)) o p) e w' := by
  have H0 : Hid (TkF w ((w.alloc (.cells #[.bool o.sec, .string o.host, .int .i64 o.port] 24)).alloc (.cells #[.bool false, .string ⟨#[]⟩, .int .i64 0, .bool false, .string ⟨#[]⟩, .int .i64 0, .string ⟨#[]⟩, .string ⟨#[]⟩, .string ⟨#[]⟩, .bool false, .string ⟨#[]⟩, .bool false, .slice none 0 0] 38)).drew B b gv wv G V o _) := tk_start w h o _
  have HK : Hid (BankW w B b gv wv G V ∧ B ≤ w.heap.size) := ⟨h, hB⟩
  have hQ := H0.out.facts
  obtain ⟨I, HI⟩ : ∃ I, Hid (takeI (V.map (·.g)) o p = I) := ⟨_, rfl⟩
  have HIR : Hid (I = -1 ∨ ∃ k : Nat, I = k ∧ k < V.length) := by
    have := takeI_range (V.map (·.g)) o p
    rw [HI.out, List.length_map] at this
    exact this
  rw [HI.out]
  clear h hB
  go_enter Try.func16, Try.ntmps16
  go_wp2_with fail
  go_region_held3 (fun W => W.cell? ⟨b, 1, none⟩ = some wv ∧ W.cell? ⟨w.heap.size, 0, none⟩ = some (.bool o.sec) ∧ W.cell? ⟨w.heap.size, 1, none⟩ = some (.string o.host) ∧ W.cell? ⟨w.heap.size, 2, none⟩ = some (.int .i64 o.port)) (with_reducible assumption) (first
    | (go_at_call 38; refine (waitOf_any o p _).mono ?_; rintro e w1 ⟨⟨xa, xb, rfl, H3⟩, hb1⟩; have H1 : Hid (TkF w w1 B b gv wv G V o _) := H0.out.below hb1; have hQ1 := H1.out.facts; clear hb1)
    | (go_at_call 47; refine (idx_waits H1.out.bank H3.out).mono ?_; rw [HI.out]; rintro e w2 ⟨rfl, hb2⟩; have H2 : Hid (TkF w w2 B b gv wv G V o _) := H1.out.below hb2; have hQ2 := H2.out.facts; clear hb2))
  clear hQ hQ1 hQ2 H3 H1 H0
  rcases HIR.out with hI | ⟨k, hI, hkG⟩
  · subst hI
    have hres := H2.out.res
    have d0 : w2.cell? ⟨w.heap.size + 1, 0, none⟩ = some (.bool false) := cell_of hres
    have d1 : w2.cell? ⟨w.heap.size + 1, 1, none⟩ = some (.string ⟨#[]⟩) := cell_of hres
    have d2 : w2.cell? ⟨w.heap.size + 1, 2, none⟩ = some (.int .i64 0) := cell_of hres
    have d3 : w2.cell? ⟨w.heap.size + 1, 3, none⟩ = some (.bool false) := cell_of hres
    have d4 : w2.cell? ⟨w.heap.size + 1, 4, none⟩ = some (.string ⟨#[]⟩) := cell_of hres
    have d5 : w2.cell? ⟨w.heap.size + 1, 5, none⟩ = some (.int .i64 0) := cell_of hres
    have d6 : w2.cell? ⟨w.heap.size + 1, 6, none⟩ = some (.string ⟨#[]⟩) := cell_of hres
    have d7 : w2.cell? ⟨w.heap.size + 1, 7, none⟩ = some (.string ⟨#[]⟩) := cell_of hres
    have d8 : w2.cell? ⟨w.heap.size + 1, 8, none⟩ = some (.string ⟨#[]⟩) := cell_of hres
    have d9 : w2.cell? ⟨w.heap.size + 1, 9, none⟩ = some (.bool false) := cell_of hres
    have d10 : w2.cell? ⟨w.heap.size + 1, 10, none⟩ = some (.string ⟨#[]⟩) := cell_of hres
    have d11 : w2.cell? ⟨w.heap.size + 1, 11, none⟩ = some (.bool false) := cell_of hres
    have d12 : w2.cell? ⟨w.heap.size + 1, 12, none⟩ = some (.slice none 0 0) := cell_of hres
    have fr := free_of hres
    clear hres
    go_wp2
    have hR := H2.out.res
    obtain ⟨z1, z2⟩ := setAll [.bool false, .string ⟨#[]⟩, .int .i64 0, .bool false, .string ⟨#[]⟩, .int .i64 0, .string ⟨#[]⟩, .string ⟨#[]⟩, .string ⟨#[]⟩, .bool false, .string ⟨#[]⟩, .bool false, .slice none 0 0] hR rfl
    simp only [World.setCells, Nat.reduceAdd] at z1 z2
    clear d0 d1 d2 d3 d4 d5 d6 d7 d8 d9 d10 d11 d12 fr
    have hne : wv.ownBlock ≠ some (w.heap.size + 1) := fun e => by
      have := (HK.out.1.ws.lt _ e).2
      omega
    exact bodyPost_ret (v := .tuple #[.agg (wtCells zeroWV).toArray, .bool false]) (resW_tmp (vs := wtCells zeroWV) rfl rfl rfl Try.isAgg38 Try.sizeOf38 rfl z1) rfl ⟨⟨zeroWV, rfl, rfl, ownS_nil _ _⟩, wv, V, ⟨bank_offW H2.out.bank hR hne z2, rfl, step_offW (BankStep.of_below H2.out.bel) z2 (by omega)⟩⟩
  · subst hI
    obtain ⟨v, hv⟩ : ∃ v, V[k]? = some v := ⟨V[k], List.getElem?_eq_getElem hkG⟩
    have HV : Hid (V[k]? = some v ∧ k < V.length) := ⟨hv, hkG⟩
    obtain ⟨n, HN⟩ : ∃ n, Hid (V.length = n) := ⟨_, rfl⟩
    obtain ⟨g, cap, hgv, hgl⟩ : ∃ g cap, wv = .slice (some ⟨g, 0, none⟩) n cap ∧ g < w.heap.size := by
      rcases HK.out.1.ws.forms with ⟨_, e2⟩ | ⟨g, cap, e, _, h1, _, _⟩
      · have := congrArg List.length e2
        rw [List.length_map, List.length_nil] at this
        omega
      · rw [List.length_map] at e
        exact ⟨g, cap, by rw [e, HN.out], h1⟩
    subst hgv
    have hvo := H2.out.bank.wo v (List.mem_of_getElem? hv)
    obtain ⟨da, dc, dg, hdv, hds⟩ := OwnS.strs hvo
    obtain ⟨dn, HDN⟩ : ∃ dn, Hid (v.g.ask.dom.length = dn) := ⟨_, rfl⟩
    rw [HDN.out] at hdv hds
    obtain ⟨c0, c1, c2, c3, c4, c5, c6, c7, c8, c9, c10, c11, c12⟩ := row13 H2.out.bank.ws hv hdv
    have HVV : Hid (v.dv = .slice da dn dc) := hdv
    have hkn : (k : Int) < (n : Int) := by have := HN.out; omega
    have hcb : w2.cell? ⟨b, 1, none⟩ = some (.slice (some ⟨g, 0, none⟩) n cap) := H2.out.facts.1
    have HB2 : Hid (Below w2.heap.size w2 (w2.alloc (.cells #[.bool v.g.org.sec, .string v.g.org.host, .int .i64 v.g.org.port, .bool v.g.proxy, .string v.g.path, .int .i64 v.g.ask.sch, .string v.g.ask.realm, .string v.g.ask.nonce, .string v.g.ask.opq, .bool v.g.ask.sess, .string v.g.ask.qop, .bool v.g.ask.stale, .slice da dn dc] 38)) ∧ (w2.alloc (.cells #[.bool v.g.org.sec, .string v.g.org.host, .int .i64 v.g.org.port, .bool v.g.proxy, .string v.g.path, .int .i64 v.g.ask.sch, .string v.g.ask.realm, .string v.g.ask.nonce, .string v.g.ask.opq, .bool v.g.ask.sess, .string v.g.ask.qop, .bool v.g.ask.stale, .slice da dn dc] 38)).heap[w2.heap.size]? = some (.cells #[.bool v.g.org.sec, .string v.g.org.host, .int .i64 v.g.org.port, .bool v.g.proxy, .string v.g.path, .int .i64 v.g.ask.sch, .string v.g.ask.realm, .string v.g.ask.nonce, .string v.g.ask.opq, .bool v.g.ask.sess, .string v.g.ask.qop, .bool v.g.ask.stale, .slice da dn dc] 38 (0, 0))) := ⟨(Below.refl _ _).alloc (Nat.le_refl _) _, heap_alloc_new w2 _⟩
    have hcb2 : (w2.alloc (.cells #[.bool v.g.org.sec, .string v.g.org.host, .int .i64 v.g.org.port, .bool v.g.proxy, .string v.g.path, .int .i64 v.g.ask.sch, .string v.g.ask.realm, .string v.g.ask.nonce, .string v.g.ask.opq, .bool v.g.ask.sess, .string v.g.ask.qop, .bool v.g.ask.stale, .slice da dn dc] 38)).cell? ⟨b, 1, none⟩ = some (.slice (some ⟨g, 0, none⟩) n cap) := (HB2.out.1.cell (p := ⟨b, 1, none⟩) (Array.getElem?_eq_some_iff.1 H2.out.bank.blk).1).trans hcb
    have hn8 : (n : Int) ≤ 8 := by have := HN.out; have := HK.out.1.vlen; omega
    have hdel := tak_del HK.out.1 H2.out.bank H2.out.bel HN.out HV.out.1 HB2.out.1
    clear hvo hds hdv hv hkG
    go_wp2_with fail
    refine hdel.mono ?_
    rintro e w3 ⟨m3, rfl, H3⟩
    clear hdel hcb hcb2 c0 c1 c2 c3 c4 c5 c6 c7 c8 c9 c10 c11 c12
    have HVO : Hid (WtOwn w3 B v) := OwnS.other (OwnS.below (H2.out.bank.wo v (List.mem_of_getElem? HV.out.1)) HB2.out.1) H3.out.1 (H2.out.bank.below HB2.out.1).ws.typed (by decide)
    have hGl : w2.heap.size < (w2.alloc (.cells #[.bool v.g.org.sec, .string v.g.org.host, .int .i64 v.g.org.port, .bool v.g.proxy, .string v.g.path, .int .i64 v.g.ask.sch, .string v.g.ask.realm, .string v.g.ask.nonce, .string v.g.ask.opq, .bool v.g.ask.sess, .string v.g.ask.qop, .bool v.g.ask.stale, .slice da dn dc] 38)).heap.size := by simp
    have hg3 : w3.heap[w2.heap.size]? = some (.cells #[.bool v.g.org.sec, .string v.g.org.host, .int .i64 v.g.org.port, .bool v.g.proxy, .string v.g.path, .int .i64 v.g.ask.sch, .string v.g.ask.realm, .string v.g.ask.nonce, .string v.g.ask.opq, .bool v.g.ask.sess, .string v.g.ask.qop, .bool v.g.ask.stale, .slice da dn dc] 38 (0, 0)) := (H3.out.1.block _ hGl (fun e => by injection e with e; have := H2.out.bel.size; omega)).trans HB2.out.2
    have hr2 := H2.out.res
    have hr3 : w3.heap[w.heap.size + 1]? = some (.cells #[.bool false, .string ⟨#[]⟩, .int .i64 0, .bool false, .string ⟨#[]⟩, .int .i64 0, .string ⟨#[]⟩, .string ⟨#[]⟩, .string ⟨#[]⟩, .bool false, .string ⟨#[]⟩, .bool false, .slice none 0 0] 38 (0, 0)) := (H3.out.1.block _ (Nat.lt_of_lt_of_le (Array.getElem?_eq_some_iff.1 hr2).1 HB2.out.1.size) (fun e => by injection e with e; omega)).trans ((HB2.out.1.block _ (Array.getElem?_eq_some_iff.1 hr2).1).trans hr2)
    have hb3 := H3.out.2.2.2
    have hbG : ¬ b = w2.heap.size := fun e => by
      rw [e, hg3] at hb3
      injection hb3 with hb3
      injection hb3 with _ h3
      exact absurd h3 (by decide)
    have hbR : ¬ b = w.heap.size + 1 := fun e => by
      rw [e, hr3] at hb3
      injection hb3 with hb3
      injection hb3 with _ h3
      exact absurd h3 (by decide)
    have hc3 := cell_of (i := 1) hb3
    have f3 := free_of hb3
    simp only [List.getElem?_toArray, List.getElem?_cons_zero, List.getElem?_cons_succ] at hc3
    have hg4 := (Below.heap_setCell w3 ⟨b, 1, none⟩ (.slice (some ⟨g, 0, none⟩) m3 cap) w2.heap.size (fun e => hbG e.symm)).trans hg3
    have hr4 := (Below.heap_setCell w3 ⟨b, 1, none⟩ (.slice (some ⟨g, 0, none⟩) m3 cap) (w.heap.size + 1) (fun e => hbR e.symm)).trans hr3
    have hx1 : ∀ u ∈ wtCells v, u.oneCell' = true := wtOwn_one HVO.out
    have hxl : wtCells v = [.bool v.g.org.sec, .string v.g.org.host, .int .i64 v.g.org.port, .bool v.g.proxy, .string v.g.path, .int .i64 v.g.ask.sch, .string v.g.ask.realm, .string v.g.ask.nonce, .string v.g.ask.opq, .bool v.g.ask.sess, .string v.g.ask.qop, .bool v.g.ask.stale, .slice da dn dc] := by unfold wtCells; rw [HVV.out]
    rw [hxl] at hx1
    obtain ⟨z1, z2⟩ := setAll [.bool v.g.org.sec, .string v.g.org.host, .int .i64 v.g.org.port, .bool v.g.proxy, .string v.g.path, .int .i64 v.g.ask.sch, .string v.g.ask.realm, .string v.g.ask.nonce, .string v.g.ask.opq, .bool v.g.ask.sess, .string v.g.ask.qop, .bool v.g.ask.stale, .slice da dn dc] hr4 rfl
    have HZ : Hid (_ ∧ _) := ⟨z1, z2⟩
    have HU : Hid ((V.map (·.g))[k]? = some v.g) := by show _ = _; rw [List.getElem?_map, HV.out.1]; rfl
    have HU2 : Hid (takeL (V.map (·.g)) k = ((V.map (·.g)).eraseIdx k, v.g)) := by
      show _ = _
      unfold takeL
      rw [if_neg (by omega), Int.toNat_natCast, HU.out]
      rfl
    have hne : (Value.slice (some ⟨g, 0, none⟩) m3 cap).ownBlock ≠ some (w.heap.size + 1) := fun e => by
      have e2 : g = w.heap.size + 1 := by simpa [Value.ownBlock] using e
      omega
    have HR4 : Hid ((w3.setCell ⟨b, 1, none⟩ (.slice (some ⟨g, 0, none⟩) m3 cap)).heap[w.heap.size + 1]? = some (.cells #[.bool false, .string ⟨#[]⟩, .int .i64 0, .bool false, .string ⟨#[]⟩, .int .i64 0, .string ⟨#[]⟩, .string ⟨#[]⟩, .string ⟨#[]⟩, .bool false, .string ⟨#[]⟩, .bool false, .slice none 0 0] 38 (0, 0)) ∧ (Value.slice (some ⟨g, 0, none⟩) m3 cap).ownBlock ≠ some (w.heap.size + 1) ∧ w3.heap[b]? = some (.cells #[gv, .slice (some ⟨g, 0, none⟩) n cap] 52 (0, 0)) ∧ wtCells v = [.bool v.g.org.sec, .string v.g.org.host, .int .i64 v.g.org.port, .bool v.g.proxy, .string v.g.path, .int .i64 v.g.ask.sch, .string v.g.ask.realm, .string v.g.ask.nonce, .string v.g.ask.opq, .bool v.g.ask.sess, .string v.g.ask.qop, .bool v.g.ask.stale, .slice da dn dc]) := ⟨hr4, hne, hb3, hxl⟩
    have x0 : (w3.setCell ⟨b, 1, none⟩ (.slice (some ⟨g, 0, none⟩) m3 cap)).cell? ⟨w2.heap.size, 0, none⟩ = some (.bool v.g.org.sec) := cell_of hg4
    have x1 : (w3.setCell ⟨b, 1, none⟩ (.slice (some ⟨g, 0, none⟩) m3 cap)).cell? ⟨w2.heap.size, 1, none⟩ = some (.string v.g.org.host) := cell_of hg4
    have x2 : (w3.setCell ⟨b, 1, none⟩ (.slice (some ⟨g, 0, none⟩) m3 cap)).cell? ⟨w2.heap.size, 2, none⟩ = some (.int .i64 v.g.org.port) := cell_of hg4
    have x3 : (w3.setCell ⟨b, 1, none⟩ (.slice (some ⟨g, 0, none⟩) m3 cap)).cell? ⟨w2.heap.size, 3, none⟩ = some (.bool v.g.proxy) := cell_of hg4
    have x4 : (w3.setCell ⟨b, 1, none⟩ (.slice (some ⟨g, 0, none⟩) m3 cap)).cell? ⟨w2.heap.size, 4, none⟩ = some (.string v.g.path) := cell_of hg4
    have x5 : (w3.setCell ⟨b, 1, none⟩ (.slice (some ⟨g, 0, none⟩) m3 cap)).cell? ⟨w2.heap.size, 5, none⟩ = some (.int .i64 v.g.ask.sch) := cell_of hg4
    have x6 : (w3.setCell ⟨b, 1, none⟩ (.slice (some ⟨g, 0, none⟩) m3 cap)).cell? ⟨w2.heap.size, 6, none⟩ = some (.string v.g.ask.realm) := cell_of hg4
    have x7 : (w3.setCell ⟨b, 1, none⟩ (.slice (some ⟨g, 0, none⟩) m3 cap)).cell? ⟨w2.heap.size, 7, none⟩ = some (.string v.g.ask.nonce) := cell_of hg4
    have x8 : (w3.setCell ⟨b, 1, none⟩ (.slice (some ⟨g, 0, none⟩) m3 cap)).cell? ⟨w2.heap.size, 8, none⟩ = some (.string v.g.ask.opq) := cell_of hg4
    have x9 : (w3.setCell ⟨b, 1, none⟩ (.slice (some ⟨g, 0, none⟩) m3 cap)).cell? ⟨w2.heap.size, 9, none⟩ = some (.bool v.g.ask.sess) := cell_of hg4
    have x10 : (w3.setCell ⟨b, 1, none⟩ (.slice (some ⟨g, 0, none⟩) m3 cap)).cell? ⟨w2.heap.size, 10, none⟩ = some (.string v.g.ask.qop) := cell_of hg4
    have x11 : (w3.setCell ⟨b, 1, none⟩ (.slice (some ⟨g, 0, none⟩) m3 cap)).cell? ⟨w2.heap.size, 11, none⟩ = some (.bool v.g.ask.stale) := cell_of hg4
    have x12 : (w3.setCell ⟨b, 1, none⟩ (.slice (some ⟨g, 0, none⟩) m3 cap)).cell? ⟨w2.heap.size, 12, none⟩ = some (.slice da dn dc) := cell_of hg4
    have y0 : (w3.setCell ⟨b, 1, none⟩ (.slice (some ⟨g, 0, none⟩) m3 cap)).cell? ⟨w.heap.size + 1, 0, none⟩ = some (.bool false) := cell_of hr4
    have y1 : (w3.setCell ⟨b, 1, none⟩ (.slice (some ⟨g, 0, none⟩) m3 cap)).cell? ⟨w.heap.size + 1, 1, none⟩ = some (.string ⟨#[]⟩) := cell_of hr4
    have y2 : (w3.setCell ⟨b, 1, none⟩ (.slice (some ⟨g, 0, none⟩) m3 cap)).cell? ⟨w.heap.size + 1, 2, none⟩ = some (.int .i64 0) := cell_of hr4
    have y3 : (w3.setCell ⟨b, 1, none⟩ (.slice (some ⟨g, 0, none⟩) m3 cap)).cell? ⟨w.heap.size + 1, 3, none⟩ = some (.bool false) := cell_of hr4
    have y4 : (w3.setCell ⟨b, 1, none⟩ (.slice (some ⟨g, 0, none⟩) m3 cap)).cell? ⟨w.heap.size + 1, 4, none⟩ = some (.string ⟨#[]⟩) := cell_of hr4
    have y5 : (w3.setCell ⟨b, 1, none⟩ (.slice (some ⟨g, 0, none⟩) m3 cap)).cell? ⟨w.heap.size + 1, 5, none⟩ = some (.int .i64 0) := cell_of hr4
    have y6 : (w3.setCell ⟨b, 1, none⟩ (.slice (some ⟨g, 0, none⟩) m3 cap)).cell? ⟨w.heap.size + 1, 6, none⟩ = some (.string ⟨#[]⟩) := cell_of hr4
    have y7 : (w3.setCell ⟨b, 1, none⟩ (.slice (some ⟨g, 0, none⟩) m3 cap)).cell? ⟨w.heap.size + 1, 7, none⟩ = some (.string ⟨#[]⟩) := cell_of hr4
    have y8 : (w3.setCell ⟨b, 1, none⟩ (.slice (some ⟨g, 0, none⟩) m3 cap)).cell? ⟨w.heap.size + 1, 8, none⟩ = some (.string ⟨#[]⟩) := cell_of hr4
    have y9 : (w3.setCell ⟨b, 1, none⟩ (.slice (some ⟨g, 0, none⟩) m3 cap)).cell? ⟨w.heap.size + 1, 9, none⟩ = some (.bool false) := cell_of hr4
    have y10 : (w3.setCell ⟨b, 1, none⟩ (.slice (some ⟨g, 0, none⟩) m3 cap)).cell? ⟨w.heap.size + 1, 10, none⟩ = some (.string ⟨#[]⟩) := cell_of hr4
    have y11 : (w3.setCell ⟨b, 1, none⟩ (.slice (some ⟨g, 0, none⟩) m3 cap)).cell? ⟨w.heap.size + 1, 11, none⟩ = some (.bool false) := cell_of hr4
    have y12 : (w3.setCell ⟨b, 1, none⟩ (.slice (some ⟨g, 0, none⟩) m3 cap)).cell? ⟨w.heap.size + 1, 12, none⟩ = some (.slice none 0 0) := cell_of hr4
    have fr4 := free_of hr4
    clear z1 z2 hg3 hr2 hr3 hb3 hg4 hr4 hx1 hxl hne
    go_wp2
    have HZ' := HZ.out
    simp only [World.setCells, Nat.reduceAdd] at HZ'
    refine bodyPost_ret (v := .tuple #[.agg (wtCells v).toArray, .bool true]) (resW_tmp (vs := wtCells v) rfl rfl rfl Try.isAgg38 Try.sizeOf38 rfl (by rw [HR4.out.2.2.2]; exact HZ'.1)) rfl ?_
    have hp4 : WtOwn (w3.setCell ⟨b, 1, none⟩ (.slice (some ⟨g, 0, none⟩) m3 cap)) B v := OwnS.other HVO.out (show w3.grownBy (w3.setCell ⟨b, 1, none⟩ (.slice (some ⟨g, 0, none⟩) m3 cap)) (some b) from grown_setCells w3 b 1 [.slice (some ⟨g, 0, none⟩) m3 cap]) (Typed.block HR4.out.2.2.1) (by decide)
    have hfin : (V.eraseIdx k).map (·.g) = (takeL (V.map (·.g)) k).1 := by rw [HU2.out, List.eraseIdx_eq_take_drop_succ, List.eraseIdx_eq_take_drop_succ, List.map_append, List.map_take, List.map_drop]
    exact ⟨⟨v, by rw [decide_eq_true (by omega)], by rw [HU2.out], OwnS.other hp4 HZ'.2 (Typed.block HR4.out.1) (by decide)⟩, _, _, ⟨bank_offW H3.out.2.1 HR4.out.1 HR4.out.2.1 HZ'.2, hfin, step_offW H3.out.2.2.1 HZ'.2 (by omega)⟩⟩
end Go.Proofs.Ytjadmldnpdmamaa

/- What is asked for, one behind the other; what is taken then. -/
namespace Go.Proofs.Ytjadmldnpdmamaa
open Go.RowKit
set_option linter.unusedVariables false

def wtOf (p : ByteArray) (g : GrP) : WtP := ⟨g.org, g.proxy, p, g.ask⟩
def askAll (l : List GrP) : List WtP := l.foldl (fun a g => askWL a (wtOf ⟨#[]⟩ g)) []
theorem askAll_snoc (l : List GrP) (g : GrP) : askAll (l ++ [g]) = askWL (askAll l) (wtOf ⟨#[]⟩ g) := by
  unfold askAll
  rw [List.foldl_append]
  rfl
theorem askWL_fit {l : List WtP} {v : WtP} (h : ∀ x ∈ l, WtFit x) (hv : WtFit v) : ∀ x ∈ askWL l v, WtFit x := by
  intro x hx
  rcases List.mem_append.1 (last8_mem hx) with h1 | h1
  · exact h x (List.mem_filter.1 h1).1
  · rw [List.mem_singleton.1 h1]
    exact hv
theorem last8_snoc {α : Type} (l : List α) (v : α) : last8 (l ++ [v]) = l.drop (l.length + 1 - 8) ++ [v] := by
  unfold last8
  rw [List.length_append, List.length_singleton, List.drop_append_of_le_length (by omega)]
theorem waitB_self (v : WtP) : waitB v.org v.proxy v = true := by
  unfold waitB orgB
  simp
/-- What was asked for last is taken, and then there is none. -/
theorem take_ask (l : List WtP) (v : WtP) : ∃ (F : List WtP), takeI (askWL l v) v.org v.proxy = (F.length : Int) ∧ takeL (askWL l v) (F.length : Int) = (F, v) ∧ takeI F v.org v.proxy = -1 ∧ askWL l v = F ++ [v] := by
  have hF : ∀ x ∈ (l.filter (fun x => !waitP v x)).drop ((l.filter (fun x => !waitP v x)).length + 1 - 8), waitB v.org v.proxy x = false := by
    intro x hx
    have := (List.mem_filter.1 (List.mem_of_mem_drop hx)).2
    unfold waitP at this
    simpa using this
  have e : askWL l v = (l.filter (fun x => !waitP v x)).drop ((l.filter (fun x => !waitP v x)).length + 1 - 8) ++ [v] := last8_snoc _ v
  generalize (l.filter (fun x => !waitP v x)).drop ((l.filter (fun x => !waitP v x)).length + 1 - 8) = F at hF e
  have hn : F.findIdx? (waitB v.org v.proxy) = none := by
    rw [List.findIdx?_eq_none_iff]
    exact hF
  refine ⟨F, ?_, ?_, ?_, e⟩
  · unfold takeI
    rw [e, List.findIdx?_append, hn]
    simp [List.findIdx?_cons, waitB_self]
  · rw [e]
    unfold takeL
    rw [if_neg (by omega), Int.toNat_natCast]
    simp [List.eraseIdx_append_of_length_le]
  · unfold takeI
    rw [hn]
end Go.Proofs.Ytjadmldnpdmamaa

/- gatepostkeep.held: what it says of grants (from the texts up). -/
namespace Go.Proofs.Ytjadmldnpdmamaa
open Go.RowKit
set_option linter.unusedVariables false

theorem heldLen (x : ByteArray) (w : World) : Calls Try.prog 35 #[.string x] w fun e w' => e = .returned (.bool (decide ((100 : Int) < (x.size : Int)))) ∧ w' = w := by
  by_cases h : (100 : Int) < (x.size : Int)
  · rw [decide_eq_true h]
    go_enter Try.func35, Try.ntmps35
    go_wp2
    go_ret
    exact ⟨rfl, rfl⟩
  · rw [decide_eq_false h]
    go_enter Try.func35, Try.ntmps35
    go_wp2
    go_ret
    exact ⟨rfl, rfl⟩
set_option maxRecDepth 100000 in
set_option maxHeartbeats 4000000 in
theorem heldIdx (p : Option Addr) (n c b off : Nat) (xs : List ByteArray) (w : World) (h : Strs w p n b off xs) (hn : n ≤ 1000) :
    Calls Try.prog 55 #[.slice p n c, .func (.func 35) #[] #[]] w fun e w' => (∃ i : Int, e = .returned (.int .i64 i) ∧ -1 ≤ i) ∧ w' = w := by
  have HS : Hid (Strs w p n b off xs) := h
  clear h
  go_enter Try.func55, Try.ntmps55
  go_wp2
  go_loopw [8] (fun i wr => ∃ k : Nat, k ≤ n ∧ i = .int .i64 k ∧ wr = w) (fun i _ => n - (intOf i).toNat)
  case atStart => exact ⟨0, Nat.zero_le _, rfl, rfl⟩
  case round =>
    obtain ⟨k, hk, rfl, hwr⟩ := hrel
    obtain rfl := hwr.symm
    by_cases hlt : k < n
    · have hkL : (k : Int) < (n : Int) := by omega
      obtain ⟨s, hs⟩ : ∃ s, xs[k]? = some s := ⟨xs[k]'(by have := HS.out.len_eq; omega), List.getElem?_eq_getElem _⟩
      obtain ⟨ha0, hbl⟩ := HS.out.lies (by omega)
      have hc1 := HS.out.cells k s hs
      have hcall := heldLen s w
      subst ha0
      by_cases hg : (100 : Int) < (s.size : Int)
      · rw [decide_eq_true hg] at hcall
        clear hs hg
        go_wp2_with fail
        refine hcall.mono ?_
        rintro e w1 ⟨rfl, hw⟩
        obtain rfl := hw.symm
        go_wp2
        go_ret
        exact ⟨⟨_, rfl, by omega⟩, rfl⟩
      · rw [decide_eq_false hg] at hcall
        clear hs hg
        go_wp2_with fail
        refine hcall.mono ?_
        rintro e w1 ⟨rfl, hw⟩
        obtain rfl := hw.symm
        go_wp2
        go_roundw
        case rel => exact ⟨k + 1, by omega, by go_num, trivial⟩
        case measure => simp [intOf]; omega
    · have hkL : ¬ (k : Int) < (n : Int) := by omega
      go_wp2
      go_ret
      exact ⟨⟨_, rfl, by omega⟩, rfl⟩
theorem heldCtn (p : Option Addr) (n c b off : Nat) (xs : List ByteArray) (w : World) (h : Strs w p n b off xs) (hn : n ≤ 1000) :
    Calls Try.prog 27 #[.slice p n c, .func (.func 35) #[] #[]] w fun e w' => (∃ t : Bool, e = .returned (.bool t)) ∧ w' = w := by
  have hi := heldIdx p n c b off xs w h hn
  clear h
  go_enter Try.func27, Try.ntmps27
  go_wp2_with fail
  refine hi.mono ?_
  rintro e w1 ⟨⟨i, rfl, hi0⟩, hw⟩
  obtain rfl := hw.symm
  by_cases h0 : 0 ≤ i
  · go_wp2
    go_ret
    exact ⟨⟨_, rfl⟩, rfl⟩
  · go_wp2
    go_ret
    exact ⟨⟨_, rfl⟩, rfl⟩
end Go.Proofs.Ytjadmldnpdmamaa

/- gatepostkeep.held's own closure: what it says of a grant. -/
namespace Go.Proofs.Ytjadmldnpdmamaa
open Go.RowKit
set_option linter.unusedVariables false

/-- Whatever it says: where it says no, the grant's rows are short. -/
def HeldAns (n m : Nat) (B : Nat) (w : World) (e : Ending) (w' : World) : Prop := (∃ t : Bool, e = .returned (.bool t) ∧ (t = false → n ≤ 6 ∧ m ≤ 6)) ∧ Below B w w'
set_option maxRecDepth 100000 in
set_option maxHeartbeats 4000000 in
theorem heldOne (g : GrP) (dp pp : Option Addr) (n c m c' rb ro : Nat) (w : World) (hp : Strs w pp m rb ro g.paths) (s1 : g.org.host.size ≤ 140737488355328) (s2 : g.ask.realm.size ≤ 140737488355328) (s3 : g.ask.nonce.size ≤ 140737488355328) (s4 : g.user.size ≤ 140737488355328) :
    Calls Try.prog 34 #[.agg #[.bool g.org.sec, .string g.org.host, .int .i64 g.org.port, .bool g.proxy, .string g.user, .string g.pass, .int .i64 g.ask.sch, .string g.ask.realm, .string g.ask.nonce, .string g.ask.opq, .bool g.ask.sess, .string g.ask.qop, .bool g.ask.stale, .slice dp n c, .int .i64 g.count, .slice pp m c']] w fun e w' => HeldAns n m w.heap.size w e w' := by
  have hbb : Below w.heap.size w (w.alloc (.cells #[.bool g.org.sec, .string g.org.host, .int .i64 g.org.port, .bool g.proxy, .string g.user, .string g.pass, .int .i64 g.ask.sch, .string g.ask.realm, .string g.ask.nonce, .string g.ask.opq, .bool g.ask.sess, .string g.ask.qop, .bool g.ask.stale, .slice dp n c, .int .i64 g.count, .slice pp m c'] 36)) := (Below.refl _ _).alloc (Nat.le_refl _) _
  have hn := heap_alloc_new w (.cells #[.bool g.org.sec, .string g.org.host, .int .i64 g.org.port, .bool g.proxy, .string g.user, .string g.pass, .int .i64 g.ask.sch, .string g.ask.realm, .string g.ask.nonce, .string g.ask.opq, .bool g.ask.sess, .string g.ask.qop, .bool g.ask.stale, .slice dp n c, .int .i64 g.count, .slice pp m c'] 36)
  have HB : Hid (Below w.heap.size w (w.alloc (.cells #[.bool g.org.sec, .string g.org.host, .int .i64 g.org.port, .bool g.proxy, .string g.user, .string g.pass, .int .i64 g.ask.sch, .string g.ask.realm, .string g.ask.nonce, .string g.ask.opq, .bool g.ask.sess, .string g.ask.qop, .bool g.ask.stale, .slice dp n c, .int .i64 g.count, .slice pp m c'] 36)) ∧ Strs w pp m rb ro g.paths) := ⟨hbb, hp⟩
  have n1 := cell_of (i := 1) hn
  have n4 := cell_of (i := 4) hn
  have n7 := cell_of (i := 7) hn
  have n8 := cell_of (i := 8) hn
  have n13 := cell_of (i := 13) hn
  have n15 := cell_of (i := 15) hn
  simp only [List.getElem?_toArray, List.getElem?_cons_zero, List.getElem?_cons_succ] at n1 n4 n7 n8 n13 n15
  clear hbb hn hp
  go_enter Try.func34, Try.ntmps34
  by_cases h1 : (6 : Int) < (m : Int)
  · go_wp2
    go_ret
    exact ⟨⟨_, rfl, fun h => by cases h⟩, HB.out.1⟩
  · by_cases h2 : (6 : Int) < (n : Int)
    · go_wp2
      go_ret
      exact ⟨⟨_, rfl, fun h => by cases h⟩, HB.out.1⟩
    · have hz1 : (g.org.host.size : Int) ≤ 140737488355328 := by omega
      have hz2 : (g.ask.realm.size : Int) ≤ 140737488355328 := by omega
      have hz3 : (g.ask.nonce.size : Int) ≤ 140737488355328 := by omega
      have hz4 : (g.user.size : Int) ≤ 140737488355328 := by omega
      by_cases h3 : (200 : Int) < (g.org.host.size : Int) + (g.ask.realm.size : Int) + (g.ask.nonce.size : Int) + (g.user.size : Int)
      · go_wp2
        go_ret
        exact ⟨⟨_, rfl, fun h => by cases h⟩, HB.out.1⟩
      · have hc := heldCtn pp m c' rb ro g.paths _ (HB.out.2.below HB.out.1) (by omega)
        go_wp2_with fail
        refine hc.mono ?_
        rintro e w1 ⟨⟨t, rfl⟩, hw⟩
        obtain rfl := hw.symm
        have HE : Hid (n ≤ 6 ∧ m ≤ 6) := ⟨by omega, by omega⟩
        clear hc
        go_wp2
        go_ret
        exact ⟨⟨_, rfl, fun _ => HE.out⟩, HB.out.1⟩
end Go.Proofs.Ytjadmldnpdmamaa

/- Rows of grants that lie somewhere; what held says of them. -/
namespace Go.Proofs.Ytjadmldnpdmamaa
open Go.RowKit
set_option linter.unusedVariables false

/-- A grant that came in, and where its lists lie. -/
structure GrA where
  g : GrP
  da : Option Addr
  dc : Nat
  db : Nat
  doff : Nat
  pa : Option Addr
  pc : Nat
  pb : Nat
  poff : Nat
def GrA.val (v : GrA) : GrV := ⟨v.g, .slice v.da v.g.ask.dom.length v.dc, .slice v.pa v.g.paths.length v.pc⟩
/-- A row of grants that lies somewhere. -/
structure Grs (w : World) (a0 : Option Addr) (len b off : Nat) (gs : List GrA) : Prop where
  len_eq : gs.length = len
  lies : 0 < len → a0 = some ⟨b, off, none⟩ ∧ b < w.heap.size
  cells : ∀ (j : Nat) (v : GrA), gs[j]? = some v → ∀ (i : Nat) (u : Value), (grCells v.val)[i]? = some u → w.cell? ⟨b, off + j * 16 + i, none⟩ = some u
  dom : ∀ v ∈ gs, Strs w v.da v.g.ask.dom.length v.db v.doff v.g.ask.dom
  paths : ∀ v ∈ gs, Strs w v.pa v.g.paths.length v.pb v.poff v.g.paths
theorem Grs.below {w w' : World} {a0 : Option Addr} {len b off : Nat} {gs : List GrA} (h : Grs w a0 len b off gs) (hb : Below w.heap.size w w') : Grs w' a0 len b off gs := by
  refine ⟨h.len_eq, fun h0 => ⟨(h.lies h0).1, Nat.lt_of_lt_of_le (h.lies h0).2 hb.size⟩, fun j v hj i u hi => ?_, fun v hv => (h.dom v hv).below hb, fun v hv => (h.paths v hv).below hb⟩
  have := (List.getElem?_eq_some_iff.1 hj).1
  have hl := h.len_eq
  rw [hb.cell (p := ⟨b, off + j * 16 + i, none⟩) (h.lies (by omega)).2]
  exact h.cells j v hj i u hi
/-- The sixteen cells of a grant of it. -/
theorem Grs.all {w : World} {a0 : Option Addr} {len b off : Nat} {gs : List GrA} (h : Grs w a0 len b off gs) {j : Nat} {v : GrA} (hj : gs[j]? = some v) :
    w.cell? ⟨b, off + j * 16, none⟩ = some (.bool v.g.org.sec) ∧ w.cell? ⟨b, off + j * 16 + 1, none⟩ = some (.string v.g.org.host) ∧ w.cell? ⟨b, off + j * 16 + 2, none⟩ = some (.int .i64 v.g.org.port) ∧ w.cell? ⟨b, off + j * 16 + 3, none⟩ = some (.bool v.g.proxy) ∧
    w.cell? ⟨b, off + j * 16 + 4, none⟩ = some (.string v.g.user) ∧ w.cell? ⟨b, off + j * 16 + 5, none⟩ = some (.string v.g.pass) ∧ w.cell? ⟨b, off + j * 16 + 6, none⟩ = some (.int .i64 v.g.ask.sch) ∧ w.cell? ⟨b, off + j * 16 + 7, none⟩ = some (.string v.g.ask.realm) ∧
    w.cell? ⟨b, off + j * 16 + 8, none⟩ = some (.string v.g.ask.nonce) ∧ w.cell? ⟨b, off + j * 16 + 9, none⟩ = some (.string v.g.ask.opq) ∧ w.cell? ⟨b, off + j * 16 + 10, none⟩ = some (.bool v.g.ask.sess) ∧ w.cell? ⟨b, off + j * 16 + 11, none⟩ = some (.string v.g.ask.qop) ∧
    w.cell? ⟨b, off + j * 16 + 12, none⟩ = some (.bool v.g.ask.stale) ∧ w.cell? ⟨b, off + j * 16 + 13, none⟩ = some (.slice v.da v.g.ask.dom.length v.dc) ∧ w.cell? ⟨b, off + j * 16 + 14, none⟩ = some (.int .i64 v.g.count) ∧ w.cell? ⟨b, off + j * 16 + 15, none⟩ = some (.slice v.pa v.g.paths.length v.pc) :=
  ⟨h.cells j v hj 0 _ rfl, h.cells j v hj 1 _ rfl, h.cells j v hj 2 _ rfl, h.cells j v hj 3 _ rfl, h.cells j v hj 4 _ rfl, h.cells j v hj 5 _ rfl, h.cells j v hj 6 _ rfl, h.cells j v hj 7 _ rfl, h.cells j v hj 8 _ rfl, h.cells j v hj 9 _ rfl, h.cells j v hj 10 _ rfl, h.cells j v hj 11 _ rfl, h.cells j v hj 12 _ rfl, h.cells j v hj 13 _ rfl, h.cells j v hj 14 _ rfl, h.cells j v hj 15 _ rfl⟩
/-- Its texts are no longer than a machine can hold; its count is one. -/
def GrZ (g : GrP) : Prop := g.org.host.size ≤ 140737488355328 ∧ g.user.size ≤ 140737488355328 ∧ g.pass.size ≤ 140737488355328 ∧ g.ask.realm.size ≤ 140737488355328 ∧ g.ask.nonce.size ≤ 140737488355328 ∧ g.ask.opq.size ≤ 140737488355328 ∧ g.ask.qop.size ≤ 140737488355328 ∧ (∀ x ∈ g.ask.dom, x.size ≤ 140737488355328) ∧ (∀ x ∈ g.paths, x.size ≤ 140737488355328) ∧ -9223372036854775808 ≤ g.count
def shortB (v : GrA) : Prop := v.g.ask.dom.length ≤ 6 ∧ v.g.paths.length ≤ 6
set_option maxRecDepth 100000 in
set_option maxHeartbeats 4000000 in
theorem heldIdxG (a0 : Option Addr) (len cap b off : Nat) (gs : List GrA) (hz : ∀ v ∈ gs, GrZ v.g) (hn : len ≤ 1000) (w : World) (h : Grs w a0 len b off gs) :
    Calls Try.prog 49 #[.slice a0 len cap, .func (.func 34) #[] #[]] w fun e w' => (∃ i : Int, e = .returned (.int .i64 i) ∧ -1 ≤ i ∧ Hid (i < 0 → ∀ v ∈ gs, shortB v)) ∧ Below w.heap.size w w' := by
  have HS : Hid (Grs w a0 len b off gs) := h
  have HZ : Hid (∀ v ∈ gs, GrZ v.g) := hz
  have HL : Hid (gs.length = len) := h.len_eq
  clear h hz
  go_enter Try.func49, Try.ntmps49
  go_wp2
  go_loopw [8] (fun i wr => ∃ k : Nat, k ≤ len ∧ i = .int .i64 k ∧ Hid (Below w.heap.size w wr ∧ ∀ v ∈ gs.take k, shortB v)) (fun i _ => len - (intOf i).toNat)
  case atStart => exact ⟨0, Nat.zero_le _, rfl, Below.refl _ _, by simp⟩
  case round =>
    obtain ⟨k, hk, rfl, HI⟩ := hrel
    by_cases hlt : k < len
    · have hkL : (k : Int) < (len : Int) := by omega
      obtain ⟨v, hv⟩ : ∃ v, gs[k]? = some v := ⟨gs[k]'(by have := HL.out; omega), List.getElem?_eq_getElem _⟩
      have HV : Hid (gs[k]? = some v) := hv
      have hvm : v ∈ gs := List.mem_of_getElem? hv
      obtain ⟨ha0, _⟩ := HS.out.lies (by omega)
      subst ha0
      have hW := HS.out.below HI.out.1
      obtain ⟨c0, c1, c2, c3, c4, c5, c6, c7, c8, c9, c10, c11, c12, c13, c14, c15⟩ := hW.all hv
      have hz := HZ.out v hvm
      have hcall := heldOne v.g v.da v.pa v.g.ask.dom.length v.dc v.g.paths.length v.pc v.pb v.poff wr (hW.paths v hvm) hz.1 hz.2.2.2.1 hz.2.2.2.2.1 hz.2.1
      obtain ⟨⟨⟨os, oh, op⟩, px, us, pw, ⟨sc, re, no, oq, se, qo, st, dm⟩, ct, pt⟩, da, dc, db, doff, pa, pc, pb, poff⟩ := v
      simp only at hcall c0 c1 c2 c3 c4 c5 c6 c7 c8 c9 c10 c11 c12 c13 c14 c15
      clear hv hvm hW hz
      go_wp2_with fail
      refine hcall.mono ?_
      rintro e w1 ⟨⟨t, rfl, ht⟩, hb1⟩
      have HB1 : Hid (Below w.heap.size w w1) := HI.out.1.trans (hb1.mono HI.out.1.size)
      clear hb1 hcall c0 c1 c2 c3 c4 c5 c6 c7 c8 c9 c10 c11 c12 c13 c14 c15
      cases t
      · have HSH : Hid (∀ v ∈ gs.take (k + 1), shortB v) := by
          obtain ⟨hk1, e1⟩ := List.getElem?_eq_some_iff.1 HV.out
          intro v hv
          rw [List.take_succ_eq_append_getElem hk1, List.mem_append, e1] at hv
          rcases hv with h | h
          · exact HI.out.2 v h
          · rw [List.mem_singleton.1 h]
            exact ht rfl
        clear ht
        go_wp2
        go_roundw
        case rel => exact ⟨k + 1, by omega, by go_num, HB1.out, HSH.out⟩
        case measure => simp [intOf]; omega
      · clear ht
        go_wp2
        go_ret
        exact ⟨⟨_, rfl, by omega, fun h => by omega⟩, HB1.out⟩
    · have hkL : ¬ (k : Int) < (len : Int) := by omega
      have HE : Hid (∀ v ∈ gs, shortB v) := by
        have := HI.out.2
        rw [List.take_of_length_le (by have := HL.out; omega)] at this
        exact this
      go_wp2
      go_ret
      exact ⟨⟨_, rfl, by omega, fun _ => HE.out⟩, HI.out.1⟩
/-- Whatever held says: where it says yes, the grants are few, and their rows are short. -/
def HeldG (gs : List GrA) (len : Nat) (e : Ending) : Prop := ∃ t : Bool, e = .returned (.bool t) ∧ (t = true → len ≤ 30 ∧ ∀ v ∈ gs, shortB v)
set_option maxHeartbeats 2000000 in
theorem held_any (a0 : Option Addr) (len cap b off : Nat) (gs : List GrA) (hz : ∀ v ∈ gs, GrZ v.g) (hl : len ≤ 9223372036854775807) (w : World) (h : Grs w a0 len b off gs) :
    Calls Try.prog 10 #[.slice a0 len cap] w fun e w' => HeldG gs len e ∧ Below w.heap.size w w' := by
  by_cases h30 : len ≤ 30
  · have h30' : (len : Int) ≤ 30 := by omega
    have hcon : ∀ w', Grs w' a0 len b off gs → Calls Try.prog 33 #[.slice a0 len cap, .func (.func 34) #[] #[]] w' fun e w'' => (∃ t : Bool, e = .returned (.bool t) ∧ Hid (t = false → ∀ v ∈ gs, shortB v)) ∧ Below w'.heap.size w' w'' := fun w' hw' => by
      have hi := heldIdxG a0 len cap b off gs hz (by omega) w' hw'
      clear hw'
      go_enter Try.func33, Try.ntmps33
      go_wp2_with fail
      refine hi.mono ?_
      rintro e w1 ⟨⟨i, rfl, hi0, HI⟩, hb⟩
      by_cases h0 : 0 ≤ i
      · go_wp2
        go_ret
        exact ⟨⟨true, by first | rfl | simp [h0], fun h => by cases h⟩, hb⟩
      · go_wp2
        go_ret
        exact ⟨⟨false, by first | rfl | simp [h0], fun _ => HI.out (by omega)⟩, hb⟩
    have hc := hcon w h
    clear hcon h hz
    go_enter Try.func10, Try.ntmps10
    go_wp2_with fail
    refine hc.mono ?_
    rintro e w1 ⟨⟨t, rfl, HT⟩, hb⟩
    cases t
    · go_wp2
      go_ret
      exact ⟨⟨true, rfl, fun _ => ⟨h30, HT.out (by trivial)⟩⟩, hb⟩
    · go_wp2
      go_ret
      exact ⟨⟨false, rfl, fun h => by cases h⟩, hb⟩
  · have h30' : ¬ (len : Int) ≤ 30 := by omega
    go_enter Try.func10, Try.ntmps10
    go_wp2
    go_ret
    exact ⟨⟨false, rfl, fun h => by cases h⟩, Below.refl _ _⟩
end Go.Proofs.Ytjadmldnpdmamaa

/- Whether a text begins with another one, by the program. -/
namespace Go.Proofs.Ytjadmldnpdmamaa
open Go.RowKit

/-- Whether a text begins with another one. -/
def begins (s p : ByteArray) : Bool := decide (p.size ≤ s.size) && ((s.extract 0 p.size).toList == p.toList)
set_option maxHeartbeats 1000000 in
theorem within_p (s p : ByteArray) (w : World) :
    Calls Try.prog 30 #[.string s, .string p] w fun e w' => e = .returned (.bool (begins s p)) ∧ w' = w := by
  by_cases h : p.size ≤ s.size
  · have hb : begins s p = ((s.extract 0 p.size).toList == p.toList) := by unfold begins; rw [decide_eq_true h]; rfl
    rw [hb]
    go_enter Try.func30, Try.ntmps30
    go_wp2
    go_ret
    exact ⟨rfl, rfl⟩
  · have hb : begins s p = false := by unfold begins; rw [decide_eq_false h]; rfl
    rw [hb]
    go_enter Try.func30, Try.ntmps30
    go_wp2
    go_ret
    exact ⟨rfl, rfl⟩
end Go.Proofs.Ytjadmldnpdmamaa

/- How far a grant reaches for a path. -/
namespace Go.Proofs.Ytjadmldnpdmamaa
open Go.RowKit
set_option linter.unusedVariables false

def farStep (path : ByteArray) (m : Int) (s : ByteArray) : Int := if begins path s then max m (s.size : Int) else m
/-- How long the longest of its spaces is that the path is in; below 0: the grant is not for it. -/
def reachI (o : OrgV) (p : Bool) (path : ByteArray) (g : GrP) : Int := if orgB g.org o && g.proxy == p then g.paths.foldl (farStep path) (-1) else -1
theorem far_take {path : ByteArray} {ps : List ByteArray} {k : Nat} {s : ByteArray} (h : ps[k]? = some s) : (ps.take (k + 1)).foldl (farStep path) (-1) = farStep path ((ps.take k).foldl (farStep path) (-1)) s := by
  obtain ⟨hk, e⟩ := List.getElem?_eq_some_iff.1 h
  rw [List.take_succ_eq_append_getElem hk, List.foldl_append, e]
  rfl
set_option maxRecDepth 100000 in
set_option maxHeartbeats 4000000 in
theorem reach_any (v : GrV) (B : Nat) (hfit : GrFit v.g) (o : OrgV) (p : Bool) (path : ByteArray) (a b c : Nat) (w : World) (hb : Box3 w a b c o p path) (hown : GrOwn w B v) :
    Calls Try.prog 63 #[.agg (grCells v).toArray, .pointer (some ⟨a, 0, none⟩), .pointer (some ⟨b, 0, none⟩), .pointer (some ⟨c, 0, none⟩)] w fun e w' => e = .returned (.int .i64 (reachI o p path v.g)) ∧ Below w.heap.size w w' := by
  obtain ⟨pa, pc, pg, hpv, hps⟩ := hown.paths.strs
  obtain ⟨pn, HPN⟩ : ∃ pn, Hid (v.g.paths.length = pn) := ⟨_, rfl⟩
  rw [HPN.out] at hpv hps
  have hpn : pn ≤ 1000 := by rw [← HPN.out]; exact hfit.2.2.2.2.1
  have hbb : Below w.heap.size w (w.alloc (.cells (grCells v).toArray 36)) := (Below.refl _ _).alloc (Nat.le_refl _) _
  have hb2 := hb.below hbb
  have hn := heap_alloc_new w (.cells (grCells v).toArray 36)
  unfold grCells at hbb hb2 hn ⊢
  rw [hpv] at hbb hb2 hn ⊢
  have HB : Hid (Below w.heap.size w (w.alloc (.cells [Value.bool v.g.org.sec, .string v.g.org.host, .int .i64 v.g.org.port, .bool v.g.proxy, .string v.g.user, .string v.g.pass, .int .i64 v.g.ask.sch, .string v.g.ask.realm, .string v.g.ask.nonce, .string v.g.ask.opq, .bool v.g.ask.sess, .string v.g.ask.qop, .bool v.g.ask.stale, v.dv, .int .i64 v.g.count, .slice pa pn pc].toArray 36)) ∧ Strs w pa pn pg 0 v.g.paths) := ⟨hbb, hps⟩
  have c0 := (cell_of (i := 0) hb2.org)
  have c1 := (cell_of (i := 1) hb2.org)
  have c2 := (cell_of (i := 2) hb2.org)
  have c3 := (cell_of (i := 0) hb2.prx)
  have n0 := cell_of (i := 0) hn
  have n1 := cell_of (i := 1) hn
  have n2 := cell_of (i := 2) hn
  have n3 := cell_of (i := 3) hn
  have n15 := cell_of (i := 15) hn
  simp only [List.getElem?_toArray, List.getElem?_cons_zero, List.getElem?_cons_succ] at c0 c1 c2 c3 n0 n1 n2 n3 n15
  have e1 := eqOrg v.g.org o (orgB v.g.org o) rfl
  have HC4 : Hid (Box3 w a b c o p path) := hb
  obtain ⟨E1, h1⟩ : ∃ E, orgB v.g.org o = E := ⟨_, rfl⟩
  obtain ⟨E2, h2⟩ : ∃ E, (v.g.proxy == p) = E := ⟨_, rfl⟩
  have HE : Hid (reachI o p path v.g = if E1 && E2 then v.g.paths.foldl (farStep path) (-1) else -1) := by show _ = _; unfold reachI; rw [h1, h2]
  have h2' : (v.g.proxy != p) = !E2 := by rw [← h2]; rfl
  rw [h1] at e1
  clear h1 hb hb2 hn hbb hps hown hpv hfit
  obtain ⟨R, HR⟩ : ∃ R, Hid (reachI o p path v.g = R) := ⟨_, rfl⟩
  rw [HR.out]
  go_enter Try.func63, Try.ntmps63
  cases E1
  · obtain rfl : R = -1 := by rw [← HR.out, HE.out]; rfl
    go_wp2
    go_ret
    exact ⟨rfl, HB.out.1⟩
  · cases E2
    · obtain rfl : R = -1 := by rw [← HR.out, HE.out]; rfl
      go_wp2
      go_ret
      exact ⟨rfl, HB.out.1⟩
    · have HRF : Hid (v.g.paths.foldl (farStep path) (-1) = R) := by show _ = _; rw [← HR.out, HE.out]; rfl
      go_wp2
      go_loopw [6, 23] (fun m i wr => ∃ (k : Nat) (mi : Int), k ≤ pn ∧ i = .int .i64 k ∧ m = .int .i64 mi ∧ Hid ((v.g.paths.take k).foldl (farStep path) (-1) = mi ∧ Below w.heap.size w wr)) (fun _ i _ => pn - (intOf i).toNat)
      case atStart => exact ⟨0, -1, Nat.zero_le _, rfl, rfl, ⟨rfl, HB.out.1⟩⟩
      case round =>
        obtain ⟨k, mi, hk, rfl, rfl, HK⟩ := hrel
        by_cases hlt : k < pn
        · have hkL : (k : Int) < (pn : Int) := by omega
          obtain ⟨s, hs⟩ : ∃ s, v.g.paths[k]? = some s := ⟨v.g.paths[k]'(by have := HPN.out; omega), List.getElem?_eq_getElem _⟩
          have hS := HB.out.2.below HK.out.2
          obtain ⟨ha0, hbl⟩ := hS.lies (by omega)
          have hc1 := hS.cells k s hs
          rw [Nat.zero_add] at hc1
          have hc4 := cell_of (i := 0) (HC4.out.below HK.out.2).txt
          simp only [List.getElem?_toArray, List.getElem?_cons_zero] at hc4
          have HF : Hid ((v.g.paths.take (k + 1)).foldl (farStep path) (-1) = farStep path mi s) := by
            show _ = _
            rw [far_take hs, HK.out.1]
          subst ha0
          clear hs hS
          cases hbg : begins path s
          · have HG : Hid ((v.g.paths.take (k + 1)).foldl (farStep path) (-1) = mi) := by
              show _ = _
              rw [HF.out]; unfold farStep; rw [hbg]; rfl
            go_wp2_with fail
            refine (within_p path s _).mono ?_
            rintro e w2 ⟨rfl, hw⟩
            obtain rfl := hw.symm
            rw [hbg]
            clear hbg
            go_wp2
            go_roundw
            case rel => exact ⟨k + 1, mi, by omega, by go_num, rfl, ⟨HG.out, HK.out.2⟩⟩
            case measure => simp [intOf]; omega
          · have HG : Hid ((v.g.paths.take (k + 1)).foldl (farStep path) (-1) = max mi (s.size : Int)) := by
              show _ = _
              rw [HF.out]; unfold farStep; rw [hbg]; rfl
            go_wp2_with fail
            refine (within_p path s _).mono ?_
            rintro e w2 ⟨rfl, hw⟩
            obtain rfl := hw.symm
            rw [hbg]
            clear hbg
            go_wp2
            go_roundw
            case rel => exact ⟨k + 1, _, by omega, by go_num, rfl, ⟨HG.out, HK.out.2⟩⟩
            case measure => simp [intOf]; omega
        · have hkL : ¬ (k : Int) < (pn : Int) := by omega
          obtain rfl : mi = R := by rw [← HK.out.1, ← HRF.out, List.take_of_length_le (by rw [HPN.out]; omega)]
          go_wp2
          go_ret
          exact ⟨rfl, HK.out.2⟩
end Go.Proofs.Ytjadmldnpdmamaa

/- The number of the grant that reaches farthest; whatever the program. -/
namespace Go.Proofs.Ytjadmldnpdmamaa
open Go.RowKit
set_option linter.unusedVariables false

def farGo : List Int → Nat → Int × Int → Int × Int
  | [], _, s => s
  | r :: t, i, s => farGo t (i + 1) (if s.2 ≤ r then ((i : Int), r) else s)
/-- The number of the last one of the greatest, from 0 on; below 0: none. -/
def farI (rs : List Int) : Int := (farGo rs 0 (-1, 0)).1
theorem farGo_snoc (r : Int) : ∀ (l : List Int) (i : Nat) (s : Int × Int), farGo (l ++ [r]) i s = if (farGo l i s).2 ≤ r then (((i + l.length : Nat) : Int), r) else farGo l i s
  | [], i, s => rfl
  | x :: t, i, s => by
    show farGo (t ++ [r]) (i + 1) _ = _
    rw [farGo_snoc r t (i + 1)]
    show (if (farGo t (i + 1) _).2 ≤ r then _ else _) = _
    simp only [farGo, List.length_cons]
    congr 3
    push_cast
    omega
theorem farGo_take {rs : List Int} {k : Nat} {r : Int} (h : rs[k]? = some r) : farGo (rs.take (k + 1)) 0 (-1, 0) = if (farGo (rs.take k) 0 (-1, 0)).2 ≤ r then ((k : Int), r) else farGo (rs.take k) 0 (-1, 0) := by
  obtain ⟨hk, e⟩ := List.getElem?_eq_some_iff.1 h
  rw [List.take_succ_eq_append_getElem hk, farGo_snoc, e, List.length_take]
  rw [show 0 + min k rs.length = k by omega]
set_option maxRecDepth 100000 in
set_option maxHeartbeats 4000000 in
theorem far_of (P : Program) (hf : P.funcs[45]? = some Try.f45)
    (tS : P.underlying 22 = some (TypeDesc.slice 36)) (aS : ∀ w, (isAgg 22).run P w = .ok false w) (zS : ∀ w, (Go.sizeOf 22).run P w = .ok 1 w)
    (t3 : P.underlying 3 = some (TypeDesc.int IntKind.i64)) (a3 : ∀ w, (isAgg 3).run P w = .ok false w) (z3 : ∀ w, (Go.sizeOf 3).run P w = .ok 1 w) (v3 : ∀ w, (zeroValue 3).run P w = .ok (Value.int IntKind.i64 0) w)
    (t4 : P.underlying 4 = some TypeDesc.bool) (a4 : ∀ w, (isAgg 4).run P w = .ok false w) (z4 : ∀ w, (Go.sizeOf 4).run P w = .ok 1 w)
    (k : Nat) (hk0 : 0 < k) (aE : ∀ w, (isAgg 36).run P w = .ok true w) (zE : ∀ w, (Go.sizeOf 36).run P w = .ok k w) (zc : Array Value) (vE : ∀ w, (zeroValue 36).run P w = .ok (.agg zc) w) (hzc : zc.size = k)
    {α : Type} (cl : α → List Value) (R : α → Int)
    (g n cap B : Nat) (vs : List α) (hn : vs.length = n) (hbig : n ≤ 1000) (w : World) (hown : OwnK k 36 w B (.slice (some ⟨g, 0, none⟩) n cap) (vs.map cl))
    (fn : Nat) (lb : Array Value) (eg : ∀ args w, (callFunc fn args).run P w = .ok (.enter fn args) w)
    (hm : ∀ W v, v ∈ vs → Below w.heap.size w W → Calls P fn (#[.agg (cl v).toArray] ++ lb) W fun e w' => e = .returned (.int .i64 (R v)) ∧ Below W.heap.size W w') :
    Calls P 45 #[.slice (some ⟨g, 0, none⟩) n cap, .func (.func fn) #[] lb] w fun e w' => e = .returned (.int .i64 (farI (vs.map R))) ∧ Below w.heap.size w w' := by
  have HO : Hid (OwnK k 36 w B (.slice (some ⟨g, 0, none⟩) n cap) (vs.map cl)) := hown
  have HN : Hid (vs.length = n) := hn
  have HM : Hid (∀ W v, v ∈ vs → Below w.heap.size w W → Calls P fn (#[.agg (cl v).toArray] ++ lb) W fun e w' => e = .returned (.int .i64 (R v)) ∧ Below W.heap.size W w') := hm
  have HZ : Hid (zc.size = k) := hzc
  clear hown hn hm hzc
  go_enter hf, Try.ntmps45
  go_wp2
  go_loopw [5, 6, 12] (fun b m i wr => ∃ (kk : Nat) (bi mi : Int), kk ≤ n ∧ i = .int .i64 kk ∧ b = .int .i64 bi ∧ m = .int .i64 mi ∧ Hid (Below w.heap.size w wr ∧ farGo ((vs.map R).take kk) 0 (-1, 0) = (bi, mi))) (fun _ _ i _ => n - (intOf i).toNat)
  case atStart => exact ⟨0, -1, 0, Nat.zero_le _, rfl, rfl, rfl, ⟨Below.refl _ _, rfl⟩⟩
  case round =>
    obtain ⟨kk, bi, mi, hkk, rfl, rfl, rfl, HI⟩ := hrel
    by_cases hlt : kk < n
    · have hltz : (kk : Int) < (n : Int) := by omega
      obtain ⟨v, hv⟩ : ∃ v, vs[kk]? = some v := ⟨vs[kk]'(by have := HN.out; omega), List.getElem?_eq_getElem _⟩
      have hvm : (vs.map cl)[kk]? = some (cl v) := by rw [List.getElem?_map, hv]; rfl
      have hvr : (vs.map R)[kk]? = some (R v) := by rw [List.getElem?_map, hv]; rfl
      have HST : Hid (farGo ((vs.map R).take (kk + 1)) 0 (-1, 0) = if mi ≤ R v then ((kk : Int), R v) else (bi, mi)) := by
        show _ = _
        rw [farGo_take hvr, HI.out.2]
      obtain ⟨x, hx⟩ : ∃ x, cl v = x := ⟨_, rfl⟩
      rw [hx] at hvm
      have hxm : x ∈ vs.map cl := List.mem_of_getElem? hvm
      have hxl : x.length = k := HO.out.len x hxm
      have hx1 : ∀ u ∈ x, u.oneCell' = true := HO.out.one x hxm
      have l1 := (HO.out.below HI.out.1).load P hvm
      have hb1 : Below wr.heap.size wr (wr.alloc (.cells x.toArray 36)) := (Below.refl _ _).alloc (Nat.le_refl _) _
      have s1 := run_boxed P wr zc 36 x (by rw [HZ.out, hxl]) hx1
      have l2 := run_unboxed P (w := wr.alloc (.cells x.toArray 36)) (w' := wr.alloc (.cells x.toArray 36)) (b := wr.heap.size) hxl (heap_alloc_new wr _) (Below.refl _ _)
      have HB1 : Hid (Below w.heap.size w (wr.alloc (.cells x.toArray 36))) := HI.out.1.trans (hb1.mono HI.out.1.size)
      have hcall := HM.out _ v (List.mem_of_getElem? hv) HB1.out
      rw [hx] at hcall
      have hxa : x.toArray.size = k := by simp [hxl]
      obtain ⟨r, hr⟩ : ∃ r, R v = r := ⟨_, rfl⟩
      rw [hr] at hcall HST
      clear hv hvm hvr hxm hx hb1 hx1 hr
      generalize hWX : wr.alloc (.cells x.toArray 36) = WX at s1 l2 HB1 hcall
      by_cases hge : mi ≤ r
      · have HS2 : Hid (farGo ((vs.map R).take (kk + 1)) 0 (-1, 0) = ((kk : Int), r)) := by show _ = _; rw [HST.out, if_pos hge]
        go_wp2_with (go_at_fn fn; refine hcall.mono ?_; rintro e w2 ⟨rfl, hb2⟩)
        go_roundw
        case rel => exact ⟨kk + 1, _, _, by omega, by go_num, rfl, rfl, ⟨HB1.out.trans (hb2.mono HB1.out.size), HS2.out⟩⟩
        case measure => simp [intOf]; omega
      · have HS2 : Hid (farGo ((vs.map R).take (kk + 1)) 0 (-1, 0) = (bi, mi)) := by show _ = _; rw [HST.out, if_neg hge]
        go_wp2_with (go_at_fn fn; refine hcall.mono ?_; rintro e w2 ⟨rfl, hb2⟩)
        go_roundw
        case rel => exact ⟨kk + 1, _, _, by omega, by go_num, rfl, rfl, ⟨HB1.out.trans (hb2.mono HB1.out.size), HS2.out⟩⟩
        case measure => simp [intOf]; omega
    · have hltz : ¬ (kk : Int) < (n : Int) := by omega
      have HE : Hid (farI (vs.map R) = bi) := by
        show (farGo (vs.map R) 0 (-1, 0)).1 = _
        have := HI.out.2
        rw [List.take_of_length_le (by rw [List.length_map, HN.out]; omega)] at this
        rw [this]
      go_wp2
      go_ret
      exact ⟨by rw [HE.out]; rfl, HI.out.1⟩
set_option maxHeartbeats 2000000 in
theorem far_none (w : World) (F : Value) : Calls Try.prog 45 #[.slice none 0 0, F] w fun e w' => e = .returned (.int .i64 (-1)) ∧ w' = w := by
  go_enter Try.func45, Try.ntmps45
  go_wp2
  refine wp_loop_rounds 1 ?_
  rw [rounds_succ]
  go_wp2
  go_ret
  exact ⟨rfl, rfl⟩
/-- The same of a bank's row. -/
theorem far_any (gv : Value) (B : Nat) (G : List GrV) (R : GrV → Int) (hl : G.length ≤ 8) (w : World) (hown : OwnK 16 36 w B gv (G.map grCells)) (fn : Nat) (lb : Array Value) (eg : ∀ args w, (callFunc fn args).run Try.prog w = .ok (.enter fn args) w)
    (hm : ∀ W v, v ∈ G → Below w.heap.size w W → Calls Try.prog fn (#[.agg (grCells v).toArray] ++ lb) W fun e w' => e = .returned (.int .i64 (R v)) ∧ Below W.heap.size W w') :
    Calls Try.prog 45 #[gv, .func (.func fn) #[] lb] w fun e w' => e = .returned (.int .i64 (farI (G.map R))) ∧ Below w.heap.size w w' := by
  rcases hown.forms with ⟨rfl, e2⟩ | ⟨g, cap, rfl, _, _, _, _⟩
  · obtain rfl : G = [] := List.map_eq_nil_iff.1 e2
    refine (far_none w _).mono ?_
    rintro e w' ⟨rfl, rfl⟩
    exact ⟨rfl, Below.refl _ _⟩
  · rw [List.length_map] at hown ⊢
    exact far_of Try.prog Try.func45 Try.underlying22 Try.isAgg22 Try.sizeOf22 Try.underlying3 Try.isAgg3 Try.sizeOf3 Try.zeroValue3 Try.underlying4 Try.isAgg4 Try.sizeOf4 16 (by omega) Try.isAgg36 Try.sizeOf36 _ Try.zeroValue36 rfl grCells R g _ cap B G rfl (by omega) w hown fn lb eg hm
end Go.Proofs.Ytjadmldnpdmamaa

/- The grant of a number, cloned; all grants, cloned. -/
namespace Go.Proofs.Ytjadmldnpdmamaa
open Go.RowKit
set_option linter.unusedVariables false

def zeroAP : AskP := ⟨0, ⟨#[]⟩, ⟨#[]⟩, ⟨#[]⟩, false, ⟨#[]⟩, false, []⟩
def zeroP : GrP := ⟨⟨false, ⟨#[]⟩, 0⟩, false, ⟨#[]⟩, ⟨#[]⟩, zeroAP, 0, []⟩
def zeroV : GrV := ⟨zeroP, .slice none 0 0, .slice none 0 0⟩
theorem zeroV_own (w : World) (B : Nat) : GrOwn w B zeroV := ⟨ownS_nil w B, ownS_nil w B⟩
/-- The grant of a number; nothing below 0. -/
def toldL (l : List GrP) (i : Int) : GrP := if i < 0 then zeroP else (l[i.toNat]?).getD zeroP
theorem res_cell_tmp {P : Program} {fn : Func} {tmps : Array Value} {W : World} {a b : Tmp} {t u : TypeId} {g : Nat} {vs : List Value} {k : Nat} {r : Value} (hf : fn.results = #[.cell a t, .tmp b]) (hp : tmps.getD a undef = .pointer (some ⟨g, 0, none⟩)) (hr : tmps.getD b undef = r) (ha : ∀ w, (isAgg t).run P w = .ok true w) (hs : ∀ w, (Go.sizeOf t).run P w = .ok k w) (hk : vs.length = k) (h : W.heap[g]? = some (.cells vs.toArray u (0, 0))) :
    (results fn tmps).run P W = .ok (.tuple #[.agg vs.toArray, r]) W := by
  have hl := run_loadCellsFrom_list P W ⟨g, 0, none⟩ vs k hk (fun i v hi => by
    rw [Addr.add_lit, Nat.zero_add, cell_of h]
    simpa using hi)
  simp only [Array.getD_eq_getD_getElem?] at hp hr
  unfold results
  rw [hf]
  simp [hp, hr, loadVar, ha, hs, asAddr, loadCells, hl]
/-- Where the cells of an element of a row lie. -/
theorem row16 {w : World} {B g n cap i : Nat} {G : List GrV} {v : GrV} {da pa : Option Addr} {dn dc pn pc : Nat} (h : OwnK 16 36 w B (.slice (some ⟨g, 0, none⟩) n cap) (G.map grCells)) (hi : G[i]? = some v) (hd : v.dv = .slice da dn dc) (hp : v.pv = .slice pa pn pc) :
    w.cell? ⟨g, i * 16, none⟩ = some (.bool v.g.org.sec) ∧ w.cell? ⟨g, i * 16 + 1, none⟩ = some (.string v.g.org.host) ∧ w.cell? ⟨g, i * 16 + 2, none⟩ = some (.int .i64 v.g.org.port) ∧ w.cell? ⟨g, i * 16 + 3, none⟩ = some (.bool v.g.proxy) ∧ w.cell? ⟨g, i * 16 + 4, none⟩ = some (.string v.g.user) ∧ w.cell? ⟨g, i * 16 + 5, none⟩ = some (.string v.g.pass) ∧ w.cell? ⟨g, i * 16 + 6, none⟩ = some (.int .i64 v.g.ask.sch) ∧ w.cell? ⟨g, i * 16 + 7, none⟩ = some (.string v.g.ask.realm) ∧ w.cell? ⟨g, i * 16 + 8, none⟩ = some (.string v.g.ask.nonce) ∧ w.cell? ⟨g, i * 16 + 9, none⟩ = some (.string v.g.ask.opq) ∧ w.cell? ⟨g, i * 16 + 10, none⟩ = some (.bool v.g.ask.sess) ∧ w.cell? ⟨g, i * 16 + 11, none⟩ = some (.string v.g.ask.qop) ∧ w.cell? ⟨g, i * 16 + 12, none⟩ = some (.bool v.g.ask.stale) ∧ w.cell? ⟨g, i * 16 + 13, none⟩ = some (.slice da dn dc) ∧ w.cell? ⟨g, i * 16 + 14, none⟩ = some (.int .i64 v.g.count) ∧ w.cell? ⟨g, i * 16 + 15, none⟩ = some (.slice pa pn pc) := by
  have hx : (G.map grCells)[i]? = some [.bool v.g.org.sec, .string v.g.org.host, .int .i64 v.g.org.port, .bool v.g.proxy, .string v.g.user, .string v.g.pass, .int .i64 v.g.ask.sch, .string v.g.ask.realm, .string v.g.ask.nonce, .string v.g.ask.opq, .bool v.g.ask.sess, .string v.g.ask.qop, .bool v.g.ask.stale, .slice da dn dc, .int .i64 v.g.count, .slice pa pn pc] := by rw [List.getElem?_map, hi]; show some (grCells v) = _; unfold grCells; rw [hd, hp]
  exact ⟨h.cell (i := 0) hx rfl, h.cell (i := 1) hx rfl, h.cell (i := 2) hx rfl, h.cell (i := 3) hx rfl, h.cell (i := 4) hx rfl, h.cell (i := 5) hx rfl, h.cell (i := 6) hx rfl, h.cell (i := 7) hx rfl, h.cell (i := 8) hx rfl, h.cell (i := 9) hx rfl, h.cell (i := 10) hx rfl, h.cell (i := 11) hx rfl, h.cell (i := 12) hx rfl, h.cell (i := 13) hx rfl, h.cell (i := 14) hx rfl, h.cell (i := 15) hx rfl⟩
set_option maxRecDepth 100000 in
set_option maxHeartbeats 4000000 in
theorem told_none (gv : Value) (i : Int) (hi : i < 0) (w : World) :
    Calls Try.prog 44 #[gv, .int .i64 i] w fun e w' => e = .returned (.tuple #[.agg (grCells zeroV).toArray, .bool false]) ∧ Below w.heap.size w w' := by
  have hb0 : Below w.heap.size w (w.alloc (.cells #[.bool false, .string ⟨#[]⟩, .int .i64 0, .bool false, .string ⟨#[]⟩, .string ⟨#[]⟩, .int .i64 0, .string ⟨#[]⟩, .string ⟨#[]⟩, .string ⟨#[]⟩, .bool false, .string ⟨#[]⟩, .bool false, .slice none 0 0, .int .i64 0, .slice none 0 0] 36)) := (Below.refl _ _).alloc (Nat.le_refl _) _
  have hn0 := heap_alloc_new w (.cells #[.bool false, .string ⟨#[]⟩, .int .i64 0, .bool false, .string ⟨#[]⟩, .string ⟨#[]⟩, .int .i64 0, .string ⟨#[]⟩, .string ⟨#[]⟩, .string ⟨#[]⟩, .bool false, .string ⟨#[]⟩, .bool false, .slice none 0 0, .int .i64 0, .slice none 0 0] 36)
  have HW : Hid (Below w.heap.size w (w.alloc (.cells #[.bool false, .string ⟨#[]⟩, .int .i64 0, .bool false, .string ⟨#[]⟩, .string ⟨#[]⟩, .int .i64 0, .string ⟨#[]⟩, .string ⟨#[]⟩, .string ⟨#[]⟩, .bool false, .string ⟨#[]⟩, .bool false, .slice none 0 0, .int .i64 0, .slice none 0 0] 36)) ∧ (w.alloc (.cells #[.bool false, .string ⟨#[]⟩, .int .i64 0, .bool false, .string ⟨#[]⟩, .string ⟨#[]⟩, .int .i64 0, .string ⟨#[]⟩, .string ⟨#[]⟩, .string ⟨#[]⟩, .bool false, .string ⟨#[]⟩, .bool false, .slice none 0 0, .int .i64 0, .slice none 0 0] 36)).heap[w.heap.size]? = some (.cells #[.bool false, .string ⟨#[]⟩, .int .i64 0, .bool false, .string ⟨#[]⟩, .string ⟨#[]⟩, .int .i64 0, .string ⟨#[]⟩, .string ⟨#[]⟩, .string ⟨#[]⟩, .bool false, .string ⟨#[]⟩, .bool false, .slice none 0 0, .int .i64 0, .slice none 0 0] 36 (0, 0))) := ⟨hb0, hn0⟩
  clear hb0 hn0
  go_enter Try.func44, Try.ntmps44
  go_wp2_with fail
  first
    | exact bodyPost_ret (v := .tuple #[.agg (grCells zeroV).toArray, .bool false]) (res_cell_tmp (vs := grCells zeroV) rfl rfl rfl Try.isAgg36 Try.sizeOf36 rfl HW.out.2) rfl ⟨rfl, HW.out.1⟩
    | (obtain ⟨z1, z2⟩ := setAll [.bool false, .string ⟨#[]⟩, .int .i64 0, .bool false, .string ⟨#[]⟩, .string ⟨#[]⟩, .int .i64 0, .string ⟨#[]⟩, .string ⟨#[]⟩, .string ⟨#[]⟩, .bool false, .string ⟨#[]⟩, .bool false, .slice none 0 0, .int .i64 0, .slice none 0 0] HW.out.2 rfl
       simp only [World.setCells, Nat.reduceAdd] at z1 z2
       exact bodyPost_ret (v := .tuple #[.agg (grCells zeroV).toArray, .bool false]) (res_cell_tmp (vs := grCells zeroV) rfl rfl rfl Try.isAgg36 Try.sizeOf36 rfl z1) rfl ⟨rfl, HW.out.1.grown z2 HW.out.1.size (fun i hi => by injection hi with hi; omega)⟩)
set_option maxRecDepth 100000 in
set_option maxHeartbeats 4000000 in
theorem told_some (g n cap B i : Nat) (G : List GrV) (v : GrV) (hi : G[i]? = some v) (hn : G.length = n) (hl : n ≤ 8) (hfit : GrFit v.g) (w : World) (hown : OwnK 16 36 w B (.slice (some ⟨g, 0, none⟩) n cap) (G.map grCells)) (hv : GrOwn w B v) :
    Calls Try.prog 44 #[.slice (some ⟨g, 0, none⟩) n cap, .int .i64 i] w fun e w' => (∃ x : GrV, e = .returned (.tuple #[.agg (grCells x).toArray, .bool true]) ∧ x.g = v.g ∧ GrOwn w' w.heap.size x) ∧ Below w.heap.size w w' := by
  obtain ⟨da, dc, dg, hdv, hds⟩ := hv.dom.strs
  obtain ⟨pa, pc, pg, hpv, hps⟩ := hv.paths.strs
  obtain ⟨dn, HDN⟩ : ∃ dn, Hid (v.g.ask.dom.length = dn) := ⟨_, rfl⟩
  obtain ⟨pn, HPN⟩ : ∃ pn, Hid (v.g.paths.length = pn) := ⟨_, rfl⟩
  rw [HDN.out] at hdv hds
  rw [HPN.out] at hpv hps
  have hin : i < n := by rw [← hn]; exact (List.getElem?_eq_some_iff.1 hi).1
  have hcells := row16 hown hi hdv hpv
  have hbR : Below w.heap.size w (w.alloc (.cells #[.bool false, .string ⟨#[]⟩, .int .i64 0, .bool false, .string ⟨#[]⟩, .string ⟨#[]⟩, .int .i64 0, .string ⟨#[]⟩, .string ⟨#[]⟩, .string ⟨#[]⟩, .bool false, .string ⟨#[]⟩, .bool false, .slice none 0 0, .int .i64 0, .slice none 0 0] 36)) := (Below.refl _ _).alloc (Nat.le_refl _) _
  have hown2 := hown.below hbR
  have hnR := heap_alloc_new w (.cells #[.bool false, .string ⟨#[]⟩, .int .i64 0, .bool false, .string ⟨#[]⟩, .string ⟨#[]⟩, .int .i64 0, .string ⟨#[]⟩, .string ⟨#[]⟩, .string ⟨#[]⟩, .bool false, .string ⟨#[]⟩, .bool false, .slice none 0 0, .int .i64 0, .slice none 0 0] 36)
  have HW : Hid (Below w.heap.size w (w.alloc (.cells #[.bool false, .string ⟨#[]⟩, .int .i64 0, .bool false, .string ⟨#[]⟩, .string ⟨#[]⟩, .int .i64 0, .string ⟨#[]⟩, .string ⟨#[]⟩, .string ⟨#[]⟩, .bool false, .string ⟨#[]⟩, .bool false, .slice none 0 0, .int .i64 0, .slice none 0 0] 36)) ∧ (w.alloc (.cells #[.bool false, .string ⟨#[]⟩, .int .i64 0, .bool false, .string ⟨#[]⟩, .string ⟨#[]⟩, .int .i64 0, .string ⟨#[]⟩, .string ⟨#[]⟩, .string ⟨#[]⟩, .bool false, .string ⟨#[]⟩, .bool false, .slice none 0 0, .int .i64 0, .slice none 0 0] 36)).heap[w.heap.size]? = some (.cells #[.bool false, .string ⟨#[]⟩, .int .i64 0, .bool false, .string ⟨#[]⟩, .string ⟨#[]⟩, .int .i64 0, .string ⟨#[]⟩, .string ⟨#[]⟩, .string ⟨#[]⟩, .bool false, .string ⟨#[]⟩, .bool false, .slice none 0 0, .int .i64 0, .slice none 0 0] 36 (0, 0)) ∧ Strs (w.alloc (.cells #[.bool false, .string ⟨#[]⟩, .int .i64 0, .bool false, .string ⟨#[]⟩, .string ⟨#[]⟩, .int .i64 0, .string ⟨#[]⟩, .string ⟨#[]⟩, .string ⟨#[]⟩, .bool false, .string ⟨#[]⟩, .bool false, .slice none 0 0, .int .i64 0, .slice none 0 0] 36)) da dn dg 0 v.g.ask.dom ∧ Strs (w.alloc (.cells #[.bool false, .string ⟨#[]⟩, .int .i64 0, .bool false, .string ⟨#[]⟩, .string ⟨#[]⟩, .int .i64 0, .string ⟨#[]⟩, .string ⟨#[]⟩, .string ⟨#[]⟩, .bool false, .string ⟨#[]⟩, .bool false, .slice none 0 0, .int .i64 0, .slice none 0 0] 36)) pa pn pg 0 v.g.paths ∧ GrFit v.g) := ⟨hbR, hnR, hds.below hbR, hps.below hbR, hfit⟩
  have hcells2 := row16 hown2 hi hdv hpv
  obtain ⟨c0, c1, c2, c3, c4, c5, c6, c7, c8, c9, c10, c11, c12, c13, c14, c15⟩ := hcells2
  have hglt : g < w.heap.size := by
    rcases hown.forms with ⟨e, _⟩ | ⟨g', cap', e, _, h1, _, _⟩
    · cases e
    · injection e with e1 _ _
      injection e1 with e1
      injection e1 with e1
      omega
  have hi' : (i : Int) < (n : Int) := by omega
  have hi0 : ¬ (i : Int) < 0 := by omega
  clear hcells hbR hown hown2 hnR hds hps hfit hv hdv hpv hi hn
  generalize hWR : w.alloc (.cells #[.bool false, .string ⟨#[]⟩, .int .i64 0, .bool false, .string ⟨#[]⟩, .string ⟨#[]⟩, .int .i64 0, .string ⟨#[]⟩, .string ⟨#[]⟩, .string ⟨#[]⟩, .bool false, .string ⟨#[]⟩, .bool false, .slice none 0 0, .int .i64 0, .slice none 0 0] 36) = WR at c0 c1 c2 c3 c4 c5 c6 c7 c8 c9 c10 c11 c12 c13 c14 c15 HW
  go_enter Try.func44, Try.ntmps44
  go_wp2_with fail
  refine (freshG_at v.g HW.out.2.2.2.2 da pa dn dc pn pc dg 0 pg 0 _ HW.out.2.2.1 HW.out.2.2.2.1).mono ?_
  rintro e w2 ⟨⟨vv, uu, rfl, hvv, huu⟩, hb2⟩
  obtain ⟨va, vc, vg, rfl, _⟩ := hvv.strs
  obtain ⟨vn, HVN⟩ : ∃ vn, Hid (v.g.ask.dom.length = vn) := ⟨_, rfl⟩
  rw [HVN.out] at hvv ⊢
  obtain ⟨ua, uc, ug, rfl, _⟩ := huu.strs
  obtain ⟨un, HUN⟩ : ∃ un, Hid (v.g.paths.length = un) := ⟨_, rfl⟩
  rw [HUN.out] at huu ⊢
  have HF : Hid (Below w.heap.size w w2 ∧ w2.heap[w.heap.size]? = some (.cells #[.bool false, .string ⟨#[]⟩, .int .i64 0, .bool false, .string ⟨#[]⟩, .string ⟨#[]⟩, .int .i64 0, .string ⟨#[]⟩, .string ⟨#[]⟩, .string ⟨#[]⟩, .bool false, .string ⟨#[]⟩, .bool false, .slice none 0 0, .int .i64 0, .slice none 0 0] 36 (0, 0)) ∧ OwnS w2 WR.heap.size (.slice va vn vc) v.g.ask.dom ∧ OwnS w2 WR.heap.size (.slice ua un uc) v.g.paths ∧ w.heap.size < WR.heap.size) := ⟨HW.out.1.trans (hb2.mono HW.out.1.size), (hb2.block _ (Array.getElem?_eq_some_iff.1 HW.out.2.1).1).trans HW.out.2.1, hvv, huu, (Array.getElem?_eq_some_iff.1 HW.out.2.1).1⟩
  have d0 : w2.cell? ⟨w.heap.size, 0, none⟩ = some (.bool false) := cell_of HF.out.2.1
  have d1 : w2.cell? ⟨w.heap.size, 1, none⟩ = some (.string ⟨#[]⟩) := cell_of HF.out.2.1
  have d2 : w2.cell? ⟨w.heap.size, 2, none⟩ = some (.int .i64 0) := cell_of HF.out.2.1
  have d3 : w2.cell? ⟨w.heap.size, 3, none⟩ = some (.bool false) := cell_of HF.out.2.1
  have d4 : w2.cell? ⟨w.heap.size, 4, none⟩ = some (.string ⟨#[]⟩) := cell_of HF.out.2.1
  have d5 : w2.cell? ⟨w.heap.size, 5, none⟩ = some (.string ⟨#[]⟩) := cell_of HF.out.2.1
  have d6 : w2.cell? ⟨w.heap.size, 6, none⟩ = some (.int .i64 0) := cell_of HF.out.2.1
  have d7 : w2.cell? ⟨w.heap.size, 7, none⟩ = some (.string ⟨#[]⟩) := cell_of HF.out.2.1
  have d8 : w2.cell? ⟨w.heap.size, 8, none⟩ = some (.string ⟨#[]⟩) := cell_of HF.out.2.1
  have d9 : w2.cell? ⟨w.heap.size, 9, none⟩ = some (.string ⟨#[]⟩) := cell_of HF.out.2.1
  have d10 : w2.cell? ⟨w.heap.size, 10, none⟩ = some (.bool false) := cell_of HF.out.2.1
  have d11 : w2.cell? ⟨w.heap.size, 11, none⟩ = some (.string ⟨#[]⟩) := cell_of HF.out.2.1
  have d12 : w2.cell? ⟨w.heap.size, 12, none⟩ = some (.bool false) := cell_of HF.out.2.1
  have d13 : w2.cell? ⟨w.heap.size, 13, none⟩ = some (.slice none 0 0) := cell_of HF.out.2.1
  have d14 : w2.cell? ⟨w.heap.size, 14, none⟩ = some (.int .i64 0) := cell_of HF.out.2.1
  have d15 : w2.cell? ⟨w.heap.size, 15, none⟩ = some (.slice none 0 0) := cell_of HF.out.2.1
  have fr := free_of HF.out.2.1
  clear hb2 hvv huu c0 c1 c2 c3 c4 c5 c6 c7 c8 c9 c10 c11 c12 c13 c14 c15 HW
  go_wp2_with fail
  obtain ⟨z1, z2⟩ := setAll [.bool v.g.org.sec, .string v.g.org.host, .int .i64 v.g.org.port, .bool v.g.proxy, .string v.g.user, .string v.g.pass, .int .i64 v.g.ask.sch, .string v.g.ask.realm, .string v.g.ask.nonce, .string v.g.ask.opq, .bool v.g.ask.sess, .string v.g.ask.qop, .bool v.g.ask.stale, .slice va vn vc, .int .i64 v.g.count, .slice ua un uc] HF.out.2.1 rfl
  simp only [World.setCells, Nat.reduceAdd] at z1 z2
  clear d0 d1 d2 d3 d4 d5 d6 d7 d8 d9 d10 d11 d12 d13 d14 d15 fr
  refine bodyPost_ret (v := .tuple #[.agg (grCells ⟨v.g, .slice va vn vc, .slice ua un uc⟩).toArray, .bool true]) (res_cell_tmp (vs := grCells ⟨v.g, .slice va vn vc, .slice ua un uc⟩) rfl rfl rfl Try.isAgg36 Try.sizeOf36 rfl z1) rfl ?_
  have hs := HF.out.2.2.2.2
  exact ⟨⟨⟨v.g, .slice va vn vc, .slice ua un uc⟩, rfl, rfl, ⟨ownS_mono (HF.out.2.2.1.grown z2 hs) (by omega), ownS_mono (HF.out.2.2.2.1.grown z2 hs) (by omega)⟩⟩, HF.out.1.grown z2 HF.out.1.size (fun i hi => by injection hi with hi; omega)⟩
end Go.Proofs.Ytjadmldnpdmamaa
