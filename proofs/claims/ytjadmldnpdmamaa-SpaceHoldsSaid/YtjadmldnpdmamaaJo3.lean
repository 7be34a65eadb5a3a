/- Texts of one claim, joined: each begins with what it proves. -/
import Derived.Test.YtjadmldnpdmamaaJo1
import Derived.Test.YtjadmldnpdmamaaJo2
import Derived.Deep.RegionHeld3
import Derived.Shelf.Strings.LastIndex
import Derived.ProofKit
import Derived.OpenShut
import Derived.Carry
import Derived.SizedLaws
import Derived.Deep.Slices
import Derived.Deep.Strs
import Derived.Lib.SmallJoins
/- A region driven by hand: an operation taken first. -/
namespace Go.Proofs.Ytjadmldnpdmamaa
open Go.RowKit

section
variable {P : Program} {ops : Array Oper} {Q : Exit → Act → World → Prop} {md : Region.Mode} {S : World → Prop}
theorem takeH {i : Nat} {oi : Oper} {d : Option Tmp} {v : Value} {fuel : Nat} {listed : Array Bool} {a : Act} {w : World} (hi : ops[i]? = some oi) (hd : oi.dst = d)
    (hs : Region.noSelect ops = true) (hf : Region.free md ops listed i = true) (hr : (Region.ready md ops listed).contains i = true)
    (hQ : ∀ c a w, Q (.panic c) (a.put oi.dst v) w → Q (.panic c) a w) (hw : Region.wanted oi (yielded ops a.tmps) = true) (hy : ∀ w, S w → (execOp a.eval oi).run P w = .ok (.value v) w) (hS : S w)
    (h : wpAnyH P md ops Q S fuel (listed.setIfInBounds i true) (a.put d v) w) : wpAnyH P md ops Q S (fuel + 1) listed a w := by
  subst hd
  exact wpAnyH_take hi hs hf hr hQ (Or.inl ⟨hw, hy⟩) hS h
theorem skipH {i : Nat} {oi : Oper} {d : Option Tmp} {fuel : Nat} {listed : Array Bool} {a : Act} {w : World} (hi : ops[i]? = some oi) (hd : oi.dst = d)
    (hs : Region.noSelect ops = true) (hf : Region.free md ops listed i = true) (hr : (Region.ready md ops listed).contains i = true)
    (hQ : ∀ c a w, Q (.panic c) (a.put oi.dst undef) w → Q (.panic c) a w) (hw : Region.wanted oi (yielded ops a.tmps) = false) (hS : S w)
    (h : wpAnyH P md ops Q S fuel (listed.setIfInBounds i true) (a.put d undef) w) : wpAnyH P md ops Q S (fuel + 1) listed a w := by
  subst hd
  exact wpAnyH_take hi hs hf hr hQ (Or.inr ⟨hw, rfl⟩) hS h
end
end Go.Proofs.Ytjadmldnpdmamaa

/- A bank keeps a grant. -/
namespace Go.Proofs.Ytjadmldnpdmamaa
open Go.RowKit
set_option linter.unusedVariables false


theorem facts16 {W : World} {b : Nat} {g : GrP} {da pa : Option Addr} {dl dc pl pc : Nat} (h : W.heap[b]? = some (.cells #[.bool g.org.sec, .string g.org.host, .int .i64 g.org.port, .bool g.proxy, .string g.user, .string g.pass, .int .i64 g.ask.sch, .string g.ask.realm, .string g.ask.nonce, .string g.ask.opq, .bool g.ask.sess, .string g.ask.qop, .bool g.ask.stale, .slice da dl dc, .int .i64 g.count, .slice pa pl pc] 36 (0, 0))) :
    W.cell? ⟨b, 0, none⟩ = some (.bool g.org.sec) ∧ W.cell? ⟨b, 1, none⟩ = some (.string g.org.host) ∧ W.cell? ⟨b, 2, none⟩ = some (.int .i64 g.org.port) ∧ W.cell? ⟨b, 3, none⟩ = some (.bool g.proxy) ∧ W.cell? ⟨b, 4, none⟩ = some (.string g.user) ∧ W.cell? ⟨b, 5, none⟩ = some (.string g.pass) ∧ W.cell? ⟨b, 6, none⟩ = some (.int .i64 g.ask.sch) ∧ W.cell? ⟨b, 7, none⟩ = some (.string g.ask.realm) ∧ W.cell? ⟨b, 8, none⟩ = some (.string g.ask.nonce) ∧ W.cell? ⟨b, 9, none⟩ = some (.string g.ask.opq) ∧ W.cell? ⟨b, 10, none⟩ = some (.bool g.ask.sess) ∧ W.cell? ⟨b, 11, none⟩ = some (.string g.ask.qop) ∧ W.cell? ⟨b, 12, none⟩ = some (.bool g.ask.stale) ∧ W.cell? ⟨b, 13, none⟩ = some (.slice da dl dc) ∧ W.cell? ⟨b, 14, none⟩ = some (.int .i64 g.count) ∧ W.cell? ⟨b, 15, none⟩ = some (.slice pa pl pc) := ⟨(cell_of (i := 0) h).trans rfl, (cell_of (i := 1) h).trans rfl, (cell_of (i := 2) h).trans rfl, (cell_of (i := 3) h).trans rfl, (cell_of (i := 4) h).trans rfl, (cell_of (i := 5) h).trans rfl, (cell_of (i := 6) h).trans rfl, (cell_of (i := 7) h).trans rfl, (cell_of (i := 8) h).trans rfl, (cell_of (i := 9) h).trans rfl, (cell_of (i := 10) h).trans rfl, (cell_of (i := 11) h).trans rfl, (cell_of (i := 12) h).trans rfl, (cell_of (i := 13) h).trans rfl, (cell_of (i := 14) h).trans rfl, (cell_of (i := 15) h).trans rfl⟩
/-- Where a grant was cloned. -/
structure PutA (w w0 w1 : World) (B b : Nat) (gv wv : Value) (G : List GrV) (V : List WtV) (g : GrP) (v u : Value) (box : Array Value) : Prop where
  bank : BankW w1 B b gv wv G V
  old : BankW w B b gv wv G V
  bel : Below w.heap.size w w1
  own : GrOwn w1 w.heap.size ⟨g, v, u⟩
  box : w1.heap[w.heap.size]? = some (.cells box 36 (0, 0))
  low : B ≤ w.heap.size
theorem putA_of {w w0 w1 : World} {B b : Nat} {gv wv : Value} {G : List GrV} {V : List WtV} {g : GrP} {v u : Value} {box : Array Value} (h : BankW w B b gv wv G V ∧ B ≤ w.heap.size) (hb0 : Below w.heap.size w w0) (hx : w0.heap[w.heap.size]? = some (.cells box 36 (0, 0))) (hb1 : Below w0.heap.size w0 w1) (hv : OwnS w1 w0.heap.size v g.ask.dom) (hu : OwnS w1 w0.heap.size u g.paths) : PutA w w0 w1 B b gv wv G V g v u box :=
  have hb := hb0.trans (hb1.mono hb0.size)
  ⟨h.1.below hb, h.1, hb, ⟨ownS_mono hv hb0.size, ownS_mono hu hb0.size⟩, (hb1.block _ (Array.getElem?_eq_some_iff.1 hx).1).trans hx, h.2⟩
theorem putA_below {w w0 w1 w2 : World} {B b : Nat} {gv wv : Value} {G : List GrV} {V : List WtV} {g : GrP} {v u : Value} {box : Array Value} (h : PutA w w0 w1 B b gv wv G V g v u box) (hb : Below w1.heap.size w1 w2) : PutA w w0 w2 B b gv wv G V g v u box :=
  ⟨h.bank.below hb, h.old, h.bel.trans (hb.mono h.bel.size), h.own.below hb, (hb.block _ (Array.getElem?_eq_some_iff.1 h.box).1).trans h.box, h.low⟩
theorem realm_pred {w : World} {val : Value} {G : List GrV} {B a b c : Nat} {o : OrgV} {p : Bool} {r : ByteArray} (hown : OwnK 16 36 w B val (G.map grCells)) (h3 : Box3 w a b c o p r) :
    PredK Try.prog 64 #[.pointer (some ⟨a, 0, none⟩), .pointer (some ⟨b, 0, none⟩), .pointer (some ⟨c, 0, none⟩)] (onG (fun o' p' r' => orgB o' o && (p' == p && r'.toList == r.toList))) (G.map grCells) w val.ownBlock := by
  intro W x hx hg
  obtain ⟨v, hv, rfl⟩ := List.mem_map.1 hx
  have ht := hown.typed
  exact grantIs_any v (hown.one _ hx) o p r a b c W ⟨block_other h3.org hg ht (by decide), block_other h3.prx hg ht (by decide), block_other h3.txt hg ht (by decide)⟩
theorem filt_map (q : OrgV → Bool → ByteArray → Bool) (G : List GrV) : (G.map grCells).filter (fun y => !onG q y) = (G.filter (fun v => !q v.g.org v.g.proxy v.g.ask.realm)).map grCells := by
  rw [List.filter_map]
  rfl
theorem last8_mem {α : Type} {l : List α} {x : α} (h : x ∈ last8 l) : x ∈ l := List.mem_of_mem_drop h
theorem last8_len {α : Type} (l : List α) : (last8 l).length ≤ 8 := by unfold last8; rw [List.length_drop]; omega
theorem last8_pos {α : Type} (l : List α) (h : 0 < l.length) : 0 < (last8 l).length := by unfold last8; rw [List.length_drop]; omega
/-- The grant among the others. -/
theorem put_ren {w w0 w2 : World} {B b a1 b1 c1 : Nat} {gv wv : Value} {G : List GrV} {V : List WtV} (g : GrP) (hg : GrFit g) (v u : Value) {box : Array Value} (h : PutA w w0 w2 B b gv wv G V g v u box) (h3 : Box3 w2 a1 b1 c1 g.org g.proxy g.ask.realm) :
    Calls Try.prog 52 #[gv, .agg #[.bool g.org.sec, .string g.org.host, .int .i64 g.org.port, .bool g.proxy, .string g.user, .string g.pass, .int .i64 g.ask.sch, .string g.ask.realm, .string g.ask.nonce, .string g.ask.opq, .bool g.ask.sess, .string g.ask.qop, .bool g.ask.stale, v, .int .i64 g.count, u], .func (.func 64) #[] #[.pointer (some ⟨a1, 0, none⟩), .pointer (some ⟨b1, 0, none⟩), .pointer (some ⟨c1, 0, none⟩)]] w2 fun e w3 => ∃ g3 n3 c3, e = .returned (.slice (some ⟨g3, 0, none⟩) n3 c3) ∧ Hid (0 < n3 ∧ w3.heap[w.heap.size]? = some (.cells box 36 (0, 0)) ∧ w3.heap[b]? = some (.cells #[gv, wv] 52 (0, 0)) ∧ (w3.setCell ⟨b, 0, none⟩ (.slice (some ⟨g3, 0, none⟩) n3 c3)).heap[w.heap.size]? = some (.cells box 36 (0, 0)) ∧
      ∃ gv' G', Hid (BankW (w3.setCell ⟨b, 0, none⟩ (.slice (some ⟨g3, 0, none⟩) n3 c3)) B b gv' wv G' V ∧ G'.map (·.g) = putL (G.map (·.g)) g ∧ BankStep b gv wv w (w3.setCell ⟨b, 0, none⟩ (.slice (some ⟨g3, 0, none⟩) n3 c3)) gv' wv)) := by
  have hlow := h.low
  have hbs := h.bel.size
  refine (renG_any gv (G.map grCells) B (by rw [List.length_map]; have := h.bank.glen; omega) w2 (by omega) h.bank.gs ⟨g, v, u⟩ h.own.one _ _ _ (enters_at Try.func64 (by kernel_rfl) rfl) (realm_pred h.bank.gs h3)).mono ?_
  rintro e w3 ⟨u3, rfl, H⟩
  obtain ⟨hown, hgr, hnew⟩ := H.out
  rw [filt_map, show [grCells ⟨g, v, u⟩] = [(⟨g, v, u⟩ : GrV)].map grCells from rfl, ← List.map_append, ← last8_map] at hown
  have hbox : w3.heap[w.heap.size]? = some (.cells box 36 (0, 0)) := by
    refine (hgr.block _ (Array.getElem?_eq_some_iff.1 h.box).1 (fun e => ?_)).trans h.box
    have := (h.old.gs.lt _ e.symm).2
    omega
  have hblk := block_other h.bank.blk hgr h.bank.gs.typed (by decide)
  have hne : w.heap.size ≠ b := fun e => by
    have h1 := h.old.blk
    rw [← e, Array.getElem?_eq_none (Nat.le_refl _)] at h1
    cases h1
  rcases hown.forms with ⟨_, e2⟩ | ⟨g3, c3, rfl, _, _, _, _⟩
  · exfalso
    have := congrArg List.length e2
    rw [List.length_map, List.length_nil] at this
    have h8 := last8_pos (G.filter (fun v => !(orgB v.g.org g.org && (v.g.proxy == g.proxy && v.g.ask.realm.toList == g.ask.realm.toList))) ++ [(⟨g, v, u⟩ : GrV)]) (by simp)
    omega
  · obtain ⟨hW, hS⟩ := bank_grants h.old h.bel hgr hown (fun k hk => (hnew k hk).imp id (fun h => h)) (fun x hx => by
      rcases List.mem_append.1 (last8_mem hx) with hx | hx
      · have := (List.mem_filter.1 hx).1
        exact ⟨.inl this, h.old.gf x this⟩
      · rw [List.mem_singleton.1 hx]
        exact ⟨.inr (h.own.mono hlow), hg⟩) (last8_len _)
    refine ⟨g3, _, c3, rfl, ⟨?_, hbox, hblk, ?_, _, _, ⟨hW, ?_, hS⟩⟩⟩
    · rw [List.length_map]
      exact last8_pos _ (by simp)
    · exact (Below.heap_setCell w3 ⟨b, 0, none⟩ _ w.heap.size hne).trans hbox
    · unfold putL
      rw [last8_map, List.map_append, List.filter_map]
      rfl

set_option maxRecDepth 100000 in
set_option maxHeartbeats 4000000 in
theorem put_at (g : GrP) (hg : GrFit g) (da pa : Option Addr) (dl dc pl pc db doff pb poff : Nat) (w : World) (hd : Strs w da dl db doff g.ask.dom) (hp : Strs w pa pl pb poff g.paths)
    (B b : Nat) (gv wv : Value) (G : List GrV) (V : List WtV) (hB : BankW w B b gv wv G V) (hB2 : B ≤ w.heap.size) :
    Calls Try.prog 25 #[.pointer (some ⟨b, 0, none⟩), .agg #[.bool g.org.sec, .string g.org.host, .int .i64 g.org.port, .bool g.proxy, .string g.user, .string g.pass, .int .i64 g.ask.sch, .string g.ask.realm, .string g.ask.nonce, .string g.ask.opq, .bool g.ask.sess, .string g.ask.qop, .bool g.ask.stale, .slice da dl dc, .int .i64 g.count, .slice pa pl pc]] w fun e w' => e = .returned (.tuple #[]) ∧ ∃ gv' G', Hid (BankW w' B b gv' wv G' V ∧ G'.map (·.g) = putL (G.map (·.g)) g ∧ BankStep b gv wv w w' gv' wv) := by
  have HD : Hid (Strs w da dl db doff g.ask.dom ∧ Strs w pa pl pb poff g.paths ∧ GrFit g) := ⟨hd, hp, hg⟩
  have HK : Hid (BankW w B b gv wv G V ∧ B ≤ w.heap.size) := ⟨hB, hB2⟩
  have hb0 : Below w.heap.size w (w.alloc (.cells #[.bool g.org.sec, .string g.org.host, .int .i64 g.org.port, .bool g.proxy, .string g.user, .string g.pass, .int .i64 g.ask.sch, .string g.ask.realm, .string g.ask.nonce, .string g.ask.opq, .bool g.ask.sess, .string g.ask.qop, .bool g.ask.stale, .slice da dl dc, .int .i64 g.count, .slice pa pl pc] 36)) := (Below.refl _ _).alloc (Nat.le_refl _) _
  have hn0 := heap_alloc_new w (.cells #[.bool g.org.sec, .string g.org.host, .int .i64 g.org.port, .bool g.proxy, .string g.user, .string g.pass, .int .i64 g.ask.sch, .string g.ask.realm, .string g.ask.nonce, .string g.ask.opq, .bool g.ask.sess, .string g.ask.qop, .bool g.ask.stale, .slice da dl dc, .int .i64 g.count, .slice pa pl pc] 36)
  have HB0 : Hid (Below w.heap.size w (w.alloc (.cells #[.bool g.org.sec, .string g.org.host, .int .i64 g.org.port, .bool g.proxy, .string g.user, .string g.pass, .int .i64 g.ask.sch, .string g.ask.realm, .string g.ask.nonce, .string g.ask.opq, .bool g.ask.sess, .string g.ask.qop, .bool g.ask.stale, .slice da dl dc, .int .i64 g.count, .slice pa pl pc] 36)).drew ∧ (w.alloc (.cells #[.bool g.org.sec, .string g.org.host, .int .i64 g.org.port, .bool g.proxy, .string g.user, .string g.pass, .int .i64 g.ask.sch, .string g.ask.realm, .string g.ask.nonce, .string g.ask.opq, .bool g.ask.sess, .string g.ask.qop, .bool g.ask.stale, .slice da dl dc, .int .i64 g.count, .slice pa pl pc] 36)).drew.heap[w.heap.size]? = some (.cells #[.bool g.org.sec, .string g.org.host, .int .i64 g.org.port, .bool g.proxy, .string g.user, .string g.pass, .int .i64 g.ask.sch, .string g.ask.realm, .string g.ask.nonce, .string g.ask.opq, .bool g.ask.sess, .string g.ask.qop, .bool g.ask.stale, .slice da dl dc, .int .i64 g.count, .slice pa pl pc] 36 (0, 0))) := ⟨hb0.drew, hn0⟩
  clear hd hp hg hB hB2 hb0 hn0
  go_enter Try.func25, Try.ntmps25
  go_wp2_with fail
  refine wp_region_held_drew (S := fun W => W.cell? ⟨w.heap.size, 0, none⟩ = some (.bool g.org.sec) ∧ W.cell? ⟨w.heap.size, 1, none⟩ = some (.string g.org.host) ∧ W.cell? ⟨w.heap.size, 2, none⟩ = some (.int .i64 g.org.port) ∧ W.cell? ⟨w.heap.size, 3, none⟩ = some (.bool g.proxy) ∧ W.cell? ⟨w.heap.size, 4, none⟩ = some (.string g.user) ∧ W.cell? ⟨w.heap.size, 5, none⟩ = some (.string g.pass) ∧ W.cell? ⟨w.heap.size, 6, none⟩ = some (.int .i64 g.ask.sch) ∧ W.cell? ⟨w.heap.size, 7, none⟩ = some (.string g.ask.realm) ∧ W.cell? ⟨w.heap.size, 8, none⟩ = some (.string g.ask.nonce) ∧ W.cell? ⟨w.heap.size, 9, none⟩ = some (.string g.ask.opq) ∧ W.cell? ⟨w.heap.size, 10, none⟩ = some (.bool g.ask.sess) ∧ W.cell? ⟨w.heap.size, 11, none⟩ = some (.string g.ask.qop) ∧ W.cell? ⟨w.heap.size, 12, none⟩ = some (.bool g.ask.stale) ∧ W.cell? ⟨w.heap.size, 13, none⟩ = some (.slice da dl dc) ∧ W.cell? ⟨w.heap.size, 14, none⟩ = some (.int .i64 g.count) ∧ W.cell? ⟨w.heap.size, 15, none⟩ = some (.slice pa pl pc)) (by kernel_rfl) (facts16 HB0.out.2) (fun hHeld => ?_)
  refine takeH (i := 0) (d := some 4) (v := ?_) rfl rfl (by kernel_rfl) (by kernel_rfl) (by kernel_rfl) (fun _ _ _ h => h) (by rfl) ?_ (by assumption) ?_
  rotate_left
  · intro w hSw; (try dsimp only at hSw); go_simp; with_reducible rfl
  try simp only [Act.put, List.setIfInBounds_toArray, List.set_cons_zero, List.set_cons_succ]
  refine takeH (i := 1) (d := some 5) (v := ?_) rfl rfl (by kernel_rfl) (by kernel_rfl) (by kernel_rfl) (fun _ _ _ h => h) (by rfl) ?_ (by assumption) ?_
  rotate_left
  · intro w hSw; (try dsimp only at hSw); go_simp; with_reducible rfl
  try simp only [Act.put, List.setIfInBounds_toArray, List.set_cons_zero, List.set_cons_succ]
  refine takeH (i := 2) (d := some 6) (v := ?_) rfl rfl (by kernel_rfl) (by kernel_rfl) (by kernel_rfl) (fun _ _ _ h => h) (by rfl) ?_ (by assumption) ?_
  rotate_left
  · intro w hSw; (try dsimp only at hSw); go_simp; with_reducible rfl
  try simp only [Act.put, List.setIfInBounds_toArray, List.set_cons_zero, List.set_cons_succ]
  refine takeH (i := 3) (d := some 7) (v := ?_) rfl rfl (by kernel_rfl) (by kernel_rfl) (by kernel_rfl) (fun _ _ _ h => h) (by rfl) ?_ (by assumption) ?_
  rotate_left
  · intro w hSw; (try dsimp only at hSw); go_simp; with_reducible rfl
  try simp only [Act.put, List.setIfInBounds_toArray, List.set_cons_zero, List.set_cons_succ]
  refine takeH (i := 5) (d := some 9) (v := ?_) rfl rfl (by kernel_rfl) (by kernel_rfl) (by kernel_rfl) (fun _ _ _ h => h) (by rfl) ?_ (by assumption) ?_
  rotate_left
  · intro w hSw; (try dsimp only at hSw); go_simp; with_reducible rfl
  try simp only [Act.put, List.setIfInBounds_toArray, List.set_cons_zero, List.set_cons_succ]
  refine takeH (i := 7) (d := some 11) (v := ?_) rfl rfl (by kernel_rfl) (by kernel_rfl) (by kernel_rfl) (fun _ _ _ h => h) (by rfl) ?_ (by assumption) ?_
  rotate_left
  · intro w hSw; (try dsimp only at hSw); go_simp; with_reducible rfl
  try simp only [Act.put, List.setIfInBounds_toArray, List.set_cons_zero, List.set_cons_succ]
  refine takeH (i := 8) (d := some 12) (v := ?_) rfl rfl (by kernel_rfl) (by kernel_rfl) (by kernel_rfl) (fun _ _ _ h => h) (by rfl) ?_ (by assumption) ?_
  rotate_left
  · intro w hSw; (try dsimp only at hSw); go_simp; with_reducible rfl
  try simp only [Act.put, List.setIfInBounds_toArray, List.set_cons_zero, List.set_cons_succ]
  refine takeH (i := 9) (d := some 13) (v := ?_) rfl rfl (by kernel_rfl) (by kernel_rfl) (by kernel_rfl) (fun _ _ _ h => h) (by rfl) ?_ (by assumption) ?_
  rotate_left
  · intro w hSw; (try dsimp only at hSw); go_simp; with_reducible rfl
  try simp only [Act.put, List.setIfInBounds_toArray, List.set_cons_zero, List.set_cons_succ]
  refine takeH (i := 10) (d := some 14) (v := ?_) rfl rfl (by kernel_rfl) (by kernel_rfl) (by kernel_rfl) (fun _ _ _ h => h) (by rfl) ?_ (by assumption) ?_
  rotate_left
  · intro w hSw; (try dsimp only at hSw); go_simp; with_reducible rfl
  try simp only [Act.put, List.setIfInBounds_toArray, List.set_cons_zero, List.set_cons_succ]
  refine takeH (i := 11) (d := some 15) (v := ?_) rfl rfl (by kernel_rfl) (by kernel_rfl) (by kernel_rfl) (fun _ _ _ h => h) (by rfl) ?_ (by assumption) ?_
  rotate_left
  · intro w hSw; (try dsimp only at hSw); go_simp; with_reducible rfl
  try simp only [Act.put, List.setIfInBounds_toArray, List.set_cons_zero, List.set_cons_succ]
  refine takeH (i := 12) (d := some 16) (v := ?_) rfl rfl (by kernel_rfl) (by kernel_rfl) (by kernel_rfl) (fun _ _ _ h => h) (by rfl) ?_ (by assumption) ?_
  rotate_left
  · intro w hSw; (try dsimp only at hSw); go_simp; with_reducible rfl
  try simp only [Act.put, List.setIfInBounds_toArray, List.set_cons_zero, List.set_cons_succ]
  refine takeH (i := 13) (d := some 17) (v := ?_) rfl rfl (by kernel_rfl) (by kernel_rfl) (by kernel_rfl) (fun _ _ _ h => h) (by rfl) ?_ (by assumption) ?_
  rotate_left
  · intro w hSw; (try dsimp only at hSw); go_simp; with_reducible rfl
  try simp only [Act.put, List.setIfInBounds_toArray, List.set_cons_zero, List.set_cons_succ]
  refine wpAnyH_ready (rs := [4, 6]) (by kernel_rfl) (by simp) ?_
  refine AllReadyH.cons (by rfl) (fun K hKK => ?_) (AllReadyH.cons (by rfl) (fun K hKK => ?_) AllReadyH.nil)
  · skip
    have hcb := cell_of (i := 0) (show BankW (w.alloc (.cells #[.bool g.org.sec, .string g.org.host, .int .i64 g.org.port, .bool g.proxy, .string g.user, .string g.pass, .int .i64 g.ask.sch, .string g.ask.realm, .string g.ask.nonce, .string g.ask.opq, .bool g.ask.sess, .string g.ask.qop, .bool g.ask.stale, .slice da dl dc, .int .i64 g.count, .slice pa pl pc] 36)).drew B b gv wv G V from (show BankW _ B b gv wv G V from HK.out.1.below HB0.out.1)).blk
    simp only [List.getElem?_toArray, List.getElem?_cons_zero] at hcb
    go_simp
    refine hKK.out _ _ hHeld (fun hHeld => ?_)
    clear hKK K hcb
    try simp only [Act.put, List.setIfInBounds_toArray, List.set_cons_zero, List.set_cons_succ]
    refine wpAnyH_ready (rs := [6]) (by kernel_rfl) (by simp) ?_
    refine AllReadyH.cons (by rfl) (fun K hKK => ?_) AllReadyH.nil
    go_simp
    refine (freshG_at g HD.out.2.2 da pa dl dc pl pc db doff pb poff _ (HD.out.1.below HB0.out.1) (HD.out.2.1.below HB0.out.1)).mono ?_
    rintro e w1 ⟨⟨v, u, rfl, hv, hu⟩, hb1⟩
    have H1 : Hid (PutA w (w.alloc (.cells #[.bool g.org.sec, .string g.org.host, .int .i64 g.org.port, .bool g.proxy, .string g.user, .string g.pass, .int .i64 g.ask.sch, .string g.ask.realm, .string g.ask.nonce, .string g.ask.opq, .bool g.ask.sess, .string g.ask.qop, .bool g.ask.stale, .slice da dl dc, .int .i64 g.count, .slice pa pl pc] 36)).drew w1 B b gv wv G V g v u #[.bool g.org.sec, .string g.org.host, .int .i64 g.org.port, .bool g.proxy, .string g.user, .string g.pass, .int .i64 g.ask.sch, .string g.ask.realm, .string g.ask.nonce, .string g.ask.opq, .bool g.ask.sess, .string g.ask.qop, .bool g.ask.stale, .slice da dl dc, .int .i64 g.count, .slice pa pl pc]) := putA_of HK.out HB0.out.1 HB0.out.2 hb1 hv hu
    clear hv hu hb1
    go_wp2_with fail
    refine hKK.out _ _ (facts16 H1.out.box) (fun hHeld => ?_)
    clear hKK K
    try simp only [Act.put, List.setIfInBounds_toArray, List.set_cons_zero, List.set_cons_succ]
    refine wpAnyH_ready (rs := [14]) (by kernel_rfl) (by simp) ?_
    refine AllReadyH.cons (by rfl) (fun K hKK => ?_) AllReadyH.nil
    go_simp
    refine (grantOf_any g.org g.proxy g.ask.realm _).mono ?_
    rintro e w2 ⟨⟨xa, xb, xc, rfl, H3⟩, hb2⟩
    have H2 : Hid (PutA w (w.alloc (.cells #[.bool g.org.sec, .string g.org.host, .int .i64 g.org.port, .bool g.proxy, .string g.user, .string g.pass, .int .i64 g.ask.sch, .string g.ask.realm, .string g.ask.nonce, .string g.ask.opq, .bool g.ask.sess, .string g.ask.qop, .bool g.ask.stale, .slice da dl dc, .int .i64 g.count, .slice pa pl pc] 36)).drew w2 B b gv wv G V g v u #[.bool g.org.sec, .string g.org.host, .int .i64 g.org.port, .bool g.proxy, .string g.user, .string g.pass, .int .i64 g.ask.sch, .string g.ask.realm, .string g.ask.nonce, .string g.ask.opq, .bool g.ask.sess, .string g.ask.qop, .bool g.ask.stale, .slice da dl dc, .int .i64 g.count, .slice pa pl pc]) := putA_below H1.out hb2
    clear hb2
    go_wp2_with fail
    refine hKK.out _ _ (facts16 H2.out.box) (fun hHeld => ?_)
    clear hKK K
    try simp only [Act.put, List.setIfInBounds_toArray, List.set_cons_zero, List.set_cons_succ]
    refine wpAnyH_ready (rs := [15]) (by kernel_rfl) (by simp) ?_
    refine AllReadyH.cons (by rfl) (fun K hKK => ?_) AllReadyH.nil
    go_simp
    refine (put_ren g HD.out.2.2 v u H2.out H3.out).mono ?_
    rintro e w3 ⟨g3, n3, c3, rfl, H4⟩
    go_wp2_with fail
    refine hKK.out _ _ (facts16 H4.out.2.1) (fun hHeld => ?_)
    clear hKK K
    try simp only [Act.put, List.setIfInBounds_toArray, List.set_cons_zero, List.set_cons_succ]
    refine takeH (i := 16) (d := some 20) (v := ?_) rfl rfl (by kernel_rfl) (by kernel_rfl) (by kernel_rfl) (fun _ _ _ h => h) (by rfl) ?_ (by assumption) ?_
    rotate_left
    · intro w hSw; (try dsimp only at hSw); go_simp; with_reducible rfl
    try simp only [Act.put, List.setIfInBounds_toArray, List.set_cons_zero, List.set_cons_succ]
    refine takeH (i := 17) (d := some 21) (v := ?_) rfl rfl (by kernel_rfl) (by kernel_rfl) (by kernel_rfl) (fun _ _ _ h => h) (by rfl) ?_ (by assumption) ?_
    rotate_left
    · intro w hSw; (try dsimp only at hSw); go_simp; with_reducible rfl
    try simp only [Act.put, List.setIfInBounds_toArray, List.set_cons_zero, List.set_cons_succ]
    refine wpAnyH_ready (rs := [18]) (by kernel_rfl) (by simp) ?_
    refine AllReadyH.cons (by rfl) (fun K hKK => ?_) AllReadyH.nil
    have hcb := (cell_of (i := 0) H4.out.2.2.1)
    simp only [List.getElem?_toArray, List.getElem?_cons_zero] at hcb
    have hfr := free_of H4.out.2.2.1
    go_simp
    refine hKK.out _ _ (facts16 H4.out.2.2.2.1) (fun hHeld => ?_)
    clear hKK K hcb hfr
    try simp only [Act.put, List.setIfInBounds_toArray, List.set_cons_zero, List.set_cons_succ]
    refine wpAnyH_done (by kernel_rfl) ?_ _
    go_wp2
    go_end0
    exact ⟨rfl, H4.out.2.2.2.2⟩
  · skip
    go_simp
    refine (freshG_at g HD.out.2.2 da pa dl dc pl pc db doff pb poff _ (HD.out.1.below HB0.out.1) (HD.out.2.1.below HB0.out.1)).mono ?_
    rintro e w1 ⟨⟨v, u, rfl, hv, hu⟩, hb1⟩
    have H1 : Hid (PutA w (w.alloc (.cells #[.bool g.org.sec, .string g.org.host, .int .i64 g.org.port, .bool g.proxy, .string g.user, .string g.pass, .int .i64 g.ask.sch, .string g.ask.realm, .string g.ask.nonce, .string g.ask.opq, .bool g.ask.sess, .string g.ask.qop, .bool g.ask.stale, .slice da dl dc, .int .i64 g.count, .slice pa pl pc] 36)).drew w1 B b gv wv G V g v u #[.bool g.org.sec, .string g.org.host, .int .i64 g.org.port, .bool g.proxy, .string g.user, .string g.pass, .int .i64 g.ask.sch, .string g.ask.realm, .string g.ask.nonce, .string g.ask.opq, .bool g.ask.sess, .string g.ask.qop, .bool g.ask.stale, .slice da dl dc, .int .i64 g.count, .slice pa pl pc]) := putA_of HK.out HB0.out.1 HB0.out.2 hb1 hv hu
    clear hv hu hb1
    go_wp2_with fail
    refine hKK.out _ _ (facts16 H1.out.box) (fun hHeld => ?_)
    clear hKK K
    try simp only [Act.put, List.setIfInBounds_toArray, List.set_cons_zero, List.set_cons_succ]
    refine wpAnyH_ready (rs := [4, 14]) (by kernel_rfl) (by simp) ?_
    refine AllReadyH.cons (by rfl) (fun K hKK => ?_) (AllReadyH.cons (by rfl) (fun K hKK => ?_) AllReadyH.nil)
    · skip
      have hcb := cell_of (i := 0) (show BankW w1 B b gv wv G V from H1.out.bank).blk
      simp only [List.getElem?_toArray, List.getElem?_cons_zero] at hcb
      go_simp
      refine hKK.out _ _ hHeld (fun hHeld => ?_)
      clear hKK K hcb
      try simp only [Act.put, List.setIfInBounds_toArray, List.set_cons_zero, List.set_cons_succ]
      refine wpAnyH_ready (rs := [14]) (by kernel_rfl) (by simp) ?_
      refine AllReadyH.cons (by rfl) (fun K hKK => ?_) AllReadyH.nil
      go_simp
      refine (grantOf_any g.org g.proxy g.ask.realm _).mono ?_
      rintro e w2 ⟨⟨xa, xb, xc, rfl, H3⟩, hb2⟩
      have H2 : Hid (PutA w (w.alloc (.cells #[.bool g.org.sec, .string g.org.host, .int .i64 g.org.port, .bool g.proxy, .string g.user, .string g.pass, .int .i64 g.ask.sch, .string g.ask.realm, .string g.ask.nonce, .string g.ask.opq, .bool g.ask.sess, .string g.ask.qop, .bool g.ask.stale, .slice da dl dc, .int .i64 g.count, .slice pa pl pc] 36)).drew w2 B b gv wv G V g v u #[.bool g.org.sec, .string g.org.host, .int .i64 g.org.port, .bool g.proxy, .string g.user, .string g.pass, .int .i64 g.ask.sch, .string g.ask.realm, .string g.ask.nonce, .string g.ask.opq, .bool g.ask.sess, .string g.ask.qop, .bool g.ask.stale, .slice da dl dc, .int .i64 g.count, .slice pa pl pc]) := putA_below H1.out hb2
      clear hb2
      go_wp2_with fail
      refine hKK.out _ _ (facts16 H2.out.box) (fun hHeld => ?_)
      clear hKK K
      try simp only [Act.put, List.setIfInBounds_toArray, List.set_cons_zero, List.set_cons_succ]
      refine wpAnyH_ready (rs := [15]) (by kernel_rfl) (by simp) ?_
      refine AllReadyH.cons (by rfl) (fun K hKK => ?_) AllReadyH.nil
      go_simp
      refine (put_ren g HD.out.2.2 v u H2.out H3.out).mono ?_
      rintro e w3 ⟨g3, n3, c3, rfl, H4⟩
      go_wp2_with fail
      refine hKK.out _ _ (facts16 H4.out.2.1) (fun hHeld => ?_)
      clear hKK K
      try simp only [Act.put, List.setIfInBounds_toArray, List.set_cons_zero, List.set_cons_succ]
      refine takeH (i := 16) (d := some 20) (v := ?_) rfl rfl (by kernel_rfl) (by kernel_rfl) (by kernel_rfl) (fun _ _ _ h => h) (by rfl) ?_ (by assumption) ?_
      rotate_left
      · intro w hSw; (try dsimp only at hSw); go_simp; with_reducible rfl
      try simp only [Act.put, List.setIfInBounds_toArray, List.set_cons_zero, List.set_cons_succ]
      refine takeH (i := 17) (d := some 21) (v := ?_) rfl rfl (by kernel_rfl) (by kernel_rfl) (by kernel_rfl) (fun _ _ _ h => h) (by rfl) ?_ (by assumption) ?_
      rotate_left
      · intro w hSw; (try dsimp only at hSw); go_simp; with_reducible rfl
      try simp only [Act.put, List.setIfInBounds_toArray, List.set_cons_zero, List.set_cons_succ]
      refine wpAnyH_ready (rs := [18]) (by kernel_rfl) (by simp) ?_
      refine AllReadyH.cons (by rfl) (fun K hKK => ?_) AllReadyH.nil
      have hcb := (cell_of (i := 0) H4.out.2.2.1)
      simp only [List.getElem?_toArray, List.getElem?_cons_zero] at hcb
      have hfr := free_of H4.out.2.2.1
      go_simp
      refine hKK.out _ _ (facts16 H4.out.2.2.2.1) (fun hHeld => ?_)
      clear hKK K hcb hfr
      try simp only [Act.put, List.setIfInBounds_toArray, List.set_cons_zero, List.set_cons_succ]
      refine wpAnyH_done (by kernel_rfl) ?_ _
      go_wp2
      go_end0
      exact ⟨rfl, H4.out.2.2.2.2⟩
    · skip
      go_simp
      refine (grantOf_any g.org g.proxy g.ask.realm _).mono ?_
      rintro e w2 ⟨⟨xa, xb, xc, rfl, H3⟩, hb2⟩
      have H2 : Hid (PutA w (w.alloc (.cells #[.bool g.org.sec, .string g.org.host, .int .i64 g.org.port, .bool g.proxy, .string g.user, .string g.pass, .int .i64 g.ask.sch, .string g.ask.realm, .string g.ask.nonce, .string g.ask.opq, .bool g.ask.sess, .string g.ask.qop, .bool g.ask.stale, .slice da dl dc, .int .i64 g.count, .slice pa pl pc] 36)).drew w2 B b gv wv G V g v u #[.bool g.org.sec, .string g.org.host, .int .i64 g.org.port, .bool g.proxy, .string g.user, .string g.pass, .int .i64 g.ask.sch, .string g.ask.realm, .string g.ask.nonce, .string g.ask.opq, .bool g.ask.sess, .string g.ask.qop, .bool g.ask.stale, .slice da dl dc, .int .i64 g.count, .slice pa pl pc]) := putA_below H1.out hb2
      clear hb2
      go_wp2_with fail
      refine hKK.out _ _ (facts16 H2.out.box) (fun hHeld => ?_)
      clear hKK K
      try simp only [Act.put, List.setIfInBounds_toArray, List.set_cons_zero, List.set_cons_succ]
      refine wpAnyH_ready (rs := [4]) (by kernel_rfl) (by simp) ?_
      refine AllReadyH.cons (by rfl) (fun K hKK => ?_) AllReadyH.nil
      have hcb := cell_of (i := 0) (show BankW w2 B b gv wv G V from H2.out.bank).blk
      simp only [List.getElem?_toArray, List.getElem?_cons_zero] at hcb
      go_simp
      refine hKK.out _ _ hHeld (fun hHeld => ?_)
      clear hKK K hcb
      try simp only [Act.put, List.setIfInBounds_toArray, List.set_cons_zero, List.set_cons_succ]
      refine wpAnyH_ready (rs := [15]) (by kernel_rfl) (by simp) ?_
      refine AllReadyH.cons (by rfl) (fun K hKK => ?_) AllReadyH.nil
      go_simp
      refine (put_ren g HD.out.2.2 v u H2.out H3.out).mono ?_
      rintro e w3 ⟨g3, n3, c3, rfl, H4⟩
      go_wp2_with fail
      refine hKK.out _ _ (facts16 H4.out.2.1) (fun hHeld => ?_)
      clear hKK K
      try simp only [Act.put, List.setIfInBounds_toArray, List.set_cons_zero, List.set_cons_succ]
      refine takeH (i := 16) (d := some 20) (v := ?_) rfl rfl (by kernel_rfl) (by kernel_rfl) (by kernel_rfl) (fun _ _ _ h => h) (by rfl) ?_ (by assumption) ?_
      rotate_left
      · intro w hSw; (try dsimp only at hSw); go_simp; with_reducible rfl
      try simp only [Act.put, List.setIfInBounds_toArray, List.set_cons_zero, List.set_cons_succ]
      refine takeH (i := 17) (d := some 21) (v := ?_) rfl rfl (by kernel_rfl) (by kernel_rfl) (by kernel_rfl) (fun _ _ _ h => h) (by rfl) ?_ (by assumption) ?_
      rotate_left
      · intro w hSw; (try dsimp only at hSw); go_simp; with_reducible rfl
      try simp only [Act.put, List.setIfInBounds_toArray, List.set_cons_zero, List.set_cons_succ]
      refine wpAnyH_ready (rs := [18]) (by kernel_rfl) (by simp) ?_
      refine AllReadyH.cons (by rfl) (fun K hKK => ?_) AllReadyH.nil
      have hcb := (cell_of (i := 0) H4.out.2.2.1)
      simp only [List.getElem?_toArray, List.getElem?_cons_zero] at hcb
      have hfr := free_of H4.out.2.2.1
      go_simp
      refine hKK.out _ _ (facts16 H4.out.2.2.2.1) (fun hHeld => ?_)
      clear hKK K hcb hfr
      try simp only [Act.put, List.setIfInBounds_toArray, List.set_cons_zero, List.set_cons_succ]
      refine wpAnyH_done (by kernel_rfl) ?_ _
      go_wp2
      go_end0
      exact ⟨rfl, H4.out.2.2.2.2⟩
end Go.Proofs.Ytjadmldnpdmamaa

/- gatepostkeep.home; the facts of banked. -/
namespace Go.Proofs.Ytjadmldnpdmamaa
open Go.RowKit
set_option linter.unusedVariables false

/-- 'a.test'. -/
def homeO : OrgV := ⟨true, ⟨#[97, 46, 116, 101, 115, 116]⟩, 443⟩
set_option maxRecDepth 100000 in
set_option maxHeartbeats 2000000 in
theorem home_any (w : World) : Calls Try.prog 31 #[] w fun e w' => e = .returned (.agg #[.bool homeO.sec, .string homeO.host, .int .i64 homeO.port]) ∧ Below w.heap.size w w' := by
  go_enter Try.func31, Try.ntmps31
  go_wp2
  exact bodyPost_ret (v := .agg #[.bool true, .string ⟨#[97, 46, 116, 101, 115, 116]⟩, .int .i64 443]) (res_cell rfl rfl Try.isAgg24 Try.sizeOf24 (vs := [.bool true, .string ⟨#[97, 46, 116, 101, 115, 116]⟩, .int .i64 443]) rfl (heap_alloc_new w _)) rfl ⟨rfl, (Below.refl _ _).alloc (Nat.le_refl _) _⟩
/-- The grant that the fact puts. -/
def bankedG : GrP := ⟨homeO, false, ⟨#[]⟩, ⟨#[]⟩, ⟨1, ⟨#[114]⟩, ⟨#[]⟩, ⟨#[]⟩, false, ⟨#[]⟩, false, []⟩, 0, [⟨#[47, 97, 47]⟩]⟩
theorem banked_put : putL [] bankedG = [bankedG] := rfl
theorem banked_at : findI [bankedG] homeO false ⟨#[47, 97, 47, 98]⟩ = 0 := by decide +kernel
theorem banked_use : useL [bankedG] (findI [bankedG] homeO false ⟨#[47, 97, 47, 98]⟩) = ([moreP bankedG], moreP bankedG, 0) := by
  rw [banked_at]
  rfl
theorem banked_none : findI [moreP bankedG] homeO false ⟨#[47, 99]⟩ = -1 := by decide +kernel
end Go.Proofs.Ytjadmldnpdmamaa

/- The fact: a grant that is used. -/
namespace Go.Proofs.Ytjadmldnpdmamaa
open Go.RowKit
set_option linter.unusedVariables false

theorem strs_none7 (w : World) : Strs w none 0 0 0 [] := ⟨rfl, fun h => absurd h (by omega), fun j x hx => by simp at hx⟩
theorem strs_one7 (w : World) (x : ByteArray) : Strs (w.alloc (.cells #[.string x] 9)) (some ⟨w.heap.size, 0, none⟩) 1 w.heap.size 0 [x] := by
  refine ⟨rfl, fun _ => ⟨rfl, by simp⟩, fun j y hx => ?_⟩
  have hj := (List.getElem?_eq_some_iff.1 hx).1
  simp only [List.length_cons, List.length_nil] at hj
  obtain rfl : j = 0 := by omega
  simp only [List.getElem?_cons_zero, Option.some.injEq] at hx
  subst hx
  exact cell_of (i := 0) (heap_alloc_new w _)
theorem bankedG_fit : GrFit bankedG := by
  refine ⟨?_, ?_, ?_, ⟨?_, ?_, ?_, ?_, ?_, ?_⟩, ?_, ?_, ?_⟩
  · decide
  · decide
  · decide
  · decide
  · decide
  · decide
  · decide
  · decide
  · intro x hx; cases hx
  · decide
  · intro x hx
    rw [show bankedG.paths = [⟨#[47, 97, 47]⟩] from rfl, List.mem_singleton] at hx
    rw [hx]
    decide
  · decide
theorem bank_new (w : World) : BankW (w.alloc (.cells #[.slice none 0 0, .slice none 0 0] 52)) w.heap.size w.heap.size (.slice none 0 0) (.slice none 0 0) [] [] :=
  ⟨heap_alloc_new w _, Nat.le_refl _, ownK_nil _ _ _ _, ownK_nil _ _ _ _, fun v hv => (by cases hv), fun v hv => (by cases hv), fun v hv => (by cases hv), by decide, by decide⟩
theorem step_low {B b : Nat} {gv wv gv' wv' : Value} {G : List GrV} {V : List WtV} {w w' : World} (h : BankW w B b gv wv G V) (hB : B ≤ w.heap.size) (hs : BankStep b gv wv w w' gv' wv') : Below B w w' :=
  hs.below h.low (fun x e => (h.gs.lt _ e).1) (fun x e => (h.ws.lt _ e).1) hB
/-- The grant that the fact has used, by its cells. -/
def useCells (d p : Value) : List Value := [.bool true, .string ⟨#[97, 46, 116, 101, 115, 116]⟩, .int .i64 443, .bool false, .string ⟨#[]⟩, .string ⟨#[]⟩, .int .i64 1, .string ⟨#[114]⟩, .string ⟨#[]⟩, .string ⟨#[]⟩, .bool false, .string ⟨#[]⟩, .bool false, d, .int .i64 1, p]
theorem useCells_of (d p : Value) : grCells ⟨moreP bankedG, d, p⟩ = useCells d p := rfl
def zeCells (d p : Value) : List Value := [.bool false, .string ⟨#[]⟩, .int .i64 0, .bool false, .string ⟨#[]⟩, .string ⟨#[]⟩, .int .i64 0, .string ⟨#[]⟩, .string ⟨#[]⟩, .string ⟨#[]⟩, .bool false, .string ⟨#[]⟩, .bool false, d, .int .i64 0, p]
theorem zeCells_of (d p : Value) : grCells ⟨zeroP, d, p⟩ = zeCells d p := rfl
theorem own_slice {w : World} {B : Nat} {v : GrV} (h : GrOwn w B v) : (∃ p n c, v.dv = .slice p n c) ∧ ∃ p n c, v.pv = .slice p n c := by
  obtain ⟨da, dc, dg, hdv, _⟩ := h.dom.strs
  obtain ⟨pa, pc, pg, hpv, _⟩ := h.paths.strs
  exact ⟨⟨_, _, _, hdv⟩, ⟨_, _, _, hpv⟩⟩
set_option maxRecDepth 100000 in
set_option maxHeartbeats 4000000 in
theorem banked_any (w : World) : Calls Try.prog 9 #[] w fun e w' => e = .returned (.bool true) ∧ Below w.heap.size w w' := by
  have HB0 : Hid (Below w.heap.size w (w.alloc (.cells #[.slice none 0 0, .slice none 0 0] 52)) ∧ BankW (w.alloc (.cells #[.slice none 0 0, .slice none 0 0] 52)) w.heap.size w.heap.size (.slice none 0 0) (.slice none 0 0) [] []) := ⟨(Below.refl _ _).alloc (Nat.le_refl _) _, bank_new w⟩
  go_enter Try.func9, Try.ntmps9
  go_wp2_with fail
  refine (home_any _).mono ?_
  rintro e w1 ⟨rfl, hb1⟩
  have HB1 : Hid (Below w.heap.size w (w1.alloc (.cells #[.string ⟨#[47, 97, 47]⟩] 9)) ∧ BankW (w1.alloc (.cells #[.string ⟨#[47, 97, 47]⟩] 9)) w.heap.size w.heap.size (.slice none 0 0) (.slice none 0 0) [] [] ∧ Strs (w1.alloc (.cells #[.string ⟨#[47, 97, 47]⟩] 9)) (some ⟨w1.heap.size, 0, none⟩) 1 w1.heap.size 0 [⟨#[47, 97, 47]⟩]) := by
    have ha : Below w1.heap.size w1 (w1.alloc (.cells #[.string ⟨#[47, 97, 47]⟩] 9)) := (Below.refl _ _).alloc (Nat.le_refl _) _
    have h0 := HB0.out.1.size
    exact ⟨(HB0.out.1.trans (hb1.mono h0)).trans (ha.mono (Nat.le_trans h0 hb1.size)), (HB0.out.2.below hb1).below ha, strs_one7 _ _⟩
  clear hb1
  go_wp2_with fail
  refine (put_at bankedG bankedG_fit none _ 0 0 1 1 0 0 _ 0 _ (strs_none7 _) HB1.out.2.2 w.heap.size w.heap.size _ _ [] [] HB1.out.2.1 HB1.out.1.size).mono ?_
  rintro e w2 ⟨rfl, gv2, G2, H2⟩
  go_wp2_with fail
  refine (home_any _).mono ?_
  rintro e w3 ⟨rfl, hb3⟩
  have HB3 : Hid (Below w.heap.size w w3 ∧ BankW w3 w.heap.size w.heap.size gv2 (.slice none 0 0) G2 []) := by
    have h2 := step_low HB1.out.2.1 HB1.out.1.size H2.out.2.2
    have hb2 : Below w.heap.size w w2 := HB1.out.1.trans h2
    exact ⟨hb2.trans (hb3.mono hb2.size), H2.out.1.below hb3⟩
  have huse := use_any w3 HB3.out.2 HB3.out.1.size homeO false ⟨#[47, 97, 47, 98]⟩
  have hm : G2.map (·.g) = [bankedG] := H2.out.2.1.trans banked_put
  rw [hm, banked_use] at huse
  clear hb3 H2 hm HB1 HB0
  go_wp2_with fail
  refine huse.mono ?_
  rintro e w4 ⟨⟨⟨xg, xd, xp⟩, rfl, hxg, hxo⟩, gv4, G4, H4⟩
  obtain ⟨⟨d1, d2, d3, hxd⟩, ⟨p1, p2, p3, hxp⟩⟩ := own_slice hxo
  simp only [] at hxg hxd hxp
  subst hxg hxd hxp
  rw [useCells_of]
  unfold useCells
  have HB4 : Hid (Below w.heap.size w (w4.alloc (.cells (useCells (.slice d1 d2 d3) (.slice p1 p2 p3)).toArray 36)) ∧ BankW (w4.alloc (.cells (useCells (.slice d1 d2 d3) (.slice p1 p2 p3)).toArray 36)) w.heap.size w.heap.size gv4 (.slice none 0 0) G4 [] ∧ G4.map (·.g) = [moreP bankedG] ∧ (w4.alloc (.cells (useCells (.slice d1 d2 d3) (.slice p1 p2 p3)).toArray 36)).heap[w4.heap.size]? = some (.cells (useCells (.slice d1 d2 d3) (.slice p1 p2 p3)).toArray 36 (0, 0))) := by
    have ha : Below w4.heap.size w4 (w4.alloc (.cells (useCells (.slice d1 d2 d3) (.slice p1 p2 p3)).toArray 36)) := (Below.refl _ _).alloc (Nat.le_refl _) _
    have h4 := step_low HB3.out.2 HB3.out.1.size H4.out.2.2
    have hb4 : Below w.heap.size w w4 := HB3.out.1.trans h4
    exact ⟨hb4.trans (ha.mono hb4.size), H4.out.1.below ha, H4.out.2.1, heap_alloc_new w4 _⟩
  clear huse hxo H4 HB3
  unfold useCells at HB4
  go_wp2_with fail
  refine (home_any _).mono ?_
  rintro e w5 ⟨rfl, hb5⟩
  have HB5 : Hid (Below w.heap.size w w5 ∧ BankW w5 w.heap.size w.heap.size gv4 (.slice none 0 0) G4 [] ∧ w5.heap[w4.heap.size]? = some (.cells (useCells (.slice d1 d2 d3) (.slice p1 p2 p3)).toArray 36 (0, 0))) :=
    ⟨HB4.out.1.trans (hb5.mono HB4.out.1.size), HB4.out.2.1.below hb5, (hb5.block _ (Array.getElem?_eq_some_iff.1 HB4.out.2.2.2).1).trans HB4.out.2.2.2⟩
  have HM : Hid (G4.map (·.g) = [moreP bankedG]) := HB4.out.2.2.1
  have hfind := find_any w5 HB5.out.2.1 homeO false ⟨#[47, 99]⟩
  rw [HM.out, banked_none] at hfind
  clear hb5 HB4
  go_wp2_with fail
  refine hfind.mono ?_
  rintro e w6 ⟨⟨⟨yg, yd, yp⟩, rfl, hyg, hyo⟩, hb6⟩
  obtain ⟨⟨e1, e2, e3, hyd⟩, ⟨q1, q2, q3, hyp⟩⟩ := own_slice hyo
  simp only [toldL] at hyg
  rw [if_pos (by decide)] at hyg
  simp only [] at hyd hyp
  subst hyg hyd hyp
  rw [zeCells_of]
  unfold zeCells
  have HB6 : Hid (Below w.heap.size w (w6.alloc (.cells (zeCells (.slice e1 e2 e3) (.slice q1 q2 q3)).toArray 36)) ∧ BankW (w6.alloc (.cells (zeCells (.slice e1 e2 e3) (.slice q1 q2 q3)).toArray 36)) w.heap.size w.heap.size gv4 (.slice none 0 0) G4 []) := by
    have ha : Below w6.heap.size w6 (w6.alloc (.cells (zeCells (.slice e1 e2 e3) (.slice q1 q2 q3)).toArray 36)) := (Below.refl _ _).alloc (Nat.le_refl _) _
    have hb : Below w.heap.size w w6 := HB5.out.1.trans (hb6.mono HB5.out.1.size)
    exact ⟨hb.trans (ha.mono hb.size), (HB5.out.2.1.below hb6).below ha⟩
  have hblk : (w6.alloc (.cells (zeCells (.slice e1 e2 e3) (.slice q1 q2 q3)).toArray 36)).heap[w4.heap.size]? = some (.cells (useCells (.slice d1 d2 d3) (.slice p1 p2 p3)).toArray 36 (0, 0)) := by
    have h5 := (hb6.block _ (Array.getElem?_eq_some_iff.1 HB5.out.2.2).1).trans HB5.out.2.2
    exact box_alloc h5 _
  unfold zeCells at HB6 hblk
  have c7 := cell_of (i := 7) hblk
  have c14 := cell_of (i := 14) hblk
  simp only [useCells, List.getElem?_toArray, List.getElem?_cons_zero, List.getElem?_cons_succ] at c7 c14
  have hgr := grants_any _ HB6.out.2
  rw [HM.out] at hgr
  clear hfind hyo hb6 hblk HB5
  rw [show errU 0 = .nilIface from rfl, show decide ((0 : Int) ≤ -1) = false from rfl]
  go_wp2_with fail
  refine hgr.mono ?_
  rintro e w7 ⟨⟨val, us, rfl, h1, h2, h3⟩, hb7⟩
  have hl : us.length = 1 := by have := congrArg List.length h2; rwa [List.length_map] at this
  rcases h1.forms with ⟨_, e0⟩ | ⟨g, cap, rfl, _⟩
  · have := congrArg List.length e0
    rw [List.length_map, hl] at this
    cases this
  · rw [List.length_map, hl]
    have HE : Hid (Below w.heap.size w w7) := HB6.out.1.trans (hb7.mono HB6.out.1.size)
    clear h1 h2 h3 hb7 hgr
    go_wp2
    go_ret
    exact ⟨rfl, HE.out⟩
end Go.Proofs.Ytjadmldnpdmamaa

/- The library's contracts that are leant on, laid at this program's numbers. -/
namespace Go.Proofs.Ytjadmldnpdmamaa
open Go.Shelf Go.RowKit
def lays149_ren : Go.Shelf.Ren := ⟨fun | 149 => 65 | 222 => 67 | n => n, fun | 9 => 9 | 5 => 5 | 3 => 3 | 4 => 4 | n => n, fun | n => n⟩
theorem lays149 : Go.Proofs.Lays.n149 Try.prog lays149_ren := {
  mixed := by kernel_rfl
  f149 := Try.func65.trans (congrArg some (by kernel_rfl))
  f222 := Try.func67.trans (congrArg some (by kernel_rfl))
  t3 := Try.underlying3
  a3 := Try.isAgg3
  z3 := Try.sizeOf3
  v3 := Try.zeroValue3
  t4 := Try.underlying4
  a4 := Try.isAgg4
  z4 := Try.sizeOf4
  v4 := Try.zeroValue4
  t5 := Try.underlying5
  a5 := Try.isAgg5
  z5 := Try.sizeOf5
  v5 := Try.zeroValue5
  t9 := Try.underlying9
  a9 := Try.isAgg9
  z9 := Try.sizeOf9
  v9 := Try.zeroValue9 }
end Go.Proofs.Ytjadmldnpdmamaa

/- Origins and paths as the document says them, over lists of bytes. -/
namespace Go.Proofs.Ytjadmldnpdmamaa

/-- A byte of a host's label: a small letter or a digit. -/
def alnum (c : UInt8) : Bool := decide (97 ≤ c.toNat ∧ c.toNat ≤ 122) || decide (48 ≤ c.toNat ∧ c.toNat ≤ 57)
/-- Whether a byte may stand behind another one in a host (46: a point; ahead of the first byte and behind the last one a point is thought). -/
def hostStep (was c : UInt8) : Bool :=
  !((c == 46 && (was == 46 || was == 45)) || (c == 45 && was == 46) || (c != 46 && c != 45 && !alnum c))
def hostFrom (was : UInt8) : List UInt8 → Bool
  | [] => hostStep was 46
  | c :: t => hostStep was c && hostFrom c t
def hostL (l : List UInt8) : Bool := hostFrom 46 l
def rightL (host : List UInt8) (port : Int) : Bool := decide (host.length ≤ 60) && decide (1 ≤ port ∧ port ≤ 65535) && hostL host
/-- The port that is meant where none is told. -/
def portI (b : Bool) : Int := if b then 443 else 80
/-- A path up to its last slash, with it. -/
def dirL (l : List UInt8) : List UInt8 := (l.reverse.dropWhile (· != 47)).reverse
/-- A byte that may stand in a path or a query. -/
def sendB (c : UInt8) : Bool := decide (97 ≤ c.toNat ∧ c.toNat ≤ 122) || decide (65 ≤ c.toNat ∧ c.toNat ≤ 90) || decide (48 ≤ c.toNat ∧ c.toNat ≤ 57) || [45, 46, 95, 126, 33, 36, 38, 39, 40, 41, 42, 43, 44, 59, 61, 58, 64, 37, 47, 63].contains c
def sendL (l : List UInt8) : Bool := l.all sendB
/-- What stands between slashes. -/
def splitL (d : UInt8) : List UInt8 → List (List UInt8)
  | [] => [[]]
  | c :: t => if c = d then [] :: splitL d t else match splitL d t with
    | [] => [[c]]
    | p :: r => (c :: p) :: r
def joinL (d : UInt8) : List (List UInt8) → List UInt8
  | [] => []
  | [p] => p
  | p :: r => p ++ d :: joinL d r
/-- One part behind others: a point is left out, two take the one ahead away; if it is the last one an empty part stands there. -/
def cleanStep (last : Bool) (acc : List (List UInt8)) (p : List UInt8) : List (List UInt8) :=
  if p = [46] then (if last then acc ++ [[]] else acc)
  else if p = [46, 46] then (if last then acc.dropLast ++ [[]] else acc.dropLast)
  else acc ++ [p]
def cleanParts (acc : List (List UInt8)) : List (List UInt8) → List (List UInt8)
  | [] => acc
  | p :: r => cleanParts (cleanStep r.isEmpty acc p) r
def bodyL (s : List UInt8) : List UInt8 := match s with
  | 47 :: t => t
  | _ => s
def cleanL (s : List UInt8) : List UInt8 := 47 :: joinL 47 (cleanParts [] (splitL 47 (bodyL s)))
theorem clean_one : cleanL [47, 97, 47, 46, 47, 98, 47, 46, 46] = [47, 97, 47] := by decide
theorem clean_two : cleanL [46, 46, 47, 120] = [47, 120] := by decide
theorem clean_empty : cleanL [] = [47] := by decide
theorem host_one : hostL [97, 46, 116, 45, 49] = true := by decide
theorem host_two : hostL [97, 46] = false := by decide
end Go.Proofs.Ytjadmldnpdmamaa

/- Clean is clean; a path's directory is its own: over lists of bytes. -/
namespace Go.Proofs.Ytjadmldnpdmamaa

theorem splitL_ne (d : UInt8) : ∀ l, splitL d l ≠ []
  | [] => by simp [splitL]
  | c :: t => by
    unfold splitL
    split
    · simp
    · split <;> simp
theorem splitL_no (d : UInt8) : ∀ l, ∀ p ∈ splitL d l, d ∉ p
  | [], p, h => by
    simp [splitL] at h
    simp [h]
  | c :: t, p, h => by
    have ih := splitL_no d t
    unfold splitL at h
    split at h
    · rcases List.mem_cons.1 h with h | h
      · simp [h]
      · exact ih p h
    · rename_i hc
      split at h
      · simp at h
        subst h
        simp
        exact fun e => hc e.symm
      · rename_i q r hq
        rcases List.mem_cons.1 h with h | h
        · subst h
          have := ih q (by rw [hq]; simp)
          simp
          exact ⟨fun e => hc e.symm, this⟩
        · exact ih p (by rw [hq]; simp [h])
theorem splitL_part (d : UInt8) (p : List UInt8) (h : d ∉ p) : splitL d p = [p] := by
  induction p with
  | nil => rfl
  | cons c t ih =>
    have h1 : c ≠ d := fun e => h (by simp [e])
    have h2 : d ∉ t := fun e => h (by simp [e])
    unfold splitL
    rw [if_neg h1, ih h2]
theorem splitL_more (d : UInt8) (p t : List UInt8) (h : d ∉ p) : splitL d (p ++ d :: t) = p :: splitL d t := by
  induction p with
  | nil => simp [splitL]
  | cons c r ih =>
    have h1 : c ≠ d := fun e => h (by simp [e])
    have h2 : d ∉ r := fun e => h (by simp [e])
    rw [List.cons_append, splitL, if_neg h1, ih h2]
theorem splitL_joinL (d : UInt8) : ∀ ps : List (List UInt8), ps ≠ [] → (∀ p ∈ ps, d ∉ p) → splitL d (joinL d ps) = ps
  | [], h, _ => absurd rfl h
  | [p], _, h => splitL_part d p (h p (by simp))
  | p :: q :: r, _, h => by
    rw [joinL, splitL_more d p _ (h p (by simp)), splitL_joinL d (q :: r) (by simp) (fun x hx => h x (by simp [hx]))]
    simp
def plainP (p : List UInt8) : Prop := p ≠ [46] ∧ p ≠ [46, 46] ∧ (47 : UInt8) ∉ p
theorem cleanStep_plain (last : Bool) (acc : List (List UInt8)) (p : List UInt8) (ha : ∀ q ∈ acc, plainP q) (hp : (47 : UInt8) ∉ p) : ∀ q ∈ cleanStep last acc p, plainP q := by
  have hd : ∀ q ∈ acc.dropLast, plainP q := fun q hq => ha q ((List.dropLast_sublist acc).subset hq)
  have he : plainP [] := ⟨by simp, by simp, by simp⟩
  intro q hq
  unfold cleanStep at hq
  split at hq
  · split at hq
    · rcases List.mem_append.1 hq with h | h
      · exact ha q h
      · simp at h
        rw [h]
        exact he
    · exact ha q hq
  split at hq
  · split at hq
    · rcases List.mem_append.1 hq with h | h
      · exact hd q h
      · simp at h
        rw [h]
        exact he
    · exact hd q hq
  · rename_i h1 h2
    rcases List.mem_append.1 hq with h | h
    · exact ha q h
    · simp at h
      rw [h]
      exact ⟨h1, h2, hp⟩
theorem cleanParts_plain : ∀ (ps acc : List (List UInt8)), (∀ q ∈ acc, plainP q) → (∀ p ∈ ps, (47 : UInt8) ∉ p) → ∀ q ∈ cleanParts acc ps, plainP q
  | [], acc, ha, _, q, hq => ha q hq
  | p :: r, acc, ha, hp, q, hq => cleanParts_plain r _ (cleanStep_plain _ acc p ha (hp p (by simp))) (fun x hx => hp x (by simp [hx])) q hq
theorem cleanParts_ne : ∀ (ps acc : List (List UInt8)), ps ≠ [] → cleanParts acc ps ≠ []
  | [], _, h => absurd rfl h
  | [p], acc, _ => by
    simp only [cleanParts, List.isEmpty_nil]
    unfold cleanStep
    split
    · simp
    split
    · simp
    · simp
  | p :: q :: r, acc, _ => cleanParts_ne (q :: r) _ (by simp)
theorem cleanParts_same : ∀ (ps acc : List (List UInt8)), (∀ p ∈ ps, plainP p) → cleanParts acc ps = acc ++ ps
  | [], acc, _ => by simp [cleanParts]
  | p :: r, acc, h => by
    have hp := h p (by simp)
    rw [cleanParts, cleanStep, if_neg hp.1, if_neg hp.2.1, cleanParts_same r _ (fun x hx => h x (by simp [hx]))]
    simp
/-- The parts of a clean path. -/
theorem cleanL_parts (s : List UInt8) : ∃ ps, ps ≠ [] ∧ (∀ p ∈ ps, plainP p) ∧ cleanL s = 47 :: joinL 47 ps ∧ splitL 47 (cleanL s) = [] :: ps := by
  have h1 := cleanParts_plain (splitL 47 (bodyL s)) [] (by simp) (splitL_no 47 _)
  have h2 := cleanParts_ne (splitL 47 (bodyL s)) [] (splitL_ne 47 _)
  refine ⟨cleanParts [] (splitL 47 (bodyL s)), h2, h1, rfl, ?_⟩
  rw [cleanL, splitL, if_pos rfl, splitL_joinL 47 _ h2 (fun p hp => (h1 p hp).2.2)]
theorem cleanL_twice (s : List UInt8) : cleanL (cleanL s) = cleanL s := by
  obtain ⟨ps, hn, hp, hc, _⟩ := cleanL_parts s
  have e : cleanL (47 :: joinL 47 ps) = 47 :: joinL 47 (cleanParts [] (splitL 47 (joinL 47 ps))) := rfl
  rw [hc, e, splitL_joinL 47 ps hn (fun p h => (hp p h).2.2), cleanParts_same ps [] hp]
  simp
theorem dirL_prefix (l : List UInt8) : dirL l <+: l := by
  unfold dirL
  have h := List.dropWhile_suffix (l := l.reverse) (fun c : UInt8 => c != 47)
  have := List.reverse_prefix.2 h
  simpa using this
theorem dirL_twice (l : List UInt8) : dirL (dirL l) = dirL l := by
  unfold dirL
  rw [List.reverse_reverse]
  congr 1
  generalize l.reverse = r
  induction r with
  | nil => rfl
  | cons c t ih =>
    rw [List.dropWhile_cons]
    split
    · exact ih
    · rename_i h
      rw [List.dropWhile_cons, if_neg h]
end Go.Proofs.Ytjadmldnpdmamaa

/- A path's directory, and whether it lies in a space, by the program. -/
namespace Go.Proofs.Ytjadmldnpdmamaa
open Go.RowKit Go.Shelf

theorem extract_list (s : ByteArray) (a b : Nat) : (s.extract a b).data.toList = (s.data.toList.drop a).take (b - a) := by
  rw [ByteArray.data_extract, Array.toList_extract, List.extract_eq_take_drop]
theorem upto_list (s : ByteArray) (b : Nat) : (s.extract 0 b).data.toList = s.data.toList.take b := by rw [extract_list]; simp
theorem dirL_none (l : List UInt8) (h : (47 : UInt8) ∉ l) : dirL l = [] := by
  unfold dirL
  have : l.reverse.dropWhile (· != 47) = [] := by
    have h2 : (47 : UInt8) ∉ l.reverse := by simpa using h
    revert h2
    generalize l.reverse = r
    intro h2
    induction r with
    | nil => rfl
    | cons c t ih =>
      have hc : c ≠ 47 := fun e => h2 (by simp [e])
      rw [List.dropWhile_cons, if_pos (by simpa using hc)]
      exact ih (fun e => h2 (by simp [e]))
  rw [this]
  rfl
theorem dirL_some (a b : List UInt8) (h : (47 : UInt8) ∉ b) : dirL (a ++ 47 :: b) = a ++ [47] := by
  unfold dirL
  have e : (a ++ 47 :: b).reverse = b.reverse ++ 47 :: a.reverse := by simp
  rw [e, List.dropWhile_append_of_pos]
  · simp
  · intro x hx
    have : x ≠ 47 := fun e => h (by rw [← e]; simpa using hx)
    simpa using this
theorem dirL_drop (a : List UInt8) (c : UInt8) (h : c ≠ 47) : dirL (a ++ [c]) = dirL a := by
  unfold dirL
  rw [List.reverse_append, List.reverse_singleton, List.singleton_append, List.dropWhile_cons, if_pos (by simpa using h)]
theorem dirL_end (a : List UInt8) : dirL (a ++ [47]) = a ++ [47] := dirL_some a [] (by simp)
theorem last_cases (s : ByteArray) (c : UInt8) : (Lib.lastIndexByte s (c.toNat : Int) = -1 ∧ c ∉ s.data.toList) ∨ ∃ i : Nat, i < s.size ∧ Lib.lastIndexByte s (c.toNat : Int) = i ∧ s.data.toList = s.data.toList.take i ++ c :: s.data.toList.drop (i + 1) ∧ c ∉ s.data.toList.drop (i + 1) := by
  have hl : s.data.toList.length = s.size := Array.length_toList
  have hat : ∀ j, (h : j < s.size) → s.data[j]! = s.data.toList[j]'(by omega) := fun j h => by
    rw [getElem!_pos s.data j h]
    simp
  have hne : ∀ j, (h : j < s.size) → ((s.data[j]!).toNat : Int) ≠ (c.toNat : Int) → s.data.toList[j]'(by omega) ≠ c := fun j h hn e => by
    rw [hat j h, e] at hn
    exact hn rfl
  rcases Lib.lastIdx_spec s (c.toNat : Int) s.size with ⟨h1, h2⟩ | ⟨i, hi, h1, h2, h3⟩
  · refine .inl ⟨h1, fun hm => ?_⟩
    obtain ⟨j, hj, e⟩ := List.getElem_of_mem hm
    exact hne j (by omega) (h2 j (by omega)) e
  · refine .inr ⟨i, hi, h1, ?_, fun hm => ?_⟩
    · have e : s.data.toList[i]'(by omega) = c := by
        rw [hat i hi] at h2
        exact UInt8.toNat_inj.1 (by omega)
      rw [← e, ← List.drop_eq_getElem_cons, List.take_append_drop]
    · obtain ⟨j, hj, e⟩ := List.getElem_of_mem hm
      rw [List.length_drop] at hj
      rw [List.getElem_drop] at e
      exact hne (i + 1 + j) (by omega) (h3 (i + 1 + j) (by omega) (by omega)) e

theorem clone_any (s : ByteArray) (w : World) (hs : s.size ≤ 5000) :
    Calls Try.prog 58 #[.string s] w fun e w' => e = .returned (.string s) ∧ Below w.heap.size w w' := by
  have hc : ∀ w, Calls Try.prog 66 #[.string s] w fun e w' => e = .returned (.string s) ∧ Below w.heap.size w w' := fun w => Any.stringslite_Clone laysM316 s w (by omega)
  go_enter Try.func58, Try.ntmps58
  go_wp2_with (go_at_call 66; refine (hc _).mono ?_; rintro e w' ⟨rfl, hb⟩)
  go_ret
  exact ⟨rfl, hb⟩
theorem last_any (s : ByteArray) (hs : s.size ≤ 5000) (w : World) :
    Calls Try.prog 65 #[.string s, .int .u8 47] w fun e w' => e = .returned (.int .i64 (Lib.lastIndexByte s 47)) ∧ w' = w := Any.strings_LastIndexByte lays149 s 47 (by omega) w
theorem dir_any (s : ByteArray) (w : World) (hs : s.size ≤ 4000) :
    Calls Try.prog 56 #[.string s] w fun e w' => e = .returned (.string (bs (dirL s.data.toList))) ∧ Below w.heap.size w w' := by
  rcases last_cases s 47 with ⟨h1, h2⟩ | ⟨i, hi, h1, h2, h3⟩
  · have h1 : Lib.lastIndexByte s 47 = -1 := h1
    rw [dirL_none _ h2]
    clear h2
    go_enter Try.func56, Try.ntmps56
    go_wp2_with (first
      | (go_at_call 65; refine (last_any s (by omega) _).mono ?_; rintro e w' ⟨rfl, rfl⟩)
      | (go_at_call 58; refine (clone_any _ _ (by simp)).mono ?_; rintro e w' ⟨rfl, hb⟩))
    go_ret
    exact ⟨ret_str (by apply ByteArray.ext; simp [bs]), hb⟩
  · have h1 : Lib.lastIndexByte s 47 = (i : Int) := h1
    have HD : Hid (s.extract 0 (i + 1) = bs (dirL s.data.toList)) := by
      show _ = _
      rw [← bs_self (s.extract 0 (i + 1)), upto_list]
      congr 1
      have hlen : (s.data.toList.take i).length = i := by simp; omega
      rw [h2, dirL_some _ _ h3, List.take_append, hlen, List.take_of_length_le (by omega)]
      simp
    clear h2 h3
    have hi2 : (i : Int) + 1 ≤ (s.size : Int) := by omega
    go_enter Try.func56, Try.ntmps56
    go_wp2_with (first
      | (go_at_call 65; refine (last_any s (by omega) _).mono ?_; rintro e w' ⟨rfl, rfl⟩)
      | (go_at_call 58; refine (clone_any _ _ (by simp; omega)).mono ?_; rintro e w' ⟨rfl, hb⟩))
    go_ret
    exact ⟨ret_str HD.out, hb⟩
theorem begins_iff (s p : ByteArray) : begins s p = true ↔ p.data.toList <+: s.data.toList := by
  have hl : p.data.toList.length = p.size := Array.length_toList
  have hl2 : s.data.toList.length = s.size := Array.length_toList
  unfold begins
  rw [Bool.and_eq_true, decide_eq_true_iff, beq_iff_eq, ByteArray.toList_eq, ByteArray.toList_eq, upto_list, List.prefix_iff_eq_take, hl]
  constructor
  · exact fun h => h.2.symm
  · intro h
    refine ⟨?_, h.symm⟩
    have := congrArg List.length h
    rw [List.length_take] at this
    omega
end Go.Proofs.Ytjadmldnpdmamaa

/- bank.Space of what is asked for without a domain; whether a path is in it. -/
namespace Go.Proofs.Ytjadmldnpdmamaa
open Go.RowKit
set_option linter.unusedVariables false

set_option maxHeartbeats 1000000 in
theorem hasPre_any (s p : ByteArray) (w : World) :
    Calls Try.prog 26 #[.string s, .string p] w fun e w' => e = .returned (.bool (begins s p)) ∧ w' = w := by
  by_cases h : p.size ≤ s.size
  · have hb : begins s p = ((s.extract 0 p.size).toList == p.toList) := by unfold begins; rw [decide_eq_true h]; rfl
    rw [hb]
    go_enter Try.func26, Try.ntmps26
    go_wp2
    go_ret
    exact ⟨rfl, rfl⟩
  · have hb : begins s p = false := by unfold begins; rw [decide_eq_false h]; rfl
    rw [hb]
    go_enter Try.func26, Try.ntmps26
    go_wp2
    go_ret
    exact ⟨rfl, rfl⟩
set_option maxHeartbeats 1000000 in
theorem spIs (path x : ByteArray) (a : Nat) (w : World) (ha : w.cell? ⟨a, 0, none⟩ = some (.string path)) :
    Calls Try.prog 29 #[.string x, .pointer (some ⟨a, 0, none⟩)] w fun e w' => e = .returned (.bool (begins path x)) ∧ w' = w := by
  go_enter Try.func29, Try.ntmps29
  go_wp2_with fail
  refine (within_p path x _).mono ?_
  rintro e w1 ⟨rfl, hw⟩
  obtain rfl := hw.symm
  go_wp2
  go_ret
  exact ⟨rfl, rfl⟩
set_option maxRecDepth 100000 in
set_option maxHeartbeats 2000000 in
theorem idx1_any (path x : ByteArray) (a k : Nat) (w : World) (ha : w.cell? ⟨a, 0, none⟩ = some (.string path)) (hk : w.cell? ⟨k, 0, none⟩ = some (.string x)) (hb : begins path x = true) :
    Calls Try.prog 55 #[.slice (some ⟨k, 0, none⟩) 1 1, .func (.func 29) #[] #[.pointer (some ⟨a, 0, none⟩)]] w fun e w' => e = .returned (.int .i64 0) ∧ w' = w := by
  have hc := spIs path x a w ha
  rw [hb] at hc
  clear hb
  go_enter Try.func55, Try.ntmps55
  go_wp2
  refine wp_loop_rounds 1 ?_
  rw [rounds_succ]
  go_wp2_with fail
  refine hc.mono ?_
  rintro e w1 ⟨rfl, hw⟩
  obtain rfl := hw.symm
  go_wp2
  go_ret
  exact ⟨rfl, rfl⟩
set_option maxHeartbeats 1000000 in
theorem ctn1_any (path x : ByteArray) (a k : Nat) (w : World) (ha : w.cell? ⟨a, 0, none⟩ = some (.string path)) (hk : w.cell? ⟨k, 0, none⟩ = some (.string x)) (hb : begins path x = true) :
    Calls Try.prog 27 #[.slice (some ⟨k, 0, none⟩) 1 1, .func (.func 29) #[] #[.pointer (some ⟨a, 0, none⟩)]] w fun e w' => e = .returned (.bool true) ∧ w' = w := by
  have hc := idx1_any path x a k w ha hk hb
  go_enter Try.func27, Try.ntmps27
  go_wp2_with fail
  refine hc.mono ?_
  rintro e w1 ⟨rfl, hw⟩
  obtain rfl := hw.symm
  go_wp2
  go_ret
  exact ⟨rfl, rfl⟩
/-- A row of one text that the path lies in. -/
def SpcAns (path : ByteArray) (w : World) (e : Ending) (w' : World) : Prop :=
  ∃ k x, e = .returned (.slice (some ⟨k, 0, none⟩) 1 1) ∧ Hid (w'.cell? ⟨k, 0, none⟩ = some (.string x) ∧ begins path x = true ∧ Below w.heap.size w w')
set_option maxRecDepth 100000 in
set_option maxHeartbeats 2000000 in
theorem space_any (path : ByteArray) (hp : begins path ⟨#[47]⟩ = true) (hs : path.size ≤ 4000) (sch : Int) (r no op q : ByteArray) (se st pr : Bool) (dp : Option Addr) (dc : Nat) (w : World) :
    Calls Try.prog 28 #[.agg #[.int .i64 sch, .string r, .string no, .string op, .bool se, .string q, .bool st, .slice dp 0 dc], .bool pr, .string path] w fun e w' => SpcAns path w e w' := by
  have hb1 : Below w.heap.size w (w.alloc (.cells #[.int .i64 sch, .string r, .string no, .string op, .bool se, .string q, .bool st, .slice dp 0 dc] 34)) := (Below.refl _ _).alloc (Nat.le_refl _) _
  have hn := heap_alloc_new w (.cells #[.int .i64 sch, .string r, .string no, .string op, .bool se, .string q, .bool st, .slice dp 0 dc] 34)
  have n0 := cell_of (i := 0) hn
  have n7 := cell_of (i := 7) hn
  simp only [List.getElem?_toArray, List.getElem?_cons_zero, List.getElem?_cons_succ] at n0 n7
  have HB : Hid (Below w.heap.size w (w.alloc (.cells #[.int .i64 sch, .string r, .string no, .string op, .bool se, .string q, .bool st, .slice dp 0 dc] 34))) := hb1
  have HP : Hid (begins path ⟨#[47]⟩ = true ∧ path.size ≤ 4000) := ⟨hp, hs⟩
  have HA : ∀ (W : World) (x : ByteArray), Below w.heap.size w W → (W.alloc (.cells #[.string x] 9)).cell? ⟨W.heap.size, 0, none⟩ = some (.string x) ∧ Below w.heap.size w (W.alloc (.cells #[.string x] 9)) := fun W x h => ⟨cell_of (i := 0) (heap_alloc_new W _), h.trans (((Below.refl _ _).alloc (Nat.le_refl _) _).mono h.size)⟩
  have HQ : Hid ((((w.alloc (.cells #[.int .i64 sch, .string r, .string no, .string op, .bool se, .string q, .bool st, .slice dp 0 dc] 34)).alloc (.cells #[.string ⟨#[47]⟩] 9)).cell? ⟨w.heap.size + 1, 0, none⟩ = some (.string ⟨#[47]⟩)) ∧ Below w.heap.size w ((w.alloc (.cells #[.int .i64 sch, .string r, .string no, .string op, .bool se, .string q, .bool st, .slice dp 0 dc] 34)).alloc (.cells #[.string ⟨#[47]⟩] 9))) := by
    have h2 := HA _ ⟨#[47]⟩ HB.out
    refine ⟨?_, h2.2⟩
    have h3 := h2.1
    simp only [World.size_alloc] at h3
    exact h3
  clear hn hb1 hp hs
  go_enter Try.func28, Try.ntmps28
  cases pr with
  | true =>
    go_wp2
    go_ret
    exact ⟨_, _, rfl, ⟨HQ.out.1, HP.out.1, HQ.out.2⟩⟩
  | false =>
    by_cases h1 : sch = 1
    · subst h1
      go_wp2_with fail
      refine (dir_any path _ HP.out.2).mono ?_
      rintro e w1 ⟨rfl, hb⟩
      have HX : Hid (Below w.heap.size w w1 ∧ begins path (bs (dirL path.data.toList)) = true) := ⟨HB.out.trans (hb.mono HB.out.size), (begins_iff _ _).2 (dirL_prefix _)⟩
      clear hb n0 n7
      go_wp2
      go_ret
      exact ⟨_, _, rfl, ⟨(HA _ _ HX.out.1).1, HX.out.2, (HA _ _ HX.out.1).2⟩⟩
    · go_wp2
      go_ret
      exact ⟨_, _, rfl, ⟨HQ.out.1, HP.out.1, HQ.out.2⟩⟩
end Go.Proofs.Ytjadmldnpdmamaa

/- SpaceHolds, walked. -/
namespace Go.Proofs.Ytjadmldnpdmamaa
open Go.RowKit
set_option linter.unusedVariables false

set_option maxRecDepth 100000 in
set_option maxHeartbeats 4000000 in
theorem spaceHolds_walk (sch : Int) (r no op q : ByteArray) (se st : Bool) (dp : Option Addr) (dn dc : Nat) (pr : Bool) (path : ByteArray) (hs : path.size ≤ 140737488355328) (w : World) :
    Calls Try.prog 8 #[.agg #[.int .i64 sch, .string r, .string no, .string op, .bool se, .string q, .bool st, .slice dp dn dc], .bool pr, .string path] w fun e w' => e = .returned (.bool true) ∧ Below w.heap.size w w' := by
  have HB0 : Hid (_ ∧ _ ∧ _) := boxes2 w #[.int .i64 sch, .string r, .string no, .string op, .bool se, .string q, .bool st, .slice dp dn dc] #[.string path] 34 9
  go_enter Try.func8, Try.ntmps8
  go_wp2_with fail
  refine (banked_any _).mono ?_
  rintro e w1 ⟨rfl, hb1⟩
  have HB1 : Hid (Below w.heap.size w w1 ∧ w1.heap[w.heap.size]? = some (.cells #[.int .i64 sch, .string r, .string no, .string op, .bool se, .string q, .bool st, .slice dp dn dc] 34 (0, 0)) ∧ w1.heap[w.heap.size + 1]? = some (.cells #[.string path] 9 (0, 0))) :=
    ⟨HB0.out.1.trans (hb1.mono HB0.out.1.size), (hb1.block _ (Array.getElem?_eq_some_iff.1 HB0.out.2.1).1).trans HB0.out.2.1, (hb1.block _ (Array.getElem?_eq_some_iff.1 HB0.out.2.2).1).trans HB0.out.2.2⟩
  clear hb1 HB0
  have cp := cell_of (i := 0) HB1.out.2.2
  have c0 := cell_of (i := 0) HB1.out.2.1
  have c1 := cell_of (i := 1) HB1.out.2.1
  have c2 := cell_of (i := 2) HB1.out.2.1
  have c3 := cell_of (i := 3) HB1.out.2.1
  have c4 := cell_of (i := 4) HB1.out.2.1
  have c5 := cell_of (i := 5) HB1.out.2.1
  have c6 := cell_of (i := 6) HB1.out.2.1
  have c7 := cell_of (i := 7) HB1.out.2.1
  simp only [List.getElem?_toArray, List.getElem?_cons_zero, List.getElem?_cons_succ] at cp c0 c1 c2 c3 c4 c5 c6 c7
  by_cases h100 : (100 : Int) < (path.size : Int)
  · go_wp2
    go_ret
    exact ⟨rfl, HB1.out.1⟩
  · obtain ⟨E, hE⟩ : ∃ E, begins path ⟨#[47]⟩ = E := ⟨_, rfl⟩
    have hpre := hasPre_any path ⟨#[47]⟩ w1
    rw [hE] at hpre
    have HE : Hid (begins path ⟨#[47]⟩ = E) := hE
    clear hE
    go_wp2_with fail
    refine hpre.mono ?_
    rintro e w2 ⟨rfl, hw⟩
    obtain rfl := hw.symm
    clear hpre
    cases E with
    | false =>
      go_wp2
      go_ret
      exact ⟨rfl, HB1.out.1⟩
    | true =>
      by_cases hd : dn = 0
      · subst hd
        have hsp := space_any path HE.out (by omega) sch r no op q se st pr dp dc w1
        go_wp2_with fail
        refine hsp.mono ?_
        rintro e w3 ⟨k, x, rfl, H3⟩
        have ha : w3.cell? ⟨w.heap.size + 1, 0, none⟩ = some (.string path) := (H3.out.2.2.cell (p := ⟨w.heap.size + 1, 0, none⟩) (Array.getElem?_eq_some_iff.1 HB1.out.2.2).1).trans cp
        have hc := ctn1_any path x (w.heap.size + 1) k w3 ha H3.out.1 H3.out.2.1
        clear hsp
        go_wp2_with fail
        refine hc.mono ?_
        rintro e w4 ⟨rfl, hw⟩
        obtain rfl := hw.symm
        have HZ : Hid (Below w.heap.size w w3) := HB1.out.1.trans (H3.out.2.2.mono HB1.out.1.size)
        clear hc
        go_wp2
        go_ret
        exact ⟨rfl, HZ.out⟩
      · have hd2 : (0 : Int) < (dn : Int) := by omega
        go_wp2
        go_ret
        exact ⟨rfl, HB1.out.1⟩
end Go.Proofs.Ytjadmldnpdmamaa

/- What is asked for, that came in: opened (a seat without proof's texts). -/
namespace Go.Proofs.Ytjadmldnpdmamaa
open Go.ChangeShapes Go.WideShapes Go.ChangeAt Go.RowKit Go.Joins Go.Deep

theorem laidOutK : laidOutB Try.prog = true := by kernel_rfl
theorem array8' {α : Type} {cs : Array α} (h : cs.size = 8) : ∃ c0 c1 c2 c3 c4 c5 c6 c7, cs = #[c0, c1, c2, c3, c4, c5, c6, c7] := by
  obtain ⟨l⟩ := cs
  match l, h with
  | [c0, c1, c2, c3, c4, c5, c6, c7], _ => exact ⟨c0, c1, c2, c3, c4, c5, c6, c7, rfl⟩
theorem list8' {α : Type} {l : List α} (h : l.length = 8) : ∃ c0 c1 c2 c3 c4 c5 c6 c7, l = [c0, c1, c2, c3, c4, c5, c6, c7] := by
  match l, h with
  | [c0, c1, c2, c3, c4, c5, c6, c7], _ => exact ⟨c0, c1, c2, c3, c4, c5, c6, c7, rfl⟩
theorem one_field' {H : Type} {enc : TypeId × Value → H} {W : World} {n : Nat} {f : Field} {cs : List Value} {i : Nat} {c : Value} {y : Option (DataW H × List MemPlace)} (ho : f.offset = i ∧ Try.prog.cellsOf f.type = 1) (hc : (cs.drop i).take 1 = [c])
    (h : DataW.trod enc Try.prog W 0 (fun _ => true) true n f.type ((cs.drop f.offset).take (Try.prog.cellsOf f.type)) = y) : DataW.trod enc Try.prog W 0 (fun _ => true) true n f.type [c] = y := by
  rw [ho.1, ho.2, hc] at h
  exact h
section
variable {H : Type} {enc : TypeId × Value → H} {W : World}
set_option maxRecDepth 100000 in
set_option maxHeartbeats 1000000 in
theorem open_ask8' {f0 f1 f2 f3 f4 f5 f6 f7 : Field} {t : TypeId} (hs : Try.prog.underlying t = some (.struct #[f0, f1, f2, f3, f4, f5, f6, f7])) (hone : oneCellFields Try.prog #[f0, f1, f2, f3, f4, f5, f6, f7] = true) (hC : Try.prog.cellsOf t = 8)
    {b0 : Nat} {v : Value} {d : DataW H} {p : List MemPlace} (hv : Value.okWide Try.prog W .any b0 t v) (h : DataW.Trod enc Try.prog W 0 (fun _ => true) true t v d p) :
    ∃ (c0 c1 c2 c3 c4 c5 c6 c7 : Value) (y0 y1 y2 y3 y4 y5 y6 y7 : DataW H × List MemPlace) (n : Nat), v = .agg #[c0, c1, c2, c3, c4, c5, c6, c7] ∧ d = .agg [y0.1, y1.1, y2.1, y3.1, y4.1, y5.1, y6.1, y7.1] ∧
      DataW.trod enc Try.prog W 0 (fun _ => true) true n f0.type [c0] = some y0 ∧ DataW.trod enc Try.prog W 0 (fun _ => true) true n f1.type [c1] = some y1 ∧ DataW.trod enc Try.prog W 0 (fun _ => true) true n f2.type [c2] = some y2 ∧ DataW.trod enc Try.prog W 0 (fun _ => true) true n f3.type [c3] = some y3 ∧
      DataW.trod enc Try.prog W 0 (fun _ => true) true n f4.type [c4] = some y4 ∧ DataW.trod enc Try.prog W 0 (fun _ => true) true n f5.type [c5] = some y5 ∧ DataW.trod enc Try.prog W 0 (fun _ => true) true n f6.type [c6] = some y6 ∧ DataW.trod enc Try.prog W 0 (fun _ => true) true n f7.type [c7] = some y7 := by
  obtain ⟨cs, rfl, hsz⟩ := okWide_struct hs hv
  obtain ⟨c0, c1, c2, c3, c4, c5, c6, c7, rfl⟩ := array8' (hsz.trans hC)
  obtain ⟨fuel, hf⟩ := h
  obtain ⟨xs, n, _, hx, _, hlen, hff⟩ := DataW.trod_struct hs hf
  obtain ⟨y0, y1, y2, y3, y4, y5, y6, y7, rfl⟩ := list8' (hlen.trans rfl)
  simp only [Prod.mk.injEq] at hx
  have o := hone_of hone
  exact ⟨c0, c1, c2, c3, c4, c5, c6, c7, y0, y1, y2, y3, y4, y5, y6, y7, n, rfl, hx.1, one_field' (o 0 f0 rfl) rfl (hff 0 f0 rfl), one_field' (o 1 f1 rfl) rfl (hff 1 f1 rfl), one_field' (o 2 f2 rfl) rfl (hff 2 f2 rfl), one_field' (o 3 f3 rfl) rfl (hff 3 f3 rfl),
    one_field' (o 4 f4 rfl) rfl (hff 4 f4 rfl), one_field' (o 5 f5 rfl) rfl (hff 5 f5 rfl), one_field' (o 6 f6 rfl) rfl (hff 6 f6 rfl), one_field' (o 7 f7 rfl) rfl (hff 7 f7 rfl)⟩
set_option maxRecDepth 100000 in
set_option maxHeartbeats 1000000 in
theorem open_askS {b0 : Nat} {v : Value} {d : DataW H} {p : List MemPlace} (hv : Value.okWide Try.prog W .any b0 34 v) (h : DataW.Trod enc Try.prog W 0 (fun _ => true) true 34 v d p) :
    ∃ (sch : Int) (r no op q : ByteArray) (se st : Bool) (dp : Option Addr) (dn dc : Nat), v = .agg #[.int .i64 sch, .string r, .string no, .string op, .bool se, .string q, .bool st, .slice dp dn dc] := by
  obtain ⟨c0, c1, c2, c3, c4, c5, c6, c7, y0, y1, y2, y3, y4, y5, y6, y7, n, rfl, rfl, g0, g1, g2, g3, g4, g5, g6, g7⟩ := open_ask8' Try.underlying34 (by kernel_rfl) (by kernel_rfl) hv h
  obtain ⟨s0, e0, rfl, _⟩ := DataW.trod_int Try.underlying3 g0
  obtain ⟨s1, e1, rfl, _⟩ := DataW.trod_string Try.underlying9 g1
  obtain ⟨s2, e2, rfl, _⟩ := DataW.trod_string Try.underlying9 g2
  obtain ⟨s3, e3, rfl, _⟩ := DataW.trod_string Try.underlying9 g3
  obtain ⟨s4, e4, rfl⟩ := DataW.trod_bool Try.underlying4 g4
  obtain ⟨s5, e5, rfl, _⟩ := DataW.trod_string Try.underlying9 g5
  obtain ⟨s6, e6, rfl⟩ := DataW.trod_bool Try.underlying4 g6
  have h7 := DataW.trod_slice Try.underlying32 g7
  simp only [List.cons.injEq, and_true] at e0 e1 e2 e3 e4 e5 e6
  subst e0 e1 e2 e3 e4 e5 e6
  rcases h7 with ⟨e7, _⟩ | ⟨a, len, cap, _, _, _, _, e7, _⟩
  · simp only [List.cons.injEq, and_true] at e7
    subst e7
    exact ⟨_, _, _, _, _, _, _, _, _, _, rfl⟩
  · simp only [List.cons.injEq, and_true] at e7
    subst e7
    exact ⟨_, _, _, _, _, _, _, _, _, _, rfl⟩
end
end Go.Proofs.Ytjadmldnpdmamaa
