/- A bank keeps a grant. -/
import Derived.Test.YtdnnlfklanaliabRenG
import Derived.Test.YtdnnlfklanaliabBkC
import Derived.Test.YtdnnlfklanaliabFshG
import Derived.Test.YtdnnlfklanaliabBkD
import Derived.Test.YtdnnlfklanaliabRgH
namespace Go.Proofs.Ytdnnlfklanaliab
open Go.RowKit
set_option linter.unusedVariables false


theorem facts16 {W : World} {b : Nat} {g : GrP} {da pa : Option Addr} {dl dc pl pc : Nat} (h : W.heap[b]? = some (.cells #[.bool g.org.sec, .string g.org.host, .int .i64 g.org.port, .bool g.proxy, .string g.user, .string g.pass, .int .i64 g.ask.sch, .string g.ask.realm, .string g.ask.nonce, .string g.ask.opq, .bool g.ask.sess, .string g.ask.qop, .bool g.ask.stale, .slice da dl dc, .int .i64 g.count, .slice pa pl pc] 36 (0, 0))) :
    W.cell? ⟨b, 0, none⟩ = some (.bool g.org.sec) ∧ W.cell? ⟨b, 1, none⟩ = some (.string g.org.host) ∧ W.cell? ⟨b, 2, none⟩ = some (.int .i64 g.org.port) ∧ W.cell? ⟨b, 3, none⟩ = some (.bool g.proxy) ∧ W.cell? ⟨b, 4, none⟩ = some (.string g.user) ∧ W.cell? ⟨b, 5, none⟩ = some (.string g.pass) ∧ W.cell? ⟨b, 6, none⟩ = some (.int .i64 g.ask.sch) ∧ W.cell? ⟨b, 7, none⟩ = some (.string g.ask.realm) ∧ W.cell? ⟨b, 8, none⟩ = some (.string g.ask.nonce) ∧ W.cell? ⟨b, 9, none⟩ = some (.string g.ask.opq) ∧ W.cell? ⟨b, 10, none⟩ = some (.bool g.ask.sess) ∧ W.cell? ⟨b, 11, none⟩ = some (.string g.ask.qop) ∧ W.cell? ⟨b, 12, none⟩ = some (.bool g.ask.stale) ∧ W.cell? ⟨b, 13, none⟩ = some (.slice da dl dc) ∧ W.cell? ⟨b, 14, none⟩ = some (.int .i64 g.count) ∧ W.cell? ⟨b, 15, none⟩ = some (.slice pa pl pc) := ⟨(cell_of (i := 0) h).trans rfl, (cell_of (i := 1) h).trans rfl, (cell_of (i := 2) h).trans rfl, (cell_of (i := 3) h).trans rfl, (cell_of (i := 4) h).trans rfl, (cell_of (i := 5) h).trans rfl, (cell_of (i := 6) h).trans rfl, (cell_of (i := 7) h).trans rfl, (cell_of (i := 8) h).trans rfl, (cell_of (i := 9) h).trans rfl, (cell_of (i := 10) h).trans rfl, (cell_of (i := 11) h).trans rfl, (cell_of (i := 12) h).trans rfl, (cell_of (i := 13) h).trans rfl, (cell_of (i := 14) h).trans rfl, (cell_of (i := 15) h).trans rfl⟩
/-- Where a grant was cloned. -/
structure PutA (w w0 w1 : World) (B b : Nat) (gv wv : Value) (G : List GrV) (V : List WtV) (g : GrP) (v u : Value) (box : Array Value) : Prop where
  bank : BankW w1 B b gv wv G V
  old : BankW w B b gv wv G V
  bel : Below w.heap.size w w1
  own : GrOwn w1 w.heap.size ⟨g, v, u⟩
  box : w1.heap[w.heap.size]? = some (.cells box 36 (0, 0))
  low : B ≤ w.heap.size
theorem putA_of {w w0 w1 : World} {B b : Nat} {gv wv : Value} {G : List GrV} {V : List WtV} {g : GrP} {v u : Value} {box : Array Value} (h : BankW w B b gv wv G V ∧ B ≤ w.heap.size) (hb0 : Below w.heap.size w w0) (hx : w0.heap[w.heap.size]? = some (.cells box 36 (0, 0))) (hb1 : Below w0.heap.size w0 w1) (hv : OwnS w1 w0.heap.size v g.ask.dom) (hu : OwnS w1 w0.heap.size u g.paths) : PutA w w0 w1 B b gv wv G V g v u box :=
  have hb := hb0.trans (hb1.mono hb0.size)
  ⟨h.1.below hb, h.1, hb, ⟨ownS_mono hv hb0.size, ownS_mono hu hb0.size⟩, (hb1.block _ (Array.getElem?_eq_some_iff.1 hx).1).trans hx, h.2⟩
theorem putA_below {w w0 w1 w2 : World} {B b : Nat} {gv wv : Value} {G : List GrV} {V : List WtV} {g : GrP} {v u : Value} {box : Array Value} (h : PutA w w0 w1 B b gv wv G V g v u box) (hb : Below w1.heap.size w1 w2) : PutA w w0 w2 B b gv wv G V g v u box :=
  ⟨h.bank.below hb, h.old, h.bel.trans (hb.mono h.bel.size), h.own.below hb, (hb.block _ (Array.getElem?_eq_some_iff.1 h.box).1).trans h.box, h.low⟩
theorem realm_pred {w : World} {val : Value} {G : List GrV} {B a b c : Nat} {o : OrgV} {p : Bool} {r : ByteArray} (hown : OwnK 16 36 w B val (G.map grCells)) (h3 : Box3 w a b c o p r) :
    PredK Try.prog 58 #[.pointer (some ⟨a, 0, none⟩), .pointer (some ⟨b, 0, none⟩), .pointer (some ⟨c, 0, none⟩)] (onG (fun o' p' r' => orgB o' o && (p' == p && r'.toList == r.toList))) (G.map grCells) w val.ownBlock := by
  intro W x hx hg
  obtain ⟨v, hv, rfl⟩ := List.mem_map.1 hx
  have ht := hown.typed
  exact grantIs_any v (hown.one _ hx) o p r a b c W ⟨block_other h3.org hg ht (by decide), block_other h3.prx hg ht (by decide), block_other h3.txt hg ht (by decide)⟩
theorem filt_map (q : OrgV → Bool → ByteArray → Bool) (G : List GrV) : (G.map grCells).filter (fun y => !onG q y) = (G.filter (fun v => !q v.g.org v.g.proxy v.g.ask.realm)).map grCells := by
  rw [List.filter_map]
  rfl
theorem last8_mem {α : Type} {l : List α} {x : α} (h : x ∈ last8 l) : x ∈ l := List.mem_of_mem_drop h
theorem last8_len {α : Type} (l : List α) : (last8 l).length ≤ 8 := by unfold last8; rw [List.length_drop]; omega
theorem last8_pos {α : Type} (l : List α) (h : 0 < l.length) : 0 < (last8 l).length := by unfold last8; rw [List.length_drop]; omega
/-- The grant among the others. -/
theorem put_ren {w w0 w2 : World} {B b a1 b1 c1 : Nat} {gv wv : Value} {G : List GrV} {V : List WtV} (g : GrP) (hg : GrFit g) (v u : Value) {box : Array Value} (h : PutA w w0 w2 B b gv wv G V g v u box) (h3 : Box3 w2 a1 b1 c1 g.org g.proxy g.ask.realm) :
    Calls Try.prog 46 #[gv, .agg #[.bool g.org.sec, .string g.org.host, .int .i64 g.org.port, .bool g.proxy, .string g.user, .string g.pass, .int .i64 g.ask.sch, .string g.ask.realm, .string g.ask.nonce, .string g.ask.opq, .bool g.ask.sess, .string g.ask.qop, .bool g.ask.stale, v, .int .i64 g.count, u], .func (.func 58) #[] #[.pointer (some ⟨a1, 0, none⟩), .pointer (some ⟨b1, 0, none⟩), .pointer (some ⟨c1, 0, none⟩)]] w2 fun e w3 => ∃ g3 n3 c3, e = .returned (.slice (some ⟨g3, 0, none⟩) n3 c3) ∧ Hid (0 < n3 ∧ w3.heap[w.heap.size]? = some (.cells box 36 (0, 0)) ∧ w3.heap[b]? = some (.cells #[gv, wv] 54 (0, 0)) ∧ (w3.setCell ⟨b, 0, none⟩ (.slice (some ⟨g3, 0, none⟩) n3 c3)).heap[w.heap.size]? = some (.cells box 36 (0, 0)) ∧
      ∃ gv' G', Hid (BankW (w3.setCell ⟨b, 0, none⟩ (.slice (some ⟨g3, 0, none⟩) n3 c3)) B b gv' wv G' V ∧ G'.map (·.g) = putL (G.map (·.g)) g ∧ BankStep b gv wv w (w3.setCell ⟨b, 0, none⟩ (.slice (some ⟨g3, 0, none⟩) n3 c3)) gv' wv)) := by
  have hlow := h.low
  have hbs := h.bel.size
  refine (renG_any gv (G.map grCells) B (by rw [List.length_map]; have := h.bank.glen; omega) w2 (by omega) h.bank.gs ⟨g, v, u⟩ h.own.one _ _ _ (enters_at Try.func58 (by kernel_rfl) rfl) (realm_pred h.bank.gs h3)).mono ?_
  rintro e w3 ⟨u3, rfl, H⟩
  obtain ⟨hown, hgr, hnew⟩ := H.out
  rw [filt_map, show [grCells ⟨g, v, u⟩] = [(⟨g, v, u⟩ : GrV)].map grCells from rfl, ← List.map_append, ← last8_map] at hown
  have hbox : w3.heap[w.heap.size]? = some (.cells box 36 (0, 0)) := by
    refine (hgr.block _ (Array.getElem?_eq_some_iff.1 h.box).1 (fun e => ?_)).trans h.box
    have := (h.old.gs.lt _ e.symm).2
    omega
  have hblk := block_other h.bank.blk hgr h.bank.gs.typed (by decide)
  have hne : w.heap.size ≠ b := fun e => by
    have h1 := h.old.blk
    rw [← e, Array.getElem?_eq_none (Nat.le_refl _)] at h1
    cases h1
  rcases hown.forms with ⟨_, e2⟩ | ⟨g3, c3, rfl, _, _, _, _⟩
  · exfalso
    have := congrArg List.length e2
    rw [List.length_map, List.length_nil] at this
    have h8 := last8_pos (G.filter (fun v => !(orgB v.g.org g.org && (v.g.proxy == g.proxy && v.g.ask.realm.toList == g.ask.realm.toList))) ++ [(⟨g, v, u⟩ : GrV)]) (by simp)
    omega
  · obtain ⟨hW, hS⟩ := bank_grants h.old h.bel hgr hown (fun k hk => (hnew k hk).imp id (fun h => h)) (fun x hx => by
      rcases List.mem_append.1 (last8_mem hx) with hx | hx
      · have := (List.mem_filter.1 hx).1
        exact ⟨.inl this, h.old.gf x this⟩
      · rw [List.mem_singleton.1 hx]
        exact ⟨.inr (h.own.mono hlow), hg⟩) (last8_len _)
    refine ⟨g3, _, c3, rfl, ⟨?_, hbox, hblk, ?_, _, _, ⟨hW, ?_, hS⟩⟩⟩
    · rw [List.length_map]
      exact last8_pos _ (by simp)
    · exact (Below.heap_setCell w3 ⟨b, 0, none⟩ _ w.heap.size hne).trans hbox
    · unfold putL
      rw [last8_map, List.map_append, List.filter_map]
      rfl

set_option maxRecDepth 100000 in
set_option maxHeartbeats 4000000 in
theorem put_at (g : GrP) (hg : GrFit g) (da pa : Option Addr) (dl dc pl pc db doff pb poff : Nat) (w : World) (hd : Strs w da dl db doff g.ask.dom) (hp : Strs w pa pl pb poff g.paths)
    (B b : Nat) (gv wv : Value) (G : List GrV) (V : List WtV) (hB : BankW w B b gv wv G V) (hB2 : B ≤ w.heap.size) :
    Calls Try.prog 22 #[.pointer (some ⟨b, 0, none⟩), .agg #[.bool g.org.sec, .string g.org.host, .int .i64 g.org.port, .bool g.proxy, .string g.user, .string g.pass, .int .i64 g.ask.sch, .string g.ask.realm, .string g.ask.nonce, .string g.ask.opq, .bool g.ask.sess, .string g.ask.qop, .bool g.ask.stale, .slice da dl dc, .int .i64 g.count, .slice pa pl pc]] w fun e w' => e = .returned (.tuple #[]) ∧ ∃ gv' G', Hid (BankW w' B b gv' wv G' V ∧ G'.map (·.g) = putL (G.map (·.g)) g ∧ BankStep b gv wv w w' gv' wv) := by
  have HD : Hid (Strs w da dl db doff g.ask.dom ∧ Strs w pa pl pb poff g.paths ∧ GrFit g) := ⟨hd, hp, hg⟩
  have HK : Hid (BankW w B b gv wv G V ∧ B ≤ w.heap.size) := ⟨hB, hB2⟩
  have hb0 : Below w.heap.size w (w.alloc (.cells #[.bool g.org.sec, .string g.org.host, .int .i64 g.org.port, .bool g.proxy, .string g.user, .string g.pass, .int .i64 g.ask.sch, .string g.ask.realm, .string g.ask.nonce, .string g.ask.opq, .bool g.ask.sess, .string g.ask.qop, .bool g.ask.stale, .slice da dl dc, .int .i64 g.count, .slice pa pl pc] 36)) := (Below.refl _ _).alloc (Nat.le_refl _) _
  have hn0 := heap_alloc_new w (.cells #[.bool g.org.sec, .string g.org.host, .int .i64 g.org.port, .bool g.proxy, .string g.user, .string g.pass, .int .i64 g.ask.sch, .string g.ask.realm, .string g.ask.nonce, .string g.ask.opq, .bool g.ask.sess, .string g.ask.qop, .bool g.ask.stale, .slice da dl dc, .int .i64 g.count, .slice pa pl pc] 36)
  have HB0 : Hid (Below w.heap.size w (w.alloc (.cells #[.bool g.org.sec, .string g.org.host, .int .i64 g.org.port, .bool g.proxy, .string g.user, .string g.pass, .int .i64 g.ask.sch, .string g.ask.realm, .string g.ask.nonce, .string g.ask.opq, .bool g.ask.sess, .string g.ask.qop, .bool g.ask.stale, .slice da dl dc, .int .i64 g.count, .slice pa pl pc] 36)).drew ∧ (w.alloc (.cells #[.bool g.org.sec, .string g.org.host, .int .i64 g.org.port, .bool g.proxy, .string g.user, .string g.pass, .int .i64 g.ask.sch, .string g.ask.realm, .string g.ask.nonce, .string g.ask.opq, .bool g.ask.sess, .string g.ask.qop, .bool g.ask.stale, .slice da dl dc, .int .i64 g.count, .slice pa pl pc] 36)).drew.heap[w.heap.size]? = some (.cells #[.bool g.org.sec, .string g.org.host, .int .i64 g.org.port, .bool g.proxy, .string g.user, .string g.pass, .int .i64 g.ask.sch, .string g.ask.realm, .string g.ask.nonce, .string g.ask.opq, .bool g.ask.sess, .string g.ask.qop, .bool g.ask.stale, .slice da dl dc, .int .i64 g.count, .slice pa pl pc] 36 (0, 0))) := ⟨hb0.drew, hn0⟩
  clear hd hp hg hB hB2 hb0 hn0
  go_enter Try.func22, Try.ntmps22
  go_wp2_with fail
  refine wp_region_held_drew (S := fun W => W.cell? ⟨w.heap.size, 0, none⟩ = some (.bool g.org.sec) ∧ W.cell? ⟨w.heap.size, 1, none⟩ = some (.string g.org.host) ∧ W.cell? ⟨w.heap.size, 2, none⟩ = some (.int .i64 g.org.port) ∧ W.cell? ⟨w.heap.size, 3, none⟩ = some (.bool g.proxy) ∧ W.cell? ⟨w.heap.size, 4, none⟩ = some (.string g.user) ∧ W.cell? ⟨w.heap.size, 5, none⟩ = some (.string g.pass) ∧ W.cell? ⟨w.heap.size, 6, none⟩ = some (.int .i64 g.ask.sch) ∧ W.cell? ⟨w.heap.size, 7, none⟩ = some (.string g.ask.realm) ∧ W.cell? ⟨w.heap.size, 8, none⟩ = some (.string g.ask.nonce) ∧ W.cell? ⟨w.heap.size, 9, none⟩ = some (.string g.ask.opq) ∧ W.cell? ⟨w.heap.size, 10, none⟩ = some (.bool g.ask.sess) ∧ W.cell? ⟨w.heap.size, 11, none⟩ = some (.string g.ask.qop) ∧ W.cell? ⟨w.heap.size, 12, none⟩ = some (.bool g.ask.stale) ∧ W.cell? ⟨w.heap.size, 13, none⟩ = some (.slice da dl dc) ∧ W.cell? ⟨w.heap.size, 14, none⟩ = some (.int .i64 g.count) ∧ W.cell? ⟨w.heap.size, 15, none⟩ = some (.slice pa pl pc)) (by kernel_rfl) (facts16 HB0.out.2) (fun hHeld => ?_)
  refine takeH (i := 0) (d := some 4) (v := ?_) rfl rfl (by kernel_rfl) (by kernel_rfl) (by kernel_rfl) (fun _ _ _ h => h) (by rfl) ?_ (by assumption) ?_
  rotate_left
  · intro w hSw; (try dsimp only at hSw); go_simp; with_reducible rfl
  try simp only [Act.put, List.setIfInBounds_toArray, List.set_cons_zero, List.set_cons_succ]
  refine takeH (i := 1) (d := some 5) (v := ?_) rfl rfl (by kernel_rfl) (by kernel_rfl) (by kernel_rfl) (fun _ _ _ h => h) (by rfl) ?_ (by assumption) ?_
  rotate_left
  · intro w hSw; (try dsimp only at hSw); go_simp; with_reducible rfl
  try simp only [Act.put, List.setIfInBounds_toArray, List.set_cons_zero, List.set_cons_succ]
  refine takeH (i := 2) (d := some 6) (v := ?_) rfl rfl (by kernel_rfl) (by kernel_rfl) (by kernel_rfl) (fun _ _ _ h => h) (by rfl) ?_ (by assumption) ?_
  rotate_left
  · intro w hSw; (try dsimp only at hSw); go_simp; with_reducible rfl
  try simp only [Act.put, List.setIfInBounds_toArray, List.set_cons_zero, List.set_cons_succ]
  refine takeH (i := 3) (d := some 7) (v := ?_) rfl rfl (by kernel_rfl) (by kernel_rfl) (by kernel_rfl) (fun _ _ _ h => h) (by rfl) ?_ (by assumption) ?_
  rotate_left
  · intro w hSw; (try dsimp only at hSw); go_simp; with_reducible rfl
  try simp only [Act.put, List.setIfInBounds_toArray, List.set_cons_zero, List.set_cons_succ]
  refine takeH (i := 5) (d := some 9) (v := ?_) rfl rfl (by kernel_rfl) (by kernel_rfl) (by kernel_rfl) (fun _ _ _ h => h) (by rfl) ?_ (by assumption) ?_
  rotate_left
  · intro w hSw; (try dsimp only at hSw); go_simp; with_reducible rfl
  try simp only [Act.put, List.setIfInBounds_toArray, List.set_cons_zero, List.set_cons_succ]
  refine takeH (i := 7) (d := some 11) (v := ?_) rfl rfl (by kernel_rfl) (by kernel_rfl) (by kernel_rfl) (fun _ _ _ h => h) (by rfl) ?_ (by assumption) ?_
  rotate_left
  · intro w hSw; (try dsimp only at hSw); go_simp; with_reducible rfl
  try simp only [Act.put, List.setIfInBounds_toArray, List.set_cons_zero, List.set_cons_succ]
  refine takeH (i := 8) (d := some 12) (v := ?_) rfl rfl (by kernel_rfl) (by kernel_rfl) (by kernel_rfl) (fun _ _ _ h => h) (by rfl) ?_ (by assumption) ?_
  rotate_left
  · intro w hSw; (try dsimp only at hSw); go_simp; with_reducible rfl
  try simp only [Act.put, List.setIfInBounds_toArray, List.set_cons_zero, List.set_cons_succ]
  refine takeH (i := 9) (d := some 13) (v := ?_) rfl rfl (by kernel_rfl) (by kernel_rfl) (by kernel_rfl) (fun _ _ _ h => h) (by rfl) ?_ (by assumption) ?_
  rotate_left
  · intro w hSw; (try dsimp only at hSw); go_simp; with_reducible rfl
  try simp only [Act.put, List.setIfInBounds_toArray, List.set_cons_zero, List.set_cons_succ]
  refine takeH (i := 10) (d := some 14) (v := ?_) rfl rfl (by kernel_rfl) (by kernel_rfl) (by kernel_rfl) (fun _ _ _ h => h) (by rfl) ?_ (by assumption) ?_
  rotate_left
  · intro w hSw; (try dsimp only at hSw); go_simp; with_reducible rfl
  try simp only [Act.put, List.setIfInBounds_toArray, List.set_cons_zero, List.set_cons_succ]
  refine takeH (i := 11) (d := some 15) (v := ?_) rfl rfl (by kernel_rfl) (by kernel_rfl) (by kernel_rfl) (fun _ _ _ h => h) (by rfl) ?_ (by assumption) ?_
  rotate_left
  · intro w hSw; (try dsimp only at hSw); go_simp; with_reducible rfl
  try simp only [Act.put, List.setIfInBounds_toArray, List.set_cons_zero, List.set_cons_succ]
  refine takeH (i := 12) (d := some 16) (v := ?_) rfl rfl (by kernel_rfl) (by kernel_rfl) (by kernel_rfl) (fun _ _ _ h => h) (by rfl) ?_ (by assumption) ?_
  rotate_left
  · intro w hSw; (try dsimp only at hSw); go_simp; with_reducible rfl
  try simp only [Act.put, List.setIfInBounds_toArray, List.set_cons_zero, List.set_cons_succ]
  refine takeH (i := 13) (d := some 17) (v := ?_) rfl rfl (by kernel_rfl) (by kernel_rfl) (by kernel_rfl) (fun _ _ _ h => h) (by rfl) ?_ (by assumption) ?_
  rotate_left
  · intro w hSw; (try dsimp only at hSw); go_simp; with_reducible rfl
  try simp only [Act.put, List.setIfInBounds_toArray, List.set_cons_zero, List.set_cons_succ]
  refine wpAnyH_ready (rs := [4, 6]) (by kernel_rfl) (by simp) ?_
  refine AllReadyH.cons (by rfl) (fun K hKK => ?_) (AllReadyH.cons (by rfl) (fun K hKK => ?_) AllReadyH.nil)
  · skip
    have hcb := cell_of (i := 0) (show BankW (w.alloc (.cells #[.bool g.org.sec, .string g.org.host, .int .i64 g.org.port, .bool g.proxy, .string g.user, .string g.pass, .int .i64 g.ask.sch, .string g.ask.realm, .string g.ask.nonce, .string g.ask.opq, .bool g.ask.sess, .string g.ask.qop, .bool g.ask.stale, .slice da dl dc, .int .i64 g.count, .slice pa pl pc] 36)).drew B b gv wv G V from (show BankW _ B b gv wv G V from HK.out.1.below HB0.out.1)).blk
    simp only [List.getElem?_toArray, List.getElem?_cons_zero] at hcb
    go_simp
    refine hKK.out _ _ hHeld (fun hHeld => ?_)
    clear hKK K hcb
    try simp only [Act.put, List.setIfInBounds_toArray, List.set_cons_zero, List.set_cons_succ]
    refine wpAnyH_ready (rs := [6]) (by kernel_rfl) (by simp) ?_
    refine AllReadyH.cons (by rfl) (fun K hKK => ?_) AllReadyH.nil
    go_simp
    refine (freshG_at g HD.out.2.2 da pa dl dc pl pc db doff pb poff _ (HD.out.1.below HB0.out.1) (HD.out.2.1.below HB0.out.1)).mono ?_
    rintro e w1 ⟨⟨v, u, rfl, hv, hu⟩, hb1⟩
    have H1 : Hid (PutA w (w.alloc (.cells #[.bool g.org.sec, .string g.org.host, .int .i64 g.org.port, .bool g.proxy, .string g.user, .string g.pass, .int .i64 g.ask.sch, .string g.ask.realm, .string g.ask.nonce, .string g.ask.opq, .bool g.ask.sess, .string g.ask.qop, .bool g.ask.stale, .slice da dl dc, .int .i64 g.count, .slice pa pl pc] 36)).drew w1 B b gv wv G V g v u #[.bool g.org.sec, .string g.org.host, .int .i64 g.org.port, .bool g.proxy, .string g.user, .string g.pass, .int .i64 g.ask.sch, .string g.ask.realm, .string g.ask.nonce, .string g.ask.opq, .bool g.ask.sess, .string g.ask.qop, .bool g.ask.stale, .slice da dl dc, .int .i64 g.count, .slice pa pl pc]) := putA_of HK.out HB0.out.1 HB0.out.2 hb1 hv hu
    clear hv hu hb1
    go_wp2_with fail
    refine hKK.out _ _ (facts16 H1.out.box) (fun hHeld => ?_)
    clear hKK K
    try simp only [Act.put, List.setIfInBounds_toArray, List.set_cons_zero, List.set_cons_succ]
    refine wpAnyH_ready (rs := [14]) (by kernel_rfl) (by simp) ?_
    refine AllReadyH.cons (by rfl) (fun K hKK => ?_) AllReadyH.nil
    go_simp
    refine (grantOf_any g.org g.proxy g.ask.realm _).mono ?_
    rintro e w2 ⟨⟨xa, xb, xc, rfl, H3⟩, hb2⟩
    have H2 : Hid (PutA w (w.alloc (.cells #[.bool g.org.sec, .string g.org.host, .int .i64 g.org.port, .bool g.proxy, .string g.user, .string g.pass, .int .i64 g.ask.sch, .string g.ask.realm, .string g.ask.nonce, .string g.ask.opq, .bool g.ask.sess, .string g.ask.qop, .bool g.ask.stale, .slice da dl dc, .int .i64 g.count, .slice pa pl pc] 36)).drew w2 B b gv wv G V g v u #[.bool g.org.sec, .string g.org.host, .int .i64 g.org.port, .bool g.proxy, .string g.user, .string g.pass, .int .i64 g.ask.sch, .string g.ask.realm, .string g.ask.nonce, .string g.ask.opq, .bool g.ask.sess, .string g.ask.qop, .bool g.ask.stale, .slice da dl dc, .int .i64 g.count, .slice pa pl pc]) := putA_below H1.out hb2
    clear hb2
    go_wp2_with fail
    refine hKK.out _ _ (facts16 H2.out.box) (fun hHeld => ?_)
    clear hKK K
    try simp only [Act.put, List.setIfInBounds_toArray, List.set_cons_zero, List.set_cons_succ]
    refine wpAnyH_ready (rs := [15]) (by kernel_rfl) (by simp) ?_
    refine AllReadyH.cons (by rfl) (fun K hKK => ?_) AllReadyH.nil
    go_simp
    refine (put_ren g HD.out.2.2 v u H2.out H3.out).mono ?_
    rintro e w3 ⟨g3, n3, c3, rfl, H4⟩
    go_wp2_with fail
    refine hKK.out _ _ (facts16 H4.out.2.1) (fun hHeld => ?_)
    clear hKK K
    try simp only [Act.put, List.setIfInBounds_toArray, List.set_cons_zero, List.set_cons_succ]
    refine takeH (i := 16) (d := some 20) (v := ?_) rfl rfl (by kernel_rfl) (by kernel_rfl) (by kernel_rfl) (fun _ _ _ h => h) (by rfl) ?_ (by assumption) ?_
    rotate_left
    · intro w hSw; (try dsimp only at hSw); go_simp; with_reducible rfl
    try simp only [Act.put, List.setIfInBounds_toArray, List.set_cons_zero, List.set_cons_succ]
    refine takeH (i := 17) (d := some 21) (v := ?_) rfl rfl (by kernel_rfl) (by kernel_rfl) (by kernel_rfl) (fun _ _ _ h => h) (by rfl) ?_ (by assumption) ?_
    rotate_left
    · intro w hSw; (try dsimp only at hSw); go_simp; with_reducible rfl
    try simp only [Act.put, List.setIfInBounds_toArray, List.set_cons_zero, List.set_cons_succ]
    refine wpAnyH_ready (rs := [18]) (by kernel_rfl) (by simp) ?_
    refine AllReadyH.cons (by rfl) (fun K hKK => ?_) AllReadyH.nil
    have hcb := (cell_of (i := 0) H4.out.2.2.1)
    simp only [List.getElem?_toArray, List.getElem?_cons_zero] at hcb
    have hfr := free_of H4.out.2.2.1
    go_simp
    refine hKK.out _ _ (facts16 H4.out.2.2.2.1) (fun hHeld => ?_)
    clear hKK K hcb hfr
    try simp only [Act.put, List.setIfInBounds_toArray, List.set_cons_zero, List.set_cons_succ]
    refine wpAnyH_done (by kernel_rfl) ?_ _
    go_wp2
    go_end0
    exact ⟨rfl, H4.out.2.2.2.2⟩
  · skip
    go_simp
    refine (freshG_at g HD.out.2.2 da pa dl dc pl pc db doff pb poff _ (HD.out.1.below HB0.out.1) (HD.out.2.1.below HB0.out.1)).mono ?_
    rintro e w1 ⟨⟨v, u, rfl, hv, hu⟩, hb1⟩
    have H1 : Hid (PutA w (w.alloc (.cells #[.bool g.org.sec, .string g.org.host, .int .i64 g.org.port, .bool g.proxy, .string g.user, .string g.pass, .int .i64 g.ask.sch, .string g.ask.realm, .string g.ask.nonce, .string g.ask.opq, .bool g.ask.sess, .string g.ask.qop, .bool g.ask.stale, .slice da dl dc, .int .i64 g.count, .slice pa pl pc] 36)).drew w1 B b gv wv G V g v u #[.bool g.org.sec, .string g.org.host, .int .i64 g.org.port, .bool g.proxy, .string g.user, .string g.pass, .int .i64 g.ask.sch, .string g.ask.realm, .string g.ask.nonce, .string g.ask.opq, .bool g.ask.sess, .string g.ask.qop, .bool g.ask.stale, .slice da dl dc, .int .i64 g.count, .slice pa pl pc]) := putA_of HK.out HB0.out.1 HB0.out.2 hb1 hv hu
    clear hv hu hb1
    go_wp2_with fail
    refine hKK.out _ _ (facts16 H1.out.box) (fun hHeld => ?_)
    clear hKK K
    try simp only [Act.put, List.setIfInBounds_toArray, List.set_cons_zero, List.set_cons_succ]
    refine wpAnyH_ready (rs := [4, 14]) (by kernel_rfl) (by simp) ?_
    refine AllReadyH.cons (by rfl) (fun K hKK => ?_) (AllReadyH.cons (by rfl) (fun K hKK => ?_) AllReadyH.nil)
    · skip
      have hcb := cell_of (i := 0) (show BankW w1 B b gv wv G V from H1.out.bank).blk
      simp only [List.getElem?_toArray, List.getElem?_cons_zero] at hcb
      go_simp
      refine hKK.out _ _ hHeld (fun hHeld => ?_)
      clear hKK K hcb
      try simp only [Act.put, List.setIfInBounds_toArray, List.set_cons_zero, List.set_cons_succ]
      refine wpAnyH_ready (rs := [14]) (by kernel_rfl) (by simp) ?_
      refine AllReadyH.cons (by rfl) (fun K hKK => ?_) AllReadyH.nil
      go_simp
      refine (grantOf_any g.org g.proxy g.ask.realm _).mono ?_
      rintro e w2 ⟨⟨xa, xb, xc, rfl, H3⟩, hb2⟩
      have H2 : Hid (PutA w (w.alloc (.cells #[.bool g.org.sec, .string g.org.host, .int .i64 g.org.port, .bool g.proxy, .string g.user, .string g.pass, .int .i64 g.ask.sch, .string g.ask.realm, .string g.ask.nonce, .string g.ask.opq, .bool g.ask.sess, .string g.ask.qop, .bool g.ask.stale, .slice da dl dc, .int .i64 g.count, .slice pa pl pc] 36)).drew w2 B b gv wv G V g v u #[.bool g.org.sec, .string g.org.host, .int .i64 g.org.port, .bool g.proxy, .string g.user, .string g.pass, .int .i64 g.ask.sch, .string g.ask.realm, .string g.ask.nonce, .string g.ask.opq, .bool g.ask.sess, .string g.ask.qop, .bool g.ask.stale, .slice da dl dc, .int .i64 g.count, .slice pa pl pc]) := putA_below H1.out hb2
      clear hb2
      go_wp2_with fail
      refine hKK.out _ _ (facts16 H2.out.box) (fun hHeld => ?_)
      clear hKK K
      try simp only [Act.put, List.setIfInBounds_toArray, List.set_cons_zero, List.set_cons_succ]
      refine wpAnyH_ready (rs := [15]) (by kernel_rfl) (by simp) ?_
      refine AllReadyH.cons (by rfl) (fun K hKK => ?_) AllReadyH.nil
      go_simp
      refine (put_ren g HD.out.2.2 v u H2.out H3.out).mono ?_
      rintro e w3 ⟨g3, n3, c3, rfl, H4⟩
      go_wp2_with fail
      refine hKK.out _ _ (facts16 H4.out.2.1) (fun hHeld => ?_)
      clear hKK K
      try simp only [Act.put, List.setIfInBounds_toArray, List.set_cons_zero, List.set_cons_succ]
      refine takeH (i := 16) (d := some 20) (v := ?_) rfl rfl (by kernel_rfl) (by kernel_rfl) (by kernel_rfl) (fun _ _ _ h => h) (by rfl) ?_ (by assumption) ?_
      rotate_left
      · intro w hSw; (try dsimp only at hSw); go_simp; with_reducible rfl
      try simp only [Act.put, List.setIfInBounds_toArray, List.set_cons_zero, List.set_cons_succ]
      refine takeH (i := 17) (d := some 21) (v := ?_) rfl rfl (by kernel_rfl) (by kernel_rfl) (by kernel_rfl) (fun _ _ _ h => h) (by rfl) ?_ (by assumption) ?_
      rotate_left
      · intro w hSw; (try dsimp only at hSw); go_simp; with_reducible rfl
      try simp only [Act.put, List.setIfInBounds_toArray, List.set_cons_zero, List.set_cons_succ]
      refine wpAnyH_ready (rs := [18]) (by kernel_rfl) (by simp) ?_
      refine AllReadyH.cons (by rfl) (fun K hKK => ?_) AllReadyH.nil
      have hcb := (cell_of (i := 0) H4.out.2.2.1)
      simp only [List.getElem?_toArray, List.getElem?_cons_zero] at hcb
      have hfr := free_of H4.out.2.2.1
      go_simp
      refine hKK.out _ _ (facts16 H4.out.2.2.2.1) (fun hHeld => ?_)
      clear hKK K hcb hfr
      try simp only [Act.put, List.setIfInBounds_toArray, List.set_cons_zero, List.set_cons_succ]
      refine wpAnyH_done (by kernel_rfl) ?_ _
      go_wp2
      go_end0
      exact ⟨rfl, H4.out.2.2.2.2⟩
    · skip
      go_simp
      refine (grantOf_any g.org g.proxy g.ask.realm _).mono ?_
      rintro e w2 ⟨⟨xa, xb, xc, rfl, H3⟩, hb2⟩
      have H2 : Hid (PutA w (w.alloc (.cells #[.bool g.org.sec, .string g.org.host, .int .i64 g.org.port, .bool g.proxy, .string g.user, .string g.pass, .int .i64 g.ask.sch, .string g.ask.realm, .string g.ask.nonce, .string g.ask.opq, .bool g.ask.sess, .string g.ask.qop, .bool g.ask.stale, .slice da dl dc, .int .i64 g.count, .slice pa pl pc] 36)).drew w2 B b gv wv G V g v u #[.bool g.org.sec, .string g.org.host, .int .i64 g.org.port, .bool g.proxy, .string g.user, .string g.pass, .int .i64 g.ask.sch, .string g.ask.realm, .string g.ask.nonce, .string g.ask.opq, .bool g.ask.sess, .string g.ask.qop, .bool g.ask.stale, .slice da dl dc, .int .i64 g.count, .slice pa pl pc]) := putA_below H1.out hb2
      clear hb2
      go_wp2_with fail
      refine hKK.out _ _ (facts16 H2.out.box) (fun hHeld => ?_)
      clear hKK K
      try simp only [Act.put, List.setIfInBounds_toArray, List.set_cons_zero, List.set_cons_succ]
      refine wpAnyH_ready (rs := [4]) (by kernel_rfl) (by simp) ?_
      refine AllReadyH.cons (by rfl) (fun K hKK => ?_) AllReadyH.nil
      have hcb := cell_of (i := 0) (show BankW w2 B b gv wv G V from H2.out.bank).blk
      simp only [List.getElem?_toArray, List.getElem?_cons_zero] at hcb
      go_simp
      refine hKK.out _ _ hHeld (fun hHeld => ?_)
      clear hKK K hcb
      try simp only [Act.put, List.setIfInBounds_toArray, List.set_cons_zero, List.set_cons_succ]
      refine wpAnyH_ready (rs := [15]) (by kernel_rfl) (by simp) ?_
      refine AllReadyH.cons (by rfl) (fun K hKK => ?_) AllReadyH.nil
      go_simp
      refine (put_ren g HD.out.2.2 v u H2.out H3.out).mono ?_
      rintro e w3 ⟨g3, n3, c3, rfl, H4⟩
      go_wp2_with fail
      refine hKK.out _ _ (facts16 H4.out.2.1) (fun hHeld => ?_)
      clear hKK K
      try simp only [Act.put, List.setIfInBounds_toArray, List.set_cons_zero, List.set_cons_succ]
      refine takeH (i := 16) (d := some 20) (v := ?_) rfl rfl (by kernel_rfl) (by kernel_rfl) (by kernel_rfl) (fun _ _ _ h => h) (by rfl) ?_ (by assumption) ?_
      rotate_left
      · intro w hSw; (try dsimp only at hSw); go_simp; with_reducible rfl
      try simp only [Act.put, List.setIfInBounds_toArray, List.set_cons_zero, List.set_cons_succ]
      refine takeH (i := 17) (d := some 21) (v := ?_) rfl rfl (by kernel_rfl) (by kernel_rfl) (by kernel_rfl) (fun _ _ _ h => h) (by rfl) ?_ (by assumption) ?_
      rotate_left
      · intro w hSw; (try dsimp only at hSw); go_simp; with_reducible rfl
      try simp only [Act.put, List.setIfInBounds_toArray, List.set_cons_zero, List.set_cons_succ]
      refine wpAnyH_ready (rs := [18]) (by kernel_rfl) (by simp) ?_
      refine AllReadyH.cons (by rfl) (fun K hKK => ?_) AllReadyH.nil
      have hcb := (cell_of (i := 0) H4.out.2.2.1)
      simp only [List.getElem?_toArray, List.getElem?_cons_zero] at hcb
      have hfr := free_of H4.out.2.2.1
      go_simp
      refine hKK.out _ _ (facts16 H4.out.2.2.2.1) (fun hHeld => ?_)
      clear hKK K hcb hfr
      try simp only [Act.put, List.setIfInBounds_toArray, List.set_cons_zero, List.set_cons_succ]
      refine wpAnyH_done (by kernel_rfl) ?_ _
      go_wp2
      go_end0
      exact ⟨rfl, H4.out.2.2.2.2⟩
end Go.Proofs.Ytdnnlfklanaliab
