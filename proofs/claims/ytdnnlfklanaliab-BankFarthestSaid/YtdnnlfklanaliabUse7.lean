/- A grant is used. -/
import Derived.Test.YtdnnlfklanaliabFnd7
import Derived.Test.YtdnnlfklanaliabGrt7
import Derived.Test.YtdnnlfklanaliabDltG
namespace Go.Proofs.Ytdnnlfklanaliab
open Go.RowKit
set_option linter.unusedVariables false

def maxCnt : Int := 4294967295
/-- One more use. -/
def moreP (g : GrP) : GrP := { g with count := g.count + 1 }
/-- A bank's grants behind a use, the grant, and the error's number. -/
def useL (l : List GrP) (i : Int) : List GrP × GrP × Nat :=
  if i < 0 then (l, zeroP, 8)
  else if maxCnt ≤ ((l[i.toNat]?).getD zeroP).count then (l.eraseIdx i.toNat, zeroP, 12)
  else (l.eraseIdx i.toNat ++ [moreP ((l[i.toNat]?).getD zeroP)], moreP ((l[i.toNat]?).getD zeroP), 0)
/-- An error's number as a value; 0: none. -/
def errU (k : Nat) : Value := if k = 0 then .nilIface else .iface 86 (.int .i64 (k : Int))
/-- What Use answers, and leaves. -/
def UseAns (w : World) (B b : Nat) (gv wv : Value) (V : List WtV) (r : List GrP × GrP × Nat) (e : Ending) (w' : World) : Prop :=
  (∃ x : GrV, e = .returned (.tuple #[.agg (grCells x).toArray, errU r.2.2]) ∧ x.g = r.2.1 ∧ GrOwn w' w.heap.size x) ∧ ∃ gv' G', Hid (BankW w' B b gv' wv G' V ∧ G'.map (·.g) = r.1 ∧ BankStep b gv wv w w' gv' wv)
/-- A block of a grant that is no row of the bank's may be written. -/
theorem bank_off {w w' : World} {B b R : Nat} {gv wv : Value} {G : List GrV} {V : List WtV} {Z : Array Value} (h : BankW w B b gv wv G V) (hR : w.heap[R]? = some (.cells Z 36 (0, 0))) (hne : gv.ownBlock ≠ some R) (hg : w.grownBy w' (some R)) : BankW w' B b gv wv G V :=
  have t := Typed.block hR
  ⟨block_other h.blk hg t (by decide), h.low, h.gs.kept hg (.inr hne), h.ws.other hg t (by decide), fun v hv => (h.go v hv).other hg t (by decide), fun v hv => OwnS.other (h.wo v hv) hg t (by decide), h.gf, h.glen, h.vlen⟩
theorem step_off {w w1 w' : World} {b R : Nat} {gv wv gv' wv' : Value} (h : BankStep b gv wv w w1 gv' wv') (hg : w1.grownBy w' (some R)) (hR : w.heap.size ≤ R) : BankStep b gv wv w w' gv' wv' :=
  ⟨hg.os.trans h.os, hg.tape.trans h.tape, hg.output.trans h.output, Nat.le_trans h.size hg.size, fun x hx h1 h2 h3 => by
    obtain ⟨e1, e2, e3⟩ := h.keep x hx h1 h2 h3
    exact ⟨(hg.block x (Nat.lt_of_lt_of_le hx h.size) (fun e => by injection e with e; omega)).trans e1, e2, e3⟩⟩
theorem res_store {w4 : World} {R : Nat} {Z : Array Value} {t : TypeId} (h : w4.heap[R]? = some (.cells Z t (0, 0))) (x : List Value) (hz : Z.size = x.length) (h1 : ∀ u ∈ x, u.oneCell' = true) :
    Sem.run Try.prog (storeCells ⟨R, 0, none⟩ x 0) w4 = .ok () (w4.setCells R 0 x) ∧ Hid ((w4.setCells R 0 x).heap[R]? = some (.cells x.toArray t (0, 0)) ∧ w4.grownBy (w4.setCells R 0 x) (some R)) := by
  have hr := run_storeCells_cells (P := Try.prog) R 0 x 0 w4 (fun j hj => by
    rw [Nat.add_zero, Nat.zero_add, cell_of h, Array.getElem?_eq_getElem (by omega)]
    rfl) (fun j _ => free_of h _) h1
  rw [Nat.add_zero] at hr
  exact ⟨hr, setAll x h hz⟩
theorem use_one {s p se st : Bool} {h us pw r no op qo : ByteArray} {n sc c : Int} {da pa : Option Addr} {dn dc pn pc : Nat} : ∀ u ∈ [Value.bool s, .string h, .int .i64 n, .bool p, .string us, .string pw, .int .i64 sc, .string r, .string no, .string op, .bool se, .string qo, .bool st, .slice da dn dc, .int .i64 c, .slice pa pn pc], u.oneCell' = true := by
  intro u hu
  simp only [List.mem_cons, List.not_mem_nil, or_false] at hu
  rcases hu with rfl | rfl | rfl | rfl | rfl | rfl | rfl | rfl | rfl | rfl | rfl | rfl | rfl | rfl | rfl | rfl <;> rfl
/-- Behind a call that answers nothing. -/
theorem use_end {w w1 w' : World} {B b R : Nat} {gv wv gv' : Value} {G' : List GrV} {V : List WtV} {Z : Array Value} {r : List GrP × GrP × Nat} {x : GrV} (h : BankW w1 B b gv' wv G' V) (hs : BankStep b gv wv w w1 gv' wv) (hR : w1.heap[R]? = some (.cells Z 36 (0, 0))) (hne : gv'.ownBlock ≠ some R) (hRl : w.heap.size ≤ R) (hg : w1.grownBy w' (some R)) (hr : G'.map (·.g) = r.1) (hx : x.g = r.2.1) (hxo : GrOwn w1 w.heap.size x) :
    UseAns w B b gv wv V r (.returned (.tuple #[.agg (grCells x).toArray, errU r.2.2])) w' :=
  ⟨⟨x, rfl, hx, hxo.other hg (Typed.block hR) (by decide)⟩, gv', G', ⟨bank_off h hR hne hg, hr, step_off hs hg hRl⟩⟩
theorem erase_take {α : Type} (l : List α) (k : Nat) : l.take k ++ l.drop (k + 1) = l.eraseIdx k := (List.eraseIdx_eq_take_drop_succ l k).symm
/-- The row without the grant that is used. -/
theorem use_del {w w2 w3 : World} {B b g n cap k : Nat} {wv : Value} {G : List GrV} {V : List WtV} {v : GrV} (h : BankW w B b (.slice (some ⟨g, 0, none⟩) n cap) wv G V) (h2 : BankW w2 B b (.slice (some ⟨g, 0, none⟩) n cap) wv G V) (hb2 : Below w.heap.size w w2) (hn : G.length = n) (hv : G[k]? = some v) (hb : Below w2.heap.size w2 w3) (hB : B ≤ w.heap.size) :
    Calls Try.prog 48 #[.slice (some ⟨g, 0, none⟩) n cap, .int .i64 (k : Int), .int .i64 ((k : Int) + 1)] w3 fun e w4 => ∃ m, e = .returned (.slice (some ⟨g, 0, none⟩) m cap) ∧ Hid (w3.grownBy w4 (some g) ∧ BankW (w4.setCell ⟨b, 0, none⟩ (.slice (some ⟨g, 0, none⟩) m cap)) B b (.slice (some ⟨g, 0, none⟩) m cap) wv (G.eraseIdx k) V ∧ BankStep b (.slice (some ⟨g, 0, none⟩) n cap) wv w (w4.setCell ⟨b, 0, none⟩ (.slice (some ⟨g, 0, none⟩) m cap)) (.slice (some ⟨g, 0, none⟩) m cap) wv ∧ w4.heap[b]? = some (.cells #[.slice (some ⟨g, 0, none⟩) n cap, wv] 54 (0, 0))) := by
  have hk : k < n := by rw [← hn]; exact (List.getElem?_eq_some_iff.1 hv).1
  have hcap : cap ≤ 9223372036854775807 := by
    rcases h2.gs.forms with ⟨e, _⟩ | ⟨g', cap', e, _, _, _, hm⟩
    · cases e
    · injection e with _ _ e3
      rw [e3]
      unfold maxLen at hm
      omega
  have h3 := h2.below hb
  have hd := dltG_any g n cap B (G.map grCells) (by rw [List.length_map]; exact hn) hcap w3 h3.gs k (k + 1) (by omega) (by omega)
  rw [show ((k + 1 : Nat) : Int) = (k : Int) + 1 by push_cast; rfl] at hd
  refine hd.mono ?_
  rintro e w4 ⟨rfl, H⟩
  obtain ⟨hown, hg⟩ := H.out
  have e1 : (G.map grCells).take k ++ (G.map grCells).drop (k + 1) = (G.eraseIdx k).map grCells := by rw [← List.map_take, ← List.map_drop, ← List.map_append, erase_take]
  rw [e1] at hown
  have hb3 : Below w.heap.size w w3 := hb2.trans (hb.mono hb2.size)
  obtain ⟨h5, h6⟩ := bank_grants h hb3 hg hown (fun j hj => .inl hj) (fun x hx => by
    have := List.mem_of_mem_eraseIdx hx
    exact ⟨.inl this, h.gf x this⟩) (Nat.le_trans (List.length_eraseIdx_le _ _) h.glen)
  exact ⟨_, rfl, ⟨hg, h5, h6, block_other h3.blk hg h3.gs.typed (by decide)⟩⟩
set_option maxRecDepth 100000 in
set_option maxHeartbeats 8000000 in
theorem use_any {B b : Nat} {gv wv : Value} {G : List GrV} {V : List WtV} (w : World) (h : BankW w B b gv wv G V) (hB : B ≤ w.heap.size) (o : OrgV) (p : Bool) (path : ByteArray) :
    Calls Try.prog 24 #[.pointer (some ⟨b, 0, none⟩), .agg #[.bool o.sec, .string o.host, .int .i64 o.port], .bool p, .string path] w fun e w' => UseAns w B b gv wv V (useL (G.map (·.g)) (findI (G.map (·.g)) o p path)) e w' := by
  have H0 : Hid (FndF w ((w.alloc (.cells #[.bool o.sec, .string o.host, .int .i64 o.port] 29)).alloc (.cells #[.bool false, .string ⟨#[]⟩, .int .i64 0, .bool false, .string ⟨#[]⟩, .string ⟨#[]⟩, .int .i64 0, .string ⟨#[]⟩, .string ⟨#[]⟩, .string ⟨#[]⟩, .bool false, .string ⟨#[]⟩, .bool false, .slice none 0 0, .int .i64 0, .slice none 0 0] 36)).drew B b gv wv G V o _) := fnd_start w h o _
  have HK : Hid (BankW w B b gv wv G V ∧ B ≤ w.heap.size) := ⟨h, hB⟩
  have hQ := H0.out.facts
  obtain ⟨I, HI⟩ : ∃ I, Hid (findI (G.map (·.g)) o p path = I) := ⟨_, rfl⟩
  have HIR : Hid (I = -1 ∨ ∃ k : Nat, I = k ∧ k < G.length) := by
    have := findI_range (G.map (·.g)) o p path
    rw [HI.out, List.length_map] at this
    exact this
  rw [HI.out]
  clear h hB
  go_enter Try.func24, Try.ntmps24
  go_wp2_with fail
  go_region_held3 (fun W => W.cell? ⟨b, 0, none⟩ = some gv ∧ W.cell? ⟨w.heap.size, 0, none⟩ = some (.bool o.sec) ∧ W.cell? ⟨w.heap.size, 1, none⟩ = some (.string o.host) ∧ W.cell? ⟨w.heap.size, 2, none⟩ = some (.int .i64 o.port)) (with_reducible assumption) (first
    | (go_at_call 34; refine (reachFor_any o p path _).mono ?_; rintro e w1 ⟨⟨xa, xb, xc, rfl, H3⟩, hb1⟩; have H1 : Hid (FndF w w1 B b gv wv G V o _) := H0.out.below hb1; have hQ1 := H1.out.facts; clear hb1)
    | (go_at_call 33; refine (farthest_any _ H1.out.bank o p path xa xb xc H3.out).mono ?_; rw [HI.out]; rintro e w2 ⟨rfl, hb2⟩; have H2 : Hid (FndF w w2 B b gv wv G V o _) := H1.out.below hb2; have hQ2 := H2.out.facts; clear hb2))
  clear hQ hQ1 hQ2 H3 H1 H0
  rcases HIR.out with hI | ⟨k, hI, hkG⟩
  · subst hI
    have hres := H2.out.res
    have d0 : w2.cell? ⟨w.heap.size + 1, 0, none⟩ = some (.bool false) := cell_of hres
    have d1 : w2.cell? ⟨w.heap.size + 1, 1, none⟩ = some (.string ⟨#[]⟩) := cell_of hres
    have d2 : w2.cell? ⟨w.heap.size + 1, 2, none⟩ = some (.int .i64 0) := cell_of hres
    have d3 : w2.cell? ⟨w.heap.size + 1, 3, none⟩ = some (.bool false) := cell_of hres
    have d4 : w2.cell? ⟨w.heap.size + 1, 4, none⟩ = some (.string ⟨#[]⟩) := cell_of hres
    have d5 : w2.cell? ⟨w.heap.size + 1, 5, none⟩ = some (.string ⟨#[]⟩) := cell_of hres
    have d6 : w2.cell? ⟨w.heap.size + 1, 6, none⟩ = some (.int .i64 0) := cell_of hres
    have d7 : w2.cell? ⟨w.heap.size + 1, 7, none⟩ = some (.string ⟨#[]⟩) := cell_of hres
    have d8 : w2.cell? ⟨w.heap.size + 1, 8, none⟩ = some (.string ⟨#[]⟩) := cell_of hres
    have d9 : w2.cell? ⟨w.heap.size + 1, 9, none⟩ = some (.string ⟨#[]⟩) := cell_of hres
    have d10 : w2.cell? ⟨w.heap.size + 1, 10, none⟩ = some (.bool false) := cell_of hres
    have d11 : w2.cell? ⟨w.heap.size + 1, 11, none⟩ = some (.string ⟨#[]⟩) := cell_of hres
    have d12 : w2.cell? ⟨w.heap.size + 1, 12, none⟩ = some (.bool false) := cell_of hres
    have d13 : w2.cell? ⟨w.heap.size + 1, 13, none⟩ = some (.slice none 0 0) := cell_of hres
    have d14 : w2.cell? ⟨w.heap.size + 1, 14, none⟩ = some (.int .i64 0) := cell_of hres
    have d15 : w2.cell? ⟨w.heap.size + 1, 15, none⟩ = some (.slice none 0 0) := cell_of hres
    have fr := free_of hres
    clear hres
    go_wp2
    have hR := H2.out.res
    obtain ⟨z1, z2⟩ := setAll [.bool false, .string ⟨#[]⟩, .int .i64 0, .bool false, .string ⟨#[]⟩, .string ⟨#[]⟩, .int .i64 0, .string ⟨#[]⟩, .string ⟨#[]⟩, .string ⟨#[]⟩, .bool false, .string ⟨#[]⟩, .bool false, .slice none 0 0, .int .i64 0, .slice none 0 0] hR rfl
    simp only [World.setCells, Nat.reduceAdd] at z1 z2
    clear d0 d1 d2 d3 d4 d5 d6 d7 d8 d9 d10 d11 d12 d13 d14 d15 fr
    have hne : gv.ownBlock ≠ some (w.heap.size + 1) := fun e => by
      have := (HK.out.1.gs.lt _ e).2
      omega
    exact bodyPost_ret (v := .tuple #[.agg (grCells zeroV).toArray, errU 8]) (res_cell_tmp (vs := grCells zeroV) rfl rfl rfl Try.isAgg36 Try.sizeOf36 rfl z1) rfl (use_end (r := useL (G.map (·.g)) (-1)) (x := zeroV) H2.out.bank (BankStep.of_below H2.out.bel) hR hne (by omega) z2 rfl rfl (zeroV_own _ _))
  · subst hI
    obtain ⟨v, hv⟩ : ∃ v, G[k]? = some v := ⟨G[k], List.getElem?_eq_getElem hkG⟩
    have HV : Hid (G[k]? = some v ∧ k < G.length) := ⟨hv, hkG⟩
    obtain ⟨n, HN⟩ : ∃ n, Hid (G.length = n) := ⟨_, rfl⟩
    obtain ⟨g, cap, hgv, hgl⟩ : ∃ g cap, gv = .slice (some ⟨g, 0, none⟩) n cap ∧ g < w.heap.size := by
      rcases HK.out.1.gs.forms with ⟨_, e2⟩ | ⟨g, cap, e, _, h1, _, _⟩
      · have := congrArg List.length e2
        rw [List.length_map, List.length_nil] at this
        omega
      · rw [List.length_map] at e
        exact ⟨g, cap, by rw [e, HN.out], h1⟩
    subst hgv
    have hvo := H2.out.bank.go v (List.mem_of_getElem? hv)
    obtain ⟨da, dc, dg, hdv, hds⟩ := hvo.dom.strs
    obtain ⟨pa, pc, pg, hpv, hps⟩ := hvo.paths.strs
    obtain ⟨dn, HDN⟩ : ∃ dn, Hid (v.g.ask.dom.length = dn) := ⟨_, rfl⟩
    obtain ⟨pn, HPN⟩ : ∃ pn, Hid (v.g.paths.length = pn) := ⟨_, rfl⟩
    rw [HDN.out] at hdv hds
    rw [HPN.out] at hpv hps
    obtain ⟨c0, c1, c2, c3, c4, c5, c6, c7, c8, c9, c10, c11, c12, c13, c14, c15⟩ := row16 H2.out.bank.gs hv hdv hpv
    have HVV : Hid (v.dv = .slice da dn dc ∧ v.pv = .slice pa pn pc ∧ Strs w2 da dn dg 0 v.g.ask.dom ∧ Strs w2 pa pn pg 0 v.g.paths) := ⟨hdv, hpv, hds, hps⟩
    have hkn : (k : Int) < (n : Int) := by have := HN.out; omega
    have hcb : w2.cell? ⟨b, 0, none⟩ = some (.slice (some ⟨g, 0, none⟩) n cap) := by first | exact H2.out.facts.1 | (rw [← HN.out]; exact H2.out.facts.1)
    have HB2 : Hid (Below w2.heap.size w2 (w2.alloc (.cells #[.bool v.g.org.sec, .string v.g.org.host, .int .i64 v.g.org.port, .bool v.g.proxy, .string v.g.user, .string v.g.pass, .int .i64 v.g.ask.sch, .string v.g.ask.realm, .string v.g.ask.nonce, .string v.g.ask.opq, .bool v.g.ask.sess, .string v.g.ask.qop, .bool v.g.ask.stale, .slice da dn dc, .int .i64 v.g.count, .slice pa pn pc] 36)) ∧ (w2.alloc (.cells #[.bool v.g.org.sec, .string v.g.org.host, .int .i64 v.g.org.port, .bool v.g.proxy, .string v.g.user, .string v.g.pass, .int .i64 v.g.ask.sch, .string v.g.ask.realm, .string v.g.ask.nonce, .string v.g.ask.opq, .bool v.g.ask.sess, .string v.g.ask.qop, .bool v.g.ask.stale, .slice da dn dc, .int .i64 v.g.count, .slice pa pn pc] 36)).heap[w2.heap.size]? = some (.cells #[.bool v.g.org.sec, .string v.g.org.host, .int .i64 v.g.org.port, .bool v.g.proxy, .string v.g.user, .string v.g.pass, .int .i64 v.g.ask.sch, .string v.g.ask.realm, .string v.g.ask.nonce, .string v.g.ask.opq, .bool v.g.ask.sess, .string v.g.ask.qop, .bool v.g.ask.stale, .slice da dn dc, .int .i64 v.g.count, .slice pa pn pc] 36 (0, 0))) := ⟨(Below.refl _ _).alloc (Nat.le_refl _) _, heap_alloc_new w2 _⟩
    have hcb2 : (w2.alloc (.cells #[.bool v.g.org.sec, .string v.g.org.host, .int .i64 v.g.org.port, .bool v.g.proxy, .string v.g.user, .string v.g.pass, .int .i64 v.g.ask.sch, .string v.g.ask.realm, .string v.g.ask.nonce, .string v.g.ask.opq, .bool v.g.ask.sess, .string v.g.ask.qop, .bool v.g.ask.stale, .slice da dn dc, .int .i64 v.g.count, .slice pa pn pc] 36)).cell? ⟨b, 0, none⟩ = some (.slice (some ⟨g, 0, none⟩) n cap) := (HB2.out.1.cell (p := ⟨b, 0, none⟩) (Array.getElem?_eq_some_iff.1 H2.out.bank.blk).1).trans hcb
    have hn8 : (n : Int) ≤ 8 := by have := HN.out; have := HK.out.1.glen; omega
    have hdel := use_del HK.out.1 H2.out.bank H2.out.bel HN.out HV.out.1 HB2.out.1 HK.out.2
    clear hvo hds hps hdv hpv hv hkG
    go_wp2_with fail
    refine hdel.mono ?_
    rintro e w3 ⟨m3, rfl, H3⟩
    clear hdel hcb hcb2 c0 c1 c2 c3 c4 c5 c6 c7 c8 c9 c10 c11 c12 c13 c14 c15
    have HVO : Hid (GrOwn w3 B v) := ((H2.out.bank.go v (List.mem_of_getElem? HV.out.1)).below HB2.out.1).other H3.out.1 (H2.out.bank.below HB2.out.1).gs.typed (by decide)
    have hGl : w2.heap.size < (w2.alloc (.cells #[.bool v.g.org.sec, .string v.g.org.host, .int .i64 v.g.org.port, .bool v.g.proxy, .string v.g.user, .string v.g.pass, .int .i64 v.g.ask.sch, .string v.g.ask.realm, .string v.g.ask.nonce, .string v.g.ask.opq, .bool v.g.ask.sess, .string v.g.ask.qop, .bool v.g.ask.stale, .slice da dn dc, .int .i64 v.g.count, .slice pa pn pc] 36)).heap.size := by simp
    have hg3 : w3.heap[w2.heap.size]? = some (.cells #[.bool v.g.org.sec, .string v.g.org.host, .int .i64 v.g.org.port, .bool v.g.proxy, .string v.g.user, .string v.g.pass, .int .i64 v.g.ask.sch, .string v.g.ask.realm, .string v.g.ask.nonce, .string v.g.ask.opq, .bool v.g.ask.sess, .string v.g.ask.qop, .bool v.g.ask.stale, .slice da dn dc, .int .i64 v.g.count, .slice pa pn pc] 36 (0, 0)) := (H3.out.1.block _ hGl (fun e => by injection e with e; have := H2.out.bel.size; omega)).trans HB2.out.2
    have hr2 := H2.out.res
    have hr3 : w3.heap[w.heap.size + 1]? = some (.cells #[.bool false, .string ⟨#[]⟩, .int .i64 0, .bool false, .string ⟨#[]⟩, .string ⟨#[]⟩, .int .i64 0, .string ⟨#[]⟩, .string ⟨#[]⟩, .string ⟨#[]⟩, .bool false, .string ⟨#[]⟩, .bool false, .slice none 0 0, .int .i64 0, .slice none 0 0] 36 (0, 0)) := (H3.out.1.block _ (Nat.lt_of_lt_of_le (Array.getElem?_eq_some_iff.1 hr2).1 HB2.out.1.size) (fun e => by injection e with e; omega)).trans ((HB2.out.1.block _ (Array.getElem?_eq_some_iff.1 hr2).1).trans hr2)
    have hb3 := H3.out.2.2.2
    have hbG : ¬ b = w2.heap.size := fun e => by
      rw [e, hg3] at hb3
      injection hb3 with hb3
      injection hb3 with _ h3
      exact absurd h3 (by decide)
    have hbR : ¬ b = w.heap.size + 1 := fun e => by
      rw [e, hr3] at hb3
      injection hb3 with hb3
      injection hb3 with _ h3
      exact absurd h3 (by decide)
    have hGR : w.heap.size + 1 < w2.heap.size := (Array.getElem?_eq_some_iff.1 hr2).1
    have hc3 := cell_of (i := 0) hb3
    have f3 := free_of hb3
    have n14 : w3.cell? ⟨w2.heap.size, 14, none⟩ = some (.int .i64 v.g.count) := cell_of hg3
    simp only [List.getElem?_toArray, List.getElem?_cons_zero] at hc3
    have HS : Hid (w3.heap[w2.heap.size]? = some (.cells #[.bool v.g.org.sec, .string v.g.org.host, .int .i64 v.g.org.port, .bool v.g.proxy, .string v.g.user, .string v.g.pass, .int .i64 v.g.ask.sch, .string v.g.ask.realm, .string v.g.ask.nonce, .string v.g.ask.opq, .bool v.g.ask.sess, .string v.g.ask.qop, .bool v.g.ask.stale, .slice da dn dc, .int .i64 v.g.count, .slice pa pn pc] 36 (0, 0)) ∧ w3.heap[w.heap.size + 1]? = some (.cells #[.bool false, .string ⟨#[]⟩, .int .i64 0, .bool false, .string ⟨#[]⟩, .string ⟨#[]⟩, .int .i64 0, .string ⟨#[]⟩, .string ⟨#[]⟩, .string ⟨#[]⟩, .bool false, .string ⟨#[]⟩, .bool false, .slice none 0 0, .int .i64 0, .slice none 0 0] 36 (0, 0)) ∧ w3.heap[b]? = some (.cells #[.slice (some ⟨g, 0, none⟩) n cap, wv] 54 (0, 0))) := ⟨hg3, hr3, hb3⟩
    obtain ⟨cnt, HCN⟩ : ∃ c, Hid (v.g.count = c) := ⟨_, rfl⟩
    rw [HCN.out] at n14
    have HU : Hid ((G.map (·.g))[k]? = some v.g) := by show _ = _; rw [List.getElem?_map, HV.out.1]; rfl
    have hneR : (Value.slice (some ⟨g, 0, none⟩) m3 cap).ownBlock ≠ some (w.heap.size + 1) := fun e => by
      have e2 : g = w.heap.size + 1 := by simpa [Value.ownBlock] using e
      omega
    have hneG : (Value.slice (some ⟨g, 0, none⟩) m3 cap).ownBlock ≠ some w2.heap.size := fun e => by
      have e2 : g = w2.heap.size := by simpa [Value.ownBlock] using e
      omega
    have HNE : Hid ((Value.slice (some ⟨g, 0, none⟩) m3 cap).ownBlock ≠ some (w.heap.size + 1) ∧ (Value.slice (some ⟨g, 0, none⟩) m3 cap).ownBlock ≠ some w2.heap.size) := ⟨hneR, hneG⟩
    clear hneR hneG
    by_cases hfull : 4294967295 ≤ cnt
    · have d0 : w3.cell? ⟨w.heap.size + 1, 0, none⟩ = some (.bool false) := cell_of hr3
      have d1 : w3.cell? ⟨w.heap.size + 1, 1, none⟩ = some (.string ⟨#[]⟩) := cell_of hr3
      have d2 : w3.cell? ⟨w.heap.size + 1, 2, none⟩ = some (.int .i64 0) := cell_of hr3
      have d3 : w3.cell? ⟨w.heap.size + 1, 3, none⟩ = some (.bool false) := cell_of hr3
      have d4 : w3.cell? ⟨w.heap.size + 1, 4, none⟩ = some (.string ⟨#[]⟩) := cell_of hr3
      have d5 : w3.cell? ⟨w.heap.size + 1, 5, none⟩ = some (.string ⟨#[]⟩) := cell_of hr3
      have d6 : w3.cell? ⟨w.heap.size + 1, 6, none⟩ = some (.int .i64 0) := cell_of hr3
      have d7 : w3.cell? ⟨w.heap.size + 1, 7, none⟩ = some (.string ⟨#[]⟩) := cell_of hr3
      have d8 : w3.cell? ⟨w.heap.size + 1, 8, none⟩ = some (.string ⟨#[]⟩) := cell_of hr3
      have d9 : w3.cell? ⟨w.heap.size + 1, 9, none⟩ = some (.string ⟨#[]⟩) := cell_of hr3
      have d10 : w3.cell? ⟨w.heap.size + 1, 10, none⟩ = some (.bool false) := cell_of hr3
      have d11 : w3.cell? ⟨w.heap.size + 1, 11, none⟩ = some (.string ⟨#[]⟩) := cell_of hr3
      have d12 : w3.cell? ⟨w.heap.size + 1, 12, none⟩ = some (.bool false) := cell_of hr3
      have d13 : w3.cell? ⟨w.heap.size + 1, 13, none⟩ = some (.slice none 0 0) := cell_of hr3
      have d14 : w3.cell? ⟨w.heap.size + 1, 14, none⟩ = some (.int .i64 0) := cell_of hr3
      have d15 : w3.cell? ⟨w.heap.size + 1, 15, none⟩ = some (.slice none 0 0) := cell_of hr3
      have fr := free_of hr3
      clear hg3 hr2 hr3 hb3
      go_wp2
      have HU2 : Hid (useL (G.map (·.g)) k = ((G.map (·.g)).eraseIdx k, zeroP, 12)) := by
        show _ = _
        unfold useL maxCnt
        rw [if_neg (by omega), Int.toNat_natCast, HU.out]
        have h1 : (4294967295 : Int) ≤ ((some v.g).getD zeroP).count := by show _ ≤ v.g.count; rw [HCN.out]; exact hfull
        rw [if_pos h1]
      have hR4 := (Below.heap_setCell w3 ⟨b, 0, none⟩ (.slice (some ⟨g, 0, none⟩) m3 cap) (w.heap.size + 1) (fun e => hbR e.symm)).trans HS.out.2.1
      obtain ⟨z1, z2⟩ := setAll [.bool false, .string ⟨#[]⟩, .int .i64 0, .bool false, .string ⟨#[]⟩, .string ⟨#[]⟩, .int .i64 0, .string ⟨#[]⟩, .string ⟨#[]⟩, .string ⟨#[]⟩, .bool false, .string ⟨#[]⟩, .bool false, .slice none 0 0, .int .i64 0, .slice none 0 0] hR4 rfl
      simp only [World.setCells, Nat.reduceAdd] at z1 z2
      refine bodyPost_ret (v := .tuple #[.agg (grCells zeroV).toArray, errU 12]) (res_cell_tmp (vs := grCells zeroV) rfl rfl rfl Try.isAgg36 Try.sizeOf36 rfl z1) rfl ?_
      rw [HU2.out]
      exact use_end (r := ((G.map (·.g)).eraseIdx k, zeroP, 12)) (x := zeroV) H3.out.2.1 H3.out.2.2.1 hR4 HNE.out.1 (by omega) z2 (by rw [List.eraseIdx_eq_take_drop_succ, List.eraseIdx_eq_take_drop_succ, List.map_append, List.map_take, List.map_drop]) rfl (zeroV_own _ _)
    · have HU2 : Hid (useL (G.map (·.g)) k = ((G.map (·.g)).eraseIdx k ++ [moreP v.g], moreP v.g, 0)) := by
        show _ = _
        unfold useL maxCnt
        rw [if_neg (by omega), Int.toNat_natCast, HU.out]
        have h1 : ¬ (4294967295 : Int) ≤ ((some v.g).getD zeroP).count := by show ¬ _ ≤ v.g.count; rw [HCN.out]; exact hfull
        rw [if_neg h1]
        rfl
      have hcl : -9223372036854775808 ≤ cnt := by rw [← HCN.out]; exact (HK.out.1.gf v (List.mem_of_getElem? HV.out.1)).2.2.2.2.2.2
      have hg4 := (Below.heap_setCell w3 ⟨b, 0, none⟩ (.slice (some ⟨g, 0, none⟩) m3 cap) w2.heap.size (fun e => hbG e.symm)).trans HS.out.1
      have hr4 := (Below.heap_setCell w3 ⟨b, 0, none⟩ (.slice (some ⟨g, 0, none⟩) m3 cap) (w.heap.size + 1) (fun e => hbR e.symm)).trans HS.out.2.1
      have hg5 := heap_setCell_same (w3.setCell ⟨b, 0, none⟩ (.slice (some ⟨g, 0, none⟩) m3 cap)) w2.heap.size 14 _ _ (.int .i64 (cnt + 1)) hg4
      have hr5 := (Below.heap_setCell (w3.setCell ⟨b, 0, none⟩ (.slice (some ⟨g, 0, none⟩) m3 cap)) ⟨w2.heap.size, 14, none⟩ (.int .i64 (cnt + 1)) (w.heap.size + 1) (by show w.heap.size + 1 ≠ w2.heap.size; omega)).trans hr4
      have g45 : (w3.setCell ⟨b, 0, none⟩ (.slice (some ⟨g, 0, none⟩) m3 cap)).grownBy ((w3.setCell ⟨b, 0, none⟩ (.slice (some ⟨g, 0, none⟩) m3 cap)).setCell ⟨w2.heap.size, 14, none⟩ (.int .i64 (cnt + 1))) (some w2.heap.size) := grown_setCells _ w2.heap.size 14 [.int .i64 (cnt + 1)]
      have ho4 := (HVO.out.other (show w3.grownBy (w3.setCell ⟨b, 0, none⟩ (.slice (some ⟨g, 0, none⟩) m3 cap)) (some b) from grown_setCells w3 b 0 [.slice (some ⟨g, 0, none⟩) m3 cap]) (Typed.block HS.out.2.2) (by decide)).other g45 (Typed.block hg4) (by decide)
      have H5 : Hid (BankW ((w3.setCell ⟨b, 0, none⟩ (.slice (some ⟨g, 0, none⟩) m3 cap)).setCell ⟨w2.heap.size, 14, none⟩ (.int .i64 (cnt + 1))) B b (.slice (some ⟨g, 0, none⟩) m3 cap) wv (G.eraseIdx k) V ∧ BankStep b (.slice (some ⟨g, 0, none⟩) n cap) wv w ((w3.setCell ⟨b, 0, none⟩ (.slice (some ⟨g, 0, none⟩) m3 cap)).setCell ⟨w2.heap.size, 14, none⟩ (.int .i64 (cnt + 1))) (.slice (some ⟨g, 0, none⟩) m3 cap) wv ∧ ((w3.setCell ⟨b, 0, none⟩ (.slice (some ⟨g, 0, none⟩) m3 cap)).setCell ⟨w2.heap.size, 14, none⟩ (.int .i64 (cnt + 1))).heap[w2.heap.size]? = some (.cells #[.bool v.g.org.sec, .string v.g.org.host, .int .i64 v.g.org.port, .bool v.g.proxy, .string v.g.user, .string v.g.pass, .int .i64 v.g.ask.sch, .string v.g.ask.realm, .string v.g.ask.nonce, .string v.g.ask.opq, .bool v.g.ask.sess, .string v.g.ask.qop, .bool v.g.ask.stale, .slice da dn dc, .int .i64 (cnt + 1), .slice pa pn pc] 36 (0, 0)) ∧ ((w3.setCell ⟨b, 0, none⟩ (.slice (some ⟨g, 0, none⟩) m3 cap)).setCell ⟨w2.heap.size, 14, none⟩ (.int .i64 (cnt + 1))).heap[w.heap.size + 1]? = some (.cells #[.bool false, .string ⟨#[]⟩, .int .i64 0, .bool false, .string ⟨#[]⟩, .string ⟨#[]⟩, .int .i64 0, .string ⟨#[]⟩, .string ⟨#[]⟩, .string ⟨#[]⟩, .bool false, .string ⟨#[]⟩, .bool false, .slice none 0 0, .int .i64 0, .slice none 0 0] 36 (0, 0)) ∧ GrOwn (((w3.setCell ⟨b, 0, none⟩ (.slice (some ⟨g, 0, none⟩) m3 cap)).setCell ⟨w2.heap.size, 14, none⟩ (.int .i64 (cnt + 1)))) B v) := ⟨bank_off H3.out.2.1 hg4 HNE.out.2 g45, step_off H3.out.2.2.1 g45 (by omega), hg5, hr5, ho4⟩
      have fg4 := free_of hg4
      clear hg4 hr4 hg5 hr5 g45 ho4 hg3 hr2 hr3 hb3
      go_wp2_with fail
      generalize ((w3.setCell ⟨b, 0, none⟩ (.slice (some ⟨g, 0, none⟩) m3 cap)).setCell ⟨w2.heap.size, 14, none⟩ (.int .i64 (cnt + 1))) = W5 at H5 ⊢
      obtain ⟨i0, hi0, hz0, hz1, hz2⟩ := info_parts infoE
      have hm3 : (G.eraseIdx k).length = m3 := by
        rcases H5.out.1.gs.forms with ⟨e, _⟩ | ⟨g', cap', e, _, _, _, _⟩
        · cases e
        · injection e with _ e2 _
          rw [List.length_map] at e2
          exact e2.symm
      have HM3 : Hid ((G.eraseIdx k).length = m3 ∧ m3 ≤ 8) := ⟨hm3, by rw [← hm3]; exact H5.out.1.glen⟩
      have hbA : Below W5.heap.size W5 (W5.alloc (.cells #[.bool v.g.org.sec, .string v.g.org.host, .int .i64 v.g.org.port, .bool v.g.proxy, .string v.g.user, .string v.g.pass, .int .i64 v.g.ask.sch, .string v.g.ask.realm, .string v.g.ask.nonce, .string v.g.ask.opq, .bool v.g.ask.sess, .string v.g.ask.qop, .bool v.g.ask.stale, .slice da dn dc, .int .i64 (cnt + 1), .slice pa pn pc] 36)).drew := ((Below.refl _ _).alloc (Nat.le_refl _) _).drew
      have hrow := (H5.out.1.gs.below hbA).row
      rw [List.length_map, hm3] at hrow
      have HR : Hid (World.ownsRow (W5.alloc (.cells #[.bool v.g.org.sec, .string v.g.org.host, .int .i64 v.g.org.port, .bool v.g.proxy, .string v.g.user, .string v.g.pass, .int .i64 v.g.ask.sch, .string v.g.ask.realm, .string v.g.ask.nonce, .string v.g.ask.opq, .bool v.g.ask.sess, .string v.g.ask.qop, .bool v.g.ask.stale, .slice da dn dc, .int .i64 (cnt + 1), .slice pa pn pc] 36)).drew B 36 16 (.slice (some ⟨g, 0, none⟩) m3 cap) m3 ((G.eraseIdx k).map grCells).flatten ∧ Below W5.heap.size W5 (W5.alloc (.cells #[.bool v.g.org.sec, .string v.g.org.host, .int .i64 v.g.org.port, .bool v.g.proxy, .string v.g.user, .string v.g.pass, .int .i64 v.g.ask.sch, .string v.g.ask.realm, .string v.g.ask.nonce, .string v.g.ask.opq, .bool v.g.ask.sess, .string v.g.ask.qop, .bool v.g.ask.stale, .slice da dn dc, .int .i64 (cnt + 1), .slice pa pn pc] 36)).drew) := ⟨hrow, hbA⟩
      have q0 : W5.drew.cell? ⟨b, 0, none⟩ = some (.slice (some ⟨g, 0, none⟩) m3 cap) := cell_of (w := W5) (i := 0) H5.out.1.blk
      have q1 : ((W5.alloc (.cells #[.bool v.g.org.sec, .string v.g.org.host, .int .i64 v.g.org.port, .bool v.g.proxy, .string v.g.user, .string v.g.pass, .int .i64 v.g.ask.sch, .string v.g.ask.realm, .string v.g.ask.nonce, .string v.g.ask.opq, .bool v.g.ask.sess, .string v.g.ask.qop, .bool v.g.ask.stale, .slice da dn dc, .int .i64 (cnt + 1), .slice pa pn pc] 36)).drew).cell? ⟨b, 0, none⟩ = some (.slice (some ⟨g, 0, none⟩) m3 cap) := (hbA.cell (p := ⟨b, 0, none⟩) (Array.getElem?_eq_some_iff.1 H5.out.1.blk).1).trans q0
      have e0 : W5.drew.cell? ⟨w2.heap.size, 0, none⟩ = some (.bool v.g.org.sec) := cell_of (w := W5) H5.out.2.2.1
      have e1 : W5.drew.cell? ⟨w2.heap.size, 1, none⟩ = some (.string v.g.org.host) := cell_of (w := W5) H5.out.2.2.1
      have e2 : W5.drew.cell? ⟨w2.heap.size, 2, none⟩ = some (.int .i64 v.g.org.port) := cell_of (w := W5) H5.out.2.2.1
      have e3 : W5.drew.cell? ⟨w2.heap.size, 3, none⟩ = some (.bool v.g.proxy) := cell_of (w := W5) H5.out.2.2.1
      have e4 : W5.drew.cell? ⟨w2.heap.size, 4, none⟩ = some (.string v.g.user) := cell_of (w := W5) H5.out.2.2.1
      have e5 : W5.drew.cell? ⟨w2.heap.size, 5, none⟩ = some (.string v.g.pass) := cell_of (w := W5) H5.out.2.2.1
      have e6 : W5.drew.cell? ⟨w2.heap.size, 6, none⟩ = some (.int .i64 v.g.ask.sch) := cell_of (w := W5) H5.out.2.2.1
      have e7 : W5.drew.cell? ⟨w2.heap.size, 7, none⟩ = some (.string v.g.ask.realm) := cell_of (w := W5) H5.out.2.2.1
      have e8 : W5.drew.cell? ⟨w2.heap.size, 8, none⟩ = some (.string v.g.ask.nonce) := cell_of (w := W5) H5.out.2.2.1
      have e9 : W5.drew.cell? ⟨w2.heap.size, 9, none⟩ = some (.string v.g.ask.opq) := cell_of (w := W5) H5.out.2.2.1
      have e10 : W5.drew.cell? ⟨w2.heap.size, 10, none⟩ = some (.bool v.g.ask.sess) := cell_of (w := W5) H5.out.2.2.1
      have e11 : W5.drew.cell? ⟨w2.heap.size, 11, none⟩ = some (.string v.g.ask.qop) := cell_of (w := W5) H5.out.2.2.1
      have e12 : W5.drew.cell? ⟨w2.heap.size, 12, none⟩ = some (.bool v.g.ask.stale) := cell_of (w := W5) H5.out.2.2.1
      have e13 : W5.drew.cell? ⟨w2.heap.size, 13, none⟩ = some (.slice da dn dc) := cell_of (w := W5) H5.out.2.2.1
      have e14 : W5.drew.cell? ⟨w2.heap.size, 14, none⟩ = some (.int .i64 (cnt + 1)) := cell_of (w := W5) H5.out.2.2.1
      have e15 : W5.drew.cell? ⟨w2.heap.size, 15, none⟩ = some (.slice pa pn pc) := cell_of (w := W5) H5.out.2.2.1
      clear hm3 hbA hrow
      go_region_law (refine step_append_lies ((W5.alloc (.cells #[.bool v.g.org.sec, .string v.g.org.host, .int .i64 v.g.org.port, .bool v.g.proxy, .string v.g.user, .string v.g.pass, .int .i64 v.g.ask.sch, .string v.g.ask.realm, .string v.g.ask.nonce, .string v.g.ask.opq, .bool v.g.ask.sess, .string v.g.ask.qop, .bool v.g.ask.stale, .slice da dn dc, .int .i64 (cnt + 1), .slice pa pn pc] 36)).drew) rfl (.tmp 56) (.tmp 58) 22 rfl B 36 i0 (.agg #[.bool false, .string ⟨#[]⟩, .int .i64 0, .bool false, .string ⟨#[]⟩, .string ⟨#[]⟩, .int .i64 0, .string ⟨#[]⟩, .string ⟨#[]⟩, .string ⟨#[]⟩, .bool false, .string ⟨#[]⟩, .bool false, .slice none 0 0, .int .i64 0, .slice none 0 0]) 16 216 Try.underlying22 hi0 hz0 hz1 hz2 rfl ?_ (.slice (some ⟨g, 0, none⟩) m3 cap) m3 ((G.eraseIdx k).map grCells).flatten ?_ HR.out.1 ⟨W5.heap.size, 0, none⟩ 1 1 [.bool v.g.org.sec, .string v.g.org.host, .int .i64 v.g.org.port, .bool v.g.proxy, .string v.g.user, .string v.g.pass, .int .i64 v.g.ask.sch, .string v.g.ask.realm, .string v.g.ask.nonce, .string v.g.ask.opq, .bool v.g.ask.sess, .string v.g.ask.qop, .bool v.g.ask.stale, .slice da dn dc, .int .i64 (cnt + 1), .slice pa pn pc] ?_ ?_ ?_ ?_ ?_ ?_ ?_ ?_ (W5.heap.size + 1) ?_ ?_; (· omega); (· rfl); (· rfl); (· rfl); (· exact World.news_of_block (cs := #[.bool v.g.org.sec, .string v.g.org.host, .int .i64 v.g.org.port, .bool v.g.proxy, .string v.g.user, .string v.g.pass, .int .i64 v.g.ask.sch, .string v.g.ask.realm, .string v.g.ask.nonce, .string v.g.ask.opq, .bool v.g.ask.sess, .string v.g.ask.qop, .bool v.g.ask.stale, .slice da dn dc, .int .i64 (cnt + 1), .slice pa pn pc]) (t := 36) (fr := (0, 0)) (heap_alloc_new W5 _)); (· exact use_one); (· omega); (· unfold maxLen; have := HM3.out.2; omega); (· have := HM3.out.2; omega); (· have := HR.out.2.size; have := HK.out.2; have := H5.out.2.1.size; omega); (· simp); intro g6 cap6 w6 hown6 hg6 hat6 hlt6; have HF6 := HM3; have b6 : w6.heap[b]? = some (.cells #[(.slice (some ⟨g, 0, none⟩) m3 cap), wv] 54 (0, 0)) := block_other ((HR.out.2.block b (Array.getElem?_eq_some_iff.1 H5.out.1.blk).1).trans H5.out.1.blk) hg6 (H5.out.1.gs.below HR.out.2).typed (by decide); have q6 := cell_of (i := 0) b6; have f6 := free_of b6)
      all_goals as_aux_lemma =>
        have hO6 := (H5.out.1.gs.below HR.out.2).appended (by rw [List.length_map]; exact HM3.out.1) (y := [.bool v.g.org.sec, .string v.g.org.host, .int .i64 v.g.org.port, .bool v.g.proxy, .string v.g.user, .string v.g.pass, .int .i64 v.g.ask.sch, .string v.g.ask.realm, .string v.g.ask.nonce, .string v.g.ask.opq, .bool v.g.ask.sess, .string v.g.ask.qop, .bool v.g.ask.stale, .slice da dn dc, .int .i64 (cnt + 1), .slice pa pn pc]) rfl use_one hown6
        have hL1 : grCells ⟨moreP v.g, v.dv, v.pv⟩ = [.bool v.g.org.sec, .string v.g.org.host, .int .i64 v.g.org.port, .bool v.g.proxy, .string v.g.user, .string v.g.pass, .int .i64 v.g.ask.sch, .string v.g.ask.realm, .string v.g.ask.nonce, .string v.g.ask.opq, .bool v.g.ask.sess, .string v.g.ask.qop, .bool v.g.ask.stale, .slice da dn dc, .int .i64 (cnt + 1), .slice pa pn pc] := by
          unfold grCells moreP
          rw [show v.dv = _ from HVV.out.1, show v.pv = _ from HVV.out.2.1]
          simp only []
          rw [HCN.out]
        rw [← hL1, show [grCells ⟨moreP v.g, v.dv, v.pv⟩] = [(⟨moreP v.g, v.dv, v.pv⟩ : GrV)].map grCells from rfl, ← List.map_append] at hO6
        have hvfit := HK.out.1.gf v (List.mem_of_getElem? HV.out.1)
        have hfit : GrFit (moreP v.g) := ⟨hvfit.1, hvfit.2.1, hvfit.2.2.1, hvfit.2.2.2.1, hvfit.2.2.2.2.1, hvfit.2.2.2.2.2.1, by show _ ≤ v.g.count + 1; have := hvfit.2.2.2.2.2.2; omega⟩
        have hlen : (G.eraseIdx k).length + 1 ≤ 8 := by
          rw [List.length_eraseIdx, if_pos HV.out.2]
          have := HK.out.1.glen
          have := HV.out.2
          omega
        obtain ⟨hW7, hS7⟩ := bank_grants H5.out.1 HR.out.2 hg6 hO6 (fun j hj => by
          have e : g6 = j := by simpa [Value.ownBlock] using hj
          subst e
          rcases hat6 with h | h
          · exact .inl h
          · refine .inr ?_
            rw [h]
            simp) (fun x hx => by
          rcases List.mem_append.1 hx with hx | hx
          · exact ⟨.inl hx, H5.out.1.gf x hx⟩
          · rw [List.mem_singleton.1 hx]
            exact ⟨.inr ⟨(H5.out.2.2.2.2.below HR.out.2).dom, (H5.out.2.2.2.2.below HR.out.2).paths⟩, hfit⟩) (by rw [List.length_append, List.length_singleton]; exact hlen)
        have t6 := (H5.out.1.gs.below HR.out.2).typed
        have hGb6 : w6.heap[w2.heap.size]? = some (.cells #[.bool v.g.org.sec, .string v.g.org.host, .int .i64 v.g.org.port, .bool v.g.proxy, .string v.g.user, .string v.g.pass, .int .i64 v.g.ask.sch, .string v.g.ask.realm, .string v.g.ask.nonce, .string v.g.ask.opq, .bool v.g.ask.sess, .string v.g.ask.qop, .bool v.g.ask.stale, .slice da dn dc, .int .i64 (cnt + 1), .slice pa pn pc] 36 (0, 0)) := (hg6.block _ (Nat.lt_of_lt_of_le (Array.getElem?_eq_some_iff.1 H5.out.2.2.1).1 HR.out.2.size) (fun e => HNE.out.2 e.symm)).trans ((HR.out.2.block _ (Array.getElem?_eq_some_iff.1 H5.out.2.2.1).1).trans H5.out.2.2.1)
        have hR6 : w6.heap[w.heap.size + 1]? = some (.cells #[.bool false, .string ⟨#[]⟩, .int .i64 0, .bool false, .string ⟨#[]⟩, .string ⟨#[]⟩, .int .i64 0, .string ⟨#[]⟩, .string ⟨#[]⟩, .string ⟨#[]⟩, .bool false, .string ⟨#[]⟩, .bool false, .slice none 0 0, .int .i64 0, .slice none 0 0] 36 (0, 0)) := (hg6.block _ (Nat.lt_of_lt_of_le (Array.getElem?_eq_some_iff.1 H5.out.2.2.2.1).1 HR.out.2.size) (fun e => HNE.out.1 e.symm)).trans ((HR.out.2.block _ (Array.getElem?_eq_some_iff.1 H5.out.2.2.2.1).1).trans H5.out.2.2.2.1)
        have hR7 := (Below.heap_setCell w6 ⟨b, 0, none⟩ (.slice (some ⟨g6, 0, none⟩) (m3 + 1) cap6) (w.heap.size + 1) (fun e => hbR e.symm)).trans hR6
        have hGb7 := (Below.heap_setCell w6 ⟨b, 0, none⟩ (.slice (some ⟨g6, 0, none⟩) (m3 + 1) cap6) w2.heap.size (fun e => hbG e.symm)).trans hGb6
        have hne6 : (Value.slice (some ⟨g6, 0, none⟩) (m3 + 1) cap6).ownBlock ≠ some (w.heap.size + 1) := fun e => by
          have e2 : g6 = w.heap.size + 1 := by simpa [Value.ownBlock] using e
          rcases hat6 with h | h
          · rw [e2] at h; exact HNE.out.1 h
          · have := (Array.getElem?_eq_some_iff.1 H5.out.2.2.2.1).1
            omega
        have H7 : Hid (BankW (w6.setCell ⟨b, 0, none⟩ (.slice (some ⟨g6, 0, none⟩) (m3 + 1) cap6)) B b (.slice (some ⟨g6, 0, none⟩) (m3 + 1) cap6) wv (G.eraseIdx k ++ [⟨moreP v.g, v.dv, v.pv⟩]) V ∧ BankStep b (.slice (some ⟨g, 0, none⟩) n cap) wv w (w6.setCell ⟨b, 0, none⟩ (.slice (some ⟨g6, 0, none⟩) (m3 + 1) cap6)) (.slice (some ⟨g6, 0, none⟩) (m3 + 1) cap6) wv ∧ (w6.setCell ⟨b, 0, none⟩ (.slice (some ⟨g6, 0, none⟩) (m3 + 1) cap6)).heap[w.heap.size + 1]? = some (.cells #[.bool false, .string ⟨#[]⟩, .int .i64 0, .bool false, .string ⟨#[]⟩, .string ⟨#[]⟩, .int .i64 0, .string ⟨#[]⟩, .string ⟨#[]⟩, .string ⟨#[]⟩, .bool false, .string ⟨#[]⟩, .bool false, .slice none 0 0, .int .i64 0, .slice none 0 0] 36 (0, 0)) ∧ (Value.slice (some ⟨g6, 0, none⟩) (m3 + 1) cap6).ownBlock ≠ some (w.heap.size + 1)) := ⟨hW7, H5.out.2.1.trans hS7, hR7, hne6⟩
        have hfr := freshG_any ⟨moreP v.g, v.dv, v.pv⟩ B hfit _ (hW7.go _ (List.mem_append_right _ (List.mem_singleton.2 rfl)))
        rw [hL1] at hfr
        have x0 : (w6.setCell ⟨b, 0, none⟩ (.slice (some ⟨g6, 0, none⟩) (m3 + 1) cap6)).cell? ⟨w2.heap.size, 0, none⟩ = some (.bool v.g.org.sec) := cell_of hGb7
        have x1 : (w6.setCell ⟨b, 0, none⟩ (.slice (some ⟨g6, 0, none⟩) (m3 + 1) cap6)).cell? ⟨w2.heap.size, 1, none⟩ = some (.string v.g.org.host) := cell_of hGb7
        have x2 : (w6.setCell ⟨b, 0, none⟩ (.slice (some ⟨g6, 0, none⟩) (m3 + 1) cap6)).cell? ⟨w2.heap.size, 2, none⟩ = some (.int .i64 v.g.org.port) := cell_of hGb7
        have x3 : (w6.setCell ⟨b, 0, none⟩ (.slice (some ⟨g6, 0, none⟩) (m3 + 1) cap6)).cell? ⟨w2.heap.size, 3, none⟩ = some (.bool v.g.proxy) := cell_of hGb7
        have x4 : (w6.setCell ⟨b, 0, none⟩ (.slice (some ⟨g6, 0, none⟩) (m3 + 1) cap6)).cell? ⟨w2.heap.size, 4, none⟩ = some (.string v.g.user) := cell_of hGb7
        have x5 : (w6.setCell ⟨b, 0, none⟩ (.slice (some ⟨g6, 0, none⟩) (m3 + 1) cap6)).cell? ⟨w2.heap.size, 5, none⟩ = some (.string v.g.pass) := cell_of hGb7
        have x6 : (w6.setCell ⟨b, 0, none⟩ (.slice (some ⟨g6, 0, none⟩) (m3 + 1) cap6)).cell? ⟨w2.heap.size, 6, none⟩ = some (.int .i64 v.g.ask.sch) := cell_of hGb7
        have x7 : (w6.setCell ⟨b, 0, none⟩ (.slice (some ⟨g6, 0, none⟩) (m3 + 1) cap6)).cell? ⟨w2.heap.size, 7, none⟩ = some (.string v.g.ask.realm) := cell_of hGb7
        have x8 : (w6.setCell ⟨b, 0, none⟩ (.slice (some ⟨g6, 0, none⟩) (m3 + 1) cap6)).cell? ⟨w2.heap.size, 8, none⟩ = some (.string v.g.ask.nonce) := cell_of hGb7
        have x9 : (w6.setCell ⟨b, 0, none⟩ (.slice (some ⟨g6, 0, none⟩) (m3 + 1) cap6)).cell? ⟨w2.heap.size, 9, none⟩ = some (.string v.g.ask.opq) := cell_of hGb7
        have x10 : (w6.setCell ⟨b, 0, none⟩ (.slice (some ⟨g6, 0, none⟩) (m3 + 1) cap6)).cell? ⟨w2.heap.size, 10, none⟩ = some (.bool v.g.ask.sess) := cell_of hGb7
        have x11 : (w6.setCell ⟨b, 0, none⟩ (.slice (some ⟨g6, 0, none⟩) (m3 + 1) cap6)).cell? ⟨w2.heap.size, 11, none⟩ = some (.string v.g.ask.qop) := cell_of hGb7
        have x12 : (w6.setCell ⟨b, 0, none⟩ (.slice (some ⟨g6, 0, none⟩) (m3 + 1) cap6)).cell? ⟨w2.heap.size, 12, none⟩ = some (.bool v.g.ask.stale) := cell_of hGb7
        have x13 : (w6.setCell ⟨b, 0, none⟩ (.slice (some ⟨g6, 0, none⟩) (m3 + 1) cap6)).cell? ⟨w2.heap.size, 13, none⟩ = some (.slice da dn dc) := cell_of hGb7
        have x14 : (w6.setCell ⟨b, 0, none⟩ (.slice (some ⟨g6, 0, none⟩) (m3 + 1) cap6)).cell? ⟨w2.heap.size, 14, none⟩ = some (.int .i64 (cnt + 1)) := cell_of hGb7
        have x15 : (w6.setCell ⟨b, 0, none⟩ (.slice (some ⟨g6, 0, none⟩) (m3 + 1) cap6)).cell? ⟨w2.heap.size, 15, none⟩ = some (.slice pa pn pc) := cell_of hGb7
        have hHB : Hid (∀ W8, Below (w6.setCell ⟨b, 0, none⟩ (.slice (some ⟨g6, 0, none⟩) (m3 + 1) cap6)).heap.size (w6.setCell ⟨b, 0, none⟩ (.slice (some ⟨g6, 0, none⟩) (m3 + 1) cap6)) W8 → BankW W8 B b (.slice (some ⟨g6, 0, none⟩) (m3 + 1) cap6) wv (G.eraseIdx k ++ [⟨moreP v.g, v.dv, v.pv⟩]) V ∧ BankStep b (.slice (some ⟨g, 0, none⟩) n cap) wv w W8 (.slice (some ⟨g6, 0, none⟩) (m3 + 1) cap6) wv ∧ W8.heap[w.heap.size + 1]? = some (.cells #[.bool false, .string ⟨#[]⟩, .int .i64 0, .bool false, .string ⟨#[]⟩, .string ⟨#[]⟩, .int .i64 0, .string ⟨#[]⟩, .string ⟨#[]⟩, .string ⟨#[]⟩, .bool false, .string ⟨#[]⟩, .bool false, .slice none 0 0, .int .i64 0, .slice none 0 0] 36 (0, 0))) := fun W8 hb8 => ⟨hW7.below hb8, (H5.out.2.1.trans hS7).trans (BankStep.of_below hb8), (hb8.block _ (Array.getElem?_eq_some_iff.1 hR7).1).trans hR7⟩
        have hsz7 : w.heap.size ≤ (w6.setCell ⟨b, 0, none⟩ (.slice (some ⟨g6, 0, none⟩) (m3 + 1) cap6)).heap.size := H7.out.2.1.size
        clear hO6 hL1 hvfit hlen hW7 hS7 t6 hGb6 hR6 hR7 hGb7 hne6 hown6 hg6 hat6 hlt6 b6 q6 f6 e0 e1 e2 e3 e4 e5 e6 e7 e8 e9 e10 e11 e12 e13 e14 e15 q0 q1 hfit
        generalize w6.setCell ⟨b, 0, none⟩ (.slice (some ⟨g6, 0, none⟩) (m3 + 1) cap6) = W7 at hfr hHB hsz7 x0 x1 x2 x3 x4 x5 x6 x7 x8 x9 x10 x11 x12 x13 x14 x15 H7 ⊢
        go_wp2_with fail
        refine hfr.mono ?_
        rintro e w8 ⟨⟨x, rfl, hxg, hxo⟩, hb8⟩
        have H8 := hHB.out w8 hb8
        have HX : Hid (x.g = moreP v.g ∧ GrOwn w8 W7.heap.size x ∧ BankW w8 B b (.slice (some ⟨g6, 0, none⟩) (m3 + 1) cap6) wv (G.eraseIdx k ++ [⟨moreP v.g, v.dv, v.pv⟩]) V ∧ BankStep b (.slice (some ⟨g, 0, none⟩) n cap) wv w w8 (.slice (some ⟨g6, 0, none⟩) (m3 + 1) cap6) wv ∧ w8.heap[w.heap.size + 1]? = some (.cells #[.bool false, .string ⟨#[]⟩, .int .i64 0, .bool false, .string ⟨#[]⟩, .string ⟨#[]⟩, .int .i64 0, .string ⟨#[]⟩, .string ⟨#[]⟩, .string ⟨#[]⟩, .bool false, .string ⟨#[]⟩, .bool false, .slice none 0 0, .int .i64 0, .slice none 0 0] 36 (0, 0))) := ⟨hxg, hxo, H8.1, H8.2.1, H8.2.2⟩
        have hxl := grCells_len x
        obtain ⟨hst, HZ⟩ := res_store H8.2.2 (grCells x) rfl hxo.one
        clear hxg hxo hb8 H8 hfr hHB x0 x1 x2 x3 x4 x5 x6 x7 x8 x9 x10 x11 x12 x13 x14 x15
        go_wp2
        refine bodyPost_ret (v := .tuple #[.agg (grCells x).toArray, errU 0]) (res_cell_tmp (vs := grCells x) rfl rfl rfl Try.isAgg36 Try.sizeOf36 (grCells_len x) HZ.out.1) rfl ?_
        rw [HU2.out]
        exact use_end (r := ((G.map (·.g)).eraseIdx k ++ [moreP v.g], moreP v.g, 0)) (x := x) HX.out.2.2.1 HX.out.2.2.2.1 HX.out.2.2.2.2 H7.out.2.2.2 (by omega) HZ.out.2 (by rw [List.map_append, List.eraseIdx_eq_take_drop_succ, List.eraseIdx_eq_take_drop_succ, List.map_append, List.map_take, List.map_drop]; rfl) HX.out.1 (HX.out.2.1.mono hsz7)
end Go.Proofs.Ytdnnlfklanaliab
