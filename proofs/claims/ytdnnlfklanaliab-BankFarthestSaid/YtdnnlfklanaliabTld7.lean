/- The grant of a number, cloned; all grants, cloned. -/
import Derived.Test.YtdnnlfklanaliabBkD
import Derived.Test.YtdnnlfklanaliabEchG
import Derived.Test.YtdnnlfklanaliabFshG
namespace Go.Proofs.Ytdnnlfklanaliab
open Go.RowKit
set_option linter.unusedVariables false

def zeroAP : AskP := ⟨0, ⟨#[]⟩, ⟨#[]⟩, ⟨#[]⟩, false, ⟨#[]⟩, false, []⟩
def zeroP : GrP := ⟨⟨false, ⟨#[]⟩, 0⟩, false, ⟨#[]⟩, ⟨#[]⟩, zeroAP, 0, []⟩
def zeroV : GrV := ⟨zeroP, .slice none 0 0, .slice none 0 0⟩
theorem zeroV_own (w : World) (B : Nat) : GrOwn w B zeroV := ⟨ownS_nil w B, ownS_nil w B⟩
/-- The grant of a number; nothing below 0. -/
def toldL (l : List GrP) (i : Int) : GrP := if i < 0 then zeroP else (l[i.toNat]?).getD zeroP
theorem res_cell_tmp {P : Program} {fn : Func} {tmps : Array Value} {W : World} {a b : Tmp} {t u : TypeId} {g : Nat} {vs : List Value} {k : Nat} {r : Value} (hf : fn.results = #[.cell a t, .tmp b]) (hp : tmps.getD a undef = .pointer (some ⟨g, 0, none⟩)) (hr : tmps.getD b undef = r) (ha : ∀ w, (isAgg t).run P w = .ok true w) (hs : ∀ w, (Go.sizeOf t).run P w = .ok k w) (hk : vs.length = k) (h : W.heap[g]? = some (.cells vs.toArray u (0, 0))) :
    (results fn tmps).run P W = .ok (.tuple #[.agg vs.toArray, r]) W := by
  have hl := run_loadCellsFrom_list P W ⟨g, 0, none⟩ vs k hk (fun i v hi => by
    rw [Addr.add_lit, Nat.zero_add, cell_of h]
    simpa using hi)
  simp only [Array.getD_eq_getD_getElem?] at hp hr
  unfold results
  rw [hf]
  simp [hp, hr, loadVar, ha, hs, asAddr, loadCells, hl]
/-- Where the cells of an element of a row lie. -/
theorem row16 {w : World} {B g n cap i : Nat} {G : List GrV} {v : GrV} {da pa : Option Addr} {dn dc pn pc : Nat} (h : OwnK 16 36 w B (.slice (some ⟨g, 0, none⟩) n cap) (G.map grCells)) (hi : G[i]? = some v) (hd : v.dv = .slice da dn dc) (hp : v.pv = .slice pa pn pc) :
    w.cell? ⟨g, i * 16, none⟩ = some (.bool v.g.org.sec) ∧ w.cell? ⟨g, i * 16 + 1, none⟩ = some (.string v.g.org.host) ∧ w.cell? ⟨g, i * 16 + 2, none⟩ = some (.int .i64 v.g.org.port) ∧ w.cell? ⟨g, i * 16 + 3, none⟩ = some (.bool v.g.proxy) ∧ w.cell? ⟨g, i * 16 + 4, none⟩ = some (.string v.g.user) ∧ w.cell? ⟨g, i * 16 + 5, none⟩ = some (.string v.g.pass) ∧ w.cell? ⟨g, i * 16 + 6, none⟩ = some (.int .i64 v.g.ask.sch) ∧ w.cell? ⟨g, i * 16 + 7, none⟩ = some (.string v.g.ask.realm) ∧ w.cell? ⟨g, i * 16 + 8, none⟩ = some (.string v.g.ask.nonce) ∧ w.cell? ⟨g, i * 16 + 9, none⟩ = some (.string v.g.ask.opq) ∧ w.cell? ⟨g, i * 16 + 10, none⟩ = some (.bool v.g.ask.sess) ∧ w.cell? ⟨g, i * 16 + 11, none⟩ = some (.string v.g.ask.qop) ∧ w.cell? ⟨g, i * 16 + 12, none⟩ = some (.bool v.g.ask.stale) ∧ w.cell? ⟨g, i * 16 + 13, none⟩ = some (.slice da dn dc) ∧ w.cell? ⟨g, i * 16 + 14, none⟩ = some (.int .i64 v.g.count) ∧ w.cell? ⟨g, i * 16 + 15, none⟩ = some (.slice pa pn pc) := by
  have hx : (G.map grCells)[i]? = some [.bool v.g.org.sec, .string v.g.org.host, .int .i64 v.g.org.port, .bool v.g.proxy, .string v.g.user, .string v.g.pass, .int .i64 v.g.ask.sch, .string v.g.ask.realm, .string v.g.ask.nonce, .string v.g.ask.opq, .bool v.g.ask.sess, .string v.g.ask.qop, .bool v.g.ask.stale, .slice da dn dc, .int .i64 v.g.count, .slice pa pn pc] := by rw [List.getElem?_map, hi]; show some (grCells v) = _; unfold grCells; rw [hd, hp]
  exact ⟨h.cell (i := 0) hx rfl, h.cell (i := 1) hx rfl, h.cell (i := 2) hx rfl, h.cell (i := 3) hx rfl, h.cell (i := 4) hx rfl, h.cell (i := 5) hx rfl, h.cell (i := 6) hx rfl, h.cell (i := 7) hx rfl, h.cell (i := 8) hx rfl, h.cell (i := 9) hx rfl, h.cell (i := 10) hx rfl, h.cell (i := 11) hx rfl, h.cell (i := 12) hx rfl, h.cell (i := 13) hx rfl, h.cell (i := 14) hx rfl, h.cell (i := 15) hx rfl⟩
set_option maxRecDepth 100000 in
set_option maxHeartbeats 4000000 in
theorem told_none (gv : Value) (i : Int) (hi : i < 0) (w : World) :
    Calls Try.prog 32 #[gv, .int .i64 i] w fun e w' => e = .returned (.tuple #[.agg (grCells zeroV).toArray, .bool false]) ∧ Below w.heap.size w w' := by
  have hb0 : Below w.heap.size w (w.alloc (.cells #[.bool false, .string ⟨#[]⟩, .int .i64 0, .bool false, .string ⟨#[]⟩, .string ⟨#[]⟩, .int .i64 0, .string ⟨#[]⟩, .string ⟨#[]⟩, .string ⟨#[]⟩, .bool false, .string ⟨#[]⟩, .bool false, .slice none 0 0, .int .i64 0, .slice none 0 0] 36)) := (Below.refl _ _).alloc (Nat.le_refl _) _
  have hn0 := heap_alloc_new w (.cells #[.bool false, .string ⟨#[]⟩, .int .i64 0, .bool false, .string ⟨#[]⟩, .string ⟨#[]⟩, .int .i64 0, .string ⟨#[]⟩, .string ⟨#[]⟩, .string ⟨#[]⟩, .bool false, .string ⟨#[]⟩, .bool false, .slice none 0 0, .int .i64 0, .slice none 0 0] 36)
  have HW : Hid (Below w.heap.size w (w.alloc (.cells #[.bool false, .string ⟨#[]⟩, .int .i64 0, .bool false, .string ⟨#[]⟩, .string ⟨#[]⟩, .int .i64 0, .string ⟨#[]⟩, .string ⟨#[]⟩, .string ⟨#[]⟩, .bool false, .string ⟨#[]⟩, .bool false, .slice none 0 0, .int .i64 0, .slice none 0 0] 36)) ∧ (w.alloc (.cells #[.bool false, .string ⟨#[]⟩, .int .i64 0, .bool false, .string ⟨#[]⟩, .string ⟨#[]⟩, .int .i64 0, .string ⟨#[]⟩, .string ⟨#[]⟩, .string ⟨#[]⟩, .bool false, .string ⟨#[]⟩, .bool false, .slice none 0 0, .int .i64 0, .slice none 0 0] 36)).heap[w.heap.size]? = some (.cells #[.bool false, .string ⟨#[]⟩, .int .i64 0, .bool false, .string ⟨#[]⟩, .string ⟨#[]⟩, .int .i64 0, .string ⟨#[]⟩, .string ⟨#[]⟩, .string ⟨#[]⟩, .bool false, .string ⟨#[]⟩, .bool false, .slice none 0 0, .int .i64 0, .slice none 0 0] 36 (0, 0))) := ⟨hb0, hn0⟩
  clear hb0 hn0
  go_enter Try.func32, Try.ntmps32
  go_wp2_with fail
  first
    | exact bodyPost_ret (v := .tuple #[.agg (grCells zeroV).toArray, .bool false]) (res_cell_tmp (vs := grCells zeroV) rfl rfl rfl Try.isAgg36 Try.sizeOf36 rfl HW.out.2) rfl ⟨rfl, HW.out.1⟩
    | (obtain ⟨z1, z2⟩ := setAll [.bool false, .string ⟨#[]⟩, .int .i64 0, .bool false, .string ⟨#[]⟩, .string ⟨#[]⟩, .int .i64 0, .string ⟨#[]⟩, .string ⟨#[]⟩, .string ⟨#[]⟩, .bool false, .string ⟨#[]⟩, .bool false, .slice none 0 0, .int .i64 0, .slice none 0 0] HW.out.2 rfl
       simp only [World.setCells, Nat.reduceAdd] at z1 z2
       exact bodyPost_ret (v := .tuple #[.agg (grCells zeroV).toArray, .bool false]) (res_cell_tmp (vs := grCells zeroV) rfl rfl rfl Try.isAgg36 Try.sizeOf36 rfl z1) rfl ⟨rfl, HW.out.1.grown z2 HW.out.1.size (fun i hi => by injection hi with hi; omega)⟩)
set_option maxRecDepth 100000 in
set_option maxHeartbeats 4000000 in
theorem told_some (g n cap B i : Nat) (G : List GrV) (v : GrV) (hi : G[i]? = some v) (hn : G.length = n) (hl : n ≤ 8) (hfit : GrFit v.g) (w : World) (hown : OwnK 16 36 w B (.slice (some ⟨g, 0, none⟩) n cap) (G.map grCells)) (hv : GrOwn w B v) :
    Calls Try.prog 32 #[.slice (some ⟨g, 0, none⟩) n cap, .int .i64 i] w fun e w' => (∃ x : GrV, e = .returned (.tuple #[.agg (grCells x).toArray, .bool true]) ∧ x.g = v.g ∧ GrOwn w' w.heap.size x) ∧ Below w.heap.size w w' := by
  obtain ⟨da, dc, dg, hdv, hds⟩ := hv.dom.strs
  obtain ⟨pa, pc, pg, hpv, hps⟩ := hv.paths.strs
  obtain ⟨dn, HDN⟩ : ∃ dn, Hid (v.g.ask.dom.length = dn) := ⟨_, rfl⟩
  obtain ⟨pn, HPN⟩ : ∃ pn, Hid (v.g.paths.length = pn) := ⟨_, rfl⟩
  rw [HDN.out] at hdv hds
  rw [HPN.out] at hpv hps
  have hin : i < n := by rw [← hn]; exact (List.getElem?_eq_some_iff.1 hi).1
  have hcells := row16 hown hi hdv hpv
  have hbR : Below w.heap.size w (w.alloc (.cells #[.bool false, .string ⟨#[]⟩, .int .i64 0, .bool false, .string ⟨#[]⟩, .string ⟨#[]⟩, .int .i64 0, .string ⟨#[]⟩, .string ⟨#[]⟩, .string ⟨#[]⟩, .bool false, .string ⟨#[]⟩, .bool false, .slice none 0 0, .int .i64 0, .slice none 0 0] 36)) := (Below.refl _ _).alloc (Nat.le_refl _) _
  have hown2 := hown.below hbR
  have hnR := heap_alloc_new w (.cells #[.bool false, .string ⟨#[]⟩, .int .i64 0, .bool false, .string ⟨#[]⟩, .string ⟨#[]⟩, .int .i64 0, .string ⟨#[]⟩, .string ⟨#[]⟩, .string ⟨#[]⟩, .bool false, .string ⟨#[]⟩, .bool false, .slice none 0 0, .int .i64 0, .slice none 0 0] 36)
  have HW : Hid (Below w.heap.size w (w.alloc (.cells #[.bool false, .string ⟨#[]⟩, .int .i64 0, .bool false, .string ⟨#[]⟩, .string ⟨#[]⟩, .int .i64 0, .string ⟨#[]⟩, .string ⟨#[]⟩, .string ⟨#[]⟩, .bool false, .string ⟨#[]⟩, .bool false, .slice none 0 0, .int .i64 0, .slice none 0 0] 36)) ∧ (w.alloc (.cells #[.bool false, .string ⟨#[]⟩, .int .i64 0, .bool false, .string ⟨#[]⟩, .string ⟨#[]⟩, .int .i64 0, .string ⟨#[]⟩, .string ⟨#[]⟩, .string ⟨#[]⟩, .bool false, .string ⟨#[]⟩, .bool false, .slice none 0 0, .int .i64 0, .slice none 0 0] 36)).heap[w.heap.size]? = some (.cells #[.bool false, .string ⟨#[]⟩, .int .i64 0, .bool false, .string ⟨#[]⟩, .string ⟨#[]⟩, .int .i64 0, .string ⟨#[]⟩, .string ⟨#[]⟩, .string ⟨#[]⟩, .bool false, .string ⟨#[]⟩, .bool false, .slice none 0 0, .int .i64 0, .slice none 0 0] 36 (0, 0)) ∧ Strs (w.alloc (.cells #[.bool false, .string ⟨#[]⟩, .int .i64 0, .bool false, .string ⟨#[]⟩, .string ⟨#[]⟩, .int .i64 0, .string ⟨#[]⟩, .string ⟨#[]⟩, .string ⟨#[]⟩, .bool false, .string ⟨#[]⟩, .bool false, .slice none 0 0, .int .i64 0, .slice none 0 0] 36)) da dn dg 0 v.g.ask.dom ∧ Strs (w.alloc (.cells #[.bool false, .string ⟨#[]⟩, .int .i64 0, .bool false, .string ⟨#[]⟩, .string ⟨#[]⟩, .int .i64 0, .string ⟨#[]⟩, .string ⟨#[]⟩, .string ⟨#[]⟩, .bool false, .string ⟨#[]⟩, .bool false, .slice none 0 0, .int .i64 0, .slice none 0 0] 36)) pa pn pg 0 v.g.paths ∧ GrFit v.g) := ⟨hbR, hnR, hds.below hbR, hps.below hbR, hfit⟩
  have hcells2 := row16 hown2 hi hdv hpv
  obtain ⟨c0, c1, c2, c3, c4, c5, c6, c7, c8, c9, c10, c11, c12, c13, c14, c15⟩ := hcells2
  have hglt : g < w.heap.size := by
    rcases hown.forms with ⟨e, _⟩ | ⟨g', cap', e, _, h1, _, _⟩
    · cases e
    · injection e with e1 _ _
      injection e1 with e1
      injection e1 with e1
      omega
  have hi' : (i : Int) < (n : Int) := by omega
  have hi0 : ¬ (i : Int) < 0 := by omega
  clear hcells hbR hown hown2 hnR hds hps hfit hv hdv hpv hi hn
  generalize hWR : w.alloc (.cells #[.bool false, .string ⟨#[]⟩, .int .i64 0, .bool false, .string ⟨#[]⟩, .string ⟨#[]⟩, .int .i64 0, .string ⟨#[]⟩, .string ⟨#[]⟩, .string ⟨#[]⟩, .bool false, .string ⟨#[]⟩, .bool false, .slice none 0 0, .int .i64 0, .slice none 0 0] 36) = WR at c0 c1 c2 c3 c4 c5 c6 c7 c8 c9 c10 c11 c12 c13 c14 c15 HW
  go_enter Try.func32, Try.ntmps32
  go_wp2_with fail
  refine (freshG_at v.g HW.out.2.2.2.2 da pa dn dc pn pc dg 0 pg 0 _ HW.out.2.2.1 HW.out.2.2.2.1).mono ?_
  rintro e w2 ⟨⟨vv, uu, rfl, hvv, huu⟩, hb2⟩
  obtain ⟨va, vc, vg, rfl, _⟩ := hvv.strs
  obtain ⟨vn, HVN⟩ : ∃ vn, Hid (v.g.ask.dom.length = vn) := ⟨_, rfl⟩
  rw [HVN.out] at hvv ⊢
  obtain ⟨ua, uc, ug, rfl, _⟩ := huu.strs
  obtain ⟨un, HUN⟩ : ∃ un, Hid (v.g.paths.length = un) := ⟨_, rfl⟩
  rw [HUN.out] at huu ⊢
  have HF : Hid (Below w.heap.size w w2 ∧ w2.heap[w.heap.size]? = some (.cells #[.bool false, .string ⟨#[]⟩, .int .i64 0, .bool false, .string ⟨#[]⟩, .string ⟨#[]⟩, .int .i64 0, .string ⟨#[]⟩, .string ⟨#[]⟩, .string ⟨#[]⟩, .bool false, .string ⟨#[]⟩, .bool false, .slice none 0 0, .int .i64 0, .slice none 0 0] 36 (0, 0)) ∧ OwnS w2 WR.heap.size (.slice va vn vc) v.g.ask.dom ∧ OwnS w2 WR.heap.size (.slice ua un uc) v.g.paths ∧ w.heap.size < WR.heap.size) := ⟨HW.out.1.trans (hb2.mono HW.out.1.size), (hb2.block _ (Array.getElem?_eq_some_iff.1 HW.out.2.1).1).trans HW.out.2.1, hvv, huu, (Array.getElem?_eq_some_iff.1 HW.out.2.1).1⟩
  have d0 : w2.cell? ⟨w.heap.size, 0, none⟩ = some (.bool false) := cell_of HF.out.2.1
  have d1 : w2.cell? ⟨w.heap.size, 1, none⟩ = some (.string ⟨#[]⟩) := cell_of HF.out.2.1
  have d2 : w2.cell? ⟨w.heap.size, 2, none⟩ = some (.int .i64 0) := cell_of HF.out.2.1
  have d3 : w2.cell? ⟨w.heap.size, 3, none⟩ = some (.bool false) := cell_of HF.out.2.1
  have d4 : w2.cell? ⟨w.heap.size, 4, none⟩ = some (.string ⟨#[]⟩) := cell_of HF.out.2.1
  have d5 : w2.cell? ⟨w.heap.size, 5, none⟩ = some (.string ⟨#[]⟩) := cell_of HF.out.2.1
  have d6 : w2.cell? ⟨w.heap.size, 6, none⟩ = some (.int .i64 0) := cell_of HF.out.2.1
  have d7 : w2.cell? ⟨w.heap.size, 7, none⟩ = some (.string ⟨#[]⟩) := cell_of HF.out.2.1
  have d8 : w2.cell? ⟨w.heap.size, 8, none⟩ = some (.string ⟨#[]⟩) := cell_of HF.out.2.1
  have d9 : w2.cell? ⟨w.heap.size, 9, none⟩ = some (.string ⟨#[]⟩) := cell_of HF.out.2.1
  have d10 : w2.cell? ⟨w.heap.size, 10, none⟩ = some (.bool false) := cell_of HF.out.2.1
  have d11 : w2.cell? ⟨w.heap.size, 11, none⟩ = some (.string ⟨#[]⟩) := cell_of HF.out.2.1
  have d12 : w2.cell? ⟨w.heap.size, 12, none⟩ = some (.bool false) := cell_of HF.out.2.1
  have d13 : w2.cell? ⟨w.heap.size, 13, none⟩ = some (.slice none 0 0) := cell_of HF.out.2.1
  have d14 : w2.cell? ⟨w.heap.size, 14, none⟩ = some (.int .i64 0) := cell_of HF.out.2.1
  have d15 : w2.cell? ⟨w.heap.size, 15, none⟩ = some (.slice none 0 0) := cell_of HF.out.2.1
  have fr := free_of HF.out.2.1
  clear hb2 hvv huu c0 c1 c2 c3 c4 c5 c6 c7 c8 c9 c10 c11 c12 c13 c14 c15 HW
  go_wp2_with fail
  obtain ⟨z1, z2⟩ := setAll [.bool v.g.org.sec, .string v.g.org.host, .int .i64 v.g.org.port, .bool v.g.proxy, .string v.g.user, .string v.g.pass, .int .i64 v.g.ask.sch, .string v.g.ask.realm, .string v.g.ask.nonce, .string v.g.ask.opq, .bool v.g.ask.sess, .string v.g.ask.qop, .bool v.g.ask.stale, .slice va vn vc, .int .i64 v.g.count, .slice ua un uc] HF.out.2.1 rfl
  simp only [World.setCells, Nat.reduceAdd] at z1 z2
  clear d0 d1 d2 d3 d4 d5 d6 d7 d8 d9 d10 d11 d12 d13 d14 d15 fr
  refine bodyPost_ret (v := .tuple #[.agg (grCells ⟨v.g, .slice va vn vc, .slice ua un uc⟩).toArray, .bool true]) (res_cell_tmp (vs := grCells ⟨v.g, .slice va vn vc, .slice ua un uc⟩) rfl rfl rfl Try.isAgg36 Try.sizeOf36 rfl z1) rfl ?_
  have hs := HF.out.2.2.2.2
  exact ⟨⟨⟨v.g, .slice va vn vc, .slice ua un uc⟩, rfl, rfl, ⟨ownS_mono (HF.out.2.2.1.grown z2 hs) (by omega), ownS_mono (HF.out.2.2.2.1.grown z2 hs) (by omega)⟩⟩, HF.out.1.grown z2 HF.out.1.size (fun i hi => by injection hi with hi; omega)⟩
end Go.Proofs.Ytdnnlfklanaliab
