/- What was asked for, cloned. -/
import Derived.Test.YtdnnlfklanaliacFshA
namespace Go.Proofs.Ytdnnlfklanaliac
open Go.RowKit
set_option linter.unusedVariables false

def WtFit (g : WtP) : Prop := g.org.host.size ≤ 140737488355328 ∧ g.path.size ≤ 140737488355328 ∧ AskFit g.ask
set_option maxRecDepth 100000 in
set_option maxHeartbeats 4000000 in
theorem freshW_at (g : WtP) (hg : WtFit g) (da : Option Addr) (dl dc db doff : Nat) (w : World) (hd : Strs w da dl db doff g.ask.dom) :
    Calls Try.prog 38 #[.agg #[.bool g.org.sec, .string g.org.host, .int .i64 g.org.port, .bool g.proxy, .string g.path, .int .i64 g.ask.sch, .string g.ask.realm, .string g.ask.nonce, .string g.ask.opq, .bool g.ask.sess, .string g.ask.qop, .bool g.ask.stale, .slice da dl dc]] w fun e w' => (∃ v, e = .returned (.agg #[.bool g.org.sec, .string g.org.host, .int .i64 g.org.port, .bool g.proxy, .string g.path, .int .i64 g.ask.sch, .string g.ask.realm, .string g.ask.nonce, .string g.ask.opq, .bool g.ask.sess, .string g.ask.qop, .bool g.ask.stale, v]) ∧ OwnS w' w.heap.size v g.ask.dom) ∧ Below w.heap.size w w' := by
  obtain ⟨z1, z2, z4⟩ := hg
  have hs0 := boxF_start w #[.bool g.org.sec, .string g.org.host, .int .i64 g.org.port, .bool g.proxy, .string g.path, .int .i64 g.ask.sch, .string g.ask.realm, .string g.ask.nonce, .string g.ask.opq, .bool g.ask.sess, .string g.ask.qop, .bool g.ask.stale, .slice da dl dc] #[.bool false, .string ⟨#[]⟩, .int .i64 0, .bool false, .string ⟨#[]⟩, .int .i64 0, .string ⟨#[]⟩, .string ⟨#[]⟩, .string ⟨#[]⟩, .bool false, .string ⟨#[]⟩, .bool false, .slice none 0 0] 67
  have HX : Hid (Strs w da dl db doff g.ask.dom ∧ AskFit g.ask) := ⟨hd, z4⟩
  have HW : Hid (BoxF w ((w.alloc (.cells #[.bool g.org.sec, .string g.org.host, .int .i64 g.org.port, .bool g.proxy, .string g.path, .int .i64 g.ask.sch, .string g.ask.realm, .string g.ask.nonce, .string g.ask.opq, .bool g.ask.sess, .string g.ask.qop, .bool g.ask.stale, .slice da dl dc] 67)).alloc (.cells #[.bool false, .string ⟨#[]⟩, .int .i64 0, .bool false, .string ⟨#[]⟩, .int .i64 0, .string ⟨#[]⟩, .string ⟨#[]⟩, .string ⟨#[]⟩, .bool false, .string ⟨#[]⟩, .bool false, .slice none 0 0] 67)) _ _ 67) := hs0
  clear hs0 hd z4
  go_enter Try.func38, Try.ntmps38
  go_wp2_with fail
  refine (freshO_any g.org z1 _).mono ?_
  rintro e w1 ⟨rfl, hb1⟩
  have H1 := (show BoxF _ _ _ _ _ from HW.out).below hb1
  have HH1 : Hid (BoxF w w1 _ _ 67) := H1
  have c0 := H1.at 0 (v := .bool g.org.sec) rfl
  have c1 := H1.at 1 (v := .string g.org.host) rfl
  have c2 := H1.at 2 (v := .int .i64 g.org.port) rfl
  have c4 := H1.at 4 (v := .string g.path) rfl
  have f1 := free_of H1.box
  have s0 := H1.same (i := 0) (v := .bool g.org.sec) rfl
  have s1 := H1.same (i := 1) (v := .string g.org.host) rfl
  have s2 := H1.same (i := 2) (v := .int .i64 g.org.port) rfl
  clear hb1 HW H1
  go_wp2_with fail
  refine (cloneS_any g.path z2 _).mono ?_
  rintro e w3 ⟨rfl, hb3⟩
  have H3 := (show BoxF _ _ _ _ _ from HH1.out).below hb3
  have HH3 : Hid (BoxF w w3 _ _ 67) := H3
  have f3 := free_of H3.box
  have s4 := H3.same (i := 4) (v := .string g.path) rfl
  clear hb3 c0 c1 c2 c4 f1 s0 s1 s2
  have q4 := H3.at 4 (v := .string g.path) rfl
  have q5 := H3.at 5 (v := .int .i64 g.ask.sch) rfl
  have q6 := H3.at 6 (v := .string g.ask.realm) rfl
  have q7 := H3.at 7 (v := .string g.ask.nonce) rfl
  have q8 := H3.at 8 (v := .string g.ask.opq) rfl
  have q9 := H3.at 9 (v := .bool g.ask.sess) rfl
  have q10 := H3.at 10 (v := .string g.ask.qop) rfl
  have q11 := H3.at 11 (v := .bool g.ask.stale) rfl
  have q12 := H3.at 12 (v := .slice da dl dc) rfl
  clear H3
  go_wp2_with fail

  refine (freshA_any g.ask HX.out.2 da dl dc db doff _ (HX.out.1.below (show BoxF _ _ _ _ _ from HH3.out).bel)).mono ?_
  rintro e w4 ⟨⟨v, rfl, hown⟩, hb4⟩
  obtain ⟨va, vc, vg, rfl, _⟩ := hown.strs
  obtain ⟨vn, HVN⟩ : ∃ vn, Hid (g.ask.dom.length = vn) := ⟨_, rfl⟩
  rw [HVN.out] at hown ⊢
  have H4 := (show BoxF _ _ _ _ _ from HH3.out).below hb4
  have H5 := H4.set 12 (.slice va vn vc)
  have HG4 : Hid (w4.grownBy (w4.setCell ⟨w.heap.size, 12, none⟩ (.slice va vn vc)) (some w.heap.size)) := grown_setCells w4 w.heap.size 12 [.slice va vn vc]
  have HO4 : Hid (OwnS w4 w3.heap.size (.slice va vn vc) g.ask.dom ∧ w.heap.size + 1 < w3.heap.size ∧ w3.heap.size ≤ w4.heap.size) := ⟨hown, (Array.getElem?_eq_some_iff.1 (show BoxF _ _ _ _ _ from HH3.out).res).1, hb4.size⟩
  have HH4 : Hid (BoxF w w4 _ _ 67) := H4
  have HH5 : Hid (BoxF w (w4.setCell ⟨w.heap.size, 12, none⟩ (.slice va vn vc)) _ _ 67) := H5
  have s5 := H4.same (i := 5) (v := .int .i64 g.ask.sch) rfl
  have s6 := H4.same (i := 6) (v := .string g.ask.realm) rfl
  have s7 := H4.same (i := 7) (v := .string g.ask.nonce) rfl
  have s8 := H4.same (i := 8) (v := .string g.ask.opq) rfl
  have s9 := H4.same (i := 9) (v := .bool g.ask.sess) rfl
  have s10 := H4.same (i := 10) (v := .string g.ask.qop) rfl
  have s11 := H4.same (i := 11) (v := .bool g.ask.stale) rfl
  have t5 := H4.at 5 (v := .int .i64 g.ask.sch) rfl
  have t6 := H4.at 6 (v := .string g.ask.realm) rfl
  have t7 := H4.at 7 (v := .string g.ask.nonce) rfl
  have t8 := H4.at 8 (v := .string g.ask.opq) rfl
  have t9 := H4.at 9 (v := .bool g.ask.sess) rfl
  have t10 := H4.at 10 (v := .string g.ask.qop) rfl
  have t11 := H4.at 11 (v := .bool g.ask.stale) rfl
  have t12 := H4.at 12 (v := .slice da dl dc) rfl
  have f4 := free_of H4.box
  have g0 := H5.at 0 (v := .bool g.org.sec) rfl
  have g1 := H5.at 1 (v := .string g.org.host) rfl
  have g2 := H5.at 2 (v := .int .i64 g.org.port) rfl
  have g3 := H5.at 3 (v := .bool g.proxy) rfl
  have g4 := H5.at 4 (v := .string g.path) rfl
  have g5 := H5.at 5 (v := .int .i64 g.ask.sch) rfl
  have g6 := H5.at 6 (v := .string g.ask.realm) rfl
  have g7 := H5.at 7 (v := .string g.ask.nonce) rfl
  have g8 := H5.at 8 (v := .string g.ask.opq) rfl
  have g9 := H5.at 9 (v := .bool g.ask.sess) rfl
  have g10 := H5.at 10 (v := .string g.ask.qop) rfl
  have g11 := H5.at 11 (v := .bool g.ask.stale) rfl
  have g12 := H5.at 12 (v := .slice va vn vc) rfl
  have d0 : (w4.setCell ⟨w.heap.size, 12, none⟩ (.slice va vn vc)).cell? ⟨w.heap.size + 1, 0, none⟩ = some (.bool false) := cell_of H5.res
  have d1 : (w4.setCell ⟨w.heap.size, 12, none⟩ (.slice va vn vc)).cell? ⟨w.heap.size + 1, 1, none⟩ = some (.string ⟨#[]⟩) := cell_of H5.res
  have d2 : (w4.setCell ⟨w.heap.size, 12, none⟩ (.slice va vn vc)).cell? ⟨w.heap.size + 1, 2, none⟩ = some (.int .i64 0) := cell_of H5.res
  have d3 : (w4.setCell ⟨w.heap.size, 12, none⟩ (.slice va vn vc)).cell? ⟨w.heap.size + 1, 3, none⟩ = some (.bool false) := cell_of H5.res
  have d4 : (w4.setCell ⟨w.heap.size, 12, none⟩ (.slice va vn vc)).cell? ⟨w.heap.size + 1, 4, none⟩ = some (.string ⟨#[]⟩) := cell_of H5.res
  have d5 : (w4.setCell ⟨w.heap.size, 12, none⟩ (.slice va vn vc)).cell? ⟨w.heap.size + 1, 5, none⟩ = some (.int .i64 0) := cell_of H5.res
  have d6 : (w4.setCell ⟨w.heap.size, 12, none⟩ (.slice va vn vc)).cell? ⟨w.heap.size + 1, 6, none⟩ = some (.string ⟨#[]⟩) := cell_of H5.res
  have d7 : (w4.setCell ⟨w.heap.size, 12, none⟩ (.slice va vn vc)).cell? ⟨w.heap.size + 1, 7, none⟩ = some (.string ⟨#[]⟩) := cell_of H5.res
  have d8 : (w4.setCell ⟨w.heap.size, 12, none⟩ (.slice va vn vc)).cell? ⟨w.heap.size + 1, 8, none⟩ = some (.string ⟨#[]⟩) := cell_of H5.res
  have d9 : (w4.setCell ⟨w.heap.size, 12, none⟩ (.slice va vn vc)).cell? ⟨w.heap.size + 1, 9, none⟩ = some (.bool false) := cell_of H5.res
  have d10 : (w4.setCell ⟨w.heap.size, 12, none⟩ (.slice va vn vc)).cell? ⟨w.heap.size + 1, 10, none⟩ = some (.string ⟨#[]⟩) := cell_of H5.res
  have d11 : (w4.setCell ⟨w.heap.size, 12, none⟩ (.slice va vn vc)).cell? ⟨w.heap.size + 1, 11, none⟩ = some (.bool false) := cell_of H5.res
  have d12 : (w4.setCell ⟨w.heap.size, 12, none⟩ (.slice va vn vc)).cell? ⟨w.heap.size + 1, 12, none⟩ = some (.slice none 0 0) := cell_of H5.res
  have fr := free_of H5.res
  clear hb4 H4 H5 hown
  go_wp2_with fail
  obtain ⟨z1, z2⟩ := setAll [.bool g.org.sec, .string g.org.host, .int .i64 g.org.port, .bool g.proxy, .string g.path, .int .i64 g.ask.sch, .string g.ask.realm, .string g.ask.nonce, .string g.ask.opq, .bool g.ask.sess, .string g.ask.qop, .bool g.ask.stale, .slice va vn vc] (show BoxF _ _ _ _ _ from HH5.out).res rfl
  simp only [World.setCells, Nat.reduceAdd] at z1 z2
  have hb9 := (show BoxF _ _ _ _ _ from HH5.out).bel
  clear g0 g1 g2 g3 g4 g5 g6 g7 g8 g9 g10 g11 g12 d0 d1 d2 d3 d4 d5 d6 d7 d8 d9 d10 d11 d12 fr
  refine bodyPost_ret (v := .agg #[.bool g.org.sec, .string g.org.host, .int .i64 g.org.port, .bool g.proxy, .string g.path, .int .i64 g.ask.sch, .string g.ask.realm, .string g.ask.nonce, .string g.ask.opq, .bool g.ask.sess, .string g.ask.qop, .bool g.ask.stale, .slice va vn vc]) (res_cell rfl rfl Try.isAgg67 Try.sizeOf67 rfl z1) rfl ?_
  refine ⟨⟨_, rfl, ?_⟩, hb9.grown z2 hb9.size (fun i hi => by injection hi with hi; omega)⟩
  exact ownS_mono ((HO4.out.1.grown HG4.out (by have := HO4.out.2.1; omega)).grown z2 (by have := HO4.out.2.1; omega)) (by have := HO4.out.2.1; omega)
end Go.Proofs.Ytdnnlfklanaliac
