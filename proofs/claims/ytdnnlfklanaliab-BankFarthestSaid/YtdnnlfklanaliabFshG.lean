/- A grant, cloned. -/
import Derived.Test.YtdnnlfklanaliabFshA
import Derived.Deep.RegionHeld3
import Derived.Deep.QuietTactic
import Derived.BigQuiet
namespace Go.Proofs.Ytdnnlfklanaliab
open Go.RowKit
set_option linter.unusedVariables false

def GrFit (g : GrP) : Prop := g.org.host.size ≤ 140737488355328 ∧ g.user.size ≤ 140737488355328 ∧ g.pass.size ≤ 140737488355328 ∧ AskFit g.ask ∧ g.paths.length ≤ 1000 ∧ (∀ x ∈ g.paths, x.size ≤ 140737488355328) ∧ -9223372036854775808 ≤ g.count
set_option maxRecDepth 100000 in
set_option maxHeartbeats 4000000 in
theorem freshG_at (g : GrP) (hg : GrFit g) (da pa : Option Addr) (dl dc pl pc db doff pb poff : Nat) (w : World) (hd : Strs w da dl db doff g.ask.dom) (hp : Strs w pa pl pb poff g.paths) :
    Calls Try.prog 30 #[.agg #[.bool g.org.sec, .string g.org.host, .int .i64 g.org.port, .bool g.proxy, .string g.user, .string g.pass, .int .i64 g.ask.sch, .string g.ask.realm, .string g.ask.nonce, .string g.ask.opq, .bool g.ask.sess, .string g.ask.qop, .bool g.ask.stale, .slice da dl dc, .int .i64 g.count, .slice pa pl pc]] w fun e w' => (∃ v u, e = .returned (.agg #[.bool g.org.sec, .string g.org.host, .int .i64 g.org.port, .bool g.proxy, .string g.user, .string g.pass, .int .i64 g.ask.sch, .string g.ask.realm, .string g.ask.nonce, .string g.ask.opq, .bool g.ask.sess, .string g.ask.qop, .bool g.ask.stale, v, .int .i64 g.count, u]) ∧ OwnS w' w.heap.size v g.ask.dom ∧ OwnS w' w.heap.size u g.paths) ∧ Below w.heap.size w w' := by
  obtain ⟨z1, z2, z3, z4, z5, z6, _⟩ := hg
  have hlen : pl ≤ 1000 := by rw [← hp.len_eq]; exact z5
  have hs0 := boxF_start w #[.bool g.org.sec, .string g.org.host, .int .i64 g.org.port, .bool g.proxy, .string g.user, .string g.pass, .int .i64 g.ask.sch, .string g.ask.realm, .string g.ask.nonce, .string g.ask.opq, .bool g.ask.sess, .string g.ask.qop, .bool g.ask.stale, .slice da dl dc, .int .i64 g.count, .slice pa pl pc] #[.bool false, .string ⟨#[]⟩, .int .i64 0, .bool false, .string ⟨#[]⟩, .string ⟨#[]⟩, .int .i64 0, .string ⟨#[]⟩, .string ⟨#[]⟩, .string ⟨#[]⟩, .bool false, .string ⟨#[]⟩, .bool false, .slice none 0 0, .int .i64 0, .slice none 0 0] 36
  have HX : Hid (Strs w da dl db doff g.ask.dom ∧ Strs w pa pl pb poff g.paths ∧ (∀ x ∈ g.paths, x.size ≤ 140737488355328) ∧ AskFit g.ask) := ⟨hd, hp, z6, z4⟩
  have HW : Hid (BoxF w ((w.alloc (.cells #[.bool g.org.sec, .string g.org.host, .int .i64 g.org.port, .bool g.proxy, .string g.user, .string g.pass, .int .i64 g.ask.sch, .string g.ask.realm, .string g.ask.nonce, .string g.ask.opq, .bool g.ask.sess, .string g.ask.qop, .bool g.ask.stale, .slice da dl dc, .int .i64 g.count, .slice pa pl pc] 36)).alloc (.cells #[.bool false, .string ⟨#[]⟩, .int .i64 0, .bool false, .string ⟨#[]⟩, .string ⟨#[]⟩, .int .i64 0, .string ⟨#[]⟩, .string ⟨#[]⟩, .string ⟨#[]⟩, .bool false, .string ⟨#[]⟩, .bool false, .slice none 0 0, .int .i64 0, .slice none 0 0] 36)) _ _ 36) := hs0
  clear hs0 hd hp z4 z5 z6
  go_enter Try.func30, Try.ntmps30
  go_wp2_with fail
  refine (freshO_any g.org z1 _).mono ?_
  rintro e w1 ⟨rfl, hb1⟩
  have H1 := (show BoxF _ _ _ _ _ from HW.out).below hb1
  have HH1 : Hid (BoxF w w1 _ _ 36) := H1
  have c0 := H1.at 0 (v := .bool g.org.sec) rfl
  have c1 := H1.at 1 (v := .string g.org.host) rfl
  have c2 := H1.at 2 (v := .int .i64 g.org.port) rfl
  have c4 := H1.at 4 (v := .string g.user) rfl
  have c5 := H1.at 5 (v := .string g.pass) rfl
  have f1 := free_of H1.box
  have s0 := H1.same (i := 0) (v := .bool g.org.sec) rfl
  have s1 := H1.same (i := 1) (v := .string g.org.host) rfl
  have s2 := H1.same (i := 2) (v := .int .i64 g.org.port) rfl
  clear hb1 HW H1
  go_wp2_with fail
  clear c0 c1 c2 c4 c5 f1 s0 s1 s2
  have H1d := (show BoxF _ _ _ _ _ from HH1.out).below (Below.refl _ _).drew
  have hQ : w1.drew.cell? ⟨w.heap.size, 4, none⟩ = some (.string g.user) ∧ w1.drew.cell? ⟨w.heap.size, 5, none⟩ = some (.string g.pass) ∧ Hid (BoxF w w1.drew #[.bool g.org.sec, .string g.org.host, .int .i64 g.org.port, .bool g.proxy, .string g.user, .string g.pass, .int .i64 g.ask.sch, .string g.ask.realm, .string g.ask.nonce, .string g.ask.opq, .bool g.ask.sess, .string g.ask.qop, .bool g.ask.stale, .slice da dl dc, .int .i64 g.count, .slice pa pl pc] #[.bool false, .string ⟨#[]⟩, .int .i64 0, .bool false, .string ⟨#[]⟩, .string ⟨#[]⟩, .int .i64 0, .string ⟨#[]⟩, .string ⟨#[]⟩, .string ⟨#[]⟩, .bool false, .string ⟨#[]⟩, .bool false, .slice none 0 0, .int .i64 0, .slice none 0 0] 36) := ⟨H1d.at 4 rfl, H1d.at 5 rfl, H1d⟩
  clear H1d
  go_region_held3 (fun W => W.cell? ⟨w.heap.size, 4, none⟩ = some (.string g.user) ∧ W.cell? ⟨w.heap.size, 5, none⟩ = some (.string g.pass) ∧ Hid (BoxF w W #[.bool g.org.sec, .string g.org.host, .int .i64 g.org.port, .bool g.proxy, .string g.user, .string g.pass, .int .i64 g.ask.sch, .string g.ask.realm, .string g.ask.nonce, .string g.ask.opq, .bool g.ask.sess, .string g.ask.qop, .bool g.ask.stale, .slice da dl dc, .int .i64 g.count, .slice pa pl pc] #[.bool false, .string ⟨#[]⟩, .int .i64 0, .bool false, .string ⟨#[]⟩, .string ⟨#[]⟩, .int .i64 0, .string ⟨#[]⟩, .string ⟨#[]⟩, .string ⟨#[]⟩, .bool false, .string ⟨#[]⟩, .bool false, .slice none 0 0, .int .i64 0, .slice none 0 0] 36)) (with_reducible assumption) (first
    | (go_at_call 51; refine (cloneS_any g.pass z3 _).mono ?_; rintro e w3 ⟨rfl, hb3⟩; have H3 := (show BoxF _ _ _ _ _ from hQ2.2.2.out).below hb3; have HH3 : Hid (BoxF w w3 #[.bool g.org.sec, .string g.org.host, .int .i64 g.org.port, .bool g.proxy, .string g.user, .string g.pass, .int .i64 g.ask.sch, .string g.ask.realm, .string g.ask.nonce, .string g.ask.opq, .bool g.ask.sess, .string g.ask.qop, .bool g.ask.stale, .slice da dl dc, .int .i64 g.count, .slice pa pl pc] #[.bool false, .string ⟨#[]⟩, .int .i64 0, .bool false, .string ⟨#[]⟩, .string ⟨#[]⟩, .int .i64 0, .string ⟨#[]⟩, .string ⟨#[]⟩, .string ⟨#[]⟩, .bool false, .string ⟨#[]⟩, .bool false, .slice none 0 0, .int .i64 0, .slice none 0 0] 36) := H3; have f3 := free_of H3.box; have c4 := H3.at 4 (v := .string g.user) rfl; have c5 := H3.at 5 (v := .string g.pass) rfl; have s4 := H3.same (i := 4) (v := .string g.user) rfl; have s5 := H3.same (i := 5) (v := .string g.pass) rfl; have hQ3 : w3.cell? ⟨w.heap.size, 4, none⟩ = some (.string g.user) ∧ w3.cell? ⟨w.heap.size, 5, none⟩ = some (.string g.pass) ∧ Hid (BoxF w w3 #[.bool g.org.sec, .string g.org.host, .int .i64 g.org.port, .bool g.proxy, .string g.user, .string g.pass, .int .i64 g.ask.sch, .string g.ask.realm, .string g.ask.nonce, .string g.ask.opq, .bool g.ask.sess, .string g.ask.qop, .bool g.ask.stale, .slice da dl dc, .int .i64 g.count, .slice pa pl pc] #[.bool false, .string ⟨#[]⟩, .int .i64 0, .bool false, .string ⟨#[]⟩, .string ⟨#[]⟩, .int .i64 0, .string ⟨#[]⟩, .string ⟨#[]⟩, .string ⟨#[]⟩, .bool false, .string ⟨#[]⟩, .bool false, .slice none 0 0, .int .i64 0, .slice none 0 0] 36) := ⟨H3.at 4 rfl, H3.at 5 rfl, H3⟩; clear H3 hb3)
    | (go_at_call 51; refine (cloneS_any g.user z2 _).mono ?_; rintro e w2 ⟨rfl, hb2⟩; have H2 := (show BoxF _ _ _ _ _ from hQ.2.2.out).below hb2; have hQ2 : w2.cell? ⟨w.heap.size, 4, none⟩ = some (.string g.user) ∧ w2.cell? ⟨w.heap.size, 5, none⟩ = some (.string g.pass) ∧ Hid (BoxF w w2 #[.bool g.org.sec, .string g.org.host, .int .i64 g.org.port, .bool g.proxy, .string g.user, .string g.pass, .int .i64 g.ask.sch, .string g.ask.realm, .string g.ask.nonce, .string g.ask.opq, .bool g.ask.sess, .string g.ask.qop, .bool g.ask.stale, .slice da dl dc, .int .i64 g.count, .slice pa pl pc] #[.bool false, .string ⟨#[]⟩, .int .i64 0, .bool false, .string ⟨#[]⟩, .string ⟨#[]⟩, .int .i64 0, .string ⟨#[]⟩, .string ⟨#[]⟩, .string ⟨#[]⟩, .bool false, .string ⟨#[]⟩, .bool false, .slice none 0 0, .int .i64 0, .slice none 0 0] 36) := ⟨H2.at 4 rfl, H2.at 5 rfl, H2⟩; clear H2 hb2))
  have H3 := (show BoxF _ _ _ _ _ from HH3.out)
  have q6 := H3.at 6 (v := .int .i64 g.ask.sch) rfl
  have q7 := H3.at 7 (v := .string g.ask.realm) rfl
  have q8 := H3.at 8 (v := .string g.ask.nonce) rfl
  have q9 := H3.at 9 (v := .string g.ask.opq) rfl
  have q10 := H3.at 10 (v := .bool g.ask.sess) rfl
  have q11 := H3.at 11 (v := .string g.ask.qop) rfl
  have q12 := H3.at 12 (v := .bool g.ask.stale) rfl
  have q13 := H3.at 13 (v := .slice da dl dc) rfl
  clear H3
  go_wp2_with fail
  refine (freshA_any g.ask HX.out.2.2.2 da dl dc db doff _ (HX.out.1.below (show BoxF _ _ _ _ _ from HH3.out).bel)).mono ?_
  rintro e w4 ⟨⟨v, rfl, hown⟩, hb4⟩
  obtain ⟨va, vc, vg, rfl, _⟩ := hown.strs
  obtain ⟨vn, HVN⟩ : ∃ vn, Hid (g.ask.dom.length = vn) := ⟨_, rfl⟩
  rw [HVN.out] at hown ⊢
  have H4 := (show BoxF _ _ _ _ _ from HH3.out).below hb4
  have H5 := H4.set 13 (.slice va vn vc)
  have HG4 : Hid (w4.grownBy (w4.setCell ⟨w.heap.size, 13, none⟩ (.slice va vn vc)) (some w.heap.size)) := grown_setCells w4 w.heap.size 13 [.slice va vn vc]
  have HO4 : Hid (OwnS w4 w3.heap.size (.slice va vn vc) g.ask.dom ∧ w.heap.size + 1 < w3.heap.size ∧ w3.heap.size ≤ w4.heap.size) := ⟨hown, (Array.getElem?_eq_some_iff.1 (show BoxF _ _ _ _ _ from HH3.out).res).1, hb4.size⟩
  have HH4 : Hid (BoxF w w4 _ _ 36) := H4
  have HH5 : Hid (BoxF w (w4.setCell ⟨w.heap.size, 13, none⟩ (.slice va vn vc)) _ _ 36) := H5
  have s6 := H4.same (i := 6) (v := .int .i64 g.ask.sch) rfl
  have s7 := H4.same (i := 7) (v := .string g.ask.realm) rfl
  have s8 := H4.same (i := 8) (v := .string g.ask.nonce) rfl
  have s9 := H4.same (i := 9) (v := .string g.ask.opq) rfl
  have s10 := H4.same (i := 10) (v := .bool g.ask.sess) rfl
  have s11 := H4.same (i := 11) (v := .string g.ask.qop) rfl
  have s12 := H4.same (i := 12) (v := .bool g.ask.stale) rfl
  have t6 := H4.at 6 (v := .int .i64 g.ask.sch) rfl
  have t7 := H4.at 7 (v := .string g.ask.realm) rfl
  have t8 := H4.at 8 (v := .string g.ask.nonce) rfl
  have t9 := H4.at 9 (v := .string g.ask.opq) rfl
  have t10 := H4.at 10 (v := .bool g.ask.sess) rfl
  have t11 := H4.at 11 (v := .string g.ask.qop) rfl
  have t12 := H4.at 12 (v := .bool g.ask.stale) rfl
  have t13 := H4.at 13 (v := .slice da dl dc) rfl
  have t15 := H4.at 15 (v := .slice pa pl pc) rfl
  have f4 := free_of H4.box
  clear hb4 H4 H5 hown q6 q7 q8 q9 q10 q11 q12 q13
  go_wp2_with fail
  refine (eachS_any g.paths HX.out.2.2.1 pa pl pc pb poff hlen _ (HX.out.2.1.below (show BoxF _ _ _ _ _ from HH5.out).bel)).mono ?_
  rintro e w5 ⟨⟨u, rfl, hown5⟩, hb5⟩
  obtain ⟨ua, uc, ug, rfl, _⟩ := hown5.strs
  obtain ⟨un, HUN⟩ : ∃ un, Hid (g.paths.length = un) := ⟨_, rfl⟩
  rw [HUN.out] at hown5 ⊢
  have H6 := (show BoxF _ _ _ _ _ from HH5.out).below hb5
  have H7 := H6.set 15 (.slice ua un uc)
  have HH7 : Hid (BoxF w (w5.setCell ⟨w.heap.size, 15, none⟩ (.slice ua un uc)) _ _ 36) := H7
  have HG7 : Hid (w5.grownBy (w5.setCell ⟨w.heap.size, 15, none⟩ (.slice ua un uc)) (some w.heap.size)) := grown_setCells w5 w.heap.size 15 [.slice ua un uc]
  have HO5 : Hid (OwnS w5 w4.heap.size (.slice ua un uc) g.paths ∧ OwnS w5 w3.heap.size (.slice va vn vc) g.ask.dom) := ⟨ownS_mono hown5 (by simp [World.setCell]), (HO4.out.1.grown HG4.out (by have := HO4.out.2.1; omega)).below hb5⟩
  have f6 := free_of H6.box
  have r15 := H6.at 15 (v := .slice pa pl pc) rfl
  have g0 := H7.at 0 (v := .bool g.org.sec) rfl
  have g1 := H7.at 1 (v := .string g.org.host) rfl
  have g2 := H7.at 2 (v := .int .i64 g.org.port) rfl
  have g3 := H7.at 3 (v := .bool g.proxy) rfl
  have g4 := H7.at 4 (v := .string g.user) rfl
  have g5 := H7.at 5 (v := .string g.pass) rfl
  have g6 := H7.at 6 (v := .int .i64 g.ask.sch) rfl
  have g7 := H7.at 7 (v := .string g.ask.realm) rfl
  have g8 := H7.at 8 (v := .string g.ask.nonce) rfl
  have g9 := H7.at 9 (v := .string g.ask.opq) rfl
  have g10 := H7.at 10 (v := .bool g.ask.sess) rfl
  have g11 := H7.at 11 (v := .string g.ask.qop) rfl
  have g12 := H7.at 12 (v := .bool g.ask.stale) rfl
  have g13 := H7.at 13 (v := .slice va vn vc) rfl
  have g14 := H7.at 14 (v := .int .i64 g.count) rfl
  have g15 := H7.at 15 (v := .slice ua un uc) rfl
  have d0 : (w5.setCell ⟨w.heap.size, 15, none⟩ (.slice ua un uc)).cell? ⟨w.heap.size + 1, 0, none⟩ = some (.bool false) := cell_of H7.res
  have d1 : (w5.setCell ⟨w.heap.size, 15, none⟩ (.slice ua un uc)).cell? ⟨w.heap.size + 1, 1, none⟩ = some (.string ⟨#[]⟩) := cell_of H7.res
  have d2 : (w5.setCell ⟨w.heap.size, 15, none⟩ (.slice ua un uc)).cell? ⟨w.heap.size + 1, 2, none⟩ = some (.int .i64 0) := cell_of H7.res
  have d3 : (w5.setCell ⟨w.heap.size, 15, none⟩ (.slice ua un uc)).cell? ⟨w.heap.size + 1, 3, none⟩ = some (.bool false) := cell_of H7.res
  have d4 : (w5.setCell ⟨w.heap.size, 15, none⟩ (.slice ua un uc)).cell? ⟨w.heap.size + 1, 4, none⟩ = some (.string ⟨#[]⟩) := cell_of H7.res
  have d5 : (w5.setCell ⟨w.heap.size, 15, none⟩ (.slice ua un uc)).cell? ⟨w.heap.size + 1, 5, none⟩ = some (.string ⟨#[]⟩) := cell_of H7.res
  have d6 : (w5.setCell ⟨w.heap.size, 15, none⟩ (.slice ua un uc)).cell? ⟨w.heap.size + 1, 6, none⟩ = some (.int .i64 0) := cell_of H7.res
  have d7 : (w5.setCell ⟨w.heap.size, 15, none⟩ (.slice ua un uc)).cell? ⟨w.heap.size + 1, 7, none⟩ = some (.string ⟨#[]⟩) := cell_of H7.res
  have d8 : (w5.setCell ⟨w.heap.size, 15, none⟩ (.slice ua un uc)).cell? ⟨w.heap.size + 1, 8, none⟩ = some (.string ⟨#[]⟩) := cell_of H7.res
  have d9 : (w5.setCell ⟨w.heap.size, 15, none⟩ (.slice ua un uc)).cell? ⟨w.heap.size + 1, 9, none⟩ = some (.string ⟨#[]⟩) := cell_of H7.res
  have d10 : (w5.setCell ⟨w.heap.size, 15, none⟩ (.slice ua un uc)).cell? ⟨w.heap.size + 1, 10, none⟩ = some (.bool false) := cell_of H7.res
  have d11 : (w5.setCell ⟨w.heap.size, 15, none⟩ (.slice ua un uc)).cell? ⟨w.heap.size + 1, 11, none⟩ = some (.string ⟨#[]⟩) := cell_of H7.res
  have d12 : (w5.setCell ⟨w.heap.size, 15, none⟩ (.slice ua un uc)).cell? ⟨w.heap.size + 1, 12, none⟩ = some (.bool false) := cell_of H7.res
  have d13 : (w5.setCell ⟨w.heap.size, 15, none⟩ (.slice ua un uc)).cell? ⟨w.heap.size + 1, 13, none⟩ = some (.slice none 0 0) := cell_of H7.res
  have d14 : (w5.setCell ⟨w.heap.size, 15, none⟩ (.slice ua un uc)).cell? ⟨w.heap.size + 1, 14, none⟩ = some (.int .i64 0) := cell_of H7.res
  have d15 : (w5.setCell ⟨w.heap.size, 15, none⟩ (.slice ua un uc)).cell? ⟨w.heap.size + 1, 15, none⟩ = some (.slice none 0 0) := cell_of H7.res
  have fr := free_of H7.res
  clear hb5 H6 H7 hown5 f4 s6 s7 s8 s9 s10 s11 s12 t6 t7 t8 t9 t10 t11 t12 t13 t15
  go_wp2_with fail
  obtain ⟨z1, z2⟩ := setAll [.bool g.org.sec, .string g.org.host, .int .i64 g.org.port, .bool g.proxy, .string g.user, .string g.pass, .int .i64 g.ask.sch, .string g.ask.realm, .string g.ask.nonce, .string g.ask.opq, .bool g.ask.sess, .string g.ask.qop, .bool g.ask.stale, .slice va vn vc, .int .i64 g.count, .slice ua un uc] (show BoxF _ _ _ _ _ from HH7.out).res rfl
  simp only [World.setCells, Nat.reduceAdd] at z1 z2
  have hb9 := (show BoxF _ _ _ _ _ from HH7.out).bel
  clear g0 g1 g2 g3 g4 g5 g6 g7 g8 g9 g10 g11 g12 g13 g14 g15 d0 d1 d2 d3 d4 d5 d6 d7 d8 d9 d10 d11 d12 d13 d14 d15 fr
  refine bodyPost_ret (v := .agg #[.bool g.org.sec, .string g.org.host, .int .i64 g.org.port, .bool g.proxy, .string g.user, .string g.pass, .int .i64 g.ask.sch, .string g.ask.realm, .string g.ask.nonce, .string g.ask.opq, .bool g.ask.sess, .string g.ask.qop, .bool g.ask.stale, .slice va vn vc, .int .i64 g.count, .slice ua un uc]) (res_cell rfl rfl Try.isAgg36 Try.sizeOf36 rfl z1) rfl ?_
  refine ⟨⟨_, _, rfl, ?_, ?_⟩, hb9.grown z2 hb9.size (fun i hi => by injection hi with hi; omega)⟩
  · exact ownS_mono ((HO5.out.2.grown HG7.out (by have := HO4.out.2.1; omega)).grown z2 (by have := HO4.out.2.1; omega)) (by have := HO4.out.2.1; omega)
  · exact ownS_mono ((HO5.out.1.grown HG7.out (by have := HO4.out.2; omega)).grown z2 (by have := HO4.out.2; omega)) (by have := HO4.out.2; omega)
end Go.Proofs.Ytdnnlfklanaliab
