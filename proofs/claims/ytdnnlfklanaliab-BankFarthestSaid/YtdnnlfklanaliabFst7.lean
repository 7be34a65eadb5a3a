/- The law BankFarthest, walked. -/
import Derived.Test.YtdnnlfklanaliabFar7
import Derived.Test.YtdnnlfklanaliabFil7
import Derived.Test.YtdnnlfklanaliabGrt7
namespace Go.Proofs.Ytdnnlfklanaliab
open Go.RowKit
set_option linter.unusedVariables false

theorem grvs_list {w : World} {B : Nat} : ∀ us : List GrV, (∀ u ∈ us, GrOwn w B u) → ∃ gs : List GrA, gs.map GrA.val = us ∧ ∀ v ∈ gs, Strs w v.da v.g.ask.dom.length v.db v.doff v.g.ask.dom ∧ Strs w v.pa v.g.paths.length v.pb v.poff v.g.paths
  | [], _ => ⟨[], rfl, fun v hv => by cases hv⟩
  | u :: us, h => by
    obtain ⟨gs, e, hs⟩ := grvs_list us (fun x hx => h x (List.mem_cons_of_mem _ hx))
    have hu := h u List.mem_cons_self
    obtain ⟨da, dc, dg, hdv, hd⟩ := hu.dom.strs
    obtain ⟨pa, pc, pg, hpv, hp⟩ := hu.paths.strs
    obtain ⟨g, dv, pv⟩ := u
    simp only at hdv hpv hd hp
    subst hdv hpv
    refine ⟨⟨g, da, dc, dg, 0, pa, pc, pg, 0⟩ :: gs, by rw [List.map_cons, e]; rfl, fun v hv => ?_⟩
    rcases List.mem_cons.1 hv with rfl | hv
    · exact ⟨hd, hp⟩
    · exact hs v hv
/-- A row of a call's own is one that lies. -/
theorem rows_grs {w : World} {B : Nat} {v : Value} {us : List GrV} (h : OwnK 16 36 w B v (us.map grCells)) (he : ∀ u ∈ us, GrOwn w B u) :
    ∃ (a0 : Option Addr) (cap b off : Nat) (gs : List GrA), v = .slice a0 us.length cap ∧ Grs w a0 us.length b off gs ∧ gs.map (·.g) = us.map (·.g) := by
  obtain ⟨gs, e, hs⟩ := grvs_list us he
  have hg : gs.map (·.g) = us.map (·.g) := by rw [← e, List.map_map]; rfl
  have hlen : gs.length = us.length := by rw [← e, List.length_map]
  rcases h.forms with ⟨e1, e2⟩ | ⟨g, cap, e1, _, hlt, _, _⟩
  · have h0 : us = [] := by simpa using e2
    subst h0
    have h1 : gs = [] := by simpa using e
    subst h1
    exact ⟨none, 0, 0, 0, [], e1, ⟨rfl, fun h => absurd h (by simp), (fun j p hp => by simp at hp), (fun c hc => by cases hc), fun c hc => by cases hc⟩, rfl⟩
  · rw [List.length_map] at e1
    subst e1
    refine ⟨_, cap, g, 0, gs, rfl, ⟨hlen, fun _ => ⟨rfl, hlt⟩, fun j v hj i u hu => ?_, fun v hv => (hs v hv).1, fun v hv => (hs v hv).2⟩, hg⟩
    rw [Nat.zero_add]
    refine h.cell (j := j) (x := grCells v.val) ?_ hu
    rw [← e, List.map_map, List.getElem?_map, hj]
    rfl
/-- What stands behind some of a row, of the farthest. -/
def FarI (p : List Int) (s : Int × Int) : Prop := (s.1 = -1 ∧ s.2 = 0 ∧ ∀ r ∈ p, r < 0) ∨ ∃ k : Nat, s.1 = k ∧ p[k]? = some s.2 ∧ 0 ≤ s.2 ∧ ∀ r ∈ p, r ≤ s.2
theorem farGo_inv : ∀ (l p : List Int) (s : Int × Int), FarI p s → FarI (p ++ l) (farGo l p.length s)
  | [], p, s, h => by rw [List.append_nil]; exact h
  | r :: t, p, s, h => by
    have key : FarI (p ++ [r]) (if s.2 ≤ r then ((p.length : Int), r) else s) := by
      by_cases hc : s.2 ≤ r
      · rw [if_pos hc]
        refine .inr ⟨p.length, rfl, by simp, ?_, fun x hx => ?_⟩
        · rcases h with ⟨_, h2, _⟩ | ⟨k, _, _, h3, _⟩
          · show 0 ≤ r; omega
          · show 0 ≤ r; omega
        · show x ≤ r
          rcases List.mem_append.1 hx with hx | hx
          · rcases h with ⟨_, h2, h3⟩ | ⟨k, _, _, h3, h4⟩
            · have := h3 x hx; omega
            · have := h4 x hx; omega
          · rw [List.mem_singleton.1 hx]; exact Int.le_refl _
      · rw [if_neg hc]
        rcases h with ⟨h1, h2, h3⟩ | ⟨k, h1, h2, h3, h4⟩
        · refine .inl ⟨h1, h2, fun x hx => ?_⟩
          rcases List.mem_append.1 hx with hx | hx
          · exact h3 x hx
          · rw [List.mem_singleton.1 hx]; omega
        · refine .inr ⟨k, h1, ?_, h3, fun x hx => ?_⟩
          · rw [List.getElem?_append_left (List.getElem?_eq_some_iff.1 h2).1]; exact h2
          · rcases List.mem_append.1 hx with hx | hx
            · exact h4 x hx
            · rw [List.mem_singleton.1 hx]; omega
    have := farGo_inv t (p ++ [r]) _ key
    rw [List.append_assoc, List.length_append] at this
    exact this
theorem fold_ge (path : ByteArray) : ∀ (l : List ByteArray) (m : Int), -1 ≤ m → -1 ≤ l.foldl (farStep path) m
  | [], m, h => h
  | s :: l, m, h => fold_ge path l _ (by unfold farStep; split <;> omega)
theorem reach_ge (o : OrgV) (p : Bool) (path : ByteArray) (g : GrP) : -1 ≤ reachI o p path g := by
  unfold reachI
  split
  · exact fold_ge path _ _ (Int.le_refl _)
  · exact Int.le_refl _
theorem reach_zero (o : OrgV) (p : Bool) (path : ByteArray) : reachI o p path zeroP = -1 := by
  unfold reachI
  split <;> rfl
/-- The grant that counts reaches farthest. -/
theorem find_far (G : List GrP) (o : OrgV) (p : Bool) (path : ByteArray) : (0 ≤ findI G o p path → 0 ≤ reachI o p path (toldL G (findI G o p path))) ∧ ∀ g ∈ G, reachI o p path g ≤ reachI o p path (toldL G (findI G o p path)) := by
  have h := farGo_inv (G.map (reachI o p path)) [] (-1, 0) (.inl ⟨rfl, rfl, fun r hr => by cases hr⟩)
  rw [List.nil_append] at h
  have hI : findI G o p path = (farGo (G.map (reachI o p path)) 0 (-1, 0)).1 := rfl
  rw [hI]
  simp only [List.length_nil] at h
  rcases h with ⟨h1, _, h3⟩ | ⟨k, h1, h2, h3, h4⟩
  · rw [h1]
    refine ⟨fun h => absurd h (by decide), fun g hg => ?_⟩
    have := h3 _ (List.mem_map.2 ⟨g, hg, rfl⟩)
    have hz : toldL G (-1) = zeroP := rfl
    rw [hz, reach_zero]
    omega
  · rw [h1]
    rw [List.getElem?_map] at h2
    obtain ⟨g, hg, hr⟩ := Option.map_eq_some_iff.1 h2
    have ht : toldL G (k : Int) = g := by
      unfold toldL
      rw [if_neg (by omega), Int.toNat_natCast, hg]
      rfl
    rw [ht, hr]
    exact ⟨fun _ => h3, fun x hx => h4 _ (List.mem_map.2 ⟨x, hx, rfl⟩)⟩
theorem told_fit {l : List GrP} {i : Int} (h : ∀ y ∈ l, y.paths.length ≤ 1000) : (toldL l i).paths.length ≤ 1000 := by
  unfold toldL
  split
  · decide
  · cases hx : l[i.toNat]? with
    | none => decide
    | some y => exact h y (List.mem_of_getElem? hx)
set_option maxRecDepth 100000 in
set_option maxHeartbeats 4000000 in
theorem bankFarthest_walk (a0 : Option Addr) (len cap b off : Nat) (gs : List GrA) (hl : len ≤ 9223372036854775807) (hz : ∀ v ∈ gs, GrZ v.g) (os : Bool) (oh : ByteArray) (op : Int) (p : Bool) (path : ByteArray) (hpz : path.size ≤ 140737488355328) (w : World) (h : Grs w a0 len b off gs) :
    Calls Try.prog 4 #[.slice a0 len cap, .agg #[.bool os, .string oh, .int .i64 op], .bool p, .string path] w fun e w' => e = .returned (.bool true) ∧ Below w.heap.size w w' := by
  have HG : Hid (Grs w a0 len b off gs) := h
  have HZ : Hid (∀ v ∈ gs, GrZ v.g) := hz
  have hb0 : Below w.heap.size w (w.alloc (.cells #[.bool os, .string oh, .int .i64 op] 29)) := (Below.refl _ _).alloc (Nat.le_refl _) _
  have hn0 := heap_alloc_new w (.cells #[.bool os, .string oh, .int .i64 op] 29)
  have hsz0 : (w.alloc (.cells #[.bool os, .string oh, .int .i64 op] 29)).heap.size = w.heap.size + 1 := by simp
  clear h hz
  go_enter Try.func4, Try.ntmps4
  by_cases h100 : (100 : Int) < (path.size : Int)
  all_goals
    go_wp2_with fail
  all_goals
    generalize hW0 : w.alloc (.cells #[.bool os, .string oh, .int .i64 op] 29) = W0 at hb0 hn0 hsz0 ⊢
    clear hW0
    have HO : Hid (∀ W, Below W0.heap.size W0 W → W.heap[w.heap.size]? = some (.cells #[.bool os, .string oh, .int .i64 op] 29 (0, 0)) ∧ Below w.heap.size w W) := fun W hW => ⟨(hW.block _ (by omega)).trans hn0, hb0.trans (hW.mono hb0.size)⟩
    clear hb0 hn0 hsz0
    refine (banked_any _).mono ?_
    rintro e w1 ⟨rfl, hb1⟩
    have HB1 : Hid (Below W0.heap.size W0 w1) := hb1
    clear hb1
    go_wp2_with fail
    refine (held_any a0 len cap b off gs HZ.out hl _ (HG.out.below (HO.out _ HB1.out).2)).mono ?_
    rintro e w2 ⟨⟨t, rfl, ht⟩, hb2⟩
    have HB2 : Hid (Below W0.heap.size W0 w2) := HB1.out.trans (hb2.mono HB1.out.size)
    clear hb2 HB1 hl
    cases t
  · go_wp2
    go_ret
    exact ⟨rfl, (HO.out _ HB2.out).2⟩
  · go_wp2
    go_ret
    exact ⟨rfl, (HO.out _ HB2.out).2⟩
  · go_wp2
    go_ret
    exact ⟨rfl, (HO.out _ HB2.out).2⟩
  obtain ⟨hn, hsh⟩ := ht rfl
  have HSH : Hid (∀ v ∈ gs, shortB v) := hsh
  clear ht hsh
  go_wp2_with fail
  refine (filled_any a0 len cap b off gs HZ.out HSH.out hn _ (HG.out.below (HO.out _ HB2.out).2)).mono ?_
  rintro e w3 ⟨rfl, H3⟩
  obtain ⟨⟨gv, G, hB, hG⟩, hb3⟩ := H3.out
  obtain ⟨lb, HLB⟩ : ∃ x, Hid (w2.heap.size = x) := ⟨_, rfl⟩
  rw [HLB.out] at hB ⊢
  have HB3 : Hid (Below W0.heap.size W0 w3 ∧ BankW w3 lb lb gv (.slice none 0 0) G []) := ⟨HB2.out.trans (hb3.mono HB2.out.size), hB⟩
  clear H3 hB hG hb3 HB2 HLB
  have b1 := (HO.out _ HB3.out.1).1
  have c0 := cell_of (i := 0) b1
  have c1 := cell_of (i := 1) b1
  have c2 := cell_of (i := 2) b1
  simp only [List.getElem?_toArray, List.getElem?_cons_zero, List.getElem?_cons_succ] at c0 c1 c2
  clear b1
  go_wp2_with fail
  refine (find_any _ HB3.out.2 ⟨os, oh, op⟩ p path).mono ?_
  rintro e w4 ⟨⟨x, rfl, hx, hxo⟩, hb4⟩
  have hff := find_far (G.map (·.g)) ⟨os, oh, op⟩ p path
  rw [← hx] at hff
  obtain ⟨N, HN⟩ : ∃ N, Hid (reachI ⟨os, oh, op⟩ p path x.g = N) := ⟨_, rfl⟩
  rw [HN.out] at hff
  have hfit : x.g.paths.length ≤ 1000 := by
    rw [hx]
    refine told_fit fun y hy => ?_
    obtain ⟨v, hv, rfl⟩ := List.mem_map.1 hy
    exact (HB3.out.2.gf v hv).2.2.2.2.1
  generalize hok : decide (0 ≤ findI (G.map (·.g)) ⟨os, oh, op⟩ p path) = ok
  have HF : Hid ((ok = true → 0 ≤ N) ∧ ∀ y ∈ G.map (·.g), reachI ⟨os, oh, op⟩ p path y ≤ N) := ⟨fun h => hff.1 (of_decide_eq_true (hok.trans h)), hff.2⟩
  clear hff hok hx
  obtain ⟨da, dc, dg, hdv, _⟩ := hxo.dom.strs
  obtain ⟨pa, pc, pg, hpv, hps⟩ := hxo.paths.strs
  clear hxo
  obtain ⟨g, dv, pv⟩ := x
  simp only at hdv hpv hps hfit HN
  subst hdv hpv
  have HB4 : Hid (Below W0.heap.size W0 w4 ∧ BankW w4 lb lb gv (.slice none 0 0) G []) := ⟨HB3.out.1.trans (hb4.mono HB3.out.1.size), HB3.out.2.below hb4⟩
  have hb5 : Below w4.heap.size w4 (w4.alloc (.cells #[.bool g.org.sec, .string g.org.host, .int .i64 g.org.port, .bool g.proxy, .string g.user, .string g.pass, .int .i64 g.ask.sch, .string g.ask.realm, .string g.ask.nonce, .string g.ask.opq, .bool g.ask.sess, .string g.ask.qop, .bool g.ask.stale, .slice da g.ask.dom.length dc, .int .i64 g.count, .slice pa g.paths.length pc] 36)) := (Below.refl _ _).alloc (Nat.le_refl _) _
  have hn5 := heap_alloc_new w4 (.cells #[.bool g.org.sec, .string g.org.host, .int .i64 g.org.port, .bool g.proxy, .string g.user, .string g.pass, .int .i64 g.ask.sch, .string g.ask.realm, .string g.ask.nonce, .string g.ask.opq, .bool g.ask.sess, .string g.ask.qop, .bool g.ask.stale, .slice da g.ask.dom.length dc, .int .i64 g.count, .slice pa g.paths.length pc] 36)
  have HX : Hid (g.paths.length ≤ 1000 ∧ Strs (w4.alloc (.cells #[.bool g.org.sec, .string g.org.host, .int .i64 g.org.port, .bool g.proxy, .string g.user, .string g.pass, .int .i64 g.ask.sch, .string g.ask.realm, .string g.ask.nonce, .string g.ask.opq, .bool g.ask.sess, .string g.ask.qop, .bool g.ask.stale, .slice da g.ask.dom.length dc, .int .i64 g.count, .slice pa g.paths.length pc] 36)) pa g.paths.length pg 0 g.paths) := ⟨hfit, hps.below hb5⟩
  have HB5 : Hid (Below W0.heap.size W0 (w4.alloc (.cells #[.bool g.org.sec, .string g.org.host, .int .i64 g.org.port, .bool g.proxy, .string g.user, .string g.pass, .int .i64 g.ask.sch, .string g.ask.realm, .string g.ask.nonce, .string g.ask.opq, .bool g.ask.sess, .string g.ask.qop, .bool g.ask.stale, .slice da g.ask.dom.length dc, .int .i64 g.count, .slice pa g.paths.length pc] 36)) ∧ BankW (w4.alloc (.cells #[.bool g.org.sec, .string g.org.host, .int .i64 g.org.port, .bool g.proxy, .string g.user, .string g.pass, .int .i64 g.ask.sch, .string g.ask.realm, .string g.ask.nonce, .string g.ask.opq, .bool g.ask.sess, .string g.ask.qop, .bool g.ask.stale, .slice da g.ask.dom.length dc, .int .i64 g.count, .slice pa g.paths.length pc] 36)) lb lb gv (.slice none 0 0) G []) := ⟨HB4.out.1.trans (hb5.mono HB4.out.1.size), HB4.out.2.below hb5⟩
  have b1 := (HO.out _ HB5.out.1).1
  clear c0 c1 c2
  have c0 := cell_of (i := 0) b1
  have c1 := cell_of (i := 1) b1
  have c2 := cell_of (i := 2) b1
  simp only [List.getElem?_toArray, List.getElem?_cons_zero, List.getElem?_cons_succ] at c0 c1 c2
  clear b1 hps hfit HB3 HB4 hb4 hb5 hn5
  unfold grCells
  go_wp2_with fail
  refine (farK_any ⟨g, .slice da g.ask.dom.length dc, .slice pa g.paths.length pc⟩ pa pc pg 0 rfl HX.out.1 ⟨os, oh, op⟩ p path _ HX.out.2).mono ?_
  rintro e w6 ⟨he, hb6⟩
  have he' : e = .returned (.int .i64 N) := he.trans (congrArg (fun z => Ending.returned (.int .i64 z)) HN.out)
  subst he'
  have HB6 : Hid (Below W0.heap.size W0 w6 ∧ BankW w6 lb lb gv (.slice none 0 0) G []) := ⟨HB5.out.1.trans (hb6.mono HB5.out.1.size), HB5.out.2.below hb6⟩
  have HFG : Hid (∀ y ∈ G.map (·.g), y.paths.length ≤ 1000) := fun y hy => by
    obtain ⟨v, hv, rfl⟩ := List.mem_map.1 hy
    exact (HB6.out.2.gf v hv).2.2.2.2.1
  have hN0 : ok = true → ¬ N < 0 := fun h => by have := HF.out.1 h; omega
  clear he hb6 HB5 HX c0 c1 c2
  cases ok
  all_goals as_aux_lemma =>
    (try have hN1 : ¬ N < 0 := hN0 rfl)
    clear hN0
    go_wp2_with fail
    refine (grants_any _ HB6.out.2).mono ?_
    rintro e w7 ⟨⟨val, us, rfl, hown, his, hea⟩, hb7⟩
    obtain ⟨a1, c1, b1, off1, rs, rfl, hrs, hrg⟩ := rows_grs hown hea
    obtain ⟨n, HNN⟩ : ∃ x, Hid (us.length = x) := ⟨_, rfl⟩
    rw [HNN.out] at hrs ⊢
    have HLE : Hid (∀ v ∈ rs, reachI ⟨os, oh, op⟩ p path v.g ≤ N ∧ v.g.paths.length ≤ 1000) := fun v hv => by
      have hm : v.g ∈ G.map (·.g) := by rw [← his, ← hrg]; exact List.mem_map.2 ⟨v, hv, rfl⟩
      exact ⟨HF.out.2 _ hm, HFG.out _ hm⟩
    have HB7 : Hid (Below W0.heap.size W0 w7) := HB6.out.1.trans (hb7.mono HB6.out.1.size)
    have HR : Hid (Grs w7 a1 n b1 off1 rs) := hrs
    have hn8 : n ≤ 8 := by
      rw [← HNN.out, ← List.length_map (f := (·.g)), his, List.length_map]
      exact HB6.out.2.glen
    clear hown hea hb7 his hrg hrs HNN us HB6 HFG HF HN
    go_wp2
    go_loopw [48] (fun i wr => ∃ k : Nat, k ≤ n ∧ i = .int .i64 k ∧ Hid (Below w7.heap.size w7 wr)) (fun i _ => n - (intOf i).toNat)
    case atStart => exact ⟨0, Nat.zero_le _, rfl, Below.refl _ _⟩
    case round =>
      obtain ⟨k, hk, rfl, HW⟩ := hrel
      by_cases hlt : k < n
      · have hkL : (k : Int) < (n : Int) := by omega
        obtain ⟨v, hv⟩ : ∃ v, rs[k]? = some v := ⟨rs[k]'(by have := HR.out.len_eq; omega), List.getElem?_eq_getElem _⟩
        have hvm : v ∈ rs := List.mem_of_getElem? hv
        obtain ⟨ha1, _⟩ := HR.out.lies (by omega)
        subst ha1
        have hW := HR.out.below HW.out
        obtain ⟨d0, d1, d2, d3, d4, d5, d6, d7, d8, d9, d10, d11, d12, d13, d14, d15⟩ := hW.all hv
        have hbA : Below wr.heap.size wr (wr.alloc (.cells #[.bool v.g.org.sec, .string v.g.org.host, .int .i64 v.g.org.port, .bool v.g.proxy, .string v.g.user, .string v.g.pass, .int .i64 v.g.ask.sch, .string v.g.ask.realm, .string v.g.ask.nonce, .string v.g.ask.opq, .bool v.g.ask.sess, .string v.g.ask.qop, .bool v.g.ask.stale, .slice v.da v.g.ask.dom.length v.dc, .int .i64 v.g.count, .slice v.pa v.g.paths.length v.pc] 36)) := (Below.refl _ _).alloc (Nat.le_refl _) _
        have hstr := (hW.paths v hvm).below hbA
        have HA : Hid (Below w7.heap.size w7 (wr.alloc (.cells #[.bool v.g.org.sec, .string v.g.org.host, .int .i64 v.g.org.port, .bool v.g.proxy, .string v.g.user, .string v.g.pass, .int .i64 v.g.ask.sch, .string v.g.ask.realm, .string v.g.ask.nonce, .string v.g.ask.opq, .bool v.g.ask.sess, .string v.g.ask.qop, .bool v.g.ask.stale, .slice v.da v.g.ask.dom.length v.dc, .int .i64 v.g.count, .slice v.pa v.g.paths.length v.pc] 36))) := HW.out.trans (hbA.mono HW.out.size)
        have x1 := (HO.out _ (HB7.out.trans (HA.out.mono HB7.out.size))).1
        have c0' := cell_of (i := 0) x1
        have c1' := cell_of (i := 1) x1
        have c2' := cell_of (i := 2) x1
        simp only [List.getElem?_toArray, List.getElem?_cons_zero, List.getElem?_cons_succ] at c0' c1' c2'
        have hle := (HLE.out v hvm).1
        have hfv := (HLE.out v hvm).2
        obtain ⟨M, HM⟩ : ∃ M, Hid (reachI ⟨os, oh, op⟩ p path v.g = M) := ⟨_, rfl⟩
        rw [HM.out] at hle
        have hNM : ¬ N < M := by omega
        clear x1 hbA hW hv hvm hle
        go_wp2_with fail
        refine (farK_any v.val v.pa v.pc v.pb v.poff rfl hfv ⟨os, oh, op⟩ p path _ hstr).mono ?_
        rintro e w9 ⟨he, hb9⟩
        have he' : e = .returned (.int .i64 M) := he.trans (congrArg (fun z => Ending.returned (.int .i64 z)) HM.out)
        subst he'
        have HZZ : Hid (Below w7.heap.size w7 w9) := HA.out.trans (hb9.mono HA.out.size)
        clear he hb9 HA hstr d0 d1 d2 d3 d4 d5 d6 d7 d8 d9 d10 d11 d12 d13 d14 d15 c0' c1' c2'
        go_wp2
        go_roundw
        case rel => exact ⟨k + 1, by omega, by go_num, HZZ.out⟩
        case measure => simp [intOf]; omega
      · have hkL : ¬ (k : Int) < (n : Int) := by omega
        go_wp2
        go_ret
        exact ⟨rfl, (HO.out _ (HB7.out.trans (HW.out.mono HB7.out.size))).2⟩
end Go.Proofs.Ytdnnlfklanaliab
