/- The law BankOnce, walked. -/
import Derived.Test.YtdnnlfklanaliabFil7
import Derived.Test.YtdnnlfklanaliabSam7
import Derived.Test.YtdnnlfklanaliabGrt7
import Derived.Test.YtdnnlfklanaliabRgH
import Derived.BigQuiet
import Derived.RegionTactic
import Derived.Deep.RegionHeld3
namespace Go.Proofs.Ytdnnlfklanaliab
open Go.RowKit
set_option linter.unusedVariables false

theorem orgB_comm (a b : OrgV) : orgB a b = orgB b a := by
  unfold orgB
  rw [Bool.eq_iff_iff]
  simp only [Bool.and_eq_true, beq_iff_eq]
  constructor <;> (rintro ⟨h1, h2, h3⟩; exact ⟨h1.symm, h2.symm, h3.symm⟩)
theorem realmP_comm (x y : GrP) : realmP x y = realmP y x := by
  unfold realmP realmB
  rw [orgB_comm]
  congr 1
  rw [Bool.eq_iff_iff]
  simp only [Bool.and_eq_true, beq_iff_eq]
  constructor <;> (rintro ⟨h1, h2⟩; exact ⟨h1.symm, h2.symm⟩)
def Apart (l : List GrP) : Prop := l.Pairwise fun x y => realmP y x = false
theorem apart_put {l : List GrP} (h : Apart l) (g : GrP) : Apart (putL l g) := by
  unfold putL last8 Apart
  refine List.Pairwise.sublist (List.drop_sublist _ _) ?_
  rw [List.pairwise_append]
  refine ⟨List.Pairwise.sublist List.filter_sublist h, List.pairwise_singleton _ _, fun x hx y hy => ?_⟩
  obtain rfl := List.mem_singleton.1 hy
  have h2 := (List.mem_filter.1 hx).2
  simpa using h2
theorem apart_fold (l : List GrP) : ∀ a : List GrP, Apart a → Apart (l.foldl putL a) := by
  induction l with
  | nil => exact fun a h => h
  | cons g l ih => exact fun a h => ih _ (apart_put h g)
theorem apart_all (l : List GrP) : Apart (putAll l) := apart_fold l [] List.Pairwise.nil
theorem apart_at {l : List GrP} (h : Apart l) {i k : Nat} {x y : GrP} (hki : k < i) (hi : l[i]? = some x) (hk : l[k]? = some y) : realmP x y = false := by
  obtain ⟨h1, e1⟩ := List.getElem?_eq_some_iff.1 hi
  obtain ⟨h2, e2⟩ := List.getElem?_eq_some_iff.1 hk
  have := (List.pairwise_iff_getElem.1 h) k i h2 h1 hki
  rw [e1, e2] at this
  exact this
theorem put_last (l : List GrP) (g : GrP) : 0 < (putL l g).length ∧ (putL l g)[(putL l g).length - 1]? = some g := by
  unfold putL
  generalize l.filter (fun x => !realmP g x) = m
  unfold last8
  refine ⟨by simp [List.length_drop]; omega, ?_⟩
  rw [List.getElem?_drop, List.length_drop, List.length_append]
  simp only [List.length_singleton]
  rw [show m.length + 1 - 8 + (m.length + 1 - (m.length + 1 - 8) - 1) = m.length by omega, List.getElem?_append_right (Nat.le_refl _), Nat.sub_self]
  rfl
theorem all_last (l : List GrP) (g : GrP) (h : l[l.length - 1]? = some g) : 0 < (putAll l).length ∧ (putAll l)[(putAll l).length - 1]? = some g := by
  have hl : 0 < l.length := by have := (List.getElem?_eq_some_iff.1 h).1; omega
  obtain ⟨m, x, rfl⟩ : ∃ m x, l = m ++ [x] := ⟨l.dropLast, l.getLast (by intro e; rw [e] at hl; cases hl), (List.dropLast_concat_getLast _).symm⟩
  rw [List.length_append, List.length_singleton, Nat.add_sub_cancel, List.getElem?_append_right (Nat.le_refl _), Nat.sub_self] at h
  obtain rfl : x = g := by simpa using h
  rw [putAll_snoc]
  exact put_last _ _
theorem grv_list {w : World} {B : Nat} : ∀ us : List GrV, (∀ u ∈ us, GrOwn w B u) → ∃ gs : List GrA, gs.map GrA.val = us ∧ ∀ v ∈ gs, Strs w v.da v.g.ask.dom.length v.db v.doff v.g.ask.dom ∧ Strs w v.pa v.g.paths.length v.pb v.poff v.g.paths
  | [], _ => ⟨[], rfl, fun v hv => by cases hv⟩
  | u :: us, h => by
    obtain ⟨gs, e, hs⟩ := grv_list us (fun x hx => h x (List.mem_cons_of_mem _ hx))
    have hu := h u List.mem_cons_self
    obtain ⟨da, dc, dg, hdv, hd⟩ := hu.dom.strs
    obtain ⟨pa, pc, pg, hpv, hp⟩ := hu.paths.strs
    obtain ⟨g, dv, pv⟩ := u
    simp only at hdv hpv hd hp
    subst hdv hpv
    refine ⟨⟨g, da, dc, dg, 0, pa, pc, pg, 0⟩ :: gs, by rw [List.map_cons, e]; rfl, fun v hv => ?_⟩
    rcases List.mem_cons.1 hv with rfl | hv
    · exact ⟨hd, hp⟩
    · exact hs v hv
/-- A row of a call's own is one that lies. -/
theorem row_grs {w : World} {B : Nat} {v : Value} {us : List GrV} (h : OwnK 16 36 w B v (us.map grCells)) (he : ∀ u ∈ us, GrOwn w B u) :
    ∃ (a0 : Option Addr) (cap b off : Nat) (gs : List GrA), v = .slice a0 us.length cap ∧ Grs w a0 us.length b off gs ∧ gs.map (·.g) = us.map (·.g) := by
  obtain ⟨gs, e, hs⟩ := grv_list us he
  have hg : gs.map (·.g) = us.map (·.g) := by rw [← e, List.map_map]; rfl
  have hlen : gs.length = us.length := by rw [← e, List.length_map]
  rcases h.forms with ⟨e1, e2⟩ | ⟨g, cap, e1, _, hlt, _, _⟩
  · have h0 : us = [] := by simpa using e2
    subst h0
    have h1 : gs = [] := by simpa using e
    subst h1
    exact ⟨none, 0, 0, 0, [], e1, ⟨rfl, fun h => absurd h (by simp), (fun j p hp => by simp at hp), (fun c hc => by cases hc), fun c hc => by cases hc⟩, rfl⟩
  · rw [List.length_map] at e1
    subst e1
    refine ⟨_, cap, g, 0, gs, rfl, ⟨hlen, fun _ => ⟨rfl, hlt⟩, fun j v hj i u hu => ?_, fun v hv => (hs v hv).1, fun v hv => (hs v hv).2⟩, hg⟩
    rw [Nat.zero_add]
    refine h.cell (j := j) (x := grCells v.val) ?_ hu
    rw [← e, List.map_map, List.getElem?_map, hj]
    rfl
set_option maxRecDepth 100000 in
set_option maxHeartbeats 4000000 in
theorem bankOnce_walk (a0 : Option Addr) (len cap b off : Nat) (gs : List GrA) (hl : len ≤ 9223372036854775807) (hz : ∀ v ∈ gs, GrZ v.g) (w : World) (h : Grs w a0 len b off gs) :
    Calls Try.prog 3 #[.slice a0 len cap] w fun e w' => e = .returned (.bool true) ∧ Below w.heap.size w w' := by
  have HG : Hid (Grs w a0 len b off gs) := h
  have HZ : Hid (∀ v ∈ gs, GrZ v.g) := hz
  clear h hz
  go_enter Try.func3, Try.ntmps3
  go_wp2_with fail
  refine (banked_any _).mono ?_
  rintro e w1 ⟨rfl, hb1⟩
  have HB1 : Hid (Below w.heap.size w w1) := hb1
  clear hb1
  go_wp2_with fail
  refine (held_any a0 len cap b off gs HZ.out hl _ (HG.out.below HB1.out)).mono ?_
  rintro e w2 ⟨⟨t, rfl, ht⟩, hb2⟩
  have HB2 : Hid (Below w.heap.size w w2) := HB1.out.trans (hb2.mono HB1.out.size)
  clear hb2 HB1 hl
  cases t
  · go_wp2
    go_ret
    exact ⟨rfl, HB2.out⟩
  obtain ⟨hn, hsh⟩ := ht rfl
  have HSH : Hid (∀ v ∈ gs, shortB v) := hsh
  clear ht hsh
  go_wp2_with fail
  refine (filled_any a0 len cap b off gs HZ.out HSH.out hn _ (HG.out.below HB2.out)).mono ?_
  rintro e w3 ⟨rfl, H3⟩
  obtain ⟨⟨gv, G, hB, hG⟩, hb3⟩ := H3.out
  obtain ⟨lb, HLB⟩ : ∃ x, Hid (w2.heap.size = x) := ⟨_, rfl⟩
  rw [HLB.out] at hB ⊢
  have HB3 : Hid (Below w.heap.size w w3 ∧ BankW w3 lb lb gv (.slice none 0 0) G []) := ⟨HB2.out.trans (hb3.mono HB2.out.size), hB⟩
  have HPA : Hid (G.map (·.g) = putAll (gs.map (·.g)) ∧ G.length ≤ 8) := ⟨hG, hB.glen⟩
  have HFG : Hid (∀ g ∈ G.map (·.g), g.ask.dom.length ≤ 1000 ∧ g.paths.length ≤ 1000) := fun g hg => by
    obtain ⟨v, hv, rfl⟩ := List.mem_map.1 hg
    have h := hB.gf v hv
    exact ⟨h.2.2.2.1.2.2.2.2.1, h.2.2.2.2.1⟩
  clear H3 hB hG hb3 HB2 HLB
  go_wp2_with fail
  refine (grants_any _ HB3.out.2).mono ?_
  rintro e w4 ⟨⟨val, us, rfl, hown, his, hea⟩, hb4⟩
  obtain ⟨a1, c1, b1, off1, rs, rfl, hrs, hrg⟩ := row_grs hown hea
  obtain ⟨n, HN⟩ : ∃ x, Hid (us.length = x) := ⟨_, rfl⟩
  rw [HN.out] at hrs ⊢
  have hn8 : n ≤ 8 := by
    rw [← HN.out, ← List.length_map (f := (·.g)), his, List.length_map]
    exact HPA.out.2
  have HB4 : Hid (Below w.heap.size w w4) := HB3.out.1.trans (hb4.mono HB3.out.1.size)
  have HR : Hid (Grs w4 a1 n b1 off1 rs) := hrs
  have HRP : Hid (rs.map (·.g) = putAll (gs.map (·.g))) := hrg.trans (his.trans HPA.out.1)
  have HRF : Hid (∀ v ∈ rs, v.g.ask.dom.length ≤ 1000 ∧ v.g.paths.length ≤ 1000) := fun v hv => HFG.out v.g (by rw [← his, ← hrg]; exact List.mem_map.2 ⟨v, hv, rfl⟩)
  clear hown hea hb4 his hrg hrs HFG HPA HB3 HN us gv G
  go_wp2
  go_loopw [4] (fun i wr => ∃ k : Nat, k ≤ n ∧ i = .int .i64 k ∧ Hid (Below w4.heap.size w4 wr)) (fun i _ => n - (intOf i).toNat)
  case atStart => exact ⟨0, Nat.zero_le _, rfl, Below.refl _ _⟩
  case round =>
    obtain ⟨k, hk, rfl, HW⟩ := hrel
    by_cases hlt : k < n
    · have hkL : (k : Int) < (n : Int) := by omega
      obtain ⟨v, hv⟩ : ∃ v, rs[k]? = some v := ⟨rs[k]'(by have := HR.out.len_eq; omega), List.getElem?_eq_getElem _⟩
      have HV : Hid (rs[k]? = some v) := hv
      clear hv
      go_wp2
      go_loopw [5] (fun i wx => ∃ j : Nat, j ≤ k ∧ i = .int .i64 j ∧ Hid (Below w4.heap.size w4 wx)) (fun i _ => k - (intOf i).toNat)
      case atStart => exact ⟨0, Nat.zero_le _, rfl, HW.out⟩
      case round =>
        obtain ⟨j, hj, rfl, HX⟩ := hrel
        by_cases hjk : j < k
        · have hjL : (j : Int) < (k : Int) := by omega
          have hjn : (j : Int) < (n : Int) := by omega
          obtain ⟨ha1, _⟩ := HR.out.lies (by omega)
          subst ha1
          obtain ⟨u, hu⟩ : ∃ u, rs[j]? = some u := ⟨rs[j]'(by have := HR.out.len_eq; omega), List.getElem?_eq_getElem _⟩
          obtain ⟨c0, c1', c2, c3, c4, c5, c6, c7, c8, c9, c10, c11, c12, c13, c14, c15⟩ := (HR.out.below HX.out).all HV.out
          obtain ⟨d0, d1, d2, d3, d4, d5, d6, d7, d8, d9, d10, d11, d12, d13, d14, d15⟩ := (HR.out.below HX.out).all hu
          clear c4 c5 c6 c8 c9 c10 c11 c12 c13 c14 c15
          clear d4 d5 d6 d8 d9 d10 d11 d12 d13 d14 d15
          have e1 := eqOrg v.g.org u.g.org (orgB v.g.org u.g.org) rfl
          obtain ⟨E1, h1⟩ : ∃ E, orgB v.g.org u.g.org = E := ⟨_, rfl⟩
          obtain ⟨E2, h2⟩ : ∃ E, (v.g.proxy == u.g.proxy) = E := ⟨_, rfl⟩
          obtain ⟨E3, h3⟩ : ∃ E, (v.g.ask.realm.toList == u.g.ask.realm.toList) = E := ⟨_, rfl⟩
          have hE : (E1 && (E2 && E3)) = false := by
            have ha := apart_at (apart_all (gs.map (·.g))) hjk (by rw [← HRP.out, List.getElem?_map, HV.out]; rfl : (putAll (gs.map (·.g)))[k]? = some v.g) (by rw [← HRP.out, List.getElem?_map, hu]; rfl : (putAll (gs.map (·.g)))[j]? = some u.g)
            rw [realmP_comm] at ha
            unfold realmP realmB at ha
            rw [h1, h2, h3] at ha
            exact ha
          rw [h1] at e1
          clear h1 hu
          cases E1
          · go_wp2
            go_quiet (fail)
            go_wp2
            go_roundw
            case rel => exact ⟨j + 1, by omega, by go_num, drewN_at HX.out _⟩
            case measure => simp [intOf]; omega
          · cases E2
            · go_wp2
              go_quiet (fail)
              go_wp2
              go_roundw
              case rel => exact ⟨j + 1, by omega, by go_num, drewN_at HX.out _⟩
              case measure => simp [intOf]; omega
            · obtain rfl : E3 = false := by simpa using hE
              go_wp2
              go_quiet (fail)
              go_wp2
              go_roundw
              case rel => exact ⟨j + 1, by omega, by go_num, drewN_at HX.out _⟩
              case measure => simp [intOf]; omega
        · have hjL : ¬ (j : Int) < (k : Int) := by omega
          go_wp2
          go_roundw
          case rel => exact ⟨k + 1, by omega, by go_num, HX.out⟩
          case measure => simp [intOf]; omega
    · have hkL : ¬ (k : Int) < (n : Int) := by omega
      by_cases hz0 : len = 0
      · have hlz : (len : Int) = 0 := by omega
        have hn8L : (n : Int) ≤ 8 := by omega
        have hd8 : decide ((n : Int) ≤ 8) = true := decide_eq_true hn8L
        have hdz : ((len : Int) == 0) = true := by rw [hlz]; rfl
        go_wp2
        go_quiet (fail)
        go_wp2
        go_ret
        exact ⟨rfl, drewN_at (HB4.out.trans (HW.out.mono HB4.out.size)) _⟩
      · obtain ⟨m2, hm2⟩ : ∃ m, len = m + 1 := ⟨len - 1, by omega⟩
        obtain ⟨u, hu⟩ : ∃ u, gs[m2]? = some u := ⟨gs[m2]'(by have := HG.out.len_eq; omega), List.getElem?_eq_getElem _⟩
        obtain ⟨hpos, hlast⟩ := all_last (gs.map (·.g)) u.g (by rw [List.length_map, HG.out.len_eq, hm2, Nat.add_sub_cancel, List.getElem?_map, hu]; rfl)
        rw [← HRP.out, List.length_map, HR.out.len_eq] at hpos
        rw [← HRP.out, List.length_map, HR.out.len_eq, List.getElem?_map] at hlast
        obtain ⟨m1, hm1⟩ : ∃ m, n = m + 1 := ⟨n - 1, by omega⟩
        rw [hm1, Nat.add_sub_cancel] at hlast
        obtain ⟨v, hv, hvu⟩ := Option.map_eq_some_iff.1 hlast
        have HMEM : Hid (v ∈ rs ∧ u ∈ gs ∧ gs[m2]? = some u ∧ rs[m1]? = some v) := ⟨List.mem_of_getElem? hv, List.mem_of_getElem? hu, hu, hv⟩
        have hd8 : decide ((n : Int) ≤ 8) = true := decide_eq_true (by omega)
        have hn8L : (n : Int) ≤ 8 := by omega
        have hdz : ((len : Int) == 0) = false := beq_eq_false_iff_ne.2 (by omega)
        have hlz : ¬ (len : Int) = 0 := by omega
        have hnp : (0 : Int) < (n : Int) := by omega
        have hdp : decide ((0 : Int) < (n : Int)) = true := decide_eq_true hnp
        have hnp' : 0 < n := by omega
        have hdp' : decide (0 < n) = true := decide_eq_true hnp'
        have hw1 : IntKind.i64.wrap ((n : Int) - 1) = (m1 : Int) := by rw [show (n : Int) - 1 = (m1 : Int) by omega]; exact IntWalk.i64_in _ ⟨by omega, by omega⟩
        have hw2 : IntKind.i64.wrap ((len : Int) - 1) = (m2 : Int) := by rw [show (len : Int) - 1 = (m2 : Int) by omega]; exact IntWalk.i64_in _ ⟨by omega, by omega⟩
        have ha1 : (0 : Int) ≤ (m1 : Int) := by omega
        have hb1 : (m1 : Int) < (n : Int) := by omega
        have ha2 : (0 : Int) ≤ (m2 : Int) := by omega
        have hb2 : (m2 : Int) < (len : Int) := by omega
        obtain ⟨h1, _⟩ := HR.out.lies (by omega)
        subst h1
        obtain ⟨h1, _⟩ := HG.out.lies (by omega)
        subst h1
        have HRC : Hid (∀ W, Below w4.heap.size w4 W → Grs W (some ⟨b1, off1, none⟩) n b1 off1 rs ∧ Grs W (some ⟨b, off, none⟩) len b off gs) := fun W hW => ⟨HR.out.below hW, HG.out.below (HB4.out.trans (hW.mono HB4.out.size))⟩
        have HGG : Hid (v.g.ask.dom.length ≤ 1000 ∧ v.g.paths.length ≤ 1000) := HRF.out v HMEM.out.1
        obtain ⟨g, da, dc, db, doff, pa, pc, pb, poff⟩ := v
        obtain ⟨g2, da2, dc2, db2, doff2, pa2, pc2, pb2, poff2⟩ := u
        simp only at hvu
        subst hvu
        clear hlast hpos hv hu hm1 hm2 hlt hk
        go_wp2_with fail
        have hSd : Hid (Below w4.heap.size w4 wr.drew) := HW.out.trans (Below.refl _ _).drew
        refine wp_region_held_drew (S := fun W => Hid (Below w4.heap.size w4 W)) (by kernel_rfl) hSd (fun hHeld => ?_)
        refine takeH (i := 0) (d := some 64) (v := ?_) rfl rfl (by kernel_rfl) (by kernel_rfl) (by kernel_rfl) (fun _ _ _ h => h) (by rfl) ?_ (by assumption) ?_
        rotate_left
        · intro w hSw; go_simp; with_reducible rfl
        try simp only [Act.put, List.setIfInBounds_toArray, List.set_cons_zero, List.set_cons_succ]
        refine takeH (i := 1) (d := some 65) (v := ?_) rfl rfl (by kernel_rfl) (by kernel_rfl) (by kernel_rfl) (fun _ _ _ h => h) (by rfl) ?_ (by assumption) ?_
        rotate_left
        · intro w hSw; go_simp; with_reducible rfl
        try simp only [Act.put, List.setIfInBounds_toArray, List.set_cons_zero, List.set_cons_succ]
        refine takeH (i := 2) (d := some 66) (v := ?_) rfl rfl (by kernel_rfl) (by kernel_rfl) (by kernel_rfl) (fun _ _ _ h => h) (by rfl) ?_ (by assumption) ?_
        rotate_left
        · intro w hSw; go_simp; with_reducible rfl
        try simp only [Act.put, List.setIfInBounds_toArray, List.set_cons_zero, List.set_cons_succ]
        refine takeH (i := 3) (d := some 67) (v := ?_) rfl rfl (by kernel_rfl) (by kernel_rfl) (by kernel_rfl) (fun _ _ _ h => h) (by rfl) ?_ (by assumption) ?_
        rotate_left
        · intro w hSw; go_simp; with_reducible rfl
        try simp only [Act.put, List.setIfInBounds_toArray, List.set_cons_zero, List.set_cons_succ]
        refine takeH (i := 4) (d := some 68) (v := ?_) rfl rfl (by kernel_rfl) (by kernel_rfl) (by kernel_rfl) (fun _ _ _ h => h) (by rfl) ?_ (by assumption) ?_
        rotate_left
        · intro w hSw; go_simp; with_reducible rfl
        try simp only [Act.put, List.setIfInBounds_toArray, List.set_cons_zero, List.set_cons_succ]
        refine takeH (i := 5) (d := some 69) (v := ?_) rfl rfl (by kernel_rfl) (by kernel_rfl) (by kernel_rfl) (fun _ _ _ h => h) (by rfl) ?_ (by assumption) ?_
        rotate_left
        · intro w hSw; go_simp; with_reducible rfl
        try simp only [Act.put, List.setIfInBounds_toArray, List.set_cons_zero, List.set_cons_succ]
        refine takeH (i := 6) (d := some 70) (v := ?_) rfl rfl (by kernel_rfl) (by kernel_rfl) (by kernel_rfl) (fun _ _ _ h => h) (by rfl) ?_ (by assumption) ?_
        rotate_left
        · intro w hSw; go_simp; with_reducible rfl
        try simp only [Act.put, List.setIfInBounds_toArray, List.set_cons_zero, List.set_cons_succ]
        refine takeH (i := 7) (d := some 71) (v := ?_) rfl rfl (by kernel_rfl) (by kernel_rfl) (by kernel_rfl) (fun _ _ _ h => h) (by rfl) ?_ (by assumption) ?_
        rotate_left
        · intro w hSw; go_simp; with_reducible rfl
        try simp only [Act.put, List.setIfInBounds_toArray, List.set_cons_zero, List.set_cons_succ]
        refine takeH (i := 8) (d := some 72) (v := ?_) rfl rfl (by kernel_rfl) (by kernel_rfl) (by kernel_rfl) (fun _ _ _ h => h) (by rfl) ?_ (by assumption) ?_
        rotate_left
        · intro w hSw; go_simp; with_reducible rfl
        try simp only [Act.put, List.setIfInBounds_toArray, List.set_cons_zero, List.set_cons_succ]
        refine takeH (i := 9) (d := some 73) (v := ?_) rfl rfl (by kernel_rfl) (by kernel_rfl) (by kernel_rfl) (fun _ _ _ h => h) (by rfl) ?_ (by assumption) ?_
        rotate_left
        · intro w hSw; go_simp; with_reducible rfl
        try simp only [Act.put, List.setIfInBounds_toArray, List.set_cons_zero, List.set_cons_succ]
        refine takeH (i := 10) (d := some 74) (v := ?_) rfl rfl (by kernel_rfl) (by kernel_rfl) (by kernel_rfl) (fun _ _ _ h => h) (by rfl) ?_ (by assumption) ?_
        rotate_left
        · intro w hSw; go_simp; with_reducible rfl
        try simp only [Act.put, List.setIfInBounds_toArray, List.set_cons_zero, List.set_cons_succ]
        refine takeH (i := 11) (d := some 75) (v := ?_) rfl rfl (by kernel_rfl) (by kernel_rfl) (by kernel_rfl) (fun _ _ _ h => h) (by rfl) ?_ (by assumption) ?_
        rotate_left
        · intro w hSw; go_simp; with_reducible rfl
        try simp only [Act.put, List.setIfInBounds_toArray, List.set_cons_zero, List.set_cons_succ]
        refine takeH (i := 12) (d := some 76) (v := ?_) rfl rfl (by kernel_rfl) (by kernel_rfl) (by kernel_rfl) (fun _ _ _ h => h) (by rfl) ?_ (by assumption) ?_
        rotate_left
        · intro w hSw; go_simp; with_reducible rfl
        try simp only [Act.put, List.setIfInBounds_toArray, List.set_cons_zero, List.set_cons_succ]
        refine takeH (i := 13) (d := some 77) (v := ?_) rfl rfl (by kernel_rfl) (by kernel_rfl) (by kernel_rfl) (fun _ _ _ h => h) (by rfl) ?_ (by assumption) ?_
        rotate_left
        · intro w hSw; go_simp; with_reducible rfl
        try simp only [Act.put, List.setIfInBounds_toArray, List.set_cons_zero, List.set_cons_succ]
        refine takeH (i := 14) (d := some 78) (v := ?_) rfl rfl (by kernel_rfl) (by kernel_rfl) (by kernel_rfl) (fun _ _ _ h => h) (by rfl) ?_ (by assumption) ?_
        rotate_left
        · intro w hSw; go_simp; with_reducible rfl
        try simp only [Act.put, List.setIfInBounds_toArray, List.set_cons_zero, List.set_cons_succ]
        refine takeH (i := 15) (d := some 79) (v := ?_) rfl rfl (by kernel_rfl) (by kernel_rfl) (by kernel_rfl) (fun _ _ _ h => h) (by rfl) ?_ (by assumption) ?_
        rotate_left
        · intro w hSw; go_simp; with_reducible rfl
        try simp only [Act.put, List.setIfInBounds_toArray, List.set_cons_zero, List.set_cons_succ]
        refine takeH (i := 16) (d := some 80) (v := ?_) rfl rfl (by kernel_rfl) (by kernel_rfl) (by kernel_rfl) (fun _ _ _ h => h) (by rfl) ?_ (by assumption) ?_
        rotate_left
        · intro w hSw; go_simp; with_reducible rfl
        try simp only [Act.put, List.setIfInBounds_toArray, List.set_cons_zero, List.set_cons_succ]
        refine takeH (i := 17) (d := some 81) (v := ?_) rfl rfl (by kernel_rfl) (by kernel_rfl) (by kernel_rfl) (fun _ _ _ h => h) (by rfl) ?_ (by assumption) ?_
        rotate_left
        · intro w hSw; (try dsimp only at hSw); obtain ⟨c0, c1, c2, c3, c4, c5, c6, c7, c8, c9, c10, c11, c12, c13, c14, c15⟩ := (HRC.out _ hSw.out).1.all HMEM.out.2.2.2; go_simp; with_reducible rfl
        try simp only [Act.put, List.setIfInBounds_toArray, List.set_cons_zero, List.set_cons_succ]
        refine takeH (i := 18) (d := some 82) (v := ?_) rfl rfl (by kernel_rfl) (by kernel_rfl) (by kernel_rfl) (fun _ _ _ h => h) (by rfl) ?_ (by assumption) ?_
        rotate_left
        · intro w hSw; go_simp; with_reducible rfl
        try simp only [Act.put, List.setIfInBounds_toArray, List.set_cons_zero, List.set_cons_succ]
        refine takeH (i := 19) (d := some 83) (v := ?_) rfl rfl (by kernel_rfl) (by kernel_rfl) (by kernel_rfl) (fun _ _ _ h => h) (by rfl) ?_ (by assumption) ?_
        rotate_left
        · intro w hSw; go_simp; with_reducible rfl
        try simp only [Act.put, List.setIfInBounds_toArray, List.set_cons_zero, List.set_cons_succ]
        refine takeH (i := 20) (d := some 84) (v := ?_) rfl rfl (by kernel_rfl) (by kernel_rfl) (by kernel_rfl) (fun _ _ _ h => h) (by rfl) ?_ (by assumption) ?_
        rotate_left
        · intro w hSw; go_simp; with_reducible rfl
        try simp only [Act.put, List.setIfInBounds_toArray, List.set_cons_zero, List.set_cons_succ]
        refine takeH (i := 21) (d := some 85) (v := ?_) rfl rfl (by kernel_rfl) (by kernel_rfl) (by kernel_rfl) (fun _ _ _ h => h) (by rfl) ?_ (by assumption) ?_
        rotate_left
        · intro w hSw; go_simp; with_reducible rfl
        try simp only [Act.put, List.setIfInBounds_toArray, List.set_cons_zero, List.set_cons_succ]
        refine takeH (i := 22) (d := some 86) (v := ?_) rfl rfl (by kernel_rfl) (by kernel_rfl) (by kernel_rfl) (fun _ _ _ h => h) (by rfl) ?_ (by assumption) ?_
        rotate_left
        · intro w hSw; go_simp; with_reducible rfl
        try simp only [Act.put, List.setIfInBounds_toArray, List.set_cons_zero, List.set_cons_succ]
        refine takeH (i := 23) (d := some 87) (v := ?_) rfl rfl (by kernel_rfl) (by kernel_rfl) (by kernel_rfl) (fun _ _ _ h => h) (by rfl) ?_ (by assumption) ?_
        rotate_left
        · intro w hSw; (try dsimp only at hSw); obtain ⟨c0, c1, c2, c3, c4, c5, c6, c7, c8, c9, c10, c11, c12, c13, c14, c15⟩ := (HRC.out _ hSw.out).2.all HMEM.out.2.2.1; go_simp; with_reducible rfl
        try simp only [Act.put, List.setIfInBounds_toArray, List.set_cons_zero, List.set_cons_succ]
        refine wpAnyH_ready (rs := [24]) (by kernel_rfl) (by simp) ?_
        refine AllReadyH.cons (by rfl) (fun K hKK => ?_) AllReadyH.nil
        go_simp
        refine (sameGrant_yes g da da2 pa pa2 g.ask.dom.length dc dc2 db doff db2 doff2 g.paths.length pc pc2 pb poff pb2 poff2 _ ((HRC.out _ hSd.out).1.dom _ HMEM.out.1) ((HRC.out _ hSd.out).2.dom _ HMEM.out.2.1) ((HRC.out _ hSd.out).1.paths _ HMEM.out.1) ((HRC.out _ hSd.out).2.paths _ HMEM.out.2.1) HGG.out).mono ?_
        rintro e w6 ⟨rfl, hb6⟩
        have hS6 : Hid (Below w4.heap.size w4 w6) := hSd.out.trans (hb6.mono hSd.out.size)
        go_wp2_with fail
        refine hKK.out _ _ hS6 (fun hHeld6 => ?_)
        clear hKK K
        try simp only [Act.put, List.setIfInBounds_toArray, List.set_cons_zero, List.set_cons_succ]
        refine takeH (i := 25) (d := some 89) (v := ?_) rfl rfl (by kernel_rfl) (by kernel_rfl) (by kernel_rfl) (fun _ _ _ h => h) (by rfl) ?_ (by assumption) ?_
        rotate_left
        · intro w hSw; go_simp; with_reducible rfl
        try simp only [Act.put, List.setIfInBounds_toArray, List.set_cons_zero, List.set_cons_succ]
        refine takeH (i := 26) (d := some 90) (v := ?_) rfl rfl (by kernel_rfl) (by kernel_rfl) (by kernel_rfl) (fun _ _ _ h => h) (by rfl) ?_ (by assumption) ?_
        rotate_left
        · intro w hSw; go_simp; with_reducible rfl
        try simp only [Act.put, List.setIfInBounds_toArray, List.set_cons_zero, List.set_cons_succ]
        refine takeH (i := 27) (d := some 91) (v := ?_) rfl rfl (by kernel_rfl) (by kernel_rfl) (by kernel_rfl) (fun _ _ _ h => h) (by rfl) ?_ (by assumption) ?_
        rotate_left
        · intro w hSw; go_simp; with_reducible rfl
        try simp only [Act.put, List.setIfInBounds_toArray, List.set_cons_zero, List.set_cons_succ]
        refine takeH (i := 28) (d := some 2) (v := ?_) rfl rfl (by kernel_rfl) (by kernel_rfl) (by kernel_rfl) (fun _ _ _ h => h) (by rfl) ?_ (by assumption) ?_
        rotate_left
        · intro w hSw; go_simp; with_reducible rfl
        try simp only [Act.put, List.setIfInBounds_toArray, List.set_cons_zero, List.set_cons_succ]
        refine wpAnyH_done (by kernel_rfl) ?_ _
        go_wp2
        go_ret
        exact ⟨rfl, HB4.out.trans (hS6.out.mono HB4.out.size)⟩
end Go.Proofs.Ytdnnlfklanaliab
