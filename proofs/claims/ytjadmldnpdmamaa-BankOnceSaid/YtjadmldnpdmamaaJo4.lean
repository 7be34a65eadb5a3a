/- Texts of one claim, joined: each begins with what it proves. -/
import Derived.Test.YtjadmldnpdmamaaJo3
import Derived.Test.YtjadmldnpdmamaaJo2
import Derived.Test.YtjadmldnpdmamaaJo1
import Derived.BigQuiet
import Derived.RegionTactic
import Derived.Deep.RegionHeld3
import Derived.ProofKit
import Derived.OpenShut
import Derived.SliceStrings
import Derived.Carry
import Derived.SizedLaws
import Derived.Deep.Slices
import Derived.Deep.SlicePairs
import Derived.Deep.Strs
import Derived.Lib.SmallJoins
/- The law BankOnce, walked. -/
namespace Go.Proofs.Ytjadmldnpdmamaa
open Go.RowKit
set_option linter.unusedVariables false

theorem grv_list {w : World} {B : Nat} : ∀ us : List GrV, (∀ u ∈ us, GrOwn w B u) → ∃ gs : List GrA, gs.map GrA.val = us ∧ ∀ v ∈ gs, Strs w v.da v.g.ask.dom.length v.db v.doff v.g.ask.dom ∧ Strs w v.pa v.g.paths.length v.pb v.poff v.g.paths
  | [], _ => ⟨[], rfl, fun v hv => by cases hv⟩
  | u :: us, h => by
    obtain ⟨gs, e, hs⟩ := grv_list us (fun x hx => h x (List.mem_cons_of_mem _ hx))
    have hu := h u List.mem_cons_self
    obtain ⟨da, dc, dg, hdv, hd⟩ := hu.dom.strs
    obtain ⟨pa, pc, pg, hpv, hp⟩ := hu.paths.strs
    obtain ⟨g, dv, pv⟩ := u
    simp only at hdv hpv hd hp
    subst hdv hpv
    refine ⟨⟨g, da, dc, dg, 0, pa, pc, pg, 0⟩ :: gs, by rw [List.map_cons, e]; rfl, fun v hv => ?_⟩
    rcases List.mem_cons.1 hv with rfl | hv
    · exact ⟨hd, hp⟩
    · exact hs v hv
/-- A row of a call's own is one that lies. -/
theorem row_grs {w : World} {B : Nat} {v : Value} {us : List GrV} (h : OwnK 16 36 w B v (us.map grCells)) (he : ∀ u ∈ us, GrOwn w B u) :
    ∃ (a0 : Option Addr) (cap b off : Nat) (gs : List GrA), v = .slice a0 us.length cap ∧ Grs w a0 us.length b off gs ∧ gs.map (·.g) = us.map (·.g) := by
  obtain ⟨gs, e, hs⟩ := grv_list us he
  have hg : gs.map (·.g) = us.map (·.g) := by rw [← e, List.map_map]; rfl
  have hlen : gs.length = us.length := by rw [← e, List.length_map]
  rcases h.forms with ⟨e1, e2⟩ | ⟨g, cap, e1, _, hlt, _, _⟩
  · have h0 : us = [] := by simpa using e2
    subst h0
    have h1 : gs = [] := by simpa using e
    subst h1
    exact ⟨none, 0, 0, 0, [], e1, ⟨rfl, fun h => absurd h (by simp), (fun j p hp => by simp at hp), (fun c hc => by cases hc), fun c hc => by cases hc⟩, rfl⟩
  · rw [List.length_map] at e1
    subst e1
    refine ⟨_, cap, g, 0, gs, rfl, ⟨hlen, fun _ => ⟨rfl, hlt⟩, fun j v hj i u hu => ?_, fun v hv => (hs v hv).1, fun v hv => (hs v hv).2⟩, hg⟩
    rw [Nat.zero_add]
    refine h.cell (j := j) (x := grCells v.val) ?_ hu
    rw [← e, List.map_map, List.getElem?_map, hj]
    rfl
set_option maxRecDepth 100000 in
set_option maxHeartbeats 4000000 in
theorem bankOnce_walk (a0 : Option Addr) (len cap b off : Nat) (gs : List GrA) (hl : len ≤ 9223372036854775807) (hz : ∀ v ∈ gs, GrZ v.g) (w : World) (h : Grs w a0 len b off gs) :
    Calls Try.prog 5 #[.slice a0 len cap] w fun e w' => e = .returned (.bool true) ∧ Below w.heap.size w w' := by
  have HG : Hid (Grs w a0 len b off gs) := h
  have HZ : Hid (∀ v ∈ gs, GrZ v.g) := hz
  clear h hz
  go_enter Try.func5, Try.ntmps5
  go_wp2_with fail
  refine (banked_any _).mono ?_
  rintro e w1 ⟨rfl, hb1⟩
  have HB1 : Hid (Below w.heap.size w w1) := hb1
  clear hb1
  go_wp2_with fail
  refine (held_any a0 len cap b off gs HZ.out hl _ (HG.out.below HB1.out)).mono ?_
  rintro e w2 ⟨⟨t, rfl, ht⟩, hb2⟩
  have HB2 : Hid (Below w.heap.size w w2) := HB1.out.trans (hb2.mono HB1.out.size)
  clear hb2 HB1 hl
  cases t
  · go_wp2
    go_ret
    exact ⟨rfl, HB2.out⟩
  obtain ⟨hn, hsh⟩ := ht rfl
  have HSH : Hid (∀ v ∈ gs, shortB v) := hsh
  clear ht hsh
  go_wp2_with fail
  refine (filled_any a0 len cap b off gs HZ.out HSH.out hn _ (HG.out.below HB2.out)).mono ?_
  rintro e w3 ⟨rfl, H3⟩
  obtain ⟨⟨gv, G, hB, hG⟩, hb3⟩ := H3.out
  obtain ⟨lb, HLB⟩ : ∃ x, Hid (w2.heap.size = x) := ⟨_, rfl⟩
  rw [HLB.out] at hB ⊢
  have HB3 : Hid (Below w.heap.size w w3 ∧ BankW w3 lb lb gv (.slice none 0 0) G []) := ⟨HB2.out.trans (hb3.mono HB2.out.size), hB⟩
  have HPA : Hid (G.map (·.g) = putAll (gs.map (·.g)) ∧ G.length ≤ 8) := ⟨hG, hB.glen⟩
  have HFG : Hid (∀ g ∈ G.map (·.g), g.ask.dom.length ≤ 1000 ∧ g.paths.length ≤ 1000) := fun g hg => by
    obtain ⟨v, hv, rfl⟩ := List.mem_map.1 hg
    have h := hB.gf v hv
    exact ⟨h.2.2.2.1.2.2.2.2.1, h.2.2.2.2.1⟩
  clear H3 hB hG hb3 HB2 HLB
  go_wp2_with fail
  refine (grants_any _ HB3.out.2).mono ?_
  rintro e w4 ⟨⟨val, us, rfl, hown, his, hea⟩, hb4⟩
  obtain ⟨a1, c1, b1, off1, rs, rfl, hrs, hrg⟩ := row_grs hown hea
  obtain ⟨n, HN⟩ : ∃ x, Hid (us.length = x) := ⟨_, rfl⟩
  rw [HN.out] at hrs ⊢
  have hn8 : n ≤ 8 := by
    rw [← HN.out, ← List.length_map (f := (·.g)), his, List.length_map]
    exact HPA.out.2
  have HB4 : Hid (Below w.heap.size w w4) := HB3.out.1.trans (hb4.mono HB3.out.1.size)
  have HR : Hid (Grs w4 a1 n b1 off1 rs) := hrs
  have HRP : Hid (rs.map (·.g) = putAll (gs.map (·.g))) := hrg.trans (his.trans HPA.out.1)
  have HRF : Hid (∀ v ∈ rs, v.g.ask.dom.length ≤ 1000 ∧ v.g.paths.length ≤ 1000) := fun v hv => HFG.out v.g (by rw [← his, ← hrg]; exact List.mem_map.2 ⟨v, hv, rfl⟩)
  clear hown hea hb4 his hrg hrs HFG HPA HB3 HN us gv G
  go_wp2
  go_loopw [4] (fun i wr => ∃ k : Nat, k ≤ n ∧ i = .int .i64 k ∧ Hid (Below w4.heap.size w4 wr)) (fun i _ => n - (intOf i).toNat)
  case atStart => exact ⟨0, Nat.zero_le _, rfl, Below.refl _ _⟩
  case round =>
    obtain ⟨k, hk, rfl, HW⟩ := hrel
    by_cases hlt : k < n
    · have hkL : (k : Int) < (n : Int) := by omega
      obtain ⟨v, hv⟩ : ∃ v, rs[k]? = some v := ⟨rs[k]'(by have := HR.out.len_eq; omega), List.getElem?_eq_getElem _⟩
      have HV : Hid (rs[k]? = some v) := hv
      clear hv
      go_wp2
      go_loopw [5] (fun i wx => ∃ j : Nat, j ≤ k ∧ i = .int .i64 j ∧ Hid (Below w4.heap.size w4 wx)) (fun i _ => k - (intOf i).toNat)
      case atStart => exact ⟨0, Nat.zero_le _, rfl, HW.out⟩
      case round =>
        obtain ⟨j, hj, rfl, HX⟩ := hrel
        by_cases hjk : j < k
        · have hjL : (j : Int) < (k : Int) := by omega
          have hjn : (j : Int) < (n : Int) := by omega
          obtain ⟨ha1, _⟩ := HR.out.lies (by omega)
          subst ha1
          obtain ⟨u, hu⟩ : ∃ u, rs[j]? = some u := ⟨rs[j]'(by have := HR.out.len_eq; omega), List.getElem?_eq_getElem _⟩
          obtain ⟨c0, c1', c2, c3, c4, c5, c6, c7, c8, c9, c10, c11, c12, c13, c14, c15⟩ := (HR.out.below HX.out).all HV.out
          obtain ⟨d0, d1, d2, d3, d4, d5, d6, d7, d8, d9, d10, d11, d12, d13, d14, d15⟩ := (HR.out.below HX.out).all hu
          clear c4 c5 c6 c8 c9 c10 c11 c12 c13 c14 c15
          clear d4 d5 d6 d8 d9 d10 d11 d12 d13 d14 d15
          have e1 := eqOrg v.g.org u.g.org (orgB v.g.org u.g.org) rfl
          obtain ⟨E1, h1⟩ : ∃ E, orgB v.g.org u.g.org = E := ⟨_, rfl⟩
          obtain ⟨E2, h2⟩ : ∃ E, (v.g.proxy == u.g.proxy) = E := ⟨_, rfl⟩
          obtain ⟨E3, h3⟩ : ∃ E, (v.g.ask.realm.toList == u.g.ask.realm.toList) = E := ⟨_, rfl⟩
          have hE : (E1 && (E2 && E3)) = false := by
            have ha := apart_at (apart_all (gs.map (·.g))) hjk (by rw [← HRP.out, List.getElem?_map, HV.out]; rfl : (putAll (gs.map (·.g)))[k]? = some v.g) (by rw [← HRP.out, List.getElem?_map, hu]; rfl : (putAll (gs.map (·.g)))[j]? = some u.g)
            rw [realmP_comm] at ha
            unfold realmP realmB at ha
            rw [h1, h2, h3] at ha
            exact ha
          rw [h1] at e1
          clear h1 hu
          cases E1
          · go_wp2
            go_quiet (fail)
            go_wp2
            go_roundw
            case rel => exact ⟨j + 1, by omega, by go_num, drewN_at HX.out _⟩
            case measure => simp [intOf]; omega
          · cases E2
            · go_wp2
              go_quiet (fail)
              go_wp2
              go_roundw
              case rel => exact ⟨j + 1, by omega, by go_num, drewN_at HX.out _⟩
              case measure => simp [intOf]; omega
            · obtain rfl : E3 = false := by simpa using hE
              go_wp2
              go_quiet (fail)
              go_wp2
              go_roundw
              case rel => exact ⟨j + 1, by omega, by go_num, drewN_at HX.out _⟩
              case measure => simp [intOf]; omega
        · have hjL : ¬ (j : Int) < (k : Int) := by omega
          go_wp2
          go_roundw
          case rel => exact ⟨k + 1, by omega, by go_num, HX.out⟩
          case measure => simp [intOf]; omega
    · have hkL : ¬ (k : Int) < (n : Int) := by omega
      by_cases hz0 : len = 0
      · have hlz : (len : Int) = 0 := by omega
        have hn8L : (n : Int) ≤ 8 := by omega
        have hd8 : decide ((n : Int) ≤ 8) = true := decide_eq_true hn8L
        have hdz : ((len : Int) == 0) = true := by rw [hlz]; rfl
        go_wp2
        go_quiet (fail)
        go_wp2
        go_ret
        exact ⟨rfl, drewN_at (HB4.out.trans (HW.out.mono HB4.out.size)) _⟩
      · obtain ⟨m2, hm2⟩ : ∃ m, len = m + 1 := ⟨len - 1, by omega⟩
        obtain ⟨u, hu⟩ : ∃ u, gs[m2]? = some u := ⟨gs[m2]'(by have := HG.out.len_eq; omega), List.getElem?_eq_getElem _⟩
        obtain ⟨hpos, hlast⟩ := all_last (gs.map (·.g)) u.g (by rw [List.length_map, HG.out.len_eq, hm2, Nat.add_sub_cancel, List.getElem?_map, hu]; rfl)
        rw [← HRP.out, List.length_map, HR.out.len_eq] at hpos
        rw [← HRP.out, List.length_map, HR.out.len_eq, List.getElem?_map] at hlast
        obtain ⟨m1, hm1⟩ : ∃ m, n = m + 1 := ⟨n - 1, by omega⟩
        rw [hm1, Nat.add_sub_cancel] at hlast
        obtain ⟨v, hv, hvu⟩ := Option.map_eq_some_iff.1 hlast
        have HMEM : Hid (v ∈ rs ∧ u ∈ gs ∧ gs[m2]? = some u ∧ rs[m1]? = some v) := ⟨List.mem_of_getElem? hv, List.mem_of_getElem? hu, hu, hv⟩
        have hd8 : decide ((n : Int) ≤ 8) = true := decide_eq_true (by omega)
        have hn8L : (n : Int) ≤ 8 := by omega
        have hdz : ((len : Int) == 0) = false := beq_eq_false_iff_ne.2 (by omega)
        have hlz : ¬ (len : Int) = 0 := by omega
        have hnp : (0 : Int) < (n : Int) := by omega
        have hdp : decide ((0 : Int) < (n : Int)) = true := decide_eq_true hnp
        have hnp' : 0 < n := by omega
        have hdp' : decide (0 < n) = true := decide_eq_true hnp'
        have hw1 : IntKind.i64.wrap ((n : Int) - 1) = (m1 : Int) := by rw [show (n : Int) - 1 = (m1 : Int) by omega]; exact IntWalk.i64_in _ ⟨by omega, by omega⟩
        have hw2 : IntKind.i64.wrap ((len : Int) - 1) = (m2 : Int) := by rw [show (len : Int) - 1 = (m2 : Int) by omega]; exact IntWalk.i64_in _ ⟨by omega, by omega⟩
        have ha1 : (0 : Int) ≤ (m1 : Int) := by omega
        have hb1 : (m1 : Int) < (n : Int) := by omega
        have ha2 : (0 : Int) ≤ (m2 : Int) := by omega
        have hb2 : (m2 : Int) < (len : Int) := by omega
        obtain ⟨h1, _⟩ := HR.out.lies (by omega)
        subst h1
        obtain ⟨h1, _⟩ := HG.out.lies (by omega)
        subst h1
        have HRC : Hid (∀ W, Below w4.heap.size w4 W → Grs W (some ⟨b1, off1, none⟩) n b1 off1 rs ∧ Grs W (some ⟨b, off, none⟩) len b off gs) := fun W hW => ⟨HR.out.below hW, HG.out.below (HB4.out.trans (hW.mono HB4.out.size))⟩
        have HGG : Hid (v.g.ask.dom.length ≤ 1000 ∧ v.g.paths.length ≤ 1000) := HRF.out v HMEM.out.1
        obtain ⟨g, da, dc, db, doff, pa, pc, pb, poff⟩ := v
        obtain ⟨g2, da2, dc2, db2, doff2, pa2, pc2, pb2, poff2⟩ := u
        simp only at hvu
        subst hvu
        clear hlast hpos hv hu hm1 hm2 hlt hk
        go_wp2_with fail
        have hSd : Hid (Below w4.heap.size w4 wr.drew) := HW.out.trans (Below.refl _ _).drew
        refine wp_region_held_drew (S := fun W => Hid (Below w4.heap.size w4 W)) (by kernel_rfl) hSd (fun hHeld => ?_)
        refine takeH (i := 0) (d := some 64) (v := ?_) rfl rfl (by kernel_rfl) (by kernel_rfl) (by kernel_rfl) (fun _ _ _ h => h) (by rfl) ?_ (by assumption) ?_
        rotate_left
        · intro w hSw; go_simp; with_reducible rfl
        try simp only [Act.put, List.setIfInBounds_toArray, List.set_cons_zero, List.set_cons_succ]
        refine takeH (i := 1) (d := some 65) (v := ?_) rfl rfl (by kernel_rfl) (by kernel_rfl) (by kernel_rfl) (fun _ _ _ h => h) (by rfl) ?_ (by assumption) ?_
        rotate_left
        · intro w hSw; go_simp; with_reducible rfl
        try simp only [Act.put, List.setIfInBounds_toArray, List.set_cons_zero, List.set_cons_succ]
        refine takeH (i := 2) (d := some 66) (v := ?_) rfl rfl (by kernel_rfl) (by kernel_rfl) (by kernel_rfl) (fun _ _ _ h => h) (by rfl) ?_ (by assumption) ?_
        rotate_left
        · intro w hSw; go_simp; with_reducible rfl
        try simp only [Act.put, List.setIfInBounds_toArray, List.set_cons_zero, List.set_cons_succ]
        refine takeH (i := 3) (d := some 67) (v := ?_) rfl rfl (by kernel_rfl) (by kernel_rfl) (by kernel_rfl) (fun _ _ _ h => h) (by rfl) ?_ (by assumption) ?_
        rotate_left
        · intro w hSw; go_simp; with_reducible rfl
        try simp only [Act.put, List.setIfInBounds_toArray, List.set_cons_zero, List.set_cons_succ]
        refine takeH (i := 4) (d := some 68) (v := ?_) rfl rfl (by kernel_rfl) (by kernel_rfl) (by kernel_rfl) (fun _ _ _ h => h) (by rfl) ?_ (by assumption) ?_
        rotate_left
        · intro w hSw; go_simp; with_reducible rfl
        try simp only [Act.put, List.setIfInBounds_toArray, List.set_cons_zero, List.set_cons_succ]
        refine takeH (i := 5) (d := some 69) (v := ?_) rfl rfl (by kernel_rfl) (by kernel_rfl) (by kernel_rfl) (fun _ _ _ h => h) (by rfl) ?_ (by assumption) ?_
        rotate_left
        · intro w hSw; go_simp; with_reducible rfl
        try simp only [Act.put, List.setIfInBounds_toArray, List.set_cons_zero, List.set_cons_succ]
        refine takeH (i := 6) (d := some 70) (v := ?_) rfl rfl (by kernel_rfl) (by kernel_rfl) (by kernel_rfl) (fun _ _ _ h => h) (by rfl) ?_ (by assumption) ?_
        rotate_left
        · intro w hSw; go_simp; with_reducible rfl
        try simp only [Act.put, List.setIfInBounds_toArray, List.set_cons_zero, List.set_cons_succ]
        refine takeH (i := 7) (d := some 71) (v := ?_) rfl rfl (by kernel_rfl) (by kernel_rfl) (by kernel_rfl) (fun _ _ _ h => h) (by rfl) ?_ (by assumption) ?_
        rotate_left
        · intro w hSw; go_simp; with_reducible rfl
        try simp only [Act.put, List.setIfInBounds_toArray, List.set_cons_zero, List.set_cons_succ]
        refine takeH (i := 8) (d := some 72) (v := ?_) rfl rfl (by kernel_rfl) (by kernel_rfl) (by kernel_rfl) (fun _ _ _ h => h) (by rfl) ?_ (by assumption) ?_
        rotate_left
        · intro w hSw; go_simp; with_reducible rfl
        try simp only [Act.put, List.setIfInBounds_toArray, List.set_cons_zero, List.set_cons_succ]
        refine takeH (i := 9) (d := some 73) (v := ?_) rfl rfl (by kernel_rfl) (by kernel_rfl) (by kernel_rfl) (fun _ _ _ h => h) (by rfl) ?_ (by assumption) ?_
        rotate_left
        · intro w hSw; go_simp; with_reducible rfl
        try simp only [Act.put, List.setIfInBounds_toArray, List.set_cons_zero, List.set_cons_succ]
        refine takeH (i := 10) (d := some 74) (v := ?_) rfl rfl (by kernel_rfl) (by kernel_rfl) (by kernel_rfl) (fun _ _ _ h => h) (by rfl) ?_ (by assumption) ?_
        rotate_left
        · intro w hSw; go_simp; with_reducible rfl
        try simp only [Act.put, List.setIfInBounds_toArray, List.set_cons_zero, List.set_cons_succ]
        refine takeH (i := 11) (d := some 75) (v := ?_) rfl rfl (by kernel_rfl) (by kernel_rfl) (by kernel_rfl) (fun _ _ _ h => h) (by rfl) ?_ (by assumption) ?_
        rotate_left
        · intro w hSw; go_simp; with_reducible rfl
        try simp only [Act.put, List.setIfInBounds_toArray, List.set_cons_zero, List.set_cons_succ]
        refine takeH (i := 12) (d := some 76) (v := ?_) rfl rfl (by kernel_rfl) (by kernel_rfl) (by kernel_rfl) (fun _ _ _ h => h) (by rfl) ?_ (by assumption) ?_
        rotate_left
        · intro w hSw; go_simp; with_reducible rfl
        try simp only [Act.put, List.setIfInBounds_toArray, List.set_cons_zero, List.set_cons_succ]
        refine takeH (i := 13) (d := some 77) (v := ?_) rfl rfl (by kernel_rfl) (by kernel_rfl) (by kernel_rfl) (fun _ _ _ h => h) (by rfl) ?_ (by assumption) ?_
        rotate_left
        · intro w hSw; go_simp; with_reducible rfl
        try simp only [Act.put, List.setIfInBounds_toArray, List.set_cons_zero, List.set_cons_succ]
        refine takeH (i := 14) (d := some 78) (v := ?_) rfl rfl (by kernel_rfl) (by kernel_rfl) (by kernel_rfl) (fun _ _ _ h => h) (by rfl) ?_ (by assumption) ?_
        rotate_left
        · intro w hSw; go_simp; with_reducible rfl
        try simp only [Act.put, List.setIfInBounds_toArray, List.set_cons_zero, List.set_cons_succ]
        refine takeH (i := 15) (d := some 79) (v := ?_) rfl rfl (by kernel_rfl) (by kernel_rfl) (by kernel_rfl) (fun _ _ _ h => h) (by rfl) ?_ (by assumption) ?_
        rotate_left
        · intro w hSw; go_simp; with_reducible rfl
        try simp only [Act.put, List.setIfInBounds_toArray, List.set_cons_zero, List.set_cons_succ]
        refine takeH (i := 16) (d := some 80) (v := ?_) rfl rfl (by kernel_rfl) (by kernel_rfl) (by kernel_rfl) (fun _ _ _ h => h) (by rfl) ?_ (by assumption) ?_
        rotate_left
        · intro w hSw; go_simp; with_reducible rfl
        try simp only [Act.put, List.setIfInBounds_toArray, List.set_cons_zero, List.set_cons_succ]
        refine takeH (i := 17) (d := some 81) (v := ?_) rfl rfl (by kernel_rfl) (by kernel_rfl) (by kernel_rfl) (fun _ _ _ h => h) (by rfl) ?_ (by assumption) ?_
        rotate_left
        · intro w hSw; (try dsimp only at hSw); obtain ⟨c0, c1, c2, c3, c4, c5, c6, c7, c8, c9, c10, c11, c12, c13, c14, c15⟩ := (HRC.out _ hSw.out).1.all HMEM.out.2.2.2; go_simp; with_reducible rfl
        try simp only [Act.put, List.setIfInBounds_toArray, List.set_cons_zero, List.set_cons_succ]
        refine takeH (i := 18) (d := some 82) (v := ?_) rfl rfl (by kernel_rfl) (by kernel_rfl) (by kernel_rfl) (fun _ _ _ h => h) (by rfl) ?_ (by assumption) ?_
        rotate_left
        · intro w hSw; go_simp; with_reducible rfl
        try simp only [Act.put, List.setIfInBounds_toArray, List.set_cons_zero, List.set_cons_succ]
        refine takeH (i := 19) (d := some 83) (v := ?_) rfl rfl (by kernel_rfl) (by kernel_rfl) (by kernel_rfl) (fun _ _ _ h => h) (by rfl) ?_ (by assumption) ?_
        rotate_left
        · intro w hSw; go_simp; with_reducible rfl
        try simp only [Act.put, List.setIfInBounds_toArray, List.set_cons_zero, List.set_cons_succ]
        refine takeH (i := 20) (d := some 84) (v := ?_) rfl rfl (by kernel_rfl) (by kernel_rfl) (by kernel_rfl) (fun _ _ _ h => h) (by rfl) ?_ (by assumption) ?_
        rotate_left
        · intro w hSw; go_simp; with_reducible rfl
        try simp only [Act.put, List.setIfInBounds_toArray, List.set_cons_zero, List.set_cons_succ]
        refine takeH (i := 21) (d := some 85) (v := ?_) rfl rfl (by kernel_rfl) (by kernel_rfl) (by kernel_rfl) (fun _ _ _ h => h) (by rfl) ?_ (by assumption) ?_
        rotate_left
        · intro w hSw; go_simp; with_reducible rfl
        try simp only [Act.put, List.setIfInBounds_toArray, List.set_cons_zero, List.set_cons_succ]
        refine takeH (i := 22) (d := some 86) (v := ?_) rfl rfl (by kernel_rfl) (by kernel_rfl) (by kernel_rfl) (fun _ _ _ h => h) (by rfl) ?_ (by assumption) ?_
        rotate_left
        · intro w hSw; go_simp; with_reducible rfl
        try simp only [Act.put, List.setIfInBounds_toArray, List.set_cons_zero, List.set_cons_succ]
        refine takeH (i := 23) (d := some 87) (v := ?_) rfl rfl (by kernel_rfl) (by kernel_rfl) (by kernel_rfl) (fun _ _ _ h => h) (by rfl) ?_ (by assumption) ?_
        rotate_left
        · intro w hSw; (try dsimp only at hSw); obtain ⟨c0, c1, c2, c3, c4, c5, c6, c7, c8, c9, c10, c11, c12, c13, c14, c15⟩ := (HRC.out _ hSw.out).2.all HMEM.out.2.2.1; go_simp; with_reducible rfl
        try simp only [Act.put, List.setIfInBounds_toArray, List.set_cons_zero, List.set_cons_succ]
        refine wpAnyH_ready (rs := [24]) (by kernel_rfl) (by simp) ?_
        refine AllReadyH.cons (by rfl) (fun K hKK => ?_) AllReadyH.nil
        go_simp
        refine (sameGrant_yes g da da2 pa pa2 g.ask.dom.length dc dc2 db doff db2 doff2 g.paths.length pc pc2 pb poff pb2 poff2 _ ((HRC.out _ hSd.out).1.dom _ HMEM.out.1) ((HRC.out _ hSd.out).2.dom _ HMEM.out.2.1) ((HRC.out _ hSd.out).1.paths _ HMEM.out.1) ((HRC.out _ hSd.out).2.paths _ HMEM.out.2.1) HGG.out).mono ?_
        rintro e w6 ⟨rfl, hb6⟩
        have hS6 : Hid (Below w4.heap.size w4 w6) := hSd.out.trans (hb6.mono hSd.out.size)
        go_wp2_with fail
        refine hKK.out _ _ hS6 (fun hHeld6 => ?_)
        clear hKK K
        try simp only [Act.put, List.setIfInBounds_toArray, List.set_cons_zero, List.set_cons_succ]
        refine takeH (i := 25) (d := some 89) (v := ?_) rfl rfl (by kernel_rfl) (by kernel_rfl) (by kernel_rfl) (fun _ _ _ h => h) (by rfl) ?_ (by assumption) ?_
        rotate_left
        · intro w hSw; go_simp; with_reducible rfl
        try simp only [Act.put, List.setIfInBounds_toArray, List.set_cons_zero, List.set_cons_succ]
        refine takeH (i := 26) (d := some 90) (v := ?_) rfl rfl (by kernel_rfl) (by kernel_rfl) (by kernel_rfl) (fun _ _ _ h => h) (by rfl) ?_ (by assumption) ?_
        rotate_left
        · intro w hSw; go_simp; with_reducible rfl
        try simp only [Act.put, List.setIfInBounds_toArray, List.set_cons_zero, List.set_cons_succ]
        refine takeH (i := 27) (d := some 91) (v := ?_) rfl rfl (by kernel_rfl) (by kernel_rfl) (by kernel_rfl) (fun _ _ _ h => h) (by rfl) ?_ (by assumption) ?_
        rotate_left
        · intro w hSw; go_simp; with_reducible rfl
        try simp only [Act.put, List.setIfInBounds_toArray, List.set_cons_zero, List.set_cons_succ]
        refine takeH (i := 28) (d := some 2) (v := ?_) rfl rfl (by kernel_rfl) (by kernel_rfl) (by kernel_rfl) (fun _ _ _ h => h) (by rfl) ?_ (by assumption) ?_
        rotate_left
        · intro w hSw; go_simp; with_reducible rfl
        try simp only [Act.put, List.setIfInBounds_toArray, List.set_cons_zero, List.set_cons_succ]
        refine wpAnyH_done (by kernel_rfl) ?_ _
        go_wp2
        go_ret
        exact ⟨rfl, HB4.out.trans (hS6.out.mono HB4.out.size)⟩
end Go.Proofs.Ytjadmldnpdmamaa

/- What came in: no text of it is longer than a machine can hold. -/
namespace Go.Proofs.Ytjadmldnpdmamaa
open Go.ChangeShapes Go.WideShapes Go.ChangeAt Go.RowKit Go.Joins

theorem laidOutP : laidOutB Try.prog = true := by kernel_rfl
theorem weightsAll_mem {H : Type} {P : Program} {e : TypeId} : ∀ {ds : List (DataW H)} {d : DataW H}, d ∈ ds → ∀ n ∈ d.weights P e, n ∈ DataW.weightsAll P e ds
  | d0 :: ds, d, hd, n, hn => by
    rw [DataW.weightsAll, List.mem_append]
    rcases List.mem_cons.1 hd with rfl | h
    · exact .inl hn
    · exact .inr (weightsAll_mem h n hn)
theorem weights_slice {H : Type} {t e : TypeId} (ht : Try.prog.underlying t = some (.slice e)) {ds es : List (DataW H)} {d : DataW H} (hd : d ∈ ds) : ∀ n ∈ d.weights Try.prog e, n ∈ (DataW.slice ds es).weights Try.prog t := by
  intro n hn
  rw [DataW.weights, ht]
  simp only [List.mem_cons, List.mem_append]
  exact .inr (.inl (weightsAll_mem hd n hn))
/-- No text of it is longer than a machine can hold. -/
def Reach {H : Type} (t : TypeId) (d : DataW H) : Prop := ∀ n ∈ d.weights Try.prog t, n ≤ 140737488355328
theorem reach_all {H : Type} {ts : List TypeId} {ds : List (DataW H)} (h : (DataW.weightsEach Try.prog ts ds).all (· ≤ reachBytes) = true) {j : Nat} {t : TypeId} {d : DataW H} (ht : ts[j]? = some t) (hd : ds[j]? = some d) : Reach t d := fun n hn => by
  have h1 := List.all_eq_true.1 h _ (DataW.weights_mem_each ht hd n hn)
  have h2 : n ≤ reachBytes := of_decide_eq_true h1
  have := reachBytes_lt
  have e3 : (2 : Nat) ^ 47 = 140737488355328 := by decide
  omega
theorem reach_string {H : Type} {t : TypeId} {s : ByteArray} (h : Reach (H := H) t (.lit (.string s.data.toList))) : s.size ≤ 140737488355328 := by
  have := h s.data.toList.length (by simp [DataW.weights])
  rw [Array.length_toList] at this
  exact this
def strOf : Value → ByteArray
  | .string s => s
  | _ => ⟨#[]⟩
end Go.Proofs.Ytjadmldnpdmamaa

/- Rows of grants that came in: opened down to their lists. -/
namespace Go.Proofs.Ytjadmldnpdmamaa
open Go.ChangeShapes Go.WideShapes Go.ChangeAt Go.RowKit Go.Joins
set_option linter.unusedVariables false

instance : Inhabited GrA := ⟨⟨⟨⟨false, ⟨#[]⟩, 0⟩, false, ⟨#[]⟩, ⟨#[]⟩, ⟨0, ⟨#[]⟩, ⟨#[]⟩, ⟨#[]⟩, false, ⟨#[]⟩, false, []⟩, 0, []⟩, none, 0, 0, 0, none, 0, 0, 0⟩⟩
theorem lst2 {α : Type} {l : List α} (h : l.length = 2) : ∃ c0 c1, l = [c0, c1] := by
  match l, h with
  | [c0, c1], _ => exact ⟨c0, c1, rfl⟩
theorem lst3 {α : Type} {l : List α} (h : l.length = 3) : ∃ c0 c1 c2, l = [c0, c1, c2] := by
  match l, h with
  | [c0, c1, c2], _ => exact ⟨c0, c1, c2, rfl⟩
theorem lst6 {α : Type} {l : List α} (h : l.length = 6) : ∃ c0 c1 c2 c3 c4 c5, l = [c0, c1, c2, c3, c4, c5] := by
  match l, h with
  | [c0, c1, c2, c3, c4, c5], _ => exact ⟨c0, c1, c2, c3, c4, c5, rfl⟩
theorem lst8 {α : Type} {l : List α} (h : l.length = 8) : ∃ c0 c1 c2 c3 c4 c5 c6 c7, l = [c0, c1, c2, c3, c4, c5, c6, c7] := by
  match l, h with
  | [c0, c1, c2, c3, c4, c5, c6, c7], _ => exact ⟨c0, c1, c2, c3, c4, c5, c6, c7, rfl⟩
section
variable {H : Type} {enc : TypeId × Value → H} {W : World}
theorem open_strsAt {fuel : Nat} {v : Value} {x : DataW H × List MemPlace} (h : DataW.trod enc Try.prog W 0 (fun _ => true) true fuel 32 [v] = some x) :
    ∃ (a0 : Option Addr) (cap b off : Nat) (xs : List ByteArray), v = .slice a0 xs.length cap ∧ Strs W a0 xs.length b off xs ∧ (Reach 32 x.1 → ∀ s ∈ xs, s.size ≤ 140737488355328) := by
  rcases Go.Deep.open_strs Try.underlying32 Try.underlying9 (by kernel_rfl) h with ⟨hcs, hx⟩ | ⟨a, len, cap, m, Sx, hcs, _, hl, hm, hmm, hx, hall⟩
  · simp only [List.cons.injEq, and_true] at hcs
    exact ⟨none, 0, 0, 0, [], hcs, ⟨rfl, fun h => absurd h (by simp), (fun j p hp => by simp at hp)⟩, fun _ s hs => by cases hs⟩
  · simp only [List.cons.injEq, and_true] at hcs
    simp only [if_true] at hmm
    obtain rfl := hmm.symm
    obtain ⟨b, off, spot⟩ := a
    have hspot : 0 < len → spot = none := fun h0 => by simpa [Addr.add] using World.cell?_spot (hall 0 (by omega)).1
    refine ⟨some ⟨b, off, spot⟩, cap, b, off, (List.range len).map Sx, by simpa using hcs, ⟨rfl, fun h0 => ?_, fun j p hp => ?_⟩, fun hr s hs => ?_⟩
    · have h0' : 0 < len := by simpa using h0
      obtain rfl := hspot h0'
      refine ⟨rfl, ?_⟩
      have hc := (hall 0 (by omega)).1
      rcases Nat.lt_or_ge b W.heap.size with h1 | h1
      · exact h1
      · simp [World.cell?, Addr.add, Array.getElem?_eq_none h1] at hc
    · rw [List.getElem?_map] at hp
      by_cases hj : j < len
      · rw [List.getElem?_range hj] at hp
        simp only [Option.map_some, Option.some.injEq] at hp
        subst hp
        obtain rfl := hspot (by omega)
        rw [← add_plain]
        exact (hall j (by omega)).1
      · rw [List.getElem?_eq_none (by simp; omega)] at hp
        cases hp
    · obtain ⟨i, hi, rfl⟩ := List.mem_map.1 hs
      have h1 := hr (Sx i).data.toList.length (by
        rw [hx]
        exact weights_slice Try.underlying32 (List.mem_map.2 ⟨i, hi, rfl⟩) _ (by simp [DataW.weights]))
      rw [Array.length_toList] at h1
      exact h1
set_option maxRecDepth 100000 in
set_option maxHeartbeats 4000000 in
/-- A grant among the cells of a row. -/
theorem open_grantAt {fuel : Nat} {c0 c1 c2 c3 c4 c5 c6 c7 c8 c9 c10 c11 c12 c13 c14 c15 : Value} {x : DataW H × List MemPlace} (h : DataW.trod enc Try.prog W 0 (fun _ => true) true fuel 36 [c0, c1, c2, c3, c4, c5, c6, c7, c8, c9, c10, c11, c12, c13, c14, c15] = some x) :
    ∃ v : GrA, [c0, c1, c2, c3, c4, c5, c6, c7, c8, c9, c10, c11, c12, c13, c14, c15] = grCells v.val ∧ Strs W v.da v.g.ask.dom.length v.db v.doff v.g.ask.dom ∧ Strs W v.pa v.g.paths.length v.pb v.poff v.g.paths ∧ (Reach 36 x.1 → GrZ v.g) := by
  obtain ⟨xs, n, rfl, rfl, _, hlen, hff⟩ := DataW.trod_struct Try.underlying36 h
  obtain ⟨y0, y1, y2, y3, y4, y5, rfl⟩ := lst6 (hlen.trans rfl)
  have g0 : DataW.trod enc Try.prog W 0 (fun _ => true) true n 24 [c0, c1, c2] = some y0 := hff 0 _ rfl
  have g1 : DataW.trod enc Try.prog W 0 (fun _ => true) true n 4 [c3] = some y1 := hff 1 _ rfl
  have g2 : DataW.trod enc Try.prog W 0 (fun _ => true) true n 31 [c4, c5] = some y2 := hff 2 _ rfl
  have g3 : DataW.trod enc Try.prog W 0 (fun _ => true) true n 34 [c6, c7, c8, c9, c10, c11, c12, c13] = some y3 := hff 3 _ rfl
  have g4 : DataW.trod enc Try.prog W 0 (fun _ => true) true n 3 [c14] = some y4 := hff 4 _ rfl
  have g5 : DataW.trod enc Try.prog W 0 (fun _ => true) true n 32 [c15] = some y5 := hff 5 _ rfl
  clear hff h
  obtain ⟨os', n0, _, ho, _, hl0, hf0⟩ := DataW.trod_struct Try.underlying24 g0
  obtain ⟨o0, o1, o2, rfl⟩ := lst3 (hl0.trans rfl)
  have p0 : DataW.trod enc Try.prog W 0 (fun _ => true) true n0 4 [c0] = some o0 := hf0 0 _ rfl
  have p1 : DataW.trod enc Try.prog W 0 (fun _ => true) true n0 9 [c1] = some o1 := hf0 1 _ rfl
  have p2 : DataW.trod enc Try.prog W 0 (fun _ => true) true n0 3 [c2] = some o2 := hf0 2 _ rfl
  clear hf0
  obtain ⟨sec, e0, rfl⟩ := DataW.trod_bool Try.underlying4 p0
  obtain ⟨host, e1, rfl, _⟩ := DataW.trod_string Try.underlying9 p1
  obtain ⟨port, e2, rfl, _⟩ := DataW.trod_int Try.underlying3 p2
  obtain ⟨px, e3, rfl⟩ := DataW.trod_bool Try.underlying4 g1
  obtain ⟨cs', n1, _, hc, _, hl1, hf1⟩ := DataW.trod_struct Try.underlying31 g2
  obtain ⟨r0, r1, rfl⟩ := lst2 (hl1.trans rfl)
  have q0 : DataW.trod enc Try.prog W 0 (fun _ => true) true n1 9 [c4] = some r0 := hf1 0 _ rfl
  have q1 : DataW.trod enc Try.prog W 0 (fun _ => true) true n1 9 [c5] = some r1 := hf1 1 _ rfl
  clear hf1
  obtain ⟨us, e4, rfl, _⟩ := DataW.trod_string Try.underlying9 q0
  obtain ⟨pw, e5, rfl, _⟩ := DataW.trod_string Try.underlying9 q1
  obtain ⟨as', n2, _, ha, _, hl2, hf2⟩ := DataW.trod_struct Try.underlying34 g3
  obtain ⟨s0, s1, s2, s3, s4, s5, s6, s7, rfl⟩ := lst8 (hl2.trans rfl)
  have t0 : DataW.trod enc Try.prog W 0 (fun _ => true) true n2 3 [c6] = some s0 := hf2 0 _ rfl
  have t1 : DataW.trod enc Try.prog W 0 (fun _ => true) true n2 9 [c7] = some s1 := hf2 1 _ rfl
  have t2 : DataW.trod enc Try.prog W 0 (fun _ => true) true n2 9 [c8] = some s2 := hf2 2 _ rfl
  have t3 : DataW.trod enc Try.prog W 0 (fun _ => true) true n2 9 [c9] = some s3 := hf2 3 _ rfl
  have t4 : DataW.trod enc Try.prog W 0 (fun _ => true) true n2 4 [c10] = some s4 := hf2 4 _ rfl
  have t5 : DataW.trod enc Try.prog W 0 (fun _ => true) true n2 9 [c11] = some s5 := hf2 5 _ rfl
  have t6 : DataW.trod enc Try.prog W 0 (fun _ => true) true n2 4 [c12] = some s6 := hf2 6 _ rfl
  have t7 : DataW.trod enc Try.prog W 0 (fun _ => true) true n2 32 [c13] = some s7 := hf2 7 _ rfl
  clear hf2
  obtain ⟨sch, e6, rfl, _⟩ := DataW.trod_int Try.underlying3 t0
  obtain ⟨rlm, e7, rfl, _⟩ := DataW.trod_string Try.underlying9 t1
  obtain ⟨non, e8, rfl, _⟩ := DataW.trod_string Try.underlying9 t2
  obtain ⟨opq, e9, rfl, _⟩ := DataW.trod_string Try.underlying9 t3
  obtain ⟨ses, e10, rfl⟩ := DataW.trod_bool Try.underlying4 t4
  obtain ⟨qop, e11, rfl, _⟩ := DataW.trod_string Try.underlying9 t5
  obtain ⟨stl, e12, rfl⟩ := DataW.trod_bool Try.underlying4 t6
  obtain ⟨da, dc, db, doff, dm, rfl, hdm, rdm⟩ := open_strsAt t7
  obtain ⟨cnt, e14, rfl, wcnt⟩ := DataW.trod_int Try.underlying3 g4
  obtain ⟨pa, pc, pb, poff, pt, rfl, hpt, rpt⟩ := open_strsAt g5
  simp only [List.cons.injEq, and_true] at e0 e1 e2 e3 e4 e5 e6 e7 e8 e9 e10 e11 e12 e14
  subst e0 e1 e2 e3 e4 e5 e6 e7 e8 e9 e10 e11 e12 e14
  refine ⟨⟨⟨⟨sec, host, port⟩, px, us, pw, ⟨sch, rlm, non, opq, ses, qop, stl, dm⟩, cnt, pt⟩, da, dc, db, doff, pa, pc, pb, poff⟩, rfl, hdm, hpt, fun hr => ?_⟩
  subst ho hc ha
  have w0 := hr host.data.toList.length (by simp [DataW.weights, DataW.weightsEach, Try.underlying36, Try.underlying24])
  have w1 := hr us.data.toList.length (by simp [DataW.weights, DataW.weightsEach, Try.underlying36, Try.underlying31])
  have w2 := hr pw.data.toList.length (by simp [DataW.weights, DataW.weightsEach, Try.underlying36, Try.underlying31])
  have w3 := hr rlm.data.toList.length (by simp [DataW.weights, DataW.weightsEach, Try.underlying36, Try.underlying34])
  have w4 := hr non.data.toList.length (by simp [DataW.weights, DataW.weightsEach, Try.underlying36, Try.underlying34])
  have w5 := hr opq.data.toList.length (by simp [DataW.weights, DataW.weightsEach, Try.underlying36, Try.underlying34])
  have w6 := hr qop.data.toList.length (by simp [DataW.weights, DataW.weightsEach, Try.underlying36, Try.underlying34])
  rw [Array.length_toList] at w0 w1 w2 w3 w4 w5 w6
  have d1 := rdm fun k hk => hr k (by simp [DataW.weights, DataW.weightsEach, Try.underlying36, Try.underlying34, hk])
  have d2 := rpt fun k hk => hr k (by simp [DataW.weights, DataW.weightsEach, Try.underlying36, hk])
  refine ⟨w0, w1, w2, w3, w4, w5, w6, d1, d2, ?_⟩
  simp only [Lit.wf, Bool.and_eq_true, decide_eq_true_eq] at wcnt
  have e1 : IntKind.i64.min = -9223372036854775808 := by decide
  show -9223372036854775808 ≤ cnt
  omega
theorem cells16 : Try.prog.cellsOf 36 = 16 := by kernel_rfl
set_option maxRecDepth 100000 in
set_option maxHeartbeats 2000000 in
theorem open_grants {fuel : Nat} {v : Value} {x : DataW H × List MemPlace} (h : DataW.trod enc Try.prog W 0 (fun _ => true) true fuel 22 [v] = some x) :
    ∃ (a0 : Option Addr) (len cap b off : Nat) (gs : List GrA), v = .slice a0 len cap ∧ len ≤ 9223372036854775807 ∧ Grs W a0 len b off gs ∧ (Reach 22 x.1 → ∀ g ∈ gs, GrZ g.g) := by
  rcases Go.Deep.open_slice Try.underlying22 h with ⟨hcs, hx⟩ | ⟨a, len, cap, m, n, D, Pl, hcs, _, hl, hm, hmm, hx, hall⟩
  · simp only [List.cons.injEq, and_true] at hcs
    exact ⟨none, 0, 0, 0, 0, [], hcs, by omega, ⟨rfl, fun h => absurd h (by omega), (fun j p hp => by simp at hp), (fun c hc => by cases hc), fun c hc => by cases hc⟩, fun _ c hc => by cases hc⟩
  · simp only [List.cons.injEq, and_true] at hcs
    simp only [if_true] at hmm
    obtain rfl := hmm.symm
    unfold maxLen at hm
    rw [cells16] at hall
    have each : ∀ i, i < cap → ∃ g : GrA, (∀ (j : Nat) (u : Value), (grCells g.val)[j]? = some u → W.cell? (a.add (i * 16 + j)) = some u) ∧ Strs W g.da g.g.ask.dom.length g.db g.doff g.g.ask.dom ∧ Strs W g.pa g.g.paths.length g.pb g.poff g.g.paths ∧ (Reach 36 (D i) → GrZ g.g) := fun i hi => by
      obtain ⟨cs', h1, h2⟩ := hall i hi
      obtain ⟨_, hlen, hcell⟩ := World.cells?_some h1
      match cs', hlen with
      | [c0, c1, c2, c3, c4, c5, c6, c7, c8, c9, c10, c11, c12, c13, c14, c15], _ =>
        obtain ⟨g, e, k1, k2, k3⟩ := open_grantAt h2
        refine ⟨g, fun j u hj => ?_, k1, k2, k3⟩
        have hj16 : j < 16 := (List.getElem?_eq_some_iff.1 hj).1
        have e0 := hcell j hj16
        rw [Go.Deep.add_add] at e0
        rw [e0, e, hj]
    obtain ⟨C, hC⟩ := Go.Deep.choose_lt each
    obtain ⟨b, off, spot⟩ := a
    have hget : ∀ (j : Nat) (c : GrA), ((List.range len).map C)[j]? = some c → j < len ∧ c = C j := fun j p hp => by
      rw [List.getElem?_map] at hp
      by_cases hj : j < len
      · rw [List.getElem?_range hj] at hp
        simp only [Option.map_some, Option.some.injEq] at hp
        exact ⟨hj, hp.symm⟩
      · rw [List.getElem?_eq_none (by simp; omega)] at hp
        cases hp
    have hspot : 0 < len → spot = none := fun h0 => by simpa [Addr.add] using World.cell?_spot ((hC 0 (by omega)).1 0 _ rfl)
    refine ⟨some ⟨b, off, spot⟩, len, cap, b, off, (List.range len).map C, hcs, by omega, ⟨by simp, fun h0 => ?_, fun j c hc i u hu => ?_, fun c hc => ?_, fun c hc => ?_⟩, fun hr c hc => ?_⟩
    · obtain rfl := hspot h0
      refine ⟨rfl, ?_⟩
      have hc := (hC 0 (by omega)).1 0 _ rfl
      rcases Nat.lt_or_ge b W.heap.size with h1 | h1
      · exact h1
      · simp [World.cell?, Addr.add, Array.getElem?_eq_none h1] at hc
    · obtain ⟨hj, rfl⟩ := hget j c hc
      obtain rfl := hspot (by omega)
      rw [Nat.add_assoc, ← add_plain]
      exact (hC j (by omega)).1 i u hu
    · obtain ⟨i, hi, rfl⟩ := List.mem_map.1 hc
      exact (hC i (by have := List.mem_range.1 hi; omega)).2.1
    · obtain ⟨i, hi, rfl⟩ := List.mem_map.1 hc
      exact (hC i (by have := List.mem_range.1 hi; omega)).2.2.1
    · obtain ⟨i, hi, rfl⟩ := List.mem_map.1 hc
      refine (hC i (by have := List.mem_range.1 hi; omega)).2.2.2 fun n hn => hr n ?_
      rw [hx]
      exact weights_slice Try.underlying22 (List.mem_map.2 ⟨i, hi, rfl⟩) n hn
/-- A row of grants that came in. -/
theorem open_grantsT {v : Value} {d : DataW H} {p : List MemPlace} {a : Option Addr} {n k : Nat} (h : DataW.Trod enc Try.prog W 0 (fun _ => true) true 22 v d p) (hv : v = .slice a n k) :
    ∃ (b off : Nat) (gs : List GrA), n ≤ 9223372036854775807 ∧ Grs W a n b off gs ∧ (Reach 22 d → ∀ g ∈ gs, GrZ g.g) := by
  subst hv
  obtain ⟨fuel, hf⟩ := h
  obtain ⟨a0, len, cap, b, off, gs, e, h1, h2, h3⟩ := open_grants (v := .slice a n k) hf
  injection e with e1 e2 e3
  subst e1 e2 e3
  exact ⟨b, off, gs, h1, h2, h3⟩
end
end Go.Proofs.Ytjadmldnpdmamaa
