/- The reader's parameter, by the program. -/
import Derived.Test.YtooaiamfbmjmnaaGreatDoorRdn
import Derived.Test.YtooaiamfbmjmnaaGreatDoorPrm
namespace Go.Proofs.YtooaiamfbmjmnaaGreatDoor
open Go.RowKit

/-- An error at a place, among the blocks from B on. -/
def IsAt (w : World) (v : Value) (B : Nat) (n p : Int) : Prop :=
  ∃ g : Nat, v = .iface 115 (.pointer (some ⟨g, 0, none⟩)) ∧ w.cell? ⟨g, 0, none⟩ = some (.int .i64 n) ∧ w.cell? ⟨g, 1, none⟩ = some (.int .i64 p) ∧ B ≤ g ∧ g < w.heap.size
theorem IsAt.grown {w w' : World} {v : Value} {B : Nat} {n p : Int} {row : Option Nat} (h : IsAt w v B n p) (hg : w.grownBy w' row) (hr : ∀ k, row = some k → k < B) : IsAt w' v B n p := by
  obtain ⟨g, h1, h2, h3, h4, h5⟩ := h
  have hne : some g ≠ row := fun e => by have := hr g e.symm; omega
  exact ⟨g, h1, hg.cell h2 hne, hg.cell h3 hne, h4, Nat.lt_of_lt_of_le h5 hg.size⟩
theorem IsAt.below {w w' : World} {v : Value} {B : Nat} {n p : Int} (h : IsAt w v B n p) (hb : Below w.heap.size w w') : IsAt w' v B n p :=
  h.grown (row := none) ⟨hb.os, hb.tape, hb.output, hb.size, fun i hi _ => hb.block i hi⟩ (fun k e => by cases e)
theorem IsAt.mono {w : World} {v : Value} {B C : Nat} {n p : Int} (h : IsAt w v B n p) (hC : C ≤ B) : IsAt w v C n p := by
  obtain ⟨g, h1, h2, h3, h4, h5⟩ := h
  exact ⟨g, h1, h2, h3, Nat.le_trans hC h4, h5⟩
theorem wrong_any (n p : Int) (w : World) : Calls Tryz.prog 90 #[.int .i64 n, .int .i64 p] w fun e w' => (∃ g : Nat, e = .returned (.iface 115 (.pointer (some ⟨g, 0, none⟩))) ∧ w'.cell? ⟨g, 0, none⟩ = some (.int .i64 n) ∧ w'.cell? ⟨g, 1, none⟩ = some (.int .i64 p) ∧ w.heap.size ≤ g ∧ g < w'.heap.size) ∧ Below w.heap.size w w' := by
  go_enter Tryz.func90, Tryz.ntmps90
  go_wp2
  go_ret
  exact ⟨⟨w.heap.size, rfl, World.cell?_alloc_mark _ _ _ _ _, World.cell?_alloc_mark _ _ _ _ _, Nat.le_refl _, by simp⟩, (Below.refl _ _).alloc (Nat.le_refl _) _⟩
theorem told_find (acc : List Par) (n : ByteArray) : toldL acc n = (acc.find? fun p => sameL p.1.data.toList n.data.toList).isSome := by
  unfold toldL
  rw [Bool.eq_iff_iff, List.any_eq_true, List.find?_isSome]
/-- What the reader's param answers. -/
def ParAns (b : Nat) (s : ByteArray) (acc : List Par) (r : List UInt8) (B : Nat) (e : Ending) (w' : World) : Prop :=
  (∃ (p : Par) (u : List UInt8), paramL acc r = .ok (p, u) ∧ p.1.size ≤ 3000 ∧ p.2.size ≤ 3000 ∧ e = .returned (.tuple #[.agg #[.string p.1, .string p.2], .nilIface]) ∧ CurR w' b s u) ∨
  (∃ (n left : Nat) (v : Value), paramL acc r = .error (n, left) ∧ e = .returned (.tuple #[.agg #[.string ⟨#[]⟩, .string ⟨#[]⟩], v]) ∧ IsAt w' v B n ((s.size - left : Nat) : Int))
theorem box_two {w w' : World} {b : Nat} {s : ByteArray} {x y : Value} {T : TypeId} {row : Option Nat} (hg : ((w.alloc (.cells #[.pointer (some ⟨b, 0, none⟩), .string s] 79)).alloc (.cells #[x, y] T)).grownBy w' row) (hr : ∀ k, row = some k → k < w.heap.size) :
    (w'.cell? ⟨w.heap.size, 0, none⟩ = some (.pointer (some ⟨b, 0, none⟩)) ∧ w'.cell? ⟨w.heap.size, 1, none⟩ = some (.string s)) ∧ (w'.cell? ⟨w.heap.size + 1, 0, none⟩ = some x ∧ w'.cell? ⟨w.heap.size + 1, 1, none⟩ = some y) ∧ (w'.frozen? ⟨w.heap.size + 1, 0, none⟩ = false ∧ w'.frozen? ⟨w.heap.size + 1, 1, none⟩ = false) ∧ w.heap.size + 1 < w'.heap.size := by
  have h1 : some w.heap.size ≠ row := fun e => by have := hr _ e.symm; omega
  have h2 : some (w.heap.size + 1) ≠ row := fun e => by have := hr _ e.symm; omega
  have hz : (w.alloc (.cells #[.pointer (some ⟨b, 0, none⟩), .string s] 79)).heap.size = w.heap.size + 1 := by simp
  have ha : ∀ j, ((w.alloc (.cells #[.pointer (some ⟨b, 0, none⟩), .string s] 79)).alloc (.cells #[x, y] T)).cell? ⟨w.heap.size, j, none⟩ = #[.pointer (some ⟨b, 0, none⟩), .string s][j]? := fun j => by
    rw [World.cell?_alloc_lt _ _ ⟨w.heap.size, j, none⟩ (by simp)]
    exact World.cell?_alloc_mark _ _ _ _ _
  have hb : ∀ j, ((w.alloc (.cells #[.pointer (some ⟨b, 0, none⟩), .string s] 79)).alloc (.cells #[x, y] T)).cell? ⟨w.heap.size + 1, j, none⟩ = #[x, y][j]? := fun j => by
    rw [← hz]
    exact World.cell?_alloc_mark _ _ _ _ _
  have hf : ∀ j, w'.frozen? ⟨w.heap.size + 1, j, none⟩ = false := fun j => by
    have e1 : w'.heap[w.heap.size + 1]? = some (.cells #[x, y] T (0, 0)) := by
      rw [hg.block (w.heap.size + 1) (by simp) h2, ← hz]
      exact heap_alloc_new _ _
    simp [World.frozen?, e1]
  refine ⟨⟨hg.cell (ha 0) h1, hg.cell (ha 1) h1⟩, ⟨hg.cell (hb 0) h2, hg.cell (hb 1) h2⟩, ⟨hf 0, hf 1⟩, ?_⟩
  exact Nat.lt_of_lt_of_le (by simp) hg.size
theorem res_end {w : World} {b : Nat} {u v : Value} (h0 : w.cell? ⟨b, 0, none⟩ = some u) (h1 : w.cell? ⟨b, 1, none⟩ = some v) (x y : Value) :
    ((w.setCell ⟨b, 0, none⟩ x).setCell ⟨b, 1, none⟩ y).cell? ⟨b, 0, none⟩ = some x ∧ ((w.setCell ⟨b, 0, none⟩ x).setCell ⟨b, 1, none⟩ y).cell? ⟨b, 1, none⟩ = some y := by
  have e1 : (w.setCell ⟨b, 0, none⟩ x).cell? ⟨b, 1, none⟩ = some v := by
    rw [World.cell?_setCell_other _ _ _ _ (by intro e; injection e with _ e2; omega)]
    exact h1
  refine ⟨?_, World.cell?_setCell_same _ _ _ e1⟩
  rw [World.cell?_setCell_other _ _ _ _ (by intro e; injection e with _ e2; omega)]
  exact World.cell?_setCell_same _ _ _ h0
theorem grown_setNew {w w' : World} {row : Option Nat} (h : w.grownBy w' row) {blk : Nat} (hb : w.heap.size ≤ blk) (j : Nat) (v : Value) : w.grownBy (w'.setCell ⟨blk, j, none⟩ v) row :=
  ⟨h.os, h.tape, h.output, by simp [World.setCell]; exact h.size, fun i hi hr => (Below.heap_setCell _ _ _ _ (by show i ≠ blk; omega)).trans (h.block i hi hr)⟩
theorem fin_err {w w6 : World} {b rb C : Nat} {n p : Int} {v : Value} (hB : w.heap.size ≤ rb) (hrb : rb < C) (hat : IsAt w6 v C n p) (hg : w.grownBy w6 (some b)) (x y : Value) :
    IsAt ((w6.setCell ⟨rb, 0, none⟩ x).setCell ⟨rb, 1, none⟩ y) v w.heap.size n p ∧ w.grownBy ((w6.setCell ⟨rb, 0, none⟩ x).setCell ⟨rb, 1, none⟩ y) (some b) :=
  ⟨(((hat.grown (grown_set _ rb 0 x) (fun k e => by injection e with e; omega)).grown (grown_set _ rb 1 y) (fun k e => by injection e with e; omega))).mono (by omega), grown_setNew (grown_setNew hg hB 0 x) hB 1 y⟩
theorem fin_ok {w w6 : World} {b rb : Nat} {s : ByteArray} {u : List UInt8} (hB : w.heap.size ≤ rb) (hrb : rb ≠ b) (hc : CurR w6 b s u) (hg : w.grownBy w6 (some b)) (x y : Value) :
    CurR ((w6.setCell ⟨rb, 0, none⟩ x).setCell ⟨rb, 1, none⟩ y) b s u ∧ w.grownBy ((w6.setCell ⟨rb, 0, none⟩ x).setCell ⟨rb, 1, none⟩ y) (some b) :=
  ⟨(hc.grown (grown_set _ rb 0 x) (by intro e; injection e with e; omega)).grown (grown_set _ rb 1 y) (by intro e; injection e with e; omega), grown_setNew (grown_setNew hg hB 0 x) hB 1 y⟩
set_option maxRecDepth 100000 in
set_option maxHeartbeats 4000000 in
theorem param_any (b : Nat) (s : ByteArray) (hs : s.size ≤ 3000) (r : List UInt8) (acc : List Par) (hacc : ∀ p ∈ acc, p.1.size ≤ 3000) (a0 : Option Addr) (len cap pb off : Nat) (hlen : len ≤ 1000) (w : World) (hc : CurR w b s r) (hp : Pars w a0 len pb off acc) (hpb : 0 < len → pb ≠ b) :
    Calls Tryz.prog 122 #[.agg #[.pointer (some ⟨b, 0, none⟩), .string s], .slice a0 len cap] w fun e w' => ParAns b s acc r w.heap.size e w' ∧ w.grownBy w' (some b) := by
  have hbl := hc.lt
  have hrl := hc.len
  have hal := hp.len_eq
  have HACC : Hid (∀ p ∈ acc, p.1.size ≤ 3000) := hacc
  have HPB : Hid (0 < len → pb ≠ b) := hpb
  have hB1 : Below w.heap.size w ((w.alloc (.cells #[.pointer (some ⟨b, 0, none⟩), .string s] 79)).alloc (.cells #[.string ⟨#[]⟩, .string ⟨#[]⟩] 31)) := ((Below.refl _ _).alloc (Nat.le_refl _) _).alloc (by simp) _
  generalize hW0 : ((w.alloc (.cells #[.pointer (some ⟨b, 0, none⟩), .string s] 79)).alloc (.cells #[.string ⟨#[]⟩, .string ⟨#[]⟩] 31)) = W0 at hB1
  have HBT : Hid (∀ w', W0.grownBy w' (some b) → (w'.cell? ⟨w.heap.size, 0, none⟩ = some (.pointer (some ⟨b, 0, none⟩)) ∧ w'.cell? ⟨w.heap.size, 1, none⟩ = some (.string s)) ∧ (w'.cell? ⟨w.heap.size + 1, 0, none⟩ = some (.string ⟨#[]⟩) ∧ w'.cell? ⟨w.heap.size + 1, 1, none⟩ = some (.string ⟨#[]⟩)) ∧ (w'.frozen? ⟨w.heap.size + 1, 0, none⟩ = false ∧ w'.frozen? ⟨w.heap.size + 1, 1, none⟩ = false) ∧ w.heap.size + 1 < w'.heap.size) := by
    intro w' hg
    rw [← hW0] at hg
    exact box_two hg (fun k e => by injection e with e; omega)
  have HC1 : Hid (CurR W0 b s r ∧ w.grownBy W0 (some b) ∧ Pars W0 a0 len pb off acc ∧ w.heap.size + 1 < W0.heap.size) := ⟨hc.below hB1, grown_below hB1 _, hp.below hB1, (HBT.out W0 (grown_drewN _ 0 _)).2.2.2⟩
  obtain ⟨k, HK⟩ : ∃ k, Hid (s.size - r.length = k) := ⟨_, rfl⟩
  have hat := rd_at b s r _ HC1.out.1
  rw [HK.out] at hat
  obtain ⟨⟨hx0, hx1⟩, _, _, _⟩ := HBT.out W0 (grown_drewN _ 0 _)
  clear hc hp hB1 hacc hpb
  go_enter Tryz.func122, Tryz.ntmps122
  go_upto_region 1 with fail
  clear hW0
  go_wp2_with (go_at_call 88; refine hat.mono ?_; rintro e w1 ⟨rfl, hw1⟩; obtain rfl := hw1.symm; clear hw1 hat)
  refine (name_any b s hs r _ HC1.out.1).mono ?_
  rintro e w2 ⟨hn, hg2⟩
  obtain ⟨⟨hx0, hx1⟩, ⟨hr0, hr1⟩, ⟨hf0, hf1⟩, hlt2⟩ := HBT.out w2 hg2
  rcases hn with ⟨n, t, hN, hn3, rfl, hc2⟩ | ⟨hN, ⟨n, rfl⟩, hc2⟩
  · have HN : Hid (nameL r = some (n, t)) := hN
    have HC2 : Hid (CurR w2 b s t ∧ W0.grownBy w2 (some b)) := ⟨hc2, hg2⟩
    clear hN hc2 hg2
    go_wp2_with fail
    refine (rd_blanks b s hs t _ HC2.out.1).mono ?_
    rintro e w3 ⟨rfl, hc3, hg3⟩
    have HC3 : Hid (CurR w3 b s (t.dropWhile blankB) ∧ W0.grownBy w3 (some b)) := ⟨hc3, grown_trans HC2.out.2 hg3⟩
    clear hx0 hx1 hr0 hr1 hf0 hf1 hlt2 hc3 hg3 HC2
    obtain ⟨⟨hx0, hx1⟩, ⟨hr0, hr1⟩, ⟨hf0, hf1⟩, hlt2⟩ := HBT.out w3 HC3.out.2
    go_wp2_with fail
    refine (val_any b s hs _ _ HC3.out.1).mono ?_
    rintro e w4 ⟨hv, hg4⟩
    have HG4 : Hid (W0.grownBy w4 (some b)) := grown_trans HC3.out.2 hg4
    clear hx0 hx1 hr0 hr1 hf0 hf1 hlt2 hg4
    obtain ⟨⟨hx0, hx1⟩, ⟨hr0, hr1⟩, ⟨hf0, hf1⟩, hlt2⟩ := HBT.out w4 HG4.out
    rcases hv with ⟨v, u, hV, hv3, rfl, hc4⟩ | ⟨hV, rfl, hc4⟩
    · have HV : Hid (valueL (t.dropWhile blankB) = some (v, u)) := hV
      have HC4 : Hid (CurR w4 b s u ∧ Pars w4 a0 len pb off acc) := ⟨hc4, HC1.out.2.2.1.grown HG4.out (fun h e => HPB.out h (by injection e))⟩
      clear hV hc4
      go_wp2_with fail
      refine (find_any acc n (fun p hp => Nat.le_trans (HACC.out p hp) (by omega)) (by omega) a0 len cap pb off (by omega) _ HC4.out.2).mono ?_
      rintro e w5 ⟨⟨q, rfl, HQ⟩, hb5⟩
      have HC5 : Hid (CurR w5 b s u ∧ W0.grownBy w5 (some b)) := ⟨HC4.out.1.below hb5, grown_trans HG4.out (grown_below hb5 _)⟩
      clear hx0 hx1 hr0 hr1 hf0 hf1 hlt2 hb5
      obtain ⟨⟨hx0, hx1⟩, ⟨hr0, hr1⟩, ⟨hf0, hf1⟩, hlt2⟩ := HBT.out w5 HC5.out.2
      by_cases htold : toldL acc n = true
      · have HA : Hid (paramL acc r = .error (9, r.length)) := by
          show _ = _
          unfold paramL
          rw [HN.out]
          simp only [HV.out]
          rw [if_pos htold]
        have hq0 : 0 ≤ q := by
          rcases HQ.out with ⟨_, h⟩ | ⟨j, p, h, _, _⟩
          · rw [told_find, h] at htold
            cases htold
          · omega
        go_wp2_with fail
        refine (wrong_any 9 k _).mono ?_
        rintro e w6 ⟨⟨g, rfl, hg0, hg1, hgB, hgl⟩, hbw⟩
        have HAT : Hid (IsAt w6 (.iface 115 (.pointer (some ⟨g, 0, none⟩))) w5.heap.size 9 k) := ⟨g, rfl, hg0, hg1, hgB, hgl⟩
        have HGW : Hid (w.grownBy w6 (some b)) := grown_trans HC1.out.2.1 (grown_trans HC5.out.2 (grown_below hbw _))
        have k0 := (hbw.cell (p := ⟨w.heap.size + 1, 0, none⟩) hlt2).trans hr0
        have k1 := (hbw.cell (p := ⟨w.heap.size + 1, 1, none⟩) hlt2).trans hr1
        have k2 := (hbw.frozen (p := ⟨w.heap.size + 1, 0, none⟩) hlt2).trans hf0
        have k3 := (hbw.frozen (p := ⟨w.heap.size + 1, 1, none⟩) hlt2).trans hf1
        have HLT2 : Hid (w.heap.size + 1 < w5.heap.size) := hlt2
        clear hx0 hx1 hr0 hr1 hf0 hf1 hlt2 hg0 hg1 hbw
        go_wp2
        obtain ⟨e0, e1⟩ := res_end k0 k1 (.string ⟨#[]⟩) (.string ⟨#[]⟩)
        obtain ⟨z1, z2⟩ := fin_err (b := b) (rb := w.heap.size + 1) (Nat.le_succ _) HLT2.out HAT.out HGW.out (.string ⟨#[]⟩) (.string ⟨#[]⟩)
        exact bodyPost_ret (v := .tuple #[.agg #[.string ⟨#[]⟩, .string ⟨#[]⟩], .iface 115 (.pointer (some ⟨g, 0, none⟩))]) (by simp [results, Tryz.f122, go_sem, e0, e1]) rfl ⟨.inr ⟨_, _, _, HA.out, rfl, by rw [HK.out]; exact z1⟩, z2⟩
      · have hq0 : q = -1 := by
          rcases HQ.out with ⟨h, _⟩ | ⟨j, p, h, h2, h3⟩
          · exact h
          · exfalso
            apply htold
            rw [told_find, h3]
            rfl
        subst hq0
        by_cases h16 : (16 : Int) ≤ (len : Int)
        · have HA : Hid (paramL acc r = .error (4, r.length)) := by
            show _ = _
            unfold paramL
            rw [HN.out]
            simp only [HV.out]
            rw [if_neg htold, if_pos (by omega)]
          go_wp2_with fail
          refine (wrong_any 4 k _).mono ?_
          rintro e w6 ⟨⟨g, rfl, hg0, hg1, hgB, hgl⟩, hbw⟩
          have HAT : Hid (IsAt w6 (.iface 115 (.pointer (some ⟨g, 0, none⟩))) w5.heap.size 4 k) := ⟨g, rfl, hg0, hg1, hgB, hgl⟩
          have HGW : Hid (w.grownBy w6 (some b)) := grown_trans HC1.out.2.1 (grown_trans HC5.out.2 (grown_below hbw _))
          have k0 := (hbw.cell (p := ⟨w.heap.size + 1, 0, none⟩) hlt2).trans hr0
          have k1 := (hbw.cell (p := ⟨w.heap.size + 1, 1, none⟩) hlt2).trans hr1
          have k2 := (hbw.frozen (p := ⟨w.heap.size + 1, 0, none⟩) hlt2).trans hf0
          have k3 := (hbw.frozen (p := ⟨w.heap.size + 1, 1, none⟩) hlt2).trans hf1
          have HLT2 : Hid (w.heap.size + 1 < w5.heap.size) := hlt2
          clear hx0 hx1 hr0 hr1 hf0 hf1 hlt2 hg0 hg1 hbw
          go_wp2
          obtain ⟨e0, e1⟩ := res_end k0 k1 (.string ⟨#[]⟩) (.string ⟨#[]⟩)
          obtain ⟨z1, z2⟩ := fin_err (b := b) (rb := w.heap.size + 1) (Nat.le_succ _) HLT2.out HAT.out HGW.out (.string ⟨#[]⟩) (.string ⟨#[]⟩)
          exact bodyPost_ret (v := .tuple #[.agg #[.string ⟨#[]⟩, .string ⟨#[]⟩], .iface 115 (.pointer (some ⟨g, 0, none⟩))]) (by simp [results, Tryz.f122, go_sem, e0, e1]) rfl ⟨.inr ⟨_, _, _, HA.out, rfl, by rw [HK.out]; exact z1⟩, z2⟩
        · have HA : Hid (paramL acc r = .ok ((n, v), u)) := by
            show _ = _
            unfold paramL
            rw [HN.out]
            simp only [HV.out]
            rw [if_neg htold, if_neg (by omega)]
          go_wp2
          obtain ⟨e0, e1⟩ := res_end hr0 hr1 (.string n) (.string v)
          obtain ⟨z1, z2⟩ := fin_ok (rb := w.heap.size + 1) (Nat.le_succ _) (by omega) HC5.out.1 (grown_trans HC1.out.2.1 HC5.out.2) (.string n) (.string v)
          exact bodyPost_ret (v := .tuple #[.agg #[.string n, .string v], .nilIface]) (by simp [results, Tryz.f122, go_sem, e0, e1]) rfl ⟨.inl ⟨(n, v), u, HA.out, hn3, hv3, rfl, z1⟩, z2⟩
    · have HA : Hid (paramL acc r = .error (3, (t.dropWhile blankB).length)) := by
        show _ = _
        unfold paramL
        rw [HN.out]
        simp only [hV]
      have hat2 := rd_at b s _ _ hc4
      obtain ⟨k2', HK2⟩ : ∃ k2, Hid (s.size - (t.dropWhile blankB).length = k2) := ⟨_, rfl⟩
      rw [HK2.out] at hat2
      clear hV hc4
      go_wp2_with (go_at_call 88; refine hat2.mono ?_; rintro e w1 ⟨rfl, hw1⟩; obtain rfl := hw1.symm; clear hw1 hat2)
      refine (wrong_any 3 k2' _).mono ?_
      rintro e w6 ⟨⟨g, rfl, hg0, hg1, hgB, hgl⟩, hbw⟩
      have HAT : Hid (IsAt w6 (.iface 115 (.pointer (some ⟨g, 0, none⟩))) w4.heap.size 3 k2') := ⟨g, rfl, hg0, hg1, hgB, hgl⟩
      have HGW : Hid (w.grownBy w6 (some b)) := grown_trans HC1.out.2.1 (grown_trans HG4.out (grown_below hbw _))
      have k0 := (hbw.cell (p := ⟨w.heap.size + 1, 0, none⟩) hlt2).trans hr0
      have k1 := (hbw.cell (p := ⟨w.heap.size + 1, 1, none⟩) hlt2).trans hr1
      have k2 := (hbw.frozen (p := ⟨w.heap.size + 1, 0, none⟩) hlt2).trans hf0
      have k3 := (hbw.frozen (p := ⟨w.heap.size + 1, 1, none⟩) hlt2).trans hf1
      have HLT2 : Hid (w.heap.size + 1 < w4.heap.size) := hlt2
      clear hx0 hx1 hr0 hr1 hf0 hf1 hlt2 hg0 hg1 hbw
      go_wp2
      obtain ⟨e0, e1⟩ := res_end k0 k1 (.string ⟨#[]⟩) (.string ⟨#[]⟩)
      obtain ⟨z1, z2⟩ := fin_err (b := b) (rb := w.heap.size + 1) (Nat.le_succ _) HLT2.out HAT.out HGW.out (.string ⟨#[]⟩) (.string ⟨#[]⟩)
      exact bodyPost_ret (v := .tuple #[.agg #[.string ⟨#[]⟩, .string ⟨#[]⟩], .iface 115 (.pointer (some ⟨g, 0, none⟩))]) (by simp [results, Tryz.f122, go_sem, e0, e1]) rfl ⟨.inr ⟨_, _, _, HA.out, rfl, by rw [HK2.out]; exact z1⟩, z2⟩
  · have HA : Hid (paramL acc r = .error (3, (nameE r).length)) := by
      show _ = _
      unfold paramL
      rw [hN]
    have HG2 : Hid (W0.grownBy w2 (some b)) := hg2
    have hat2 := rd_at b s _ _ hc2
    obtain ⟨k2', HK2⟩ : ∃ k2, Hid (s.size - (nameE r).length = k2) := ⟨_, rfl⟩
    rw [HK2.out] at hat2
    clear hN hc2 hg2
    go_wp2_with (go_at_call 88; refine hat2.mono ?_; rintro e w1 ⟨rfl, hw1⟩; obtain rfl := hw1.symm; clear hw1 hat2)
    refine (wrong_any 3 k2' _).mono ?_
    rintro e w6 ⟨⟨g, rfl, hg0, hg1, hgB, hgl⟩, hbw⟩
    have HAT : Hid (IsAt w6 (.iface 115 (.pointer (some ⟨g, 0, none⟩))) w2.heap.size 3 k2') := ⟨g, rfl, hg0, hg1, hgB, hgl⟩
    have HGW : Hid (w.grownBy w6 (some b)) := grown_trans HC1.out.2.1 (grown_trans HG2.out (grown_below hbw _))
    have k0 := (hbw.cell (p := ⟨w.heap.size + 1, 0, none⟩) hlt2).trans hr0
    have k1 := (hbw.cell (p := ⟨w.heap.size + 1, 1, none⟩) hlt2).trans hr1
    have k2 := (hbw.frozen (p := ⟨w.heap.size + 1, 0, none⟩) hlt2).trans hf0
    have k3 := (hbw.frozen (p := ⟨w.heap.size + 1, 1, none⟩) hlt2).trans hf1
    have HLT2 : Hid (w.heap.size + 1 < w2.heap.size) := hlt2
    clear hx0 hx1 hr0 hr1 hf0 hf1 hlt2 hg0 hg1 hbw
    go_wp2
    obtain ⟨e0, e1⟩ := res_end k0 k1 (.string ⟨#[]⟩) (.string ⟨#[]⟩)
    obtain ⟨z1, z2⟩ := fin_err (b := b) (rb := w.heap.size + 1) (Nat.le_succ _) HLT2.out HAT.out HGW.out (.string ⟨#[]⟩) (.string ⟨#[]⟩)
    exact bodyPost_ret (v := .tuple #[.agg #[.string ⟨#[]⟩, .string ⟨#[]⟩], .iface 115 (.pointer (some ⟨g, 0, none⟩))]) (by simp [results, Tryz.f122, go_sem, e0, e1]) rfl ⟨.inr ⟨_, _, _, HA.out, rfl, by rw [HK2.out]; exact z1⟩, z2⟩
end Go.Proofs.YtooaiamfbmjmnaaGreatDoor
